/- The contract of the program's Good of layer ctx. For every context. -/
import Derived.Test.YtegclhgfibfanaaKN
import Derived.Test.YtegclhgfibfanaaKU
import Derived.Shelf.SlSortCmp.QuietGrown
namespace Go.Proofs.Ytegclhgfibfanaa.Cx
open Go.ChangeShapes Go.WideShapes Go.ChangeAt Go.RowKit Go.Maps
set_option linter.unusedVariables false
set_option maxRecDepth 4000

set_option maxHeartbeats 4000000 in
theorem pgood_any (w : World) (A1 : Option Addr) (a : List Part) (n1 c1 : Nat) (h1 : CtxAt w A1 a n1 c1) :
    Calls Try.prog 13 #[.slice A1 n1 c1] w fun e w' => e = .returned (.bool (goodC a)) ∧ Below w.heap.size w w' := by
  have H1 := Lib.hid h1
  have h63 : n1 ≤ 9223372036854775807 := Nat.le_trans h1.cap h1.max
  have HT : Hid ((∀ k, k < n1 → okP a k) → goodC a = true) := Lib.hid (fun h => good_yes h1.fit (by rw [h1.len]; exact h))
  have HF : Hid (∀ k, k < n1 → ¬ okP a k → goodC a = false) := Lib.hid (fun k hk h => good_no h1.fit (by rw [h1.len]; exact hk) h)
  clear h1
  generalize goodC a = ans at HT HF ⊢
  go_enter Try.func13, Try.ntmps13
  go_wp2
  go_loopw [7] (fun i wr => ∃ k : Nat, k ≤ n1 ∧ i = .int .i64 (k : Int) ∧ (∀ j, j < k → okP a j) ∧ Below w.heap.size w wr) (fun i _ => n1 - (intOf i).toNat)
  case atStart => exact ⟨0, Nat.zero_le _, rfl, (fun j hj => absurd hj (Nat.not_lt_zero _)), Below.refl _ _⟩
  case round =>
    obtain ⟨k, hk, rfl, hi, hbl⟩ := hrel
    have HI := Lib.hid hi
    have HW := Lib.hid hbl
    clear hi hbl
    by_cases hlt : k < n1
    · obtain ⟨ad, p, x, rfl, hB, hx, hp, hcell⟩ := H1.out.cells hlt
      obtain ⟨x1, xl⟩ := x
      have LK := Lib.hid hx
      have HX := Lib.hid (hp.up HW.out)
      have hxf := hp.fit
      obtain ⟨d1, d2⟩ := hcell wr HW.out
      dsimp only at d1 d2 hxf
      clear hx hp hcell
      have L0 : Hid (Below wr.heap.size wr (wr.alloc (.cells #[.int .u16 (x1 : Int), .slice p.adr p.len p.cap] 47))) := Lib.hid (Dt.below_new _ _)
      have HX0 := Lib.hid (HX.out.up L0.out)
      have HCR := Lib.hid (pbox_at wr x1 p.adr p.len p.cap)
      have HWV : Hid (∀ V, Below (wr.alloc (.cells #[.int .u16 (x1 : Int), .slice p.adr p.len p.cap] 47)).heap.size (wr.alloc (.cells #[.int .u16 (x1 : Int), .slice p.adr p.len p.cap] 47)) V → Below w.heap.size w V) := Lib.hid (fun V hV => HW.out.trans ((L0.out.trans (hV.mono L0.out.size)).mono HW.out.size))
      have HNO : Hid (¬ okP a k → ans = false) := Lib.hid (HF.out k hlt)
      clear HX
      by_cases h0 : x1 = 0
      · have HA : Hid (ans = false) := Lib.hid (HNO.out (fun h => by have := (h _ LK.out).1; dsimp only at this; omega))
        have dz : ((x1 : Int) == 0) = true := by rw [beq_iff_eq]; omega
        have h0' := Lib.hid h0
        clear h0
        go_wp2_with fail
        generalize wr.alloc (.cells #[.int .u16 (x1 : Int), .slice p.adr p.len p.cap] 47) = V0 at HCR HWV HX0 L0 ⊢
        have hmx : Try.prog.follows .mixedOrders = true := by kernel_rfl
        have g3 : ∀ n os, (Sort.grow (V0.drewN n) os).cell? ⟨wr.heap.size, 0, none⟩ = some (.int .u16 (x1 : Int)) := fun n os => (HCR.out _ (below_grow V0 n os)).1
        have g4 : ∀ n os, (Sort.grow (V0.drewN n) os).cell? ⟨wr.heap.size, 1, none⟩ = some (.slice p.adr p.len p.cap) := fun n os => (HCR.out _ (below_grow V0 n os)).2
        have g1 : True := trivial
        refine wp_region_quiet_grown hmx (by kernel_rfl) ?_
        repeat (
          (with_reducible refine wpQuiet_step (fun K hK => ?_))
          go_simp
          first
            | ((with_reducible refine hK _ ?_); clear hK K)
            | ((rw [if_neg (fun h => by cases h)]); (with_reducible refine hK _ ?_); clear hK K))
        with_reducible refine wpQuiet_nil ?_
        intro _ hw'
        obtain ⟨⟨nq, osq⟩, hw''⟩ := hw'
        subst hw''
        have bV := below_grow V0 nq osq
        have HWV2 := Lib.hid (HWV.out _ bV)
        obtain ⟨e3, e4⟩ := HCR.out _ bV
        have HXV := Lib.hid (HX0.out.up bV)
        clear bV g1 g3 g4
        generalize Sort.grow (V0.drewN nq) osq = V at HWV2 HXV e3 e4 ⊢
        go_wp2
        go_ret
        exact ⟨Ru.ret_bool HA.out.symm, HWV2.out⟩
      · have dz : ((x1 : Int) == 0) = false := by rw [beq_eq_false_iff_ne]; omega
        rcases k with _ | z
        · have q4 : wr.cell? ad = some (.int .u16 (x1 : Int)) := by simpa [Addr.add] using d1
          have q5 : wr.cell? ⟨ad.block, ad.off + 1, none⟩ = some (.slice p.adr p.len p.cap) := by simpa [Addr.add] using d2
          clear d1 d2
          go_wp2_with fail
          clear q4 q5
          generalize wr.alloc (.cells #[.int .u16 (x1 : Int), .slice p.adr p.len p.cap] 47) = V0 at HCR HWV HX0 L0 ⊢
          have hmx : Try.prog.follows .mixedOrders = true := by kernel_rfl
          have g3 : ∀ n os, (Sort.grow (V0.drewN n) os).cell? ⟨wr.heap.size, 0, none⟩ = some (.int .u16 (x1 : Int)) := fun n os => (HCR.out _ (below_grow V0 n os)).1
          have g4 : ∀ n os, (Sort.grow (V0.drewN n) os).cell? ⟨wr.heap.size, 1, none⟩ = some (.slice p.adr p.len p.cap) := fun n os => (HCR.out _ (below_grow V0 n os)).2
          have g1 : True := trivial
          refine wp_region_quiet_grown hmx (by kernel_rfl) ?_
          repeat (
            (with_reducible refine wpQuiet_step (fun K hK => ?_))
            go_simp
            first
              | ((with_reducible refine hK _ ?_); clear hK K)
              | ((rw [if_neg (fun h => by cases h)]); (with_reducible refine hK _ ?_); clear hK K))
          with_reducible refine wpQuiet_nil ?_
          intro _ hw'
          obtain ⟨⟨nq, osq⟩, hw''⟩ := hw'
          subst hw''
          have bV := below_grow V0 nq osq
          have HWV2 := Lib.hid (HWV.out _ bV)
          obtain ⟨e3, e4⟩ := HCR.out _ bV
          have HXV := Lib.hid (HX0.out.up bV)
          clear bV g1 g3 g4
          generalize Sort.grow (V0.drewN nq) osq = V at HWV2 HXV e3 e4 ⊢
          by_cases hl0 : p.len = 0
          · have HA : Hid (ans = false) := Lib.hid (HNO.out (fun h => (h _ LK.out).2.1 (List.eq_nil_of_length_eq_zero (by rw [HXV.out.len]; exact hl0))))
            have dl : ((p.len : Int) == 0) = true := by rw [beq_iff_eq]; omega
            have hl0' := Lib.hid hl0
            clear hl0
            go_wp2
            go_ret
            exact ⟨Ru.ret_bool HA.out.symm, HWV2.out⟩
          · have dl : ((p.len : Int) == 0) = false := by rw [beq_eq_false_iff_ne]; omega
            have hne : xl ≠ [] := fun e => hl0 (by rw [← HXV.out.len, e]; rfl)
            have CG := Ru.pgood_any V p.adr xl p.len p.cap HXV.out.len HXV.out.runs (Nat.le_trans HXV.out.cap HXV.out.max)
            by_cases hg : xl = Ru.nrm xl
            · rw [decide_eq_true hg] at CG
              have HR : Hid (∀ j, j < 0 + 1 → okP a j) := Lib.hid (fun j hj => by
                rcases Nat.lt_or_ge j (0) with h | h
                · exact HI.out j h
                · obtain rfl : j = 0 := by omega
                  intro y hy
                  rw [LK.out] at hy
                  cases hy
                  exact ⟨by omega, hne, hg, fun y h => absurd h (Nat.lt_irrefl _)⟩)
              clear hg hne
              go_wp2_with fail
              refine CG.mono ?_
              rintro e V2 ⟨rfl, hb⟩
              have HV2 := Lib.hid (HWV2.out.trans (hb.mono HWV2.out.size))
              clear hb CG e3 e4
              go_wp2
              go_roundw
              case rel => exact ⟨0 + 1, by omega, by go_num, HR.out, HV2.out⟩
              case measure => simp [intOf]; omega
            · rw [decide_eq_false hg] at CG
              have HA : Hid (ans = false) := Lib.hid (HNO.out (fun h => hg (h _ LK.out).2.2.1))
              clear hg hne
              go_wp2_with fail
              refine CG.mono ?_
              rintro e V2 ⟨rfl, hb⟩
              have HV2 := Lib.hid (HWV2.out.trans (hb.mono HWV2.out.size))
              clear hb CG e3 e4
              go_wp2
              go_ret
              exact ⟨Ru.ret_bool HA.out.symm, HV2.out⟩
        · have hzn : z < n1 := by omega
          obtain ⟨ad2, p2, y, e, hB2, hy, hp2, hcell2⟩ := H1.out.cells hzn
          cases e
          obtain ⟨y1, yl⟩ := y
          have SK := Lib.hid hy
          have hyf := hp2.fit
          obtain ⟨s1, s2⟩ := hcell2 wr HW.out
          dsimp only at s1 hyf
          have S1 : Hid ((wr.alloc (.cells #[.int .u16 (x1 : Int), .slice p.adr p.len p.cap] 47)).cell? (ad.add (z * 2)) = some (.int .u16 (y1 : Int))) := Lib.hid ((L0.out.cell (World.block_lt_of_cell? wr _ s1)).trans s1)
          have SB : Hid ((ad.add (z * 2)).block < (wr.alloc (.cells #[.int .u16 (x1 : Int), .slice p.adr p.len p.cap] 47)).heap.size) := Lib.hid (Nat.lt_of_lt_of_le (World.block_lt_of_cell? wr _ s1) L0.out.size)
          clear hy hp2 hcell2 s1 s2
          go_wp2_with fail
          clear d1 d2
          generalize wr.alloc (.cells #[.int .u16 (x1 : Int), .slice p.adr p.len p.cap] 47) = V0 at HCR HWV HX0 L0 S1 SB ⊢
          have hmx : Try.prog.follows .mixedOrders = true := by kernel_rfl
          have g1 : ∀ n os, (Sort.grow (V0.drewN n) os).cell? (ad.add (z * 2)) = some (.int .u16 (y1 : Int)) := fun n os => ((below_grow V0 n os).cell SB.out).trans S1.out
          have g3 : ∀ n os, (Sort.grow (V0.drewN n) os).cell? ⟨wr.heap.size, 0, none⟩ = some (.int .u16 (x1 : Int)) := fun n os => (HCR.out _ (below_grow V0 n os)).1
          have g4 : ∀ n os, (Sort.grow (V0.drewN n) os).cell? ⟨wr.heap.size, 1, none⟩ = some (.slice p.adr p.len p.cap) := fun n os => (HCR.out _ (below_grow V0 n os)).2
          clear S1 SB
          have hp : (0 : Int) < ((z : Nat) : Int) + 1 := by omega
          have hp2 : decide ((0 : Int) < ((z : Nat) : Int) + 1) = true := decide_eq_true (by omega)
          have hw1 : IntKind.i64.wrap (((z : Nat) : Int) + 1 - 1) = (z : Int) := by simp [IntKind.wrap, IntKind.bits, IntKind.signed]; omega
          have hw2 : IntKind.i64.wrap ((z : Nat) : Int) = (z : Int) := by simp [IntKind.wrap, IntKind.bits, IntKind.signed]; omega
          have hz0 : (0 : Int) ≤ (z : Int) := by omega
          have hz1 : (z : Int) < (n1 : Int) := by omega
          by_cases hsl : y1 < x1
          · have hge : decide ((x1 : Int) ≤ (y1 : Int)) = false := decide_eq_false (by omega)
            have hge2 : ¬ (x1 : Int) ≤ (y1 : Int) := by omega
            have hge3 : ¬ x1 ≤ y1 := by omega
            refine wp_region_quiet_grown hmx (by kernel_rfl) ?_
            repeat (
              (with_reducible refine wpQuiet_step (fun K hK => ?_))
              go_simp
              first
                | ((with_reducible refine hK _ ?_); clear hK K)
                | ((rw [if_neg (fun h => by cases h)]); (with_reducible refine hK _ ?_); clear hK K))
            with_reducible refine wpQuiet_nil ?_
            intro _ hw'
            obtain ⟨⟨nq, osq⟩, hw''⟩ := hw'
            subst hw''
            have bV := below_grow V0 nq osq
            have HWV2 := Lib.hid (HWV.out _ bV)
            obtain ⟨e3, e4⟩ := HCR.out _ bV
            have HXV := Lib.hid (HX0.out.up bV)
            clear bV g1 g3 g4
            generalize Sort.grow (V0.drewN nq) osq = V at HWV2 HXV e3 e4 ⊢
            by_cases hl0 : p.len = 0
            · have HA : Hid (ans = false) := Lib.hid (HNO.out (fun h => (h _ LK.out).2.1 (List.eq_nil_of_length_eq_zero (by rw [HXV.out.len]; exact hl0))))
              have dl : ((p.len : Int) == 0) = true := by rw [beq_iff_eq]; omega
              have hl0' := Lib.hid hl0
              clear hl0
              go_wp2
              go_ret
              exact ⟨Ru.ret_bool HA.out.symm, HWV2.out⟩
            · have dl : ((p.len : Int) == 0) = false := by rw [beq_eq_false_iff_ne]; omega
              have hne : xl ≠ [] := fun e => hl0 (by rw [← HXV.out.len, e]; rfl)
              have CG := Ru.pgood_any V p.adr xl p.len p.cap HXV.out.len HXV.out.runs (Nat.le_trans HXV.out.cap HXV.out.max)
              by_cases hg : xl = Ru.nrm xl
              · rw [decide_eq_true hg] at CG
                have HR : Hid (∀ j, j < z + 1 + 1 → okP a j) := Lib.hid (fun j hj => by
                  rcases Nat.lt_or_ge j (z + 1) with h | h
                  · exact HI.out j h
                  · obtain rfl : j = z + 1 := by omega
                    intro y hy
                    rw [LK.out] at hy
                    cases hy
                    exact ⟨by omega, hne, hg, fun y _ hy2 => by rw [Nat.add_sub_cancel] at hy2; rw [SK.out] at hy2; cases hy2; exact hsl⟩)
                clear hg hne
                go_wp2_with fail
                refine CG.mono ?_
                rintro e V2 ⟨rfl, hb⟩
                have HV2 := Lib.hid (HWV2.out.trans (hb.mono HWV2.out.size))
                clear hb CG e3 e4
                go_wp2
                go_roundw
                case rel => exact ⟨z + 1 + 1, by omega, by go_num, HR.out, HV2.out⟩
                case measure => simp [intOf]; omega
              · rw [decide_eq_false hg] at CG
                have HA : Hid (ans = false) := Lib.hid (HNO.out (fun h => hg (h _ LK.out).2.2.1))
                clear hg hne
                go_wp2_with fail
                refine CG.mono ?_
                rintro e V2 ⟨rfl, hb⟩
                have HV2 := Lib.hid (HWV2.out.trans (hb.mono HWV2.out.size))
                clear hb CG e3 e4
                go_wp2
                go_ret
                exact ⟨Ru.ret_bool HA.out.symm, HV2.out⟩
          · have hge : decide ((x1 : Int) ≤ (y1 : Int)) = true := decide_eq_true (by omega)
            have hge2 : (x1 : Int) ≤ (y1 : Int) := by omega
            have hge3 : x1 ≤ y1 := by omega
            have HA : Hid (ans = false) := Lib.hid (HNO.out (fun h => hsl ((h _ LK.out).2.2.2 _ (Nat.succ_pos _) (by rw [Nat.add_sub_cancel]; exact SK.out))))
            refine wp_region_quiet_grown hmx (by kernel_rfl) ?_
            repeat (
              (with_reducible refine wpQuiet_step (fun K hK => ?_))
              go_simp
              first
                | ((with_reducible refine hK _ ?_); clear hK K)
                | ((rw [if_neg (fun h => by cases h)]); (with_reducible refine hK _ ?_); clear hK K))
            with_reducible refine wpQuiet_nil ?_
            intro _ hw'
            obtain ⟨⟨nq, osq⟩, hw''⟩ := hw'
            subst hw''
            have bV := below_grow V0 nq osq
            have HWV2 := Lib.hid (HWV.out _ bV)
            obtain ⟨e3, e4⟩ := HCR.out _ bV
            have HXV := Lib.hid (HX0.out.up bV)
            clear bV g1 g3 g4
            generalize Sort.grow (V0.drewN nq) osq = V at HWV2 HXV e3 e4 ⊢
            go_wp2
            go_ret
            exact ⟨Ru.ret_bool HA.out.symm, HWV2.out⟩
    · obtain rfl : k = n1 := by omega
      have HA : Hid (ans = true) := Lib.hid (HT.out HI.out)
      go_wp2
      go_ret
      exact ⟨Ru.ret_bool HA.out.symm, HW.out⟩
end Go.Proofs.Ytegclhgfibfanaa.Cx
