/- The contract of the program's Good of layer card. For every card. -/
import Derived.Test.YtlndhooiapomlaaKPGl
namespace Go.Proofs.Ytlndhooiapomlaa.Kd
open Go.ChangeShapes Go.WideShapes Go.ChangeAt Go.RowKit
set_option linter.unusedVariables false

theorem and4 (a b t m : Bool) : (a && b && t && m) = ((a && t && m) && b) := by cases a <;> cases b <;> cases t <;> cases m <;> rfl
theorem below_grow (V : World) (n : Nat) (os : Array Obj) : Below V.heap.size V (Sort.grow (V.drewN n) os) :=
  ⟨rfl, rfl, rfl, by show V.heap.size ≤ (V.heap ++ os).size; simp, fun i hi => by show (V.heap ++ os)[i]? = V.heap[i]?; exact Array.getElem?_append_left hi⟩
theorem goodline_grown (V : World) (B : Nat) (hB : B ≤ V.heap.size) (p : LV) (x : Ln) (h : LineIs V B p x) (n : Nat) (os : Array Obj) :
    Calls Try.prog 23 #[p.val] (Sort.grow (V.drewN n) os) fun e w'' => e = .returned (.bool (lineB x)) ∧ ∃ p : GrownBy, w'' = Sort.grow (V.drewN p.n) p.os := by
  refine (pgoodline_any _ p x ((h.below ((below_grow V n os).mono hB)).more_ (Nat.le_trans hB (below_grow V n os).size))).mono ?_
  rintro e w' ⟨rfl, rfl⟩
  exact ⟨rfl, ⟨n, os ++ #[_]⟩, by rw [Sort.alloc_eq_grow, Sort.grow_grow]⟩

set_option maxHeartbeats 16000000 in
theorem pgoodc_any (w : World) (p : CV) (x : Crd) (h : CardIs w w.heap.size p x) :
    Calls Try.prog 7 #[p.val] w fun e w' => e = .returned (.bool (goodC x)) ∧ Below w.heap.size w w' := by
  obtain ⟨p0, A, n, c⟩ := p
  obtain ⟨x0, l⟩ := x
  have e1 : p0 = x0 := h.cid
  subst e1
  have hf : p0 < 18446744073709551616 := h.fit
  have H := Lib.hid h.lines
  have h63 : n ≤ 281474976710656 := Nat.le_trans h.lines.wide (by decide)
  clear h
  simp only [CV.val]
  have HB := Lib.hid (below_new w (.cells #[.int .u64 (p0 : Int), .slice A n c] 25))
  have HX := Lib.hid (box_two w (.int .u64 (p0 : Int)) (.slice A n c) 25)
  have CU := fun W => Dt.punpack_any W p0 hf
  generalize hd1 : (Dt.unpackD p0).1.1 = d1 at CU
  generalize hd2 : (Dt.unpackD p0).1.2 = d2 at CU
  clear hd1 hd2
  have HA : Hid (∀ V, Below (w.heap.size + 1) (w.alloc (.cells #[.int .u64 (p0 : Int), .slice A n c] 25)) V → Below (w.heap.size + 1) (w.alloc (.cells #[.int .u64 (p0 : Int), .slice A n c] 25)) (V.alloc (.cells #[.int .u16 (d1 : Int), .int .u64 (d2 : Int)] 45))) := Lib.hid (fun V hV => hV.alloc (by have := hV.size; rw [alloc_size] at this; exact this) _)
  cases hu : (Dt.unpackD p0).2 with
  | false =>
    rw [good_may l hu]
    rw [hu] at CU
    clear hu
    go_enter Try.func7, Try.ntmps7
    go_wp2_with fail
    refine (CU _).mono ?_
    rintro e w' ⟨rfl, hb⟩
    have HW := Lib.hid (HB.out.trans ((HA.out w' (by rw [alloc_size] at hb; exact hb)).mono (Nat.le_succ _)))
    clear hb
    go_wp2
    go_ret
    exact ⟨rfl, HW.out⟩
  | true =>
    rw [hu] at CU
    by_cases hn : n = 0
    · subst hn
      obtain rfl := List.eq_nil_of_length_eq_zero H.out.len
      rw [good_none]
      clear hu
      go_enter Try.func7, Try.ntmps7
      go_wp2_with fail
      refine (CU _).mono ?_
      rintro e w' ⟨rfl, hb⟩
      have HV := Lib.hid (HA.out w' (by rw [alloc_size] at hb; exact hb))
      obtain ⟨k1, k2⟩ := HX.out _ HV.out
      have HW := Lib.hid (HB.out.trans (HV.out.mono (Nat.le_succ _)))
      clear hb
      go_wp2
      go_ret
      exact ⟨rfl, HW.out⟩
    · have hz : ((n : Int) == 0) = false := by rw [beq_eq_false_iff_ne]; omega
      have HU := Lib.hid hu
      clear hu
      have HG : Hid (∀ k, k < l.length → okL l k = false → goodC (p0, l) = false) := Lib.hid (fun k hk h => good_false hk h)
      have HY : Hid ((∀ j, j < n → okL l j = true) → goodC (p0, l) = true) := Lib.hid (fun h => good_true HU.out H.out.len (Nat.pos_of_ne_zero hn) h)
      generalize goodC (p0, l) = ans at HG HY ⊢
      go_enter Try.func7, Try.ntmps7
      go_wp2_with fail
      refine (CU _).mono ?_
      rintro e w2 ⟨rfl, hb⟩
      have HV := Lib.hid (HA.out w2 (by rw [alloc_size] at hb; exact hb))
      obtain ⟨k1, k2⟩ := HX.out _ HV.out
      clear hb
      go_wp2_with fail
      generalize w2.alloc (.cells #[.int .u16 (d1 : Int), .int .u64 (d2 : Int)] 45) = W at HV k1 k2 ⊢
      go_loopw [24] (fun i wr => ∃ k : Nat, k ≤ n ∧ i = .int .i64 (k : Int) ∧ (∀ j, j < k → okL l j = true) ∧ Below (w.heap.size + 1) (w.alloc (.cells #[.int .u64 (p0 : Int), .slice A n c] 25)) wr) (fun i _ => n - (intOf i).toNat)
      case atStart => exact ⟨0, Nat.zero_le _, rfl, fun j hj => by omega, HV.out⟩
      case round =>
        clear k1 k2 HV
        obtain ⟨k, hk, rfl, ht, hw⟩ := hrel
        have HT := Lib.hid ht
        have HV := Lib.hid hw
        obtain ⟨k1, k2⟩ := HX.out _ hw
        have hsz : w.heap.size + 1 ≤ wr.heap.size := by have := hw.size; rw [alloc_size] at this; exact this
        have HL : Hid (LinesAt wr w.heap.size A l n c) := Lib.hid (H.out.below (HB.out.trans (hw.mono (Nat.le_succ _))))
        clear ht hw
        by_cases hlt : k < n
        · obtain ⟨ad, q, x, rfl, hadb, hlx, hp, c1, c2, c3⟩ := HL.out.line hlt
          obtain ⟨x1, x2, x3⟩ := x
          obtain ⟨q1, q2, qA, qn, qc⟩ := q
          have eq1 : q1 = x1 := hp.fld
          have eq2 : q2 = x2 := hp.txt
          subst eq1 eq2
          have HP := Lib.hid hp
          simp only at c1 c2 c3
          have hkl : k < l.length := by rw [H.out.len]; exact hlt
          have HE : Hid (okL l k = (lineB (q1, q2, x3) && (decide (k = 0) || (match l[k - 1]? with | some y => decide (y.1 < q1) | none => true)))) := Lib.hid (by unfold okL lineB; rw [hlx]; exact and4 _ _ _ _)
          have HNO : Hid (okL l k = false → ans = false) := Lib.hid (fun h => HG.out k hkl h)
          have HYE : Hid (okL l k = true → ∀ j, j < k + 1 → okL l j = true) := Lib.hid (fun h j hj => by
            rcases Nat.lt_succ_iff_lt_or_eq.1 hj with h2 | rfl
            · exact HT.out j h2
            · exact h)
          have HV2 := Lib.hid (HV.out.alloc hsz (.cells #[.int .u8 (q1 : Int), .string q2, .slice qA qn qc] 28))
          have HN := Lib.hid (below_new wr (.cells #[.int .u8 (q1 : Int), .string q2, .slice qA qn qc] 28))
          have hs0 : w.heap.size + 1 ≤ (wr.alloc (.cells #[.int .u8 (q1 : Int), .string q2, .slice qA qn qc] 28)).heap.size := by rw [alloc_size]; omega
          have hb0 : wr.heap.size < (wr.alloc (.cells #[.int .u8 (q1 : Int), .string q2, .slice qA qn qc] 28)).heap.size := by rw [alloc_size]; omega
          have CL := goodline_grown (wr.alloc (.cells #[.int .u8 (q1 : Int), .string q2, .slice qA qn qc] 28)) wr.heap.size (Nat.le_of_lt hb0) ⟨q1, q2, qA, qn, qc⟩ (q1, q2, x3) ((HP.out.below (HN.out.mono (by omega))).more_ (by omega))
          simp only [LV.val] at CL
          have g0 := fun n os => (boxl wr (.int .u8 (q1 : Int)) (.string q2) (.slice qA qn qc) 28 (Sort.grow ((wr.alloc (.cells #[.int .u8 (q1 : Int), .string q2, .slice qA qn qc] 28)).drewN n) os) ((below_grow _ n os).mono (by rw [alloc_size]; exact Nat.le_refl _)))
          have g1 := fun n os => (g0 n os).1
          have g2 := fun n os => (g0 n os).2.1
          have g3 := fun n os => (g0 n os).2.2
          have g4 := fun n os => (HX.out (Sort.grow ((wr.alloc (.cells #[.int .u8 (q1 : Int), .string q2, .slice qA qn qc] 28)).drewN n) os) (HV2.out.trans ((below_grow _ n os).mono hs0))).2
          clear g0 hlx hp
          by_cases h0 : k = 0
          · subst h0
            have c1' : wr.cell? ad = some (.int .u8 (q1 : Int)) := by simpa [Addr.add] using c1
            have c2' : wr.cell? ⟨ad.block, ad.off + 1, none⟩ = some (.string q2) := by simpa [Addr.add] using c2
            have c3' : wr.cell? ⟨ad.block, ad.off + 2, none⟩ = some (.slice qA qn qc) := by simpa [Addr.add] using c3
            clear c1 c2 c3
            go_wp2_with fail
            clear c1' c2' c3' k1 k2 HN HL HV
            generalize wr.alloc (.cells #[.int .u8 (q1 : Int), .string q2, .slice qA qn qc] 28) = V0 at *
            cases hL : lineB (q1, q2, x3) with
            | false =>
              rw [hL] at CL
              have hd := Lib.hid (HNO.out (by rw [HE.out, hL]; rfl))
              clear hL HE HNO HYE
              go_wp2_with fail
              have hmx : Try.prog.follows .mixedOrders = true := by kernel_rfl
              refine wp_region_quiet_grown hmx (by kernel_rfl) ?_
              repeat (
                (with_reducible refine wpQuiet_step (fun K hK => ?_))
                go_simp
                first
                  | ((with_reducible refine hK _ ?_); clear hK K)
                  | ((rw [if_neg (fun h => by cases h)]); (with_reducible refine hK _ ?_); clear hK K)
                  | ((apply Exists.intro); (refine ⟨fun _ => ?_, hK _ ?_⟩); (focus (go_at_call 23; exact CL _ _)); clear hK K))
              with_reducible refine wpQuiet_nil ?_
              intro _ hw'
              obtain ⟨⟨nq, osq⟩, hw''⟩ := hw'
              subst hw''
              have HV3 := Lib.hid (HV2.out.trans ((below_grow V0 nq osq).mono hs0))
              go_wp2
              go_ret
              exact ⟨ret_bool hd.out.symm, HB.out.trans (HV3.out.mono (Nat.le_succ _))⟩
            | true =>
              rw [hL] at CL
              have hs := Lib.hid (HYE.out (by rw [HE.out, hL]; rfl))
              clear hL HE HNO HYE
              go_wp2_with fail
              have hmx : Try.prog.follows .mixedOrders = true := by kernel_rfl
              refine wp_region_quiet_grown hmx (by kernel_rfl) ?_
              repeat (
                (with_reducible refine wpQuiet_step (fun K hK => ?_))
                go_simp
                first
                  | ((with_reducible refine hK _ ?_); clear hK K)
                  | ((rw [if_neg (fun h => by cases h)]); (with_reducible refine hK _ ?_); clear hK K)
                  | ((apply Exists.intro); (refine ⟨fun _ => ?_, hK _ ?_⟩); (focus (go_at_call 23; exact CL _ _)); clear hK K))
              with_reducible refine wpQuiet_nil ?_
              intro _ hw'
              obtain ⟨⟨nq, osq⟩, hw''⟩ := hw'
              subst hw''
              have HV3 := Lib.hid (HV2.out.trans ((below_grow V0 nq osq).mono hs0))
              go_wp2
              go_roundw
              case rel => exact ⟨1, by omega, rfl, hs.out, HV3.out⟩
              case measure => simp [intOf]; omega
          · have hd0 : decide (0 < k) = true := decide_eq_true (by omega)
            obtain ⟨ad2, q', y, e2, hadb2, hly, _, d1, _⟩ := HL.out.line (k := k - 1) (by omega)
            obtain rfl := Option.some.inj e2
            obtain ⟨y1, y2, y3⟩ := y
            simp only at d1
            have g5 : ∀ n os, (Sort.grow ((wr.alloc (.cells #[.int .u8 (q1 : Int), .string q2, .slice qA qn qc] 28)).drewN n) os).cell? (ad.add ((k - 1) * 3)) = some (.int .u8 (y1 : Int)) := fun n os => ((HN.out.trans ((below_grow _ n os).mono (by rw [alloc_size]; omega))).cell (by rw [block_add]; omega)).trans d1
            have hw1 : IntKind.i64.wrap ((k : Int) - 1) = (k : Int) - 1 := IntWalk.i64_in _ (by omega)
            have hw2 : 1 ≤ (k : Int) := by omega
            have hw3 : 0 ≤ (k : Int) - 1 := by omega
            have hw4 : ((k : Int) - 1).toNat = k - 1 := by omega
            have hw5 : k - 1 < n := by omega
            have hw6 : (k : Int) - 1 < (n : Int) := by omega
            have hw7 : 0 < k := by omega
            have hw8 : 1 ≤ k := by omega
            have HE2 : Hid (okL l k = (lineB (q1, q2, x3) && (decide (k = 0) || decide (y1 < q1)))) := Lib.hid (by rw [HE.out, hly])
            clear hly HE
            have HE := HE2
            clear HE2
            go_wp2_with fail
            clear c1 c2 c3 d1 k1 k2 HN HL HV
            generalize wr.alloc (.cells #[.int .u8 (q1 : Int), .string q2, .slice qA qn qc] 28) = V0 at *
            by_cases hyx : y1 < q1
            · have hge : decide (q1 ≤ y1) = false := decide_eq_false (by omega)
              cases hL : lineB (q1, q2, x3) with
              | false =>
                rw [hL] at CL
                have hd := Lib.hid (HNO.out (by rw [HE.out, hL]; rfl))
                clear hL HE HNO HYE
                go_wp2_with fail
                have hmx : Try.prog.follows .mixedOrders = true := by kernel_rfl
                refine wp_region_quiet_grown hmx (by kernel_rfl) ?_
                repeat (
                  (with_reducible refine wpQuiet_step (fun K hK => ?_))
                  go_simp
                  first
                    | ((with_reducible refine hK _ ?_); clear hK K)
                    | ((rw [if_neg (fun h => by cases h)]); (with_reducible refine hK _ ?_); clear hK K)
                    | ((apply Exists.intro); (refine ⟨fun _ => ?_, hK _ ?_⟩); (focus (go_at_call 23; exact CL _ _)); clear hK K))
                with_reducible refine wpQuiet_nil ?_
                intro _ hw'
                obtain ⟨⟨nq, osq⟩, hw''⟩ := hw'
                subst hw''
                have HV3 := Lib.hid (HV2.out.trans ((below_grow V0 nq osq).mono hs0))
                go_wp2
                go_ret
                exact ⟨ret_bool hd.out.symm, HB.out.trans (HV3.out.mono (Nat.le_succ _))⟩
              | true =>
                rw [hL] at CL
                have hs := Lib.hid (HYE.out (by rw [HE.out, hL, decide_eq_true hyx, Bool.or_true]; rfl))
                clear hL HE HNO HYE
                go_wp2_with fail
                have hmx : Try.prog.follows .mixedOrders = true := by kernel_rfl
                refine wp_region_quiet_grown hmx (by kernel_rfl) ?_
                repeat (
                  (with_reducible refine wpQuiet_step (fun K hK => ?_))
                  go_simp
                  first
                    | ((with_reducible refine hK _ ?_); clear hK K)
                    | ((rw [if_neg (fun h => by cases h)]); (with_reducible refine hK _ ?_); clear hK K)
                    | ((apply Exists.intro); (refine ⟨fun _ => ?_, hK _ ?_⟩); (focus (go_at_call 23; exact CL _ _)); clear hK K))
                with_reducible refine wpQuiet_nil ?_
                intro _ hw'
                obtain ⟨⟨nq, osq⟩, hw''⟩ := hw'
                subst hw''
                have HV3 := Lib.hid (HV2.out.trans ((below_grow V0 nq osq).mono hs0))
                go_wp2
                go_roundw
                case rel => exact ⟨k + 1, by omega, by go_num, hs.out, HV3.out⟩
                case measure => simp [intOf]; omega
            · have hge : decide (q1 ≤ y1) = true := decide_eq_true (by omega)
              have hd := Lib.hid (HNO.out (by rw [HE.out, decide_eq_false h0, decide_eq_false hyx]; simp))
              clear HE HNO HYE
              go_wp2_with fail
              have hmx : Try.prog.follows .mixedOrders = true := by kernel_rfl
              refine wp_region_quiet_grown hmx (by kernel_rfl) ?_
              repeat (
                (with_reducible refine wpQuiet_step (fun K hK => ?_))
                go_simp
                first
                  | ((with_reducible refine hK _ ?_); clear hK K)
                  | ((rw [if_neg (fun h => by cases h)]); (with_reducible refine hK _ ?_); clear hK K)
                  | ((apply Exists.intro); (refine ⟨fun _ => ?_, hK _ ?_⟩); (focus (go_at_call 23; exact CL _ _)); clear hK K))
              with_reducible refine wpQuiet_nil ?_
              intro _ hw'
              obtain ⟨⟨nq, osq⟩, hw''⟩ := hw'
              subst hw''
              have HV3 := Lib.hid (HV2.out.trans ((below_grow V0 nq osq).mono hs0))
              go_wp2
              go_ret
              exact ⟨ret_bool hd.out.symm, HB.out.trans (HV3.out.mono (Nat.le_succ _))⟩
        · obtain rfl : k = n := by omega
          have hd : Hid (ans = true) := Lib.hid (HY.out HT.out)
          go_wp2
          go_ret
          exact ⟨ret_bool hd.out.symm, HB.out.trans (HV.out.mono (Nat.le_succ _))⟩
end Go.Proofs.Ytlndhooiapomlaa.Kd
