/- The contract of the program's Good. For every vector of at most 2^43 dots. -/
import Derived.Test.YtbpmbjpepjndaaaPHas
namespace Go.Proofs.Ytbpmbjpepjndaaa.Dt
open Go.ChangeShapes Go.WideShapes Go.ChangeAt Go.RowKit
set_option linter.unusedVariables false

/-- rising by device, and each may be. -/
def Ris1 (l : List Dot) : Prop := l.Pairwise (fun a b => a.1 < b.1) ∧ ∀ x ∈ l, mayD x = true
theorem ris1_nil : Ris1 [] := ⟨List.Pairwise.nil, fun x hx => by cases hx⟩
theorem ris1_one {r : Dot} (h : mayD r = true) : Ris1 [r] := ⟨List.pairwise_singleton _ _, fun x hx => by obtain rfl := List.mem_singleton.1 hx; exact h⟩
theorem ris1_last {o : List Dot} {s r : Dot} (h : Ris1 (o ++ [s])) (hr : mayD r = true) (hf : s.1 < r.1) : Ris1 (o ++ [s] ++ [r]) := by
  refine ⟨List.pairwise_append.2 ⟨h.1, List.pairwise_singleton _ _, fun a ha b hb => ?_⟩, fun x hx => ?_⟩
  · obtain rfl := List.mem_singleton.1 hb
    rcases List.mem_append.1 ha with ha | ha
    · have := (List.pairwise_append.1 h.1).2.2 a ha s (List.mem_singleton.2 rfl)
      omega
    · obtain rfl := List.mem_singleton.1 ha
      exact hf
  · rcases List.mem_append.1 hx with hx | hx
    · exact h.2 x hx
    · obtain rfl := List.mem_singleton.1 hx
      exact hr
theorem ris1_two {o : List Dot} {s r : Dot} (h : Ris1 (o ++ [s] ++ [r])) : s.1 < r.1 := (List.pairwise_append.1 h.1).2.2 s (List.mem_append_right _ (List.mem_singleton.2 rfl)) r (List.mem_singleton.2 rfl)
theorem ris1_end {o : List Dot} {r : Dot} (h : Ris1 (o ++ [r])) : mayD r = true := h.2 r (List.mem_append_right _ (List.mem_singleton.2 rfl))
theorem ris1_take {l : List Dot} (h : Ris1 l) (k : Nat) : Ris1 (l.take k) := ⟨List.Pairwise.sublist (List.take_sublist _ _) h.1, fun r hr => h.2 r (List.mem_of_mem_take hr)⟩

set_option maxHeartbeats 1000000 in
theorem pgoodv_any (w : World) (A1 : Option Addr) (l : List Dot) (n c1 : Nat) (h : VecAt w A1 l n c1) :
    Calls Try.prog 14 #[.slice A1 n c1] w fun e w' => e = .returned (.bool (goodV l)) ∧ Below w.heap.size w w' := by
  have HL := Lib.hid h.len
  have HB := Lib.hid h.dots
  have h63 := h.few
  have HT : Hid (Ris1 l → goodV l = true) := fun h2 => (good_rise HB.out.1).2 h2
  have HF : Hid (¬ Ris1 l → goodV l = false) := fun h2 => by
    cases hg : goodV l with
    | false => rfl
    | true => exact absurd ((good_rise HB.out.1).1 hg) h2
  clear h
  generalize goodV l = ans at HT HF ⊢
  go_enter Try.func14, Try.ntmps14
  go_wp2
  go_loopw [7] (fun i wr => ∃ k : Nat, k ≤ n ∧ i = .int .i64 (k : Int) ∧ Ris1 (l.take k) ∧ Below w.heap.size w wr) (fun i _ => n - (intOf i).toNat)
  case atStart => exact ⟨0, Nat.zero_le _, rfl, ris1_nil, Below.refl _ _⟩
  case round =>
    obtain ⟨k, hk, rfl, hi, hbl⟩ := hrel
    have HI := Lib.hid hi
    have HW := Lib.hid hbl
    clear hi hbl
    by_cases hlt : k < n
    · obtain ⟨ad, lo, hi, rfl, hlk, hlo, hhi, q1, q2⟩ := (HB.out.below HW.out).at_ (k := k) (by rw [HL.out]; exact hlt)
      have q3 : wr.cell? ⟨(ad.add (k * 2)).block, (ad.add (k * 2)).off + 1, none⟩ = some (.int .u64 (hi : Int)) := by rw [add_next]; exact q2
      have LK := Lib.hid hlk
      have L0 : Hid (Below wr.heap.size wr (wr.alloc (.cells #[.int .u16 (lo : Int), .int .u64 (hi : Int)] 27))) := below_new _ _
      clear hlk q2
      have HCR : Hid (∀ V, Below (wr.alloc (.cells #[.int .u16 (lo : Int), .int .u64 (hi : Int)] 27)).heap.size (wr.alloc (.cells #[.int .u16 (lo : Int), .int .u64 (hi : Int)] 27)) V → V.cell? ⟨wr.heap.size, 0, none⟩ = some (.int .u16 (lo : Int)) ∧ V.cell? ⟨wr.heap.size, 1, none⟩ = some (.int .u64 (hi : Int))) := box_at wr (lo, hi)
      have HWV : Hid (∀ V, Below (wr.alloc (.cells #[.int .u16 (lo : Int), .int .u64 (hi : Int)] 27)).heap.size (wr.alloc (.cells #[.int .u16 (lo : Int), .int .u64 (hi : Int)] 27)) V → Below w.heap.size w V) := fun V hV => HW.out.trans ((L0.out.trans (hV.mono L0.out.size)).mono HW.out.size)
      have HNO : Hid (¬ Ris1 (l.take (k + 1)) → ans = false) := fun h => HF.out (fun h2 => h (ris1_take h2 _))
      rcases k with _ | z
      · have q4 : wr.cell? ad = some (.int .u16 (lo : Int)) := by simpa [Addr.add] using q1
        have q5 : wr.cell? ⟨ad.block, ad.off + 1, none⟩ = some (.int .u64 (hi : Int)) := by simpa [Addr.add] using q3
        clear q1 q3
        obtain ⟨b, hb⟩ : ∃ b, mayD (lo, hi) = b := ⟨_, rfl⟩
        go_wp2_with fail
        clear q4 q5
        generalize wr.alloc (.cells #[.int .u16 (lo : Int), .int .u64 (hi : Int)] 27) = V0 at HCR HWV L0 ⊢
        have hmx : Try.prog.follows .mixedOrders = true := by kernel_rfl
        have g3 : ∀ n os, (Sort.grow (V0.drewN n) os).cell? ⟨wr.heap.size, 0, none⟩ = some (.int .u16 (lo : Int)) := fun n os => (HCR.out _ (below_grow V0 n os)).1
        have g4 : ∀ n os, (Sort.grow (V0.drewN n) os).cell? ⟨wr.heap.size, 1, none⟩ = some (.int .u64 (hi : Int)) := fun n os => (HCR.out _ (below_grow V0 n os)).2
        have ct := fun W => pgood_g W (lo, hi) b hb
        clear HCR L0
        cases b with
        | true =>
          have HR : Hid (Ris1 (l.take (0 + 1))) := by
            show Ris1 _
            rw [take_next LK.out]
            exact ris1_one hb
          refine wp_region_quiet_grown hmx (by kernel_rfl) ?_
          repeat (
            (with_reducible refine wpQuiet_step (fun K hK => ?_))
            go_simp
            first
              | ((with_reducible refine hK _ ?_); clear hK K)
              | ((rw [if_neg (fun h => by cases h)]); (with_reducible refine hK _ ?_); clear hK K)
              | (apply Exists.intro; refine ⟨fun _ => ?_, hK _ ?_⟩; (go_at_call 29; refine Calls.grown_of (ct _)); clear hK K))
          with_reducible refine wpQuiet_nil ?_
          intro _ hw'
          obtain ⟨⟨nq, osq⟩, hw''⟩ := hw'
          subst hw''
          have HWV2 := Lib.hid (HWV.out _ (below_grow V0 nq osq))
          generalize Sort.grow (V0.drewN nq) osq = V at HWV2 ⊢
          go_wp2
          go_roundw
          case rel => exact ⟨1, by omega, by go_num, HR.out, HWV2.out⟩
          case measure => simp [intOf]; omega
        | false =>
          have HA : Hid (ans = false) := HNO.out (fun h => by
            rw [take_next LK.out] at h
            have := ris1_end h
            rw [hb] at this; cases this)
          refine wp_region_quiet_grown hmx (by kernel_rfl) ?_
          repeat (
            (with_reducible refine wpQuiet_step (fun K hK => ?_))
            go_simp
            first
              | ((with_reducible refine hK _ ?_); clear hK K)
              | ((rw [if_neg (fun h => by cases h)]); (with_reducible refine hK _ ?_); clear hK K)
              | (apply Exists.intro; refine ⟨fun _ => ?_, hK _ ?_⟩; (go_at_call 29; refine Calls.grown_of (ct _)); clear hK K))
          with_reducible refine wpQuiet_nil ?_
          intro _ hw'
          obtain ⟨⟨nq, osq⟩, hw''⟩ := hw'
          subst hw''
          have HWV2 := Lib.hid (HWV.out _ (below_grow V0 nq osq))
          generalize Sort.grow (V0.drewN nq) osq = V at HWV2 ⊢
          go_wp2
          go_ret
          exact ⟨ret_bool HA.out.symm, HWV2.out⟩
      · obtain ⟨b, hb⟩ : ∃ b, mayD (lo, hi) = b := ⟨_, rfl⟩
        have hzn : z < n := by omega
        obtain ⟨ad2, slo, shi, e, hlz, hslo, hshi, s1, s2⟩ := (HB.out.below HW.out).at_ (k := z) (by rw [HL.out]; exact hzn)
        cases e
        have SK := Lib.hid hlz
        have S1 : Hid ((wr.alloc (.cells #[.int .u16 (lo : Int), .int .u64 (hi : Int)] 27)).cell? (ad.add (z * 2)) = some (.int .u16 (slo : Int))) := (L0.out.cell (World.block_lt_of_cell? wr _ s1)).trans s1
        have SB : Hid ((ad.add (z * 2)).block < (wr.alloc (.cells #[.int .u16 (lo : Int), .int .u64 (hi : Int)] 27)).heap.size) := Nat.lt_of_lt_of_le (World.block_lt_of_cell? wr _ s1) L0.out.size
        clear hlz s1 s2
        go_wp2_with fail
        clear q1 q3
        generalize wr.alloc (.cells #[.int .u16 (lo : Int), .int .u64 (hi : Int)] 27) = V0 at HCR HWV L0 S1 SB ⊢
        have hmx : Try.prog.follows .mixedOrders = true := by kernel_rfl
        have g1 : ∀ n os, (Sort.grow (V0.drewN n) os).cell? (ad.add (z * 2)) = some (.int .u16 (slo : Int)) := fun n os => ((below_grow V0 n os).cell SB.out).trans S1.out
        have g3 : ∀ n os, (Sort.grow (V0.drewN n) os).cell? ⟨wr.heap.size, 0, none⟩ = some (.int .u16 (lo : Int)) := fun n os => (HCR.out _ (below_grow V0 n os)).1
        have g4 : ∀ n os, (Sort.grow (V0.drewN n) os).cell? ⟨wr.heap.size, 1, none⟩ = some (.int .u64 (hi : Int)) := fun n os => (HCR.out _ (below_grow V0 n os)).2
        have ct := fun W => pgood_g W (lo, hi) b hb
        clear HCR L0 S1 SB
        have hp : (0 : Int) < ((z : Nat) : Int) + 1 := by omega
        have hp2 : decide ((0 : Int) < ((z : Nat) : Int) + 1) = true := decide_eq_true (by omega)
        have hw1 : IntKind.i64.wrap (((z : Nat) : Int) + 1 - 1) = (z : Int) := by simp [IntKind.wrap, IntKind.bits, IntKind.signed]; omega
        have hw2 : IntKind.i64.wrap ((z : Nat) : Int) = (z : Int) := by simp [IntKind.wrap, IntKind.bits, IntKind.signed]; omega
        have hz0 : (0 : Int) ≤ (z : Int) := by omega
        have hz1 : (z : Int) < (n : Int) := by omega
        cases b with
        | true =>
          by_cases hsl : slo < lo
          · have hge : decide ((lo : Int) ≤ (slo : Int)) = false := decide_eq_false (by omega)
            have hge2 : ¬ (lo : Int) ≤ (slo : Int) := by omega
            have hge3 : ¬ lo ≤ slo := by omega
            have HR : Hid (Ris1 (l.take (z + 1 + 1))) := by
              show Ris1 _
              have h1 := HI.out
              rw [take_next LK.out]
              rw [take_next SK.out] at h1 ⊢
              exact ris1_last h1 hb hsl
            refine wp_region_quiet_grown hmx (by kernel_rfl) ?_
            repeat (
              (with_reducible refine wpQuiet_step (fun K hK => ?_))
              go_simp
              first
                | ((with_reducible refine hK _ ?_); clear hK K)
                | ((rw [if_neg (fun h => by cases h)]); (with_reducible refine hK _ ?_); clear hK K)
                | (apply Exists.intro; refine ⟨fun _ => ?_, hK _ ?_⟩; (go_at_call 29; refine Calls.grown_of (ct _)); clear hK K))
            with_reducible refine wpQuiet_nil ?_
            intro _ hw'
            obtain ⟨⟨nq, osq⟩, hw''⟩ := hw'
            subst hw''
            have HWV2 := Lib.hid (HWV.out _ (below_grow V0 nq osq))
            generalize Sort.grow (V0.drewN nq) osq = V at HWV2 ⊢
            go_wp2
            go_roundw
            case rel => exact ⟨z + 1 + 1, by omega, by go_num, HR.out, HWV2.out⟩
            case measure => simp [intOf]; omega
          · have hge : decide ((lo : Int) ≤ (slo : Int)) = true := decide_eq_true (by omega)
            have hge2 : (lo : Int) ≤ (slo : Int) := by omega
            have hge3 : lo ≤ slo := by omega
            have HA : Hid (ans = false) := HNO.out (fun h => by
              rw [take_next LK.out, take_next SK.out] at h
              exact hsl (ris1_two h))
            refine wp_region_quiet_grown hmx (by kernel_rfl) ?_
            repeat (
              (with_reducible refine wpQuiet_step (fun K hK => ?_))
              go_simp
              first
                | ((with_reducible refine hK _ ?_); clear hK K)
                | ((rw [if_neg (fun h => by cases h)]); (with_reducible refine hK _ ?_); clear hK K)
                | (apply Exists.intro; refine ⟨fun _ => ?_, hK _ ?_⟩; (go_at_call 29; refine Calls.grown_of (ct _)); clear hK K))
            with_reducible refine wpQuiet_nil ?_
            intro _ hw'
            obtain ⟨⟨nq, osq⟩, hw''⟩ := hw'
            subst hw''
            have HWV2 := Lib.hid (HWV.out _ (below_grow V0 nq osq))
            generalize Sort.grow (V0.drewN nq) osq = V at HWV2 ⊢
            go_wp2
            go_ret
            exact ⟨ret_bool HA.out.symm, HWV2.out⟩
        | false =>
          have HA : Hid (ans = false) := HNO.out (fun h => by
            rw [take_next LK.out] at h
            have := ris1_end h
            rw [hb] at this; cases this)
          refine wp_region_quiet_grown hmx (by kernel_rfl) ?_
          repeat (
            (with_reducible refine wpQuiet_step (fun K hK => ?_))
            go_simp
            first
              | ((with_reducible refine hK _ ?_); clear hK K)
              | ((rw [if_neg (fun h => by cases h)]); (with_reducible refine hK _ ?_); clear hK K)
              | (apply Exists.intro; refine ⟨fun _ => ?_, hK _ ?_⟩; (go_at_call 29; refine Calls.grown_of (ct _)); clear hK K))
          with_reducible refine wpQuiet_nil ?_
          intro _ hw'
          obtain ⟨⟨nq, osq⟩, hw''⟩ := hw'
          subst hw''
          have HWV2 := Lib.hid (HWV.out _ (below_grow V0 nq osq))
          generalize Sort.grow (V0.drewN nq) osq = V at HWV2 ⊢
          go_wp2
          go_ret
          exact ⟨ret_bool HA.out.symm, HWV2.out⟩
    · obtain rfl : k = n := by omega
      have e : Hid (ans = true) := HT.out (by have := HI.out; rwa [List.take_of_length_le (by rw [HL.out]; exact Nat.le_refl _)] at this)
      go_wp2
      go_ret
      exact ⟨ret_bool e.out.symm, HW.out⟩
end Go.Proofs.Ytbpmbjpepjndaaa.Dt
