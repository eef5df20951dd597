/- The walk of the law NumBack: it returns true, for every number and every slice of at most 2^47 - 4096 bytes behind it; nothing that was there has changed. -/
import Derived.Test.YthlfjjhejckpiaaBackWords
namespace Go.Proofs.Ythlfjjhejckpiaa.Nu
open Go.ChangeShapes Go.WideShapes Go.ChangeAt Go.RowKit
set_option linter.unusedVariables false

set_option maxHeartbeats 16000000 in
theorem back_walk (w : World) (A : Option Addr) (l : List Nat) (n c v : Nat) (hn : l.length = n) (hA : A = none → n = 0 ∧ c = 0) (hb : Bytes w w.heap.size A l) (hl : n ≤ 140737488351232) (hnc : n ≤ c) (hc : c ≤ 9223372036854775807) (hv : v < 18446744073709551616) :
    Calls Try.prog 5 #[.int .u64 (v : Int), .slice A n c] w fun e w' => e = .returned (.bool true) ∧ Below w.heap.size w w' := by
  obtain ⟨i0, hi0, hz0, hz1, hz2⟩ := info_parts byte_info
  have HR := Lib.hid (rest_reads A l n c hn hnc hc)
  have HY := Lib.hid hb
  have HN := Lib.hid hn
  clear hb hn
  go_enter Try.func5, Try.ntmps5
  go_wp2_with fail
  refine (append_nil w v hv).mono ?_
  rintro e w1 ⟨g, cap, n1, rfl, hn1, hgw, hown, hbel⟩
  have hn2 : n1 = 1 + blen v := by rw [← hn1, enc_length]
  have hbl := blen_le v
  have hn9 : n1 ≤ 9 := by omega
  have HN2 := Lib.hid hn2
  have HO := Lib.hid hown
  have HB := Lib.hid hbel
  clear hown hbel hn1 hn2
  cases A with
  | none =>
    obtain ⟨rfl, rfl⟩ := hA rfl
    clear hA
    go_wp2_with (
      (at_builtin
       refine wpList_append_own_none rfl (.tmp 13) (.tmp 14) 22 rfl w.heap.size 5 i0 1 Try.underlying22 hi0 (.slice (some ⟨g, 0, none⟩) n1 cap) n1 (vals (enc v)) rfl HO.out rfl ?_))
    obtain ⟨hnc2, hcm2⟩ := own_room HO.out
    have HY2 : Hid (Bytes w1 w1.heap.size (some ⟨g, 0, none⟩) (enc v ++ l)) := by
      rw [List.eq_nil_of_length_eq_zero HN.out, List.append_nil]
      exact bytes_own HO.out (enc_small v)
    have HNM : Hid ((enc v ++ l).length = n1) := by
      show _ = _
      rw [List.length_append, HN.out, enc_length, HN2.out]; omega
    have hnm : 1 + blen v ≤ n1 := by rw [HN2.out]; omega
    have HB2 := Lib.hid HB.out
    clear HO
    refine (read_some _ ⟨g, 0, none⟩ (enc v ++ l) n1 cap 0 (blen v) v (1 + blen v) 0 HNM.out hnc2 hcm2 HY2.out (by omega) (what_back hv l).1 (what_back hv l).2).mono ?_
    rintro e w' ⟨rfl, m1, rfl⟩
    go_wp2_with fail
    refine (Sh.size_c v _ hv).mono ?_
    rintro e w' ⟨rfl, rfl⟩
    have hbl := blen_le v
    have q1 : (((1 + blen v : Nat) : Int) != 1 + ((blen v : Nat) : Int)) = false := by rw [bne_eq_false_iff_eq]; omega
    have q2 : decide (((n1 : Nat) : Int) < ((1 + blen v : Nat) : Int)) = false := decide_eq_false (by omega)
    have q3 : (1 + ((blen v : Nat) : Int) != 1 + ((blen v : Nat) : Int)) = false := by simp
    have q4 : decide (((n1 : Nat) : Int) < 1 + ((blen v : Nat) : Int)) = false := decide_eq_false (by omega)
    go_wp2_with fail
    clear q1 q2 q3 q4 HY2 HNM hnm
    refine (read_end _ none 0 0 (by omega)).mono ?_
    rintro e w' ⟨rfl, m2, rfl⟩
    have hbW : Below w.heap.size w (w1.drewN (m1 + m2)) := HB2.out.trans (below_drewN _ _ _)
    go_wp2_with fail
    refine wp_region_still_tail 17 (by kernel_rfl) (by kernel_rfl) ?_
    simp only [List.take_succ_cons, List.take_zero, List.drop_succ_cons, List.drop_zero]
    with_reducible refine still_value (.int .i64 2) ?_ ?_ ?_
    · kernel_rfl
    · rfl
    simp only [Act.put, List.setIfInBounds_toArray, List.set_cons_zero, List.set_cons_succ]
    with_reducible refine still_value (.bool true) ?_ ?_ ?_
    · kernel_rfl
    · go_simp
    simp only [Act.put, List.setIfInBounds_toArray, List.set_cons_zero, List.set_cons_succ]
    with_reducible refine still_value (.bool true) ?_ ?_ ?_
    · kernel_rfl
    · rfl
    simp only [Act.put, List.setIfInBounds_toArray, List.set_cons_zero, List.set_cons_succ]
    with_reducible refine still_skip ?_ ?_
    · kernel_rfl
    simp only [Act.put, List.setIfInBounds_toArray, List.set_cons_zero, List.set_cons_succ]
    with_reducible refine still_skip ?_ ?_
    · kernel_rfl
    simp only [Act.put, List.setIfInBounds_toArray, List.set_cons_zero, List.set_cons_succ]
    with_reducible refine still_skip ?_ ?_
    · kernel_rfl
    simp only [Act.put, List.setIfInBounds_toArray, List.set_cons_zero, List.set_cons_succ]
    with_reducible refine still_skip ?_ ?_
    · kernel_rfl
    simp only [Act.put, List.setIfInBounds_toArray, List.set_cons_zero, List.set_cons_succ]
    with_reducible refine still_skip ?_ ?_
    · kernel_rfl
    simp only [Act.put, List.setIfInBounds_toArray, List.set_cons_zero, List.set_cons_succ]
    with_reducible refine still_skip ?_ ?_
    · kernel_rfl
    simp only [Act.put, List.setIfInBounds_toArray, List.set_cons_zero, List.set_cons_succ]
    with_reducible refine still_skip ?_ ?_
    · kernel_rfl
    simp only [Act.put, List.setIfInBounds_toArray, List.set_cons_zero, List.set_cons_succ]
    with_reducible refine still_skip ?_ ?_
    · kernel_rfl
    simp only [Act.put, List.setIfInBounds_toArray, List.set_cons_zero, List.set_cons_succ]
    with_reducible refine still_skip ?_ ?_
    · kernel_rfl
    simp only [Act.put, List.setIfInBounds_toArray, List.set_cons_zero, List.set_cons_succ]
    with_reducible refine still_skip ?_ ?_
    · kernel_rfl
    simp only [Act.put, List.setIfInBounds_toArray, List.set_cons_zero, List.set_cons_succ]
    with_reducible refine still_skip ?_ ?_
    · kernel_rfl
    simp only [Act.put, List.setIfInBounds_toArray, List.set_cons_zero, List.set_cons_succ]
    with_reducible refine still_skip ?_ ?_
    · kernel_rfl
    simp only [Act.put, List.setIfInBounds_toArray, List.set_cons_zero, List.set_cons_succ]
    with_reducible refine still_value (.bool true) ?_ ?_ ?_
    · kernel_rfl
    · rfl
    simp only [Act.put, List.setIfInBounds_toArray, List.set_cons_zero, List.set_cons_succ]
    with_reducible refine still_value (.bool true) ?_ ?_ ?_
    · kernel_rfl
    · rfl
    simp only [Act.put, List.setIfInBounds_toArray, List.set_cons_zero, List.set_cons_succ]
    refine wpStill_nil ?_
    change wpList _ _ _ _ _ (World.drew _)
    have hbD := below_drew hbW
    generalize World.drew _ = w5 at *
    go_wp2_with fail
    refine (works_later w w5 hbD).mono ?_
    rintro e w6 ⟨rfl, b6⟩
    go_wp2
    go_ret
    exact ⟨rfl, b6⟩
  | some ad =>
    clear hA
    have HC : Hid (∀ j u, (vals l)[j]? = some u → w1.cell? (ad.add j) = some u) := by
      intro j u hu
      rw [vals_get] at hu
      obtain ⟨x, hx, rfl⟩ := Option.map_eq_some_iff.1 hu
      have hjl : j < l.length := (List.getElem?_eq_some_iff.1 hx).1
      obtain ⟨ad', e, hadb, hc⟩ := HY.out.2 (by omega)
      obtain rfl := Option.some.inj e
      exact (HB.out.cell (by rw [block_add]; exact hadb)).trans (hc j x hx)
    go_wp2_with (
      (at_builtin
       refine wpList_append_own _ rfl (.tmp 13) (.tmp 14) 22 rfl w.heap.size 5 i0 (.int .u8 0) 1 1 Try.underlying22 hi0 hz0 hz1 hz2 rfl (by decide) (.slice (some ⟨g, 0, none⟩) n1 cap) n1 (vals (enc v)) rfl HO.out ad n c (vals l) rfl (by rw [vals_length, HN.out, Nat.mul_one]) HC.out (vals_one l) (by simp only [maxLen]; omega) (by omega) HB.out.size ?_
       intro v1 w2 hown1 hg1 hat1))
    obtain ⟨g2, cap2, rfl, hgw2⟩ := own_shape (w := w) hown1 (.inl (by have := HN2.out; omega))
    have hbel2 : Below w.heap.size w w2 := HB.out.grown hg1 HB.out.size (fun k hk => by simp [Value.ownBlock] at hk; omega)
    obtain ⟨hnc2, hcm2⟩ := own_room hown1
    have HY2 : Hid (Bytes w2 w2.heap.size (some ⟨g2, 0, none⟩) (enc v ++ l)) := bytes_own (by rw [vals_append]; exact hown1) (small_append (enc_small v) HY.out.1)
    have HNM : Hid ((enc v ++ l).length = n1 + n) := by
      show _ = _
      rw [List.length_append, HN.out, enc_length, HN2.out]
    have hnm : 1 + blen v ≤ n1 + n := by rw [HN2.out]; omega
    have HB2 := Lib.hid hbel2
    clear hown1 hg1 hat1 hbel2 HC HO
    refine (read_some _ ⟨g2, 0, none⟩ (enc v ++ l) (n1 + n) cap2 0 (blen v) v (1 + blen v) 0 HNM.out hnc2 hcm2 HY2.out (by omega) (what_back hv l).1 (what_back hv l).2).mono ?_
    rintro e w' ⟨rfl, m1, rfl⟩
    go_wp2_with fail
    refine (Sh.size_c v _ hv).mono ?_
    rintro e w' ⟨rfl, rfl⟩
    have hbl := blen_le v
    have q1 : (((1 + blen v : Nat) : Int) != 1 + ((blen v : Nat) : Int)) = false := by rw [bne_eq_false_iff_eq]; omega
    have q2 : decide ((((n1 + n) : Nat) : Int) < ((1 + blen v : Nat) : Int)) = false := decide_eq_false (by omega)
    have q3 : (1 + ((blen v : Nat) : Int) != 1 + ((blen v : Nat) : Int)) = false := by simp
    have q4 : decide ((((n1 + n) : Nat) : Int) < 1 + ((blen v : Nat) : Int)) = false := decide_eq_false (by omega)
    go_wp2_with fail
    clear q1 q2 q3 q4 HY2 HNM hnm
    rcases HR.out with ⟨f, hf, hrd⟩ | ⟨y, k, hk, hy, hey, hrd⟩
    · have HRD := Lib.hid hrd
      clear hrd
      refine (HRD.out _ (HY.out.up (HB2.out.trans (below_drewN _ _ m1)))).mono ?_
      rintro e w' ⟨rfl, m2, rfl⟩
      have f1 : ((f : Int) != 0) = true := by rw [bne_iff_ne]; omega
      have hbW : Below w.heap.size w (w2.drewN (m1 + m2)) := HB2.out.trans (below_drewN _ _ _)
      go_wp2_with fail
      refine wp_region_still_tail 17 (by kernel_rfl) (by kernel_rfl) ?_
      simp only [List.take_succ_cons, List.take_zero, List.drop_succ_cons, List.drop_zero]
      with_reducible refine still_value (.int .i64 (f : Int)) ?_ ?_ ?_
      · kernel_rfl
      · rfl
      simp only [Act.put, List.setIfInBounds_toArray, List.set_cons_zero, List.set_cons_succ]
      with_reducible refine still_value (.bool true) ?_ ?_ ?_
      · kernel_rfl
      · go_simp
      simp only [Act.put, List.setIfInBounds_toArray, List.set_cons_zero, List.set_cons_succ]
      with_reducible refine still_value (.bool true) ?_ ?_ ?_
      · kernel_rfl
      · rfl
      simp only [Act.put, List.setIfInBounds_toArray, List.set_cons_zero, List.set_cons_succ]
      with_reducible refine still_skip ?_ ?_
      · kernel_rfl
      simp only [Act.put, List.setIfInBounds_toArray, List.set_cons_zero, List.set_cons_succ]
      with_reducible refine still_skip ?_ ?_
      · kernel_rfl
      simp only [Act.put, List.setIfInBounds_toArray, List.set_cons_zero, List.set_cons_succ]
      with_reducible refine still_skip ?_ ?_
      · kernel_rfl
      simp only [Act.put, List.setIfInBounds_toArray, List.set_cons_zero, List.set_cons_succ]
      with_reducible refine still_skip ?_ ?_
      · kernel_rfl
      simp only [Act.put, List.setIfInBounds_toArray, List.set_cons_zero, List.set_cons_succ]
      with_reducible refine still_skip ?_ ?_
      · kernel_rfl
      simp only [Act.put, List.setIfInBounds_toArray, List.set_cons_zero, List.set_cons_succ]
      with_reducible refine still_skip ?_ ?_
      · kernel_rfl
      simp only [Act.put, List.setIfInBounds_toArray, List.set_cons_zero, List.set_cons_succ]
      with_reducible refine still_skip ?_ ?_
      · kernel_rfl
      simp only [Act.put, List.setIfInBounds_toArray, List.set_cons_zero, List.set_cons_succ]
      with_reducible refine still_skip ?_ ?_
      · kernel_rfl
      simp only [Act.put, List.setIfInBounds_toArray, List.set_cons_zero, List.set_cons_succ]
      with_reducible refine still_skip ?_ ?_
      · kernel_rfl
      simp only [Act.put, List.setIfInBounds_toArray, List.set_cons_zero, List.set_cons_succ]
      with_reducible refine still_skip ?_ ?_
      · kernel_rfl
      simp only [Act.put, List.setIfInBounds_toArray, List.set_cons_zero, List.set_cons_succ]
      with_reducible refine still_skip ?_ ?_
      · kernel_rfl
      simp only [Act.put, List.setIfInBounds_toArray, List.set_cons_zero, List.set_cons_succ]
      with_reducible refine still_skip ?_ ?_
      · kernel_rfl
      simp only [Act.put, List.setIfInBounds_toArray, List.set_cons_zero, List.set_cons_succ]
      with_reducible refine still_value (.bool true) ?_ ?_ ?_
      · kernel_rfl
      · rfl
      simp only [Act.put, List.setIfInBounds_toArray, List.set_cons_zero, List.set_cons_succ]
      with_reducible refine still_value (.bool true) ?_ ?_ ?_
      · kernel_rfl
      · rfl
      simp only [Act.put, List.setIfInBounds_toArray, List.set_cons_zero, List.set_cons_succ]
      refine wpStill_nil ?_
      change wpList _ _ _ _ _ (World.drew _)
      have hbD := below_drew hbW
      generalize World.drew _ = w5 at *
      go_wp2_with fail
      refine (works_later w w5 hbD).mono ?_
      rintro e w6 ⟨rfl, b6⟩
      go_wp2
      go_ret
      exact ⟨rfl, b6⟩
    · have HRD := Lib.hid hrd
      have HE := Lib.hid hey
      clear hrd hey
      refine (HRD.out _ (HY.out.up (HB2.out.trans (below_drewN _ _ m1)))).mono ?_
      rintro e w' ⟨rfl, m2, rfl⟩
      have hbW : Below w.heap.size w (w2.drewN (m1 + m2)) := HB2.out.trans (below_drewN _ _ _)
      have r1 : decide ((k : Int) ≤ (n : Int)) = true := decide_eq_true (by omega)
      have r2 : (0 : Int) ≤ (k : Int) := by omega
      have r3 : (k : Int) ≤ (c : Int) := by omega
      have r4 : k ≤ c := by omega
      have HL : Hid ((l.take k).length = k) := by
        show _ = _
        rw [List.length_take, HN.out]; omega
      go_wp2_with fail
      first | (go_region_held3 (fun _ => True) (trivial) (first
        | (go_at_call 12; (with_reducible refine (works_later w _ ?_).mono ?_); (repeat (first | assumption | exact HB2.out | apply below_drew | apply below_drewN')); rintro e w6 ⟨rfl, b6⟩)
        | (go_at_call 9; (with_reducible refine (nil_back w _ y hy ?_).mono ?_); (repeat (first | assumption | exact HB2.out | apply below_drew | apply below_drewN')); rintro e w5 ⟨g5, cap5, n5, rfl, hn5, b5, y5⟩)
        | (go_at_call 8; (with_reducible refine (equal_same _ _ _ _ _ (l.take k) n5 k cap5 c (by rw [← HE.out]; exact hn5.out) HL.out (by rw [← HE.out]; exact y5.out) ((HY.out.take k).up b5)).mono ?_); rintro e w' ⟨rfl, rfl⟩))) | fail
      all_goals (go_wp2; go_ret; exact ⟨rfl, b6⟩)
end Go.Proofs.Ythlfjjhejckpiaa.Nu
