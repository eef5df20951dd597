/- The contract of the program's 'Norm': the list in order of the same numbers. Condition: at most 2^42 runs. -/
import Derived.Test.YtaoojiacdkabbaaPut2
import Derived.Test.YtaoojiacdkabbaaSort
namespace Go.Proofs.Ytaoojiacdkabbaa.Ru
open Go.ChangeShapes Go.WideShapes Go.ChangeAt Go.RowKit Go.Shelf
set_option linter.unusedVariables false

theorem joined_nil (w : World) : Calls Try.prog 45 #[.slice none 0 0] w fun e w' => e = .returned (.slice none 0 0) ∧ w' = w := by
  go_enter Try.func45, Try.ntmps45
  go_wp2
  refine wp_loop_rounds 1 ?_
  rw [rounds_succ]
  go_wp2
  go_ret
  exact ⟨rfl, rfl⟩

theorem perm_length {l m : List Run} (h : m.Perm l) {n : Nat} (hl : l.length = n) : m.length = n := by rw [h.length_eq, hl]
theorem pnorm_any (w : World) (A : Option Addr) (l : List Run) (n c : Nat) (hl : l.length = n) (hb : Runs w w.heap.size A l) (h42 : n ≤ 4398046511104) :
    Calls Try.prog 20 #[.slice A n c] w (RunPost w (nrm l)) := by
  have HL := Lib.hid hl
  have HB := Lib.hid hb
  have L0 : Hid (Below w.heap.size w (w.alloc (.cells #[.slice A n c] 22))) := below_new _ _
  have HC : Hid (Calls Try.prog 40 #[.func (.func 53) #[] #[.pointer (some ⟨w.heap.size, 0, none⟩)]] (w.alloc (.cells #[.slice A n c] 22)) (RunPost (w.alloc (.cells #[.slice A n c] 22)) (tells l))) :=
    collect_any _ w.heap.size A l n c hl (by simp) (Boxed.new w 22 (.slice A n c)).cell (hb.up L0.out) h42
  clear hl hb
  go_enter Try.func20, Try.ntmps20
  go_wp2_with fail
  refine (telling_any w A n c).mono ?_
  rintro e w1 ⟨rfl, rfl⟩
  go_wp2_with fail
  refine HC.out.mono ?_
  rintro e w2 ⟨A2, n2, c2, rfl, hn2, ho2, hb2⟩
  have hn3 : n2 ≤ 4398046511104 := by
    rw [← hn2]
    refine Nat.le_trans (List.length_filter_le _ _) ?_
    rw [HL.out]; exact h42
  have HO := Lib.hid (own_less ho2 L0.out.size)
  have HW : Hid (Below w.heap.size w w2) := L0.out.trans (hb2.mono L0.out.size)
  have HN := Lib.hid hn2
  clear ho2 hb2 hn2 HC L0
  rcases A2 with _ | ad
  · obtain ⟨rfl, rfl⟩ := (own_len HO.out).2.2 rfl
    have hz : Hid (nrm l = []) := by
      show _ = _
      rw [← joined_norm (l := l) (m := []) (by rw [List.eq_nil_of_length_eq_zero HN.out]) List.Pairwise.nil]
      rfl
    go_wp2_with fail
    refine (sort_nil _).mono ?_
    rintro e w3 ⟨rfl, rfl⟩
    go_wp2_with fail
    refine (joined_nil _).mono ?_
    rintro e w3 ⟨rfl, rfl⟩
    go_wp2
    go_ret
    rw [hz.out]
    exact ⟨none, 0, 0, rfl, rfl, World.ownsRow_nil _ _ _ _, HW.out⟩
  · obtain ⟨g, cap, e, hBg⟩ : ∃ g cap, Value.slice (some ad) n2 c2 = .slice (some ⟨g, 0, none⟩) n2 cap ∧ w.heap.size ≤ g := own_shape (w := w) HO.out (.inr (fun h => by cases h))
    cases e
    go_wp2_with fail
    refine (sort_any w2 w.heap.size g c2 n2 (tells l) HN.out (by omega) HO.out).mono ?_
    rintro e w3 ⟨rfl, m, hp, hr, ho3, hg3⟩
    have HJ := Lib.hid (joined_norm hp hr)
    have HC : Hid (Calls Try.prog 45 #[.slice (some ⟨g, 0, none⟩) n2 c2] w3 fun e w' => ∃ k, e = .returned (.slice (some ⟨g, 0, none⟩) k c2) ∧ (joinL m).length = k ∧ w'.ownsRow w.heap.size 31 2 (.slice (some ⟨g, 0, none⟩) k c2) k (rv (joinL m)) ∧ w3.grownBy w' (some g)) :=
      joined_any w3 w.heap.size g c2 n2 m (perm_length hp HN.out) ho3 (fun r h => (List.mem_filter.1 (hp.mem_iff.1 h)).2) hr hn3
    have HG := Lib.hid hg3
    clear hp hr ho3 hg3
    go_wp2_with fail
    refine HC.out.mono ?_
    rintro e w4 ⟨k, rfl, hk, ho4, hg4⟩
    rw [HJ.out] at hk ho4
    have HO4 := Lib.hid ho4
    have HK := Lib.hid hk
    have HW4 : Hid (Below w.heap.size w w4) := HW.out.grown (grown_trans HG.out hg4) HW.out.size (fun j e => by cases e; exact hBg)
    clear ho4 hg4 hk
    go_wp2
    go_ret
    exact ⟨_, k, c2, rfl, HK.out, HO4.out, HW4.out⟩
end Go.Proofs.Ytaoojiacdkabbaa.Ru
