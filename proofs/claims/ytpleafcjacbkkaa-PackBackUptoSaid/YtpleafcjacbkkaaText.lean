/- The contracts of pack's reader, going on: Text, New, and what slices.Clone answers. -/
import Derived.Test.YtpleafcjacbkkaaTake
import Derived.Lib.SliceRun
namespace Go.Proofs.Ytpleafcjacbkkaa.Nu
open Go.ChangeShapes Go.WideShapes Go.ChangeAt Go.RowKit
set_option linter.unusedVariables false

theorem str_nil : str [] = ⟨#[]⟩ := rfl
theorem takeV_small {k : Nat} {l : List Nat} (h : Small l) : Small (takeV k l) := by
  unfold takeV
  split
  · exact small_take h k
  · intro x hx; cases hx

set_option maxHeartbeats 1000000 in
theorem text_any (w : World) (g B : Nat) (l : List Nat) (e : Nat) (m : Int) (h : PR w g B l e) (hB : B ≤ g) (m0 : -9223372036854775808 ≤ m) (m1 : m ≤ 9223372036854775807) :
    Calls Try.prog 15 #[.pointer (some ⟨g, 0, none⟩), .int .i64 m] w (PPost w g B (.string (str (textV m l))) (textL m l) (textE m l e)) := by
  have hs := Lib.hid (small_of h)
  have HP := Lib.hid h
  clear h
  have hv := numV_lt hs.out
  by_cases hm : m.toNat < numV l
  · have v1 : Hid (textV m l = []) := if_pos hm
    have v2 : Hid (textL m l = []) := if_pos hm
    have v3 : Hid (textE m l e = stopE (stopE e (numE l)) 3) := if_pos hm
    go_enter Try.func15, Try.ntmps15
    go_wp2_with fail
    refine (takeNum_any w g B l e HP.out hB).mono ?_
    rintro r w' ⟨rfl, hp, hg⟩
    have HP2 := Lib.hid hp
    have HG := Lib.hid hg
    clear hp hg
    generalize numV l = v at *
    by_cases hm0 : m < 0
    · have d : decide (0 < v) = true := decide_eq_true (by omega)
      clear hm
      go_wp2_with fail
      refine (stop_any w' g B _ _ 3 HP2.out hB (by decide)).mono ?_
      rintro r w2 ⟨rfl, hp, hg⟩
      go_wp2
      go_ret
      exact ⟨by rw [v1.out]; rfl, by rw [v2.out, v3.out]; exact hp, HG.out.trans hg⟩
    · obtain ⟨k, rfl⟩ := Int.eq_ofNat_of_zero_le (by omega : 0 ≤ m)
      rw [Int.toNat_natCast] at hm
      have d : decide (k < v) = true := decide_eq_true hm
      have d2 : ¬ (k : Int) < 0 := hm0
      go_wp2_with fail
      refine (stop_any w' g B _ _ 3 HP2.out hB (by decide)).mono ?_
      rintro r w2 ⟨rfl, hp, hg⟩
      go_wp2
      go_ret
      exact ⟨by rw [v1.out]; rfl, by rw [v2.out, v3.out]; exact hp, HG.out.trans hg⟩
  · have v1 : Hid (textV m l = takeV (numV l) (numL l)) := if_neg hm
    have v2 : Hid (textL m l = takeL (numV l) (numL l)) := if_neg hm
    have v3 : Hid (textE m l e = takeE (numV l) (numL l) (stopE e (numE l))) := if_neg hm
    go_enter Try.func15, Try.ntmps15
    go_wp2_with fail
    refine (takeNum_any w g B l e HP.out hB).mono ?_
    rintro r w' ⟨rfl, hp, hg⟩
    have HP2 := Lib.hid hp
    have HG := Lib.hid hg
    clear hp hg
    generalize numV l = v at *
    by_cases hm0 : m < 0
    · have d : decide (0 < v) = false := decide_eq_false (by omega)
      clear hm
      go_wp2_with fail
      refine (take_any w' g B _ _ v HP2.out hB hv).mono ?_
      rintro r w2 ⟨A, n, c, rfl, hn, hb, hp, hg⟩
      have hcv := conv hb n c hn
      have H2 := Lib.hid hp
      have HG2 := Lib.hid hg
      clear hb hn hp hg
      go_wp2
      go_ret
      exact ⟨by rw [v1.out]; rfl, by rw [v2.out, v3.out]; exact H2.out, HG.out.trans HG2.out⟩
    · obtain ⟨k, rfl⟩ := Int.eq_ofNat_of_zero_le (by omega : 0 ≤ m)
      rw [Int.toNat_natCast] at hm
      have d : decide (k < v) = false := decide_eq_false hm
      have d2 : ¬ (k : Int) < 0 := hm0
      go_wp2_with fail
      refine (take_any w' g B _ _ v HP2.out hB hv).mono ?_
      rintro r w2 ⟨A, n, c, rfl, hn, hb, hp, hg⟩
      have hcv := conv hb n c hn
      have H2 := Lib.hid hp
      have HG2 := Lib.hid hg
      clear hb hn hp hg
      go_wp2
      go_ret
      exact ⟨by rw [v1.out]; rfl, by rw [v2.out, v3.out]; exact H2.out, HG.out.trans HG2.out⟩

theorem run_nil (w : World) (a : Option Addr) (n c : Nat) : (binOp .eql 22 (.slice a n c) (.slice none 0 0)).run Try.prog w = .ok (.bool a.isNone) w := Lib.run_eql_slice_nil w _ _ a n c 0 0 Try.underlying22
/-- a copy: nil, or a new list of the same bytes. -/
def ClonePost (w : World) (m : List Nat) (r : Ending) (w' : World) : Prop :=
  ∃ A n c, r = .returned (.slice A n c) ∧ m.length = n ∧ Bytes w' w'.heap.size A m ∧ n ≤ c ∧ c ≤ 9223372036854775807 ∧ (A = none → c = 0) ∧ Below w.heap.size w w' ∧ w'.ownsRow w.heap.size 5 1 (.slice A n c) n (vals m)
theorem clone_any (w : World) (A : Option Addr) (l : List Nat) (n c : Nat) (hn : l.length = n) (hA : A = none → n = 0 ∧ c = 0) (hb : Bytes w w.heap.size A l) (hl : n ≤ 140737488355328) :
    Calls Try.prog 34 #[.slice A n c] w (ClonePost w l) := by
  obtain ⟨i0, hi0, hz0, hz1, hz2⟩ := info_parts byte_info
  have hB := Lib.hid hb
  have HN := Lib.hid hn
  clear hb hn
  cases A with
  | none =>
    obtain ⟨rfl, rfl⟩ := hA rfl
    have hnil := run_nil w none 0 0
    go_enter Try.func34, Try.ntmps34
    go_wp2
    go_ret
    exact ⟨none, 0, 0, rfl, HN.out, by rw [List.eq_nil_of_length_eq_zero HN.out]; exact Bytes.none_ _ _ _, Nat.le_refl _, by omega, fun _ => rfl, Below.refl _ _, by rw [List.eq_nil_of_length_eq_zero HN.out]; exact World.ownsRow_nil _ _ _ _⟩
  | some ad =>
    clear hA
    have hnil := run_nil w (some ad) n c
    have HC : Hid (∀ j u, (vals l)[j]? = some u → (w.alloc (.cells #[] 5)).cell? (ad.add j) = some u) := by
      intro j u hu
      rw [vals_get] at hu
      obtain ⟨x, hx, rfl⟩ := Option.map_eq_some_iff.1 hu
      have hjl : j < l.length := (List.getElem?_eq_some_iff.1 hx).1
      obtain ⟨ad', e, hadb, hc⟩ := hB.out.2 (by omega)
      obtain rfl := Option.some.inj e
      exact (World.cell?_alloc_lt _ _ _ (by rw [block_add]; exact hadb)).trans (hc j x hx)
    go_enter Try.func34, Try.ntmps34
    go_wp2_with (
      (at_builtin
       refine wpList_append_own _ rfl (.tmp 5) (.tmp 6) 22 rfl w.heap.size 5 i0 (.int .u8 0) 1 1 Try.underlying22 hi0 hz0 hz1 hz2 rfl (by decide) (.slice (some ⟨w.heap.size, 0, none⟩) 0 0) 0 [] rfl (World.ownsRow_lit w #[] 0 (Nat.le_refl _) (by simp [maxLen]) rfl) ad n c (vals l) rfl (by rw [vals_length, HN.out, Nat.mul_one]) HC.out (vals_one l) (by simp only [maxLen]; omega) (by omega) (by simp) ?_
       intro v1 w2 hown1 hg1 hat1))
    simp only [Nat.zero_add, List.nil_append] at hown1
    obtain ⟨g0, cap0, rfl, hgw0⟩ := own_shape (w := w) hown1 (.inr (fun h => by simp at hat1; exact hat1 h))
    have hbel : Below w.heap.size w w2 := (below_new w _).grown hg1 (by simp) (fun k hk => by simp [Value.ownBlock] at hk; omega)
    have HO := Lib.hid hown1
    have HB := Lib.hid hbel
    clear hown1 hg1 hat1 hbel HC
    go_wp2
    go_ret
    refine ⟨some ⟨g0, 0, none⟩, n, cap0, rfl, HN.out, bytes_own HO.out hB.out.1, ?_, ?_, fun h => (by cases h), HB.out, HO.out⟩
    · rcases HO.out.2 with ⟨h, _⟩ | ⟨_, _, _, h, _, _, h1, _⟩
      · cases h
      · cases h; exact h1
    · rcases HO.out.2 with ⟨h, _⟩ | ⟨_, _, _, h, _, _, _, h1, _⟩
      · cases h
      · cases h; exact h1
end Go.Proofs.Ytpleafcjacbkkaa.Nu
