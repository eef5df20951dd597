/- The contracts of the document's answers for layer runs: Join, Meet, Minus, Norm, Eq, Good, Size, First, Last, Of. Condition: at most 512 runs (256 on either side where two lists meet are more than the laws ask), at most 512 numbers. -/
import Derived.Test.YtaoojiacdkabbaaSet
import Derived.Test.YtaoojiacdkabbaaTold
namespace Go.Proofs.Ytaoojiacdkabbaa.Ru
open Go.ChangeShapes Go.WideShapes Go.ChangeAt Go.RowKit
set_option linter.unusedVariables false

theorem fit_order {l : List Run} (h : InOrder l) : Fit l := fun r hr => by
  have := (may_iff r).1 (h.1 r hr)
  omega
theorem runs_own {w : World} {B n c : Nat} {A : Option Addr} {m : List Run} (h : w.ownsRow B 31 2 (.slice A n c) n (rv m)) (hf : Fit m) : Runs w w.heap.size A m := ⟨hf, lies_any (by decide) h⟩
/-- what a list that came out is to the walks behind it. -/
theorem post_runs {w w' : World} {m : List Run} {e : Ending} (h : RunPost w m e w') (hf : Fit m) : ∃ A n c, e = .returned (.slice A n c) ∧ m.length = n ∧ (A = none → n = 0 ∧ c = 0) ∧ n ≤ c ∧ c ≤ 9223372036854775807 ∧ Runs w' w'.heap.size A m ∧ w'.ownsRow w.heap.size 31 2 (.slice A n c) n (rv m) ∧ Below w.heap.size w w' := by
  obtain ⟨A, n, c, rfl, hn, ho, hb⟩ := h
  obtain ⟨h1, h2, h3⟩ := own_len ho
  exact ⟨A, n, c, rfl, hn, h3, h1, h2, runs_own ho hf, ho, hb⟩

theorem join_any (w : World) (A1 A2 : Option Addr) (l1 l2 : List Run) (n1 n2 c1 c2 : Nat) (hl1 : l1.length = n1) (hl2 : l2.length = n2) (hA1 : A1 = none → n1 = 0 ∧ c1 = 0) (hA2 : A2 = none → n2 = 0 ∧ c2 = 0) (hb1 : Runs w w.heap.size A1 l1) (hb2 : Runs w w.heap.size A2 l2) (h1 : n1 ≤ 512) (h2 : n2 ≤ 512) :
    Calls Try.prog 12 #[.slice A1 n1 c1, .slice A2 n2 c2] w (RunPost w (setL l1 l2 0)) := by
  have H := Lib.hid (set_any w A1 A2 l1 l2 n1 n2 c1 c2 0 hl1 hl2 hA1 hA2 hb1 hb2 h1 h2 (by decide))
  clear hl1 hl2 hA1 hA2 hb1 hb2
  go_enter Try.func12, Try.ntmps12
  go_wp2_with fail
  refine H.out.mono ?_
  rintro e w' ⟨A, n, c, rfl, h⟩
  have HH := Lib.hid h
  clear h
  go_wp2
  go_ret
  exact ⟨A, n, c, rfl, HH.out⟩
theorem meet_any (w : World) (A1 A2 : Option Addr) (l1 l2 : List Run) (n1 n2 c1 c2 : Nat) (hl1 : l1.length = n1) (hl2 : l2.length = n2) (hA1 : A1 = none → n1 = 0 ∧ c1 = 0) (hA2 : A2 = none → n2 = 0 ∧ c2 = 0) (hb1 : Runs w w.heap.size A1 l1) (hb2 : Runs w w.heap.size A2 l2) (h1 : n1 ≤ 512) (h2 : n2 ≤ 512) :
    Calls Try.prog 14 #[.slice A1 n1 c1, .slice A2 n2 c2] w (RunPost w (setL l1 l2 1)) := by
  have H := Lib.hid (set_any w A1 A2 l1 l2 n1 n2 c1 c2 1 hl1 hl2 hA1 hA2 hb1 hb2 h1 h2 (by decide))
  clear hl1 hl2 hA1 hA2 hb1 hb2
  go_enter Try.func14, Try.ntmps14
  go_wp2_with fail
  refine H.out.mono ?_
  rintro e w' ⟨A, n, c, rfl, h⟩
  have HH := Lib.hid h
  clear h
  go_wp2
  go_ret
  exact ⟨A, n, c, rfl, HH.out⟩
theorem minus_any (w : World) (A1 A2 : Option Addr) (l1 l2 : List Run) (n1 n2 c1 c2 : Nat) (hl1 : l1.length = n1) (hl2 : l2.length = n2) (hA1 : A1 = none → n1 = 0 ∧ c1 = 0) (hA2 : A2 = none → n2 = 0 ∧ c2 = 0) (hb1 : Runs w w.heap.size A1 l1) (hb2 : Runs w w.heap.size A2 l2) (h1 : n1 ≤ 512) (h2 : n2 ≤ 512) :
    Calls Try.prog 16 #[.slice A1 n1 c1, .slice A2 n2 c2] w (RunPost w (setL l1 l2 2)) := by
  have H := Lib.hid (set_any w A1 A2 l1 l2 n1 n2 c1 c2 2 hl1 hl2 hA1 hA2 hb1 hb2 h1 h2 (by decide))
  clear hl1 hl2 hA1 hA2 hb1 hb2
  go_enter Try.func16, Try.ntmps16
  go_wp2_with fail
  refine H.out.mono ?_
  rintro e w' ⟨A, n, c, rfl, h⟩
  have HH := Lib.hid h
  clear h
  go_wp2
  go_ret
  exact ⟨A, n, c, rfl, HH.out⟩
/-- the list in order of the same numbers. -/
def normL (l : List Run) : List Run := setL l [] 0
theorem norm_spec (l : List Run) : InOrder (normL l) ∧ ∀ n, has (normL l) n = has l n := by
  obtain ⟨h1, h2⟩ := set_spec l [] 0
  exact ⟨h1, fun n => by rw [show normL l = setL l [] 0 from rfl, h2 n, inB_zero, has_nil, Bool.or_false]⟩
theorem norm_any (w : World) (A1 : Option Addr) (l1 : List Run) (n1 c1 : Nat) (hl1 : l1.length = n1) (hA1 : A1 = none → n1 = 0 ∧ c1 = 0) (hb1 : Runs w w.heap.size A1 l1) (h1 : n1 ≤ 512) :
    Calls Try.prog 19 #[.slice A1 n1 c1] w (RunPost w (normL l1)) := by
  have H := Lib.hid (set_any w A1 none l1 [] n1 0 c1 0 0 hl1 rfl hA1 (fun _ => ⟨rfl, rfl⟩) hb1 (Runs.none_ _ _ _) h1 (by decide) (by decide))
  clear hl1 hA1 hb1
  go_enter Try.func19, Try.ntmps19
  go_wp2_with fail
  refine H.out.mono ?_
  rintro e w' ⟨A, n, c, rfl, h⟩
  have HH := Lib.hid h
  clear h
  go_wp2
  go_ret
  exact ⟨A, n, c, rfl, HH.out⟩

theorem take_more {l m : List Run} {k : Nat} {x : Run} (h : l.take k = m.take k) (h1 : l[k]? = some x) (h2 : m[k]? = some x) : l.take (k + 1) = m.take (k + 1) := by
  rw [List.take_add_one, List.take_add_one, h, h1, h2]
theorem ne_at {l m : List Run} {k : Nat} {x y : Run} (h1 : l[k]? = some x) (h2 : m[k]? = some y) (hn : x ≠ y) : l ≠ m := by
  intro e
  rw [e, h2] at h1
  exact hn (Option.some.inj h1).symm
theorem eq_any (w : World) (B1 B2 : Nat) (A1 A2 : Option Addr) (l1 l2 : List Run) (n1 n2 c1 c2 : Nat) (e1 : l1.length = n1) (e2 : l2.length = n2) (h1 : Runs w B1 A1 l1) (h2 : Runs w B2 A2 l2) (h63 : n1 ≤ 9223372036854775807) :
    Calls Try.prog 10 #[.slice A1 n1 c1, .slice A2 n2 c2] w fun e w' => e = .returned (.bool (decide (l1 = l2))) ∧ ∃ m, w' = w.drewN m := by
  have H1 := Lib.hid h1
  have H2 := Lib.hid h2
  have E1 := Lib.hid e1
  have E2 := Lib.hid e2
  clear h1 h2 e1 e2
  by_cases hn : n1 = n2
  · subst hn
    go_enter Try.func10, Try.ntmps10
    go_wp2
    go_loopw [5] (fun i wr => ∃ k : Nat, k ≤ n1 ∧ i = .int .i64 (k : Int) ∧ l1.take k = l2.take k ∧ ∃ m, wr = w.drewN m) (fun i _ => n1 - (intOf i).toNat)
    case atStart => exact ⟨0, Nat.zero_le _, rfl, by simp, 0, rfl⟩
    case round =>
      obtain ⟨k, hk, rfl, ht, m, rfl⟩ := hrel
      have HT := Lib.hid ht
      clear ht
      by_cases hlt : k < n1
      · obtain ⟨a1, x1, x2, rfl, hlx, hx1, hx2, hc1, hc2⟩ := H1.out.at_ (k := k) (by rw [E1.out]; exact hlt)
        obtain ⟨a2, y1, y2, rfl, hly, hy1, hy2, hd1, hd2⟩ := H2.out.at_ (k := k) (by rw [E2.out]; exact hlt)
        have hc3 : w.cell? ⟨(a1.add (k * 2)).block, (a1.add (k * 2)).off + 1, none⟩ = some (.int .u64 (x2 : Int)) := by rw [add_next]; exact hc2
        have hd3 : w.cell? ⟨(a2.add (k * 2)).block, (a2.add (k * 2)).off + 1, none⟩ = some (.int .u64 (y2 : Int)) := by rw [add_next]; exact hd2
        have LX := Lib.hid hlx
        have LY := Lib.hid hly
        clear hlx hly hc2 hd2
        by_cases hxy : x1 = y1 ∧ x2 = y2
        · obtain ⟨rfl, rfl⟩ := hxy
          have hs := Lib.hid (take_more HT.out LX.out LY.out)
          go_wp2_with fail
          go_quiet (fail)
          go_wp2
          go_roundw
          case rel => exact ⟨k + 1, by omega, by go_num, hs.out, _, rfl⟩
          case measure => simp [intOf]; omega
        · have hd : Hid (decide (l1 = l2) = false) := decide_eq_false (ne_at LX.out LY.out (fun e => hxy (by cases e; exact ⟨rfl, rfl⟩)))
          by_cases hx : x1 = y1
          · subst hx
            have hx2' : ¬ x2 = y2 := fun e => hxy ⟨rfl, e⟩
            have hb2 : ((x2 : Int) == (y2 : Int)) = false := by rw [beq_eq_false_iff_ne]; omega
            clear hxy
            go_wp2_with fail
            go_quiet (fail)
            go_wp2
            go_ret
            exact ⟨ret_bool hd.out.symm, _, World.drewN_drewN ..⟩
          · have hb2 : ((x1 : Int) == (y1 : Int)) = false := by rw [beq_eq_false_iff_ne]; omega
            clear hxy
            go_wp2_with fail
            go_quiet (fail)
            go_wp2
            go_ret
            exact ⟨ret_bool hd.out.symm, _, World.drewN_drewN ..⟩
      · obtain rfl : k = n1 := by omega
        have hd : Hid (l1 = l2) := by
          have h := HT.out
          rw [List.take_of_length_le (by rw [E1.out]; exact Nat.le_refl _), List.take_of_length_le (by rw [E2.out]; exact Nat.le_refl _)] at h
          exact h
        go_wp2
        go_ret
        exact ⟨ret_bool (by rw [decide_eq_true hd.out]), m, rfl⟩
  · have hd : Hid (decide (l1 = l2) = false) := decide_eq_false (fun e => hn (by rw [← E1.out, ← E2.out, e]))
    have hne : ((n1 : Int) != (n2 : Int)) = true := by rw [bne_iff_ne]; omega
    go_enter Try.func10, Try.ntmps10
    go_wp2
    go_ret
    exact ⟨ret_bool hd.out.symm, 0, rfl⟩
end Go.Proofs.Ytaoojiacdkabbaa.Ru
