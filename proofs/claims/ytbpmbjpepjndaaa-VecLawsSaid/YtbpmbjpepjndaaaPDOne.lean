/- The contracts of the program's functions of layer dot on single dots: Good, ahead, Cmp. For every dot of its types. -/
import Derived.Test.YtbpmbjpepjndaaaVSide
import Derived.WalkSmall
namespace Go.Proofs.Ytbpmbjpepjndaaa.Dt
open Go.ChangeShapes Go.WideShapes Go.ChangeAt Go.RowKit
set_option linter.unusedVariables false

theorem pgood_any (w : World) (a n : Nat) :
    Calls Try.prog 29 #[.agg #[.int .u16 (a : Int), .int .u64 (n : Int)]] w fun e w' => e = .returned (.bool (mayD (a, n))) ∧ Below w.heap.size w w' := by
  have HB : Hid (Below w.heap.size w (w.alloc (.cells #[.int .u16 (a : Int), .int .u64 (n : Int)] 27))) := below_new w _
  by_cases c1 : 1 ≤ a
  · have d1 : ((a : Int) != 0) = true := by rw [bne_iff_ne]; omega
    by_cases c2 : 1 ≤ n
    · have d2 : ((n : Int) != 0) = true := by rw [bne_iff_ne]; omega
      have hd : mayD (a, n) = decide ((n : Int) ≤ 281474976710655) := decide_eq_decide.2 ⟨fun h => by have := h.2.2; simp at this; omega, fun h => ⟨c1, c2, by simp; omega⟩⟩
      rw [hd]
      clear hd
      go_enter Try.func29, Try.ntmps29
      go_wp2
      go_ret
      exact ⟨rfl, HB.out⟩
    · have hd : mayD (a, n) = false := decide_eq_false (fun h => c2 h.2.1)
      have d2 : ((n : Int) != 0) = false := by rw [bne_eq_false_iff_eq]; omega
      rw [hd]
      clear hd
      go_enter Try.func29, Try.ntmps29
      go_wp2
      go_ret
      exact ⟨rfl, HB.out⟩
  · have hd : mayD (a, n) = false := decide_eq_false (fun h => c1 h.1)
    have d1 : ((a : Int) != 0) = false := by rw [bne_eq_false_iff_eq]; omega
    rw [hd]
    clear hd
    go_enter Try.func29, Try.ntmps29
    go_wp2
    go_ret
    exact ⟨rfl, HB.out⟩
/-- the world with two dots more. -/
def two (w : World) (a b : Dot) : World := (w.alloc (.cells #[.int .u16 (a.1 : Int), .int .u64 (a.2 : Int)] 27)).alloc (.cells #[.int .u16 (b.1 : Int), .int .u64 (b.2 : Int)] 27)
theorem pahead_two (w : World) (a b : Dot) :
    Calls Try.prog 44 #[.agg #[.int .u16 (a.1 : Int), .int .u64 (a.2 : Int)], .agg #[.int .u16 (b.1 : Int), .int .u64 (b.2 : Int)]] w fun e w' => e = .returned (.bool (aheadD a b)) ∧ w' = two w a b := by
  obtain ⟨a1, a2⟩ := a
  obtain ⟨b1, b2⟩ := b
  by_cases h1 : a1 = b1
  · subst h1
    have hd : aheadD (a1, a2) (a1, b2) = decide (a2 < b2) := decide_eq_decide.2 ⟨fun h => by simp at h; omega, fun h => .inr ⟨rfl, by simp; omega⟩⟩
    rw [hd]
    clear hd
    go_enter Try.func44, Try.ntmps44
    go_wp2
    go_ret
    exact ⟨rfl, rfl⟩
  · have e1 : ((a1 : Int) != (b1 : Int)) = true := by rw [bne_iff_ne]; omega
    have hd : aheadD (a1, a2) (b1, b2) = decide (a1 < b1) := decide_eq_decide.2 ⟨fun h => by simp at h; omega, fun h => .inl (by simp; omega)⟩
    rw [hd]
    clear hd
    go_enter Try.func44, Try.ntmps44
    go_wp2
    go_ret
    exact ⟨rfl, rfl⟩
theorem pahead_any (w : World) (a b : Dot) :
    Calls Try.prog 44 #[.agg #[.int .u16 (a.1 : Int), .int .u64 (a.2 : Int)], .agg #[.int .u16 (b.1 : Int), .int .u64 (b.2 : Int)]] w fun e w' => e = .returned (.bool (aheadD a b)) ∧ Below w.heap.size w w' :=
  (pahead_two w a b).mono fun _ _ ⟨h1, h2⟩ => ⟨h1, by rw [h2]; exact below_new2 w _ _⟩
/-- what Cmp leaves: the two dots, laid once or twice. -/
def Left (w : World) (a b : Dot) (w' : World) : Prop := w' = two w a b ∨ w' = two (two w a b) a b
theorem pcmp_left (w : World) (a b : Dot) :
    Calls Try.prog 39 #[.agg #[.int .u16 (a.1 : Int), .int .u64 (a.2 : Int)], .agg #[.int .u16 (b.1 : Int), .int .u64 (b.2 : Int)]] w fun e w' => e = .returned (.int .i64 (cmpD a b)) ∧ Left w a b w' := by
  have CA := fun W => pahead_two W a b
  obtain ⟨a1, a2⟩ := a
  obtain ⟨b1, b2⟩ := b
  by_cases h : a1 = b1 ∧ a2 = b2
  · obtain ⟨rfl, rfl⟩ := h
    clear CA
    rw [cmp_same]
    go_enter Try.func39, Try.ntmps39
    go_wp2
    go_ret
    exact ⟨rfl, .inl rfl⟩
  · have hc : cmpD (a1, a2) (b1, b2) = if aheadD (a1, a2) (b1, b2) = true then -1 else 1 := if_neg (fun e => h (by cases e; exact ⟨rfl, rfl⟩))
    rw [hc]
    clear hc
    have hne : ((a1 : Int) == (b1 : Int)) = false ∨ (a1 = b1 ∧ ((a2 : Int) == (b2 : Int)) = false) := by
      by_cases e : a1 = b1
      · refine .inr ⟨by omega, ?_⟩; rw [beq_eq_false_iff_ne]; omega
      · refine .inl ?_; rw [beq_eq_false_iff_ne]; omega
    clear h
    rcases hne with q | ⟨rfl, q⟩
    all_goals
      generalize aheadD _ _ = ah at CA ⊢
      cases ah
      all_goals
        go_enter Try.func39, Try.ntmps39
        go_wp2_with fail
        refine (CA _).mono ?_
        rintro e w1 ⟨rfl, rfl⟩
        go_wp2
        go_ret
        exact ⟨rfl, .inr rfl⟩
theorem pcmp_any (w : World) (a b : Dot) :
    Calls Try.prog 39 #[.agg #[.int .u16 (a.1 : Int), .int .u64 (a.2 : Int)], .agg #[.int .u16 (b.1 : Int), .int .u64 (b.2 : Int)]] w fun e w' => e = .returned (.int .i64 (cmpD a b)) ∧ Below w.heap.size w w' :=
  (pcmp_left w a b).mono fun _ _ ⟨h1, h2⟩ => ⟨h1, by
    have h3 : Below w.heap.size w (two w a b) := below_new2 w _ _
    rcases h2 with rfl | rfl
    · exact h3
    · exact h3.trans (Below.mono (below_new2 (two w a b) _ _) h3.size)⟩
end Go.Proofs.Ytbpmbjpepjndaaa.Dt
