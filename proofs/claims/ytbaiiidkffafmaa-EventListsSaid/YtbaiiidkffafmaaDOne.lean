/- The contracts of the document's answers for layer dot on single dots: Good, Cmp, Pack, Split, Unpack. For every dot and number of their types. -/
import Derived.Test.YtbaiiidkffafmaaDWords
namespace Go.Proofs.Ytbaiiidkffafmaa.Dt
open Go.ChangeShapes Go.WideShapes Go.ChangeAt Go.RowKit
set_option linter.unusedVariables false

theorem below_new3 (w : World) (o1 o2 o3 : Obj) : Below w.heap.size w (((w.alloc o1).alloc o2).alloc o3) := by
  have h1 := below_new w o1
  have h2 := h1.alloc (Nat.le_trans (Nat.le_refl _) h1.size) o2
  exact h2.alloc h2.size o3
/-- may a dot be? -/
def mayD (d : Dot) : Bool := decide (1 ≤ d.1 ∧ 1 ≤ d.2 ∧ d.2 < 281474976710656)
theorem may_iff (d : Dot) : mayD d = true ↔ 1 ≤ d.1 ∧ 1 ≤ d.2 ∧ d.2 < 281474976710656 := decide_eq_true_iff
theorem rgood_any (w : World) (a n : Nat) :
    Calls Try.prog 29 #[.agg #[.int .u16 (a : Int), .int .u64 (n : Int)]] w fun e w' => e = .returned (.bool (mayD (a, n))) ∧ w' = w.alloc (.cells #[.int .u16 (a : Int), .int .u64 (n : Int)] 25) := by
  by_cases c1 : 1 ≤ a
  · have d1 : decide ((1 : Int) ≤ (a : Int)) = true := decide_eq_true (by omega)
    by_cases c2 : 1 ≤ n
    · have d2 : decide ((1 : Int) ≤ (n : Int)) = true := decide_eq_true (by omega)
      have hd : mayD (a, n) = decide ((n : Int) < 281474976710656) := decide_eq_decide.2 ⟨fun h => by have := h.2.2; simp at this; omega, fun h => ⟨c1, c2, by simp; omega⟩⟩
      rw [hd]
      clear hd
      go_enter Try.func29, Try.ntmps29
      go_wp2
      go_ret
      exact ⟨rfl, rfl⟩
    · have hd : mayD (a, n) = false := decide_eq_false (fun h => c2 h.2.1)
      have d2 : decide ((1 : Int) ≤ (n : Int)) = false := decide_eq_false (by omega)
      rw [hd]
      clear hd
      go_enter Try.func29, Try.ntmps29
      go_wp2
      go_ret
      exact ⟨rfl, rfl⟩
  · have hd : mayD (a, n) = false := decide_eq_false (fun h => c1 h.1)
    have d1 : decide ((1 : Int) ≤ (a : Int)) = false := decide_eq_false (by omega)
    rw [hd]
    clear hd
    go_enter Try.func29, Try.ntmps29
    go_wp2
    go_ret
    exact ⟨rfl, rfl⟩

/-- which dot stands ahead? -/
def aheadD (a b : Dot) : Bool := decide (a.1 < b.1 ∨ (a.1 = b.1 ∧ a.2 < b.2))
def cmpD (a b : Dot) : Int := if a = b then 0 else if aheadD a b = true then -1 else 1
theorem cmp_same (a : Dot) : cmpD a a = 0 := if_pos rfl
theorem cmp_less {a b : Dot} (h : aheadD a b = true) : cmpD a b = -1 := by
  unfold cmpD
  rw [if_neg, if_pos h]
  rintro rfl
  have := of_decide_eq_true h
  omega
theorem cmp_more {a b : Dot} (h : aheadD b a = true) : cmpD a b = 1 := by
  have h2 := of_decide_eq_true h
  unfold cmpD
  rw [if_neg, if_neg]
  · intro h3
    have := of_decide_eq_true h3
    omega
  · rintro rfl
    omega
theorem rcmp_any (w : World) (a b : Dot) :
    Calls Try.prog 16 #[.agg #[.int .u16 (a.1 : Int), .int .u64 (a.2 : Int)], .agg #[.int .u16 (b.1 : Int), .int .u64 (b.2 : Int)]] w fun e w' => e = .returned (.int .i64 (cmpD a b)) ∧ Below w.heap.size w w' := by
  obtain ⟨a1, a2⟩ := a
  obtain ⟨b1, b2⟩ := b
  have HB : Hid (Below w.heap.size w ((w.alloc (.cells #[.int .u16 (a1 : Int), .int .u64 (a2 : Int)] 25)).alloc (.cells #[.int .u16 (b1 : Int), .int .u64 (b2 : Int)] 25))) := (below_new w _).trans ((below_new _ _).mono (below_new w _).size)
  by_cases h1 : a1 = b1
  · subst h1
    by_cases h2 : a2 = b2
    · subst h2
      rw [cmp_same]
      go_enter Try.func16, Try.ntmps16
      go_wp2
      go_ret
      exact ⟨rfl, HB.out⟩
    · have e2 : ((a2 : Int) == (b2 : Int)) = false := by rw [beq_eq_false_iff_ne]; omega
      by_cases h3 : a2 < b2
      · have d3 : decide ((a2 : Int) < (b2 : Int)) = true := decide_eq_true (by omega)
        rw [cmp_less (a := (a1, a2)) (b := (a1, b2)) (decide_eq_true (.inr ⟨rfl, h3⟩))]
        go_enter Try.func16, Try.ntmps16
        go_wp2
        go_ret
        exact ⟨rfl, HB.out⟩
      · have d3 : decide ((a2 : Int) < (b2 : Int)) = false := decide_eq_false (by omega)
        rw [cmp_more (a := (a1, a2)) (b := (a1, b2)) (decide_eq_true (.inr ⟨rfl, by show b2 < a2; omega⟩))]
        go_enter Try.func16, Try.ntmps16
        go_wp2
        go_ret
        exact ⟨rfl, HB.out⟩
  · have e1 : ((a1 : Int) == (b1 : Int)) = false := by rw [beq_eq_false_iff_ne]; omega
    by_cases h3 : a1 < b1
    · have d3 : decide ((a1 : Int) < (b1 : Int)) = true := decide_eq_true (by omega)
      rw [cmp_less (a := (a1, a2)) (b := (b1, b2)) (decide_eq_true (.inl h3))]
      go_enter Try.func16, Try.ntmps16
      go_wp2
      go_ret
      exact ⟨rfl, HB.out⟩
    · have d3 : decide ((a1 : Int) < (b1 : Int)) = false := decide_eq_false (by omega)
      rw [cmp_more (a := (a1, a2)) (b := (b1, b2)) (decide_eq_true (.inl (by show b1 < a1; omega)))]
      go_enter Try.func16, Try.ntmps16
      go_wp2
      go_ret
      exact ⟨rfl, HB.out⟩

theorem rsplit_any (w : World) (v : Nat) (h1 : v < 18446744073709551616) :
    Calls Try.prog 50 #[.int .u64 (v : Int)] w fun e w' => e = .returned (.tuple #[.int .u16 ((v / 281474976710656 : Nat) : Int), .int .u64 ((v % 281474976710656 : Nat) : Int)]) ∧ w = w' := by
  have h : ((v / 281474976710656 : Nat) : Int) = (v : Int) / 281474976710656 := by omega
  have h2 : ((v % 281474976710656 : Nat) : Int) = (v : Int) % 281474976710656 := by omega
  rw [h, h2]
  clear h h2
  go_enter Try.func50, Try.ntmps50
  go_wp2
  go_ret2
  exact ⟨rfl, rfl⟩

/-- the dot of a number. -/
def splitD (v : Nat) : Dot := (v / 281474976710656, v % 281474976710656)
def unpackD (v : Nat) : Dot × Bool := if mayD (splitD v) = true then (splitD v, true) else ((0, 0), false)
theorem runpack_any (w : World) (v : Nat) (h1 : v < 18446744073709551616) :
    Calls Try.prog 28 #[.int .u64 (v : Int)] w fun e w' => e = .returned (.tuple #[.agg #[.int .u16 ((unpackD v).1.1 : Int), .int .u64 ((unpackD v).1.2 : Int)], .bool (unpackD v).2]) ∧ Below w.heap.size w w' := by
  have CS := fun W => rsplit_any W v h1
  obtain ⟨a, ha⟩ : ∃ a, v / 281474976710656 = a := ⟨_, rfl⟩
  obtain ⟨n, hn⟩ : ∃ n, v % 281474976710656 = n := ⟨_, rfl⟩
  rw [ha, hn] at CS
  have hu : unpackD v = if mayD (a, n) = true then ((a, n), true) else ((0, 0), false) := by unfold unpackD splitD; rw [ha, hn]
  rw [hu]
  clear hu ha hn
  by_cases hm : mayD (a, n) = true
  · rw [if_pos hm]
    have CG := fun W => rgood_any W a n
    rw [hm] at CG
    clear hm
    go_enter Try.func28, Try.ntmps28
    go_wp2_with fail
    refine (CS _).mono ?_
    rintro e w1 ⟨rfl, rfl⟩
    go_wp2_with fail
    refine (CG _).mono ?_
    rintro e w2 ⟨rfl, rfl⟩
    go_wp2
    refine bodyPost_ret (v := .tuple #[.agg #[.int .u16 (a : Int), .int .u64 (n : Int)], .bool true]) ?_ rfl ?_
    · simp [results, Try.f28, go_sem]
    · exact ⟨rfl, below_new3 _ _ _ _⟩
  · rw [if_neg hm]
    have hm2 : mayD (a, n) = false := by simpa using hm
    have CG := fun W => rgood_any W a n
    rw [hm2] at CG
    clear hm hm2
    go_enter Try.func28, Try.ntmps28
    go_wp2_with fail
    refine (CS _).mono ?_
    rintro e w1 ⟨rfl, rfl⟩
    go_wp2_with fail
    refine (CG _).mono ?_
    rintro e w2 ⟨rfl, rfl⟩
    go_wp2
    refine bodyPost_ret (v := .tuple #[.agg #[.int .u16 0, .int .u64 0], .bool false]) ?_ rfl ?_
    · simp [results, Try.f28, go_sem]
    · exact ⟨rfl, below_new3 _ _ _ _⟩
end Go.Proofs.Ytbaiiidkffafmaa.Dt
