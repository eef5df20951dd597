/- Plain arithmetic for layer runs, going on: how many numbers a list in order tells, the first one that it lacks, the last one, and lists of some numbers. No program is walked here. -/
import Derived.Test.YtaoojiacdkabbaaSets
namespace Go.Proofs.Ytaoojiacdkabbaa.Ru
set_option linter.unusedVariables false

/-- how many numbers below N are so. -/
def cnt (f : Nat → Bool) : Nat → Nat
  | 0 => 0
  | n + 1 => cnt f n + (bif f n then 1 else 0)
theorem cnt_congr {f g : Nat → Bool} (h : ∀ n, f n = g n) (N : Nat) : cnt f N = cnt g N := by
  induction N with
  | zero => rfl
  | succ n ih => simp only [cnt, ih, h]
theorem cnt_or_and (f g : Nat → Bool) (N : Nat) : cnt (fun n => f n || g n) N + cnt (fun n => f n && g n) N = cnt f N + cnt g N := by
  induction N with
  | zero => rfl
  | succ n ih =>
    simp only [cnt]
    cases f n <;> cases g n <;> simp <;> omega
theorem cnt_none {f : Nat → Bool} (h : ∀ n, f n = false) (N : Nat) : cnt f N = 0 := by
  induction N with
  | zero => rfl
  | succ n ih => simp [cnt, ih, h]
theorem cnt_le {f g : Nat → Bool} (h : ∀ n, f n = true → g n = true) (N : Nat) : cnt f N ≤ cnt g N := by
  induction N with
  | zero => exact Nat.le_refl _
  | succ n ih =>
    simp only [cnt]
    have := h n
    cases hf : f n <;> cases hg : g n <;> simp [hf, hg] at this ⊢ <;> omega
theorem cnt_stretch (lo hi : Nat) (N : Nat) : cnt (fun n => decide (lo ≤ n) && decide (n ≤ hi)) N = min N (hi + 1) - min N lo := by
  induction N with
  | zero => simp [cnt]
  | succ n ih =>
    simp only [cnt, ih]
    by_cases h1 : lo ≤ n <;> by_cases h2 : n ≤ hi <;> simp [h1, h2] <;> omega
/-- how many numbers a list in order tells. -/
def sizeR : List Run → Nat
  | [] => 0
  | r :: l => (r.2 - r.1 + 1) + sizeR l
theorem size_cnt {l : List Run} (h : InOrder l) {N : Nat} (hN : ∀ r ∈ l, r.2 < N) : cnt (has l) N = sizeR l := by
  induction l with
  | nil => exact cnt_none (fun n => rfl) N
  | cons r l ih =>
    obtain ⟨h', hm, hf⟩ := order_tail h
    have hr := (may_iff r).1 hm
    have hrN := hN r List.mem_cons_self
    have e1 : cnt (tst r) N = r.2 - r.1 + 1 := by
      have : ∀ n, tst r n = (decide (r.1 ≤ n) && decide (n ≤ r.2)) := fun n => by unfold tst; rw [hm, Bool.true_and]
      rw [cnt_congr this, cnt_stretch]
      omega
    have e2 := ih h' (fun s hs => hN s (List.mem_cons_of_mem _ hs))
    have e3 := cnt_or_and (tst r) (has l) N
    have e4 : cnt (fun n => tst r n && has l n) N = 0 := cnt_none (fun n => by
      cases ht : tst r n with
      | false => rfl
      | true =>
        cases hl : has l n with
        | false => rfl
        | true =>
          have := far hf hl
          have := ((tst_iff r n).1 ht).2.2
          omega) N
    have e5 : cnt (has (r :: l)) N = cnt (fun n => tst r n || has l n) N := cnt_congr (fun n => has_cons r l n) N
    show _ = (r.2 - r.1 + 1) + sizeR l
    omega
theorem length_size {l : List Run} (h : InOrder l) : l.length ≤ sizeR l := by
  induction l with
  | nil => exact Nat.le_refl _
  | cons r l ih =>
    have := ih (order_tail h).1
    show l.length + 1 ≤ (r.2 - r.1 + 1) + sizeR l
    omega
theorem size_le {l : List Run} (h : InOrder l) : sizeR l ≤ 281474976710656 := by
  have h1 := size_cnt h (N := 281474976710656) (fun r hr => by have := (may_iff r).1 (h.1 r hr); omega)
  have h2 : ∀ (f : Nat → Bool) (N : Nat), cnt f N ≤ N := fun f N => by
    induction N with
    | zero => exact Nat.le_refl _
    | succ n ih => simp only [cnt]; cases f n <;> simp <;> omega
  have := h2 (has l) 281474976710656
  omega

/-- the first number that a list in order lacks. -/
def firstR : List Run → Nat
  | [] => 1
  | r :: _ => if r.1 = 1 then r.2 + 1 else 1
theorem first_spec {l : List Run} (h : InOrder l) : 1 ≤ firstR l ∧ has l (firstR l) = false ∧ ∀ n, 1 ≤ n → n < firstR l → has l n = true := by
  cases l with
  | nil => exact ⟨Nat.le_refl _, rfl, fun n h1 h2 => by have : n < 1 := h2; omega⟩
  | cons r l =>
    obtain ⟨h', hm, hf⟩ := order_tail h
    have hr := (may_iff r).1 hm
    have off : ∀ n, n ≤ r.2 + 1 → has l n = false := fun n hn => by
      cases hl : has l n with
      | false => rfl
      | true => have := far hf hl; omega
    by_cases e : r.1 = 1
    · have e1 : firstR (r :: l) = r.2 + 1 := if_pos e
      rw [e1]
      refine ⟨by omega, ?_, fun n h1 h2 => ?_⟩
      · rw [has_cons, off _ (Nat.le_refl _), Bool.or_false]
        cases ht : tst r (r.2 + 1) with
        | false => rfl
        | true => have := ((tst_iff r _).1 ht).2.2; omega
      · rw [has_cons, (tst_iff r n).2 ⟨hm, by omega, by omega⟩]; rfl
    · have e1 : firstR (r :: l) = 1 := if_neg e
      rw [e1]
      refine ⟨Nat.le_refl _, ?_, fun n h1 h2 => by omega⟩
      rw [has_cons, off _ (by omega), Bool.or_false]
      cases ht : tst r 1 with
      | false => rfl
      | true => have := ((tst_iff r _).1 ht).2.1; omega
/-- the last number that a list in order tells. -/
def lastR (l : List Run) : Nat :=
  match l.getLast? with
  | some r => r.2
  | none => 0
theorem last_snoc (l : List Run) (r : Run) : lastR (l ++ [r]) = r.2 := by
  unfold lastR
  rw [List.getLast?_append]
  rfl
theorem last_spec {l : List Run} (h : InOrder l) : (∀ n, has l n = true → n ≤ lastR l) ∧ (lastR l = 0 ∧ l = [] ∨ has l (lastR l) = true) := by
  rcases List.eq_nil_or_concat l with rfl | ⟨o, r, rfl⟩
  · exact ⟨fun n hn => (by cases hn), .inl ⟨rfl, rfl⟩⟩
  · rw [List.concat_eq_append] at *
    obtain ⟨ho, hm, hf⟩ := order_init h
    have hr := (may_iff r).1 hm
    rw [last_snoc]
    refine ⟨fun n hn => ?_, .inr ?_⟩
    · rw [has_append, has_cons, has_nil, Bool.or_false, Bool.or_eq_true] at hn
      rcases hn with hn | hn
      · obtain ⟨s, hs, ht⟩ := (has_iff o n).1 hn
        have h1 := hf s hs
        have h2 := ((tst_iff s n).1 ht).2.2
        omega
      · exact ((tst_iff r n).1 hn).2.2
    · rw [has_append, has_cons, has_nil, Bool.or_false, (tst_iff r r.2).2 ⟨hm, by omega, by omega⟩, Bool.or_true]

/-- a list of one number. -/
theorem has_one (n m : Nat) : has [(n, n)] m = (mayR (n, n) && decide (m = n)) := by
  rw [has_cons, has_nil, Bool.or_false]
  unfold tst
  congr 1
  rw [Bool.eq_iff_iff, Bool.and_eq_true, decide_eq_true_iff, decide_eq_true_iff, decide_eq_true_iff]
  constructor
  · rintro ⟨h1, h2⟩; exact Nat.le_antisymm h2 h1
  · rintro rfl; exact ⟨Nat.le_refl _, Nat.le_refl _⟩
/-- some numbers. -/
def ofL (l : List Nat) : List Run := l.foldl (fun o n => setL o [(n, n)] 0) []
theorem ofL_take {l : List Nat} {k n : Nat} (h : l[k]? = some n) : ofL (l.take (k + 1)) = setL (ofL (l.take k)) [(n, n)] 0 := by
  unfold ofL
  rw [List.take_add_one, h]
  simp
theorem inB_zero (x y : Bool) : inB 0 x y = (x || y) := rfl
theorem ofL_spec (l : List Nat) : InOrder (ofL l) ∧ ∀ m, has (ofL l) m = l.any fun n => mayR (n, n) && decide (m = n) := by
  suffices hs : ∀ (l : List Nat) (o : List Run), InOrder o → InOrder (l.foldl (fun o n => setL o [(n, n)] 0) o) ∧ ∀ m, has (l.foldl (fun o n => setL o [(n, n)] 0) o) m = (has o m || l.any fun n => mayR (n, n) && decide (m = n)) by
    have := hs l [] ⟨fun r hr => (by cases hr), List.Pairwise.nil⟩
    exact ⟨this.1, fun m => by rw [show ofL l = l.foldl (fun o n => setL o [(n, n)] 0) [] from rfl, this.2 m, has_nil, Bool.false_or]⟩
  intro l
  induction l with
  | nil => intro o ho; exact ⟨ho, fun m => by simp⟩
  | cons n l ih =>
    intro o ho
    obtain ⟨s1, s2⟩ := set_spec o [(n, n)] 0
    obtain ⟨h1, h2⟩ := ih _ s1
    refine ⟨h1, fun m => ?_⟩
    rw [List.foldl_cons, h2 m, s2 m, inB_zero, has_one, List.any_cons, Bool.or_assoc]
theorem ofL_length (l : List Nat) : (ofL l).length ≤ l.length := by
  obtain ⟨h1, h2⟩ := ofL_spec l
  have h3 := length_size h1
  have h4 := size_cnt h1 (N := 281474976710656) (fun r hr => by have := (may_iff r).1 (h1.1 r hr); omega)
  have key : ∀ (l : List Nat) (N : Nat), cnt (fun m => l.any fun n => mayR (n, n) && decide (m = n)) N ≤ l.length := by
    intro l N
    induction l with
    | nil => exact Nat.le_of_eq (cnt_none (fun m => rfl) N)
    | cons n l ih =>
      have e := cnt_or_and (fun m => mayR (n, n) && decide (m = n)) (fun m => l.any fun n => mayR (n, n) && decide (m = n)) N
      have e1 : cnt (fun m => mayR (n, n) && decide (m = n)) N ≤ 1 := by
        have a1 := cnt_le (f := fun m => mayR (n, n) && decide (m = n)) (g := fun m => decide (n ≤ m) && decide (m ≤ n)) (fun m hm => by
          rw [Bool.and_eq_true, decide_eq_true_iff] at hm
          rw [hm.2]; simp) N
        rw [cnt_stretch] at a1
        omega
      have e2 : cnt (fun m => (n :: l).any fun n => mayR (n, n) && decide (m = n)) N = cnt (fun m => (mayR (n, n) && decide (m = n)) || (l.any fun n => mayR (n, n) && decide (m = n))) N := cnt_congr (fun m => List.any_cons) N
      rw [e2, List.length_cons]
      omega
  have h5 := key l 281474976710656
  rw [← cnt_congr h2] at h5
  omega
end Go.Proofs.Ytaoojiacdkabbaa.Ru
