/- The contract of the document's Sort of layer dot. For every list of at most 2^42 dots. -/
import Derived.Test.YtbaiiidkffafmaaDPut
namespace Go.Proofs.Ytbaiiidkffafmaa.Dt
open Go.ChangeShapes Go.WideShapes Go.ChangeAt Go.RowKit
set_option linter.unusedVariables false

theorem sort_next {l : List Dot} {k : Nat} {x : Dot} (h : l[k]? = some x) : sortD (l.take (k + 1)) = putD (sortD (l.take k)) x := by
  unfold sortD
  rw [take_next h, List.foldl_append]; rfl
theorem sort_fit (l : List Dot) (h : Fit l) (k : Nat) : Fit (sortD (l.take k)) ∧ (sortD (l.take k)).length ≤ k := by
  induction k with
  | zero => exact ⟨fun r hr => (by cases hr), Nat.le_refl _⟩
  | succ k ih =>
    by_cases hk : k < l.length
    · have hg := List.getElem?_eq_getElem hk
      rw [sort_next hg]
      exact ⟨fit_put ih.1 (h _ (List.getElem_mem hk)), Nat.le_trans (put_length _ _) (by omega)⟩
    · have e : l.take (k + 1) = l.take k := by rw [List.take_of_length_le (by omega), List.take_of_length_le (by omega)]
      rw [e]
      exact ⟨ih.1, by omega⟩
/-! The document's list of a list: its dots, each once, in order. Plain arithmetic. -/
theorem ahead_trans {a b c : Dot} (h1 : aheadD a b = true) (h2 : aheadD b c = true) : aheadD a c = true := by
  rw [ahead_iff] at *; omega
theorem ahead_not {a b : Dot} (h1 : aheadD a b = true) : aheadD b a = false := by
  cases h : aheadD b a with
  | false => rfl
  | true => rw [ahead_iff] at *; omega
theorem ahead_irr (a : Dot) : aheadD a a = false := by
  cases h : aheadD a a with
  | false => rfl
  | true => rw [ahead_iff] at h; omega
theorem ahead_all {a b : Dot} (h1 : aheadD a b = false) (h2 : a ≠ b) : aheadD b a = true := by
  rw [ahead_iff]
  have h3 : ¬ (a.1 < b.1 ∨ (a.1 = b.1 ∧ a.2 < b.2)) := fun h' => by rw [(ahead_iff a b).2 h'] at h1; exact absurd h1 (by simp)
  have h4 : ¬ (a.1 = b.1 ∧ a.2 = b.2) := fun h' => h2 (Prod.ext h'.1 h'.2)
  omega
/-- each one ahead of all behind it. -/
def Ord (l : List Dot) : Prop := l.Pairwise (fun a b => aheadD a b = true)
theorem put_mem (l : List Dot) (d x : Dot) : x ∈ putD l d ↔ x = d ∨ x ∈ l := by
  unfold putD
  simp only [List.mem_append, List.mem_filter, List.mem_singleton]
  constructor
  · rintro ((h | h) | h)
    · exact .inr h.1
    · exact .inl h
    · exact .inr h.1
  · rintro (h | h)
    · exact .inl (.inr h)
    · by_cases h1 : aheadD x d = true
      · exact .inl (.inl ⟨h, h1⟩)
      · by_cases h2 : x = d
        · exact .inl (.inr h2)
        · exact .inr ⟨h, ahead_all (by simpa using h1) h2⟩
theorem put_ord {l : List Dot} (d : Dot) (h : Ord l) : Ord (putD l d) := by
  unfold putD Ord
  rw [List.pairwise_append, List.pairwise_append]
  refine ⟨⟨h.filter _, List.pairwise_singleton _ _, ?_⟩, h.filter _, ?_⟩
  · intro a ha b hb
    rw [List.mem_singleton.1 hb]
    exact (List.mem_filter.1 ha).2
  · intro a ha b hb
    have hb2 := (List.mem_filter.1 hb).2
    rcases List.mem_append.1 ha with ha | ha
    · exact ahead_trans (List.mem_filter.1 ha).2 hb2
    · rw [List.mem_singleton.1 ha]; exact hb2
theorem sort_from (l m : List Dot) (h : Ord m) : Ord (l.foldl putD m) ∧ ∀ x, x ∈ l.foldl putD m ↔ x ∈ m ∨ x ∈ l := by
  induction l generalizing m with
  | nil => exact ⟨h, fun x => by simp⟩
  | cons d l ih =>
    obtain ⟨h1, h2⟩ := ih (putD m d) (put_ord d h)
    refine ⟨h1, fun x => ?_⟩
    rw [List.foldl_cons, h2, put_mem, List.mem_cons]
    constructor
    · rintro ((h | h) | h)
      · exact .inr (.inl h)
      · exact .inl h
      · exact .inr (.inr h)
    · rintro (h | h | h)
      · exact .inl (.inr h)
      · exact .inl (.inl h)
      · exact .inr h
theorem sort_ord (l : List Dot) : Ord (sortD l) := (sort_from l [] List.Pairwise.nil).1
theorem sort_mem (l : List Dot) (x : Dot) : x ∈ sortD l ↔ x ∈ l := by rw [show sortD l = l.foldl putD [] from rfl, (sort_from l [] List.Pairwise.nil).2]; simp
/-- two lists in order with the same dots are the same. -/
theorem ord_uniq {l m : List Dot} (hl : Ord l) (hm : Ord m) (h : ∀ x, x ∈ l ↔ x ∈ m) : l = m := by
  induction l generalizing m with
  | nil =>
    cases m with
    | nil => rfl
    | cons b m => exact absurd ((h b).2 (List.mem_cons_self ..)) (by simp)
  | cons a l ih =>
    cases m with
    | nil => exact absurd ((h a).1 (List.mem_cons_self ..)) (by simp)
    | cons b m =>
      obtain ⟨hl1, hl2⟩ := List.pairwise_cons.1 hl
      obtain ⟨hm1, hm2⟩ := List.pairwise_cons.1 hm
      have hab : a = b := by
        rcases List.mem_cons.1 ((h a).1 (List.mem_cons_self ..)) with h1 | h1
        · exact h1
        · rcases List.mem_cons.1 ((h b).2 (List.mem_cons_self ..)) with h2 | h2
          · exact h2.symm
          · have h3 := hm1 a h1
            have h4 := hl1 b h2
            rw [ahead_not h3] at h4
            exact absurd h4 (by simp)
      subst hab
      congr 1
      refine ih hl2 hm2 fun x => ?_
      constructor
      · intro hx
        rcases List.mem_cons.1 ((h x).1 (List.mem_cons_of_mem _ hx)) with h1 | h1
        · have h2 := hl1 x hx
          rw [h1, ahead_irr] at h2
          exact absurd h2 (by simp)
        · exact h1
      · intro hx
        rcases List.mem_cons.1 ((h x).2 (List.mem_cons_of_mem _ hx)) with h1 | h1
        · have h2 := hm1 x hx
          rw [h1, ahead_irr] at h2
          exact absurd h2 (by simp)
        · exact h1
theorem sort_uniq {l m : List Dot} (hm : Ord m) (h : ∀ x, x ∈ m ↔ x ∈ l) : m = sortD l :=
  ord_uniq hm (sort_ord l) (fun x => by rw [h, sort_mem])
theorem rise_ord (l : List Dot) : riseB l = true ↔ Ord l := by
  induction l with
  | nil => simp [riseB, Ord]
  | cons a l ih =>
    cases l with
    | nil => simp [riseB, Ord]
    | cons b l =>
      rw [show riseB (a :: b :: l) = (aheadD a b && riseB (b :: l)) from rfl, Bool.and_eq_true, ih]
      unfold Ord
      rw [List.pairwise_cons (a := a)]
      constructor
      · rintro ⟨h1, h2⟩
        refine ⟨fun x hx => ?_, h2⟩
        rcases List.mem_cons.1 hx with rfl | hx
        · exact h1
        · exact ahead_trans h1 ((List.pairwise_cons.1 h2).1 x hx)
      · rintro ⟨h1, h2⟩
        exact ⟨h1 b (List.mem_cons_self ..), h2⟩
/-- a list in order is its own sorting. -/
theorem sort_same {l : List Dot} (h : Ord l) : sortD l = l := (sort_uniq h (fun x => Iff.rfl)).symm

/-! Numbers of dots. -/
def numD (d : Dot) : Nat := d.1 * 281474976710656 + d.2 % 281474976710656
theorem num_order {a b : Dot} (ha : mayD a = true) (hb : mayD b = true) : numD a < numD b ↔ aheadD a b = true := by
  rw [may_iff] at ha hb
  rw [ahead_iff]
  unfold numD
  omega
theorem num_one {a b : Dot} (ha : mayD a = true) (hb : mayD b = true) : numD a = numD b ↔ a = b := by
  rw [may_iff] at ha hb
  constructor
  · intro h
    unfold numD at h
    exact Prod.ext (by omega) (by omega)
  · rintro rfl; rfl
theorem unpack_num {d : Dot} (h : mayD d = true) (h1 : d.1 < 65536) : unpackD (numD d) = (d, true) := by
  have h2 := (may_iff d).1 h
  have e : splitD (numD d) = d := by unfold splitD numD; exact Prod.ext (by show _ / _ = _; omega) (by show _ % _ = _; omega)
  unfold unpackD
  rw [e, if_pos h]
end Go.Proofs.Ytbaiiidkffafmaa.Dt
