/- Lists of dots in order, each once: plain arithmetic. -/
import Derived.Test.YtbpmbjpepjndaaaVApp
namespace Go.Proofs.Ytbpmbjpepjndaaa.Dt
set_option linter.unusedVariables false

theorem ahead_trans {a b c : Dot} (h1 : aheadD a b = true) (h2 : aheadD b c = true) : aheadD a c = true := by
  rw [ahead_iff] at *; omega
theorem ahead_not {a b : Dot} (h1 : aheadD a b = true) : aheadD b a = false := by
  cases h : aheadD b a with
  | false => rfl
  | true => rw [ahead_iff] at *; omega
theorem ahead_irr (a : Dot) : aheadD a a = false := by
  cases h : aheadD a a with
  | false => rfl
  | true => rw [ahead_iff] at h; omega
theorem ahead_all {a b : Dot} (h1 : aheadD a b = false) (h2 : a ≠ b) : aheadD b a = true := by
  rw [ahead_iff]
  have h3 : ¬ (a.1 < b.1 ∨ (a.1 = b.1 ∧ a.2 < b.2)) := fun h' => by rw [(ahead_iff a b).2 h'] at h1; exact absurd h1 (by simp)
  have h4 : ¬ (a.1 = b.1 ∧ a.2 = b.2) := fun h' => h2 (Prod.ext h'.1 h'.2)
  omega
/-- each one ahead of all behind it. -/
def Ord (l : List Dot) : Prop := l.Pairwise (fun a b => aheadD a b = true)
theorem put_mem (l : List Dot) (d x : Dot) : x ∈ putD l d ↔ x = d ∨ x ∈ l := by
  unfold putD
  simp only [List.mem_append, List.mem_filter, List.mem_singleton]
  constructor
  · rintro ((h | h) | h)
    · exact .inr h.1
    · exact .inl h
    · exact .inr h.1
  · rintro (h | h)
    · exact .inl (.inr h)
    · by_cases h1 : aheadD x d = true
      · exact .inl (.inl ⟨h, h1⟩)
      · by_cases h2 : x = d
        · exact .inl (.inr h2)
        · exact .inr ⟨h, ahead_all (by simpa using h1) h2⟩
theorem put_ord {l : List Dot} (d : Dot) (h : Ord l) : Ord (putD l d) := by
  unfold putD Ord
  rw [List.pairwise_append, List.pairwise_append]
  refine ⟨⟨h.filter _, List.pairwise_singleton _ _, ?_⟩, h.filter _, ?_⟩
  · intro a ha b hb
    rw [List.mem_singleton.1 hb]
    exact (List.mem_filter.1 ha).2
  · intro a ha b hb
    have hb2 := (List.mem_filter.1 hb).2
    rcases List.mem_append.1 ha with ha | ha
    · exact ahead_trans (List.mem_filter.1 ha).2 hb2
    · rw [List.mem_singleton.1 ha]; exact hb2
/-- two lists in order with the same dots are the same. -/
theorem ord_uniq {l m : List Dot} (hl : Ord l) (hm : Ord m) (h : ∀ x, x ∈ l ↔ x ∈ m) : l = m := by
  induction l generalizing m with
  | nil =>
    cases m with
    | nil => rfl
    | cons b m => exact absurd ((h b).2 (List.mem_cons_self ..)) (by simp)
  | cons a l ih =>
    cases m with
    | nil => exact absurd ((h a).1 (List.mem_cons_self ..)) (by simp)
    | cons b m =>
      obtain ⟨hl1, hl2⟩ := List.pairwise_cons.1 hl
      obtain ⟨hm1, hm2⟩ := List.pairwise_cons.1 hm
      have hab : a = b := by
        rcases List.mem_cons.1 ((h a).1 (List.mem_cons_self ..)) with h1 | h1
        · exact h1
        · rcases List.mem_cons.1 ((h b).2 (List.mem_cons_self ..)) with h2 | h2
          · exact h2.symm
          · have h3 := hm1 a h1
            have h4 := hl1 b h2
            rw [ahead_not h3] at h4
            exact absurd h4 (by simp)
      subst hab
      congr 1
      refine ih hl2 hm2 fun x => ?_
      constructor
      · intro hx
        rcases List.mem_cons.1 ((h x).1 (List.mem_cons_of_mem _ hx)) with h1 | h1
        · have h2 := hl1 x hx
          rw [h1, ahead_irr] at h2
          exact absurd h2 (by simp)
        · exact h1
      · intro hx
        rcases List.mem_cons.1 ((h x).2 (List.mem_cons_of_mem _ hx)) with h1 | h1
        · have h2 := hm1 x hx
          rw [h1, ahead_irr] at h2
          exact absurd h2 (by simp)
        · exact h1
end Go.Proofs.Ytbpmbjpepjndaaa.Dt
