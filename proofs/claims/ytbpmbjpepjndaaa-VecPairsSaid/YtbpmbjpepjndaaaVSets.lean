/- What the document's devs of layer vec comes to: plain arithmetic. -/
import Derived.Test.YtbpmbjpepjndaaaVDevs
namespace Go.Proofs.Ytbpmbjpepjndaaa.Dt
open Go.ChangeShapes Go.WideShapes Go.ChangeAt Go.RowKit
set_option linter.unusedVariables false

/-- of which devices two vectors tell: nought or one. -/
def anyV (a b : List Dot) (d : Nat) : Nat := min 1 (max (ofV a d) (ofV b d))
theorem tells_any {a b : List Dot} (ha : Fit a) (hb : Fit b) : Tells (anyV a b) := by
  obtain ⟨h1, h2, h3⟩ := tells_join ha hb
  refine ⟨?_, fun d hd => ?_, fun d => ?_⟩
  · simp only at h1; unfold anyV; rw [h1]; rfl
  · have := h2 d hd; simp only at this; unfold anyV; rw [this]; rfl
  · unfold anyV; omega
theorem rise_up {l : List Dot} (h : l.Pairwise (fun a b => a.1 < b.1)) : Ord l := h.imp (fun {a b} h => (ahead_iff a b).2 (.inl h))
theorem devs_from (l o : List Dot) (ho : Ord o) : Ord (l.foldl stepE o) ∧ ∀ x : Dot, x ∈ l.foldl stepE o ↔ x ∈ o ∨ (x.2 = 1 ∧ ∃ y ∈ l, mayD y = true ∧ y.1 = x.1) := by
  induction l generalizing o with
  | nil => exact ⟨ho, fun x => by simp⟩
  | cons d l ih =>
    rw [List.foldl_cons]
    by_cases hm : mayD d = true
    · rw [show stepE o d = putD o (d.1, 1) from if_pos hm]
      obtain ⟨h1, h2⟩ := ih (putD o (d.1, 1)) (put_ord _ ho)
      refine ⟨h1, fun x => ?_⟩
      rw [h2, put_mem]
      constructor
      · rintro ((rfl | h) | ⟨h, y, hy, h3⟩)
        · exact .inr ⟨rfl, d, List.mem_cons_self .., hm, rfl⟩
        · exact .inl h
        · exact .inr ⟨h, y, List.mem_cons_of_mem _ hy, h3⟩
      · rintro (h | ⟨h, y, hy, h3, h4⟩)
        · exact .inl (.inr h)
        · rcases List.mem_cons.1 hy with rfl | hy
          · exact .inl (.inl (Prod.ext h4.symm h))
          · exact .inr ⟨h, y, hy, h3, h4⟩
    · rw [show stepE o d = o from if_neg hm]
      obtain ⟨h1, h2⟩ := ih o ho
      refine ⟨h1, fun x => ?_⟩
      rw [h2]
      constructor
      · rintro (h | ⟨h, y, hy, h3⟩)
        · exact .inl h
        · exact .inr ⟨h, y, List.mem_cons_of_mem _ hy, h3⟩
      · rintro (h | ⟨h, y, hy, h3, h4⟩)
        · exact .inl h
        · rcases List.mem_cons.1 hy with rfl | hy
          · exact absurd h3 hm
          · exact .inr ⟨h, y, hy, h3, h4⟩
theorem told_iff (l : List Dot) (d : Nat) : 0 < ofV l d ↔ ∃ y ∈ l, mayD y = true ∧ y.1 = d := by
  constructor
  · intro h
    obtain ⟨h1, h2⟩ := of_in l d h
    exact ⟨_, h1, h2, rfl⟩
  · rintro ⟨y, hy, hm, rfl⟩
    have h1 := of_most l y hy hm
    have h2 := (may_iff y).1 hm
    omega
theorem devs_eq {a b : List Dot} (ha : Fit a) (hb : Fit b) : devsD a b = listV (anyV a b) := by
  obtain ⟨h1, h2⟩ := devs_from (a ++ b) [] List.Pairwise.nil
  refine ord_uniq h1 (rise_up (list_rise _)) fun x => ?_
  refine (h2 x).trans ?_
  rw [list_mem (tells_any ha hb), ← told_iff, of_append]
  unfold anyV
  simp only [List.not_mem_nil, false_or]
  omega
theorem pick_list {h f : Nat → Nat} (hf : ∀ d, 0 < f d → 0 < h d) : (listV h).filterMap (fun x => oneV f x.1) = listV f := by
  unfold listV
  rw [List.filterMap_filterMap]
  congr 1
  funext d
  unfold oneV
  by_cases h1 : 0 < h d
  · rw [if_pos h1]; rfl
  · rw [if_neg h1, if_neg (fun h2 => h1 (hf d h2))]; rfl
theorem all_list {h : Nat → Nat} {p : Nat → Bool} (hp : ∀ d, p d = false → 0 < h d) : (listV h).all (fun x => p x.1) = (List.range topV).all p := by
  unfold listV
  generalize List.range topV = l
  induction l with
  | nil => rfl
  | cons d l ih =>
    rw [List.filterMap_cons, List.all_cons, ← ih]
    unfold oneV
    by_cases h1 : 0 < h d
    · rw [if_pos h1]; rfl
    · rw [if_neg h1]
      cases h2 : p d with
      | true => rfl
      | false => exact absurd (hp d h2) h1
theorem sum_list {h f : Nat → Nat} (hf : ∀ d, 0 < f d → 0 < h d) : ((listV h).map (fun x => f x.1)).sum = ((List.range topV).map f).sum := by
  unfold listV
  generalize List.range topV = l
  induction l with
  | nil => rfl
  | cons d l ih =>
    rw [List.filterMap_cons, List.map_cons, List.sum_cons, ← ih]
    unfold oneV
    by_cases h1 : 0 < h d
    · rw [if_pos h1]; rfl
    · rw [if_neg h1]
      have : f d = 0 := by
        rcases Nat.eq_zero_or_pos (f d) with h2 | h2
        · exact h2
        · exact absurd (hf d h2) h1
      rw [this, Nat.zero_add]
/-- the greater one of each, or the lesser one. -/
def oneOf (g : Bool) (x y : Nat) : Nat := if g = true then max x y else min x y
def bothV (g : Bool) (a b : List Dot) : List Dot := listV (fun d => oneOf g (ofV a d) (ofV b d))
theorem both_join (a b : List Dot) : bothV true a b = joinV a b := rfl
theorem both_meet (a b : List Dot) : bothV false a b = meetV a b := rfl
theorem both_norm (a : List Dot) : bothV true a [] = normV a := by
  unfold bothV normV oneOf
  congr 1
  funext d
  rw [if_pos rfl, of_nil]
  exact Nat.max_zero _
theorem both_some {g : Bool} {a b : List Dot} (d : Nat) (h : 0 < oneOf g (ofV a d) (ofV b d)) : 0 < anyV a b d := by
  unfold oneOf at h
  unfold anyV
  split at h <;> omega
theorem both_fit {g : Bool} {a b : List Dot} (ha : Fit a) (hb : Fit b) : Fit (bothV g a b) := by
  cases g with
  | true => exact fit_join ha hb
  | false => exact fit_meet ha hb
end Go.Proofs.Ytbpmbjpepjndaaa.Dt
