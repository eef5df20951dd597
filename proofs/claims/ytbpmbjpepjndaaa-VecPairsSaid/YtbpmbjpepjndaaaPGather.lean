/- A range over a map of devices: what has been gathered, whichever order its entries come in. Plain arithmetic. -/
import Derived.Test.YtbpmbjpepjndaaaPMap
import Derived.Test.YtbpmbjpepjndaaaVSets
namespace Go.Proofs.Ytbpmbjpepjndaaa.Dt
open Go.ChangeShapes Go.WideShapes Go.ChangeAt Go.RowKit Go.Maps
set_option linter.unusedVariables false

/-- the dots gathered are those of the map that are no longer to come, each once. -/
structure Gather (f : Nat → Nat) (left : Lit → Bool) (m : List Dot) : Prop where
  of_ : ∀ x ∈ m, x.1 < 65536 ∧ 0 < f x.1 ∧ x.2 = f x.1 ∧ left (keyL x.1) = false
  all_ : ∀ d, 0 < f d → left (keyL d) = false → (d, f d) ∈ m
  once : m.Pairwise (fun a b => a.1 ≠ b.1)
theorem gather_start {D : DataW Unit} {f : Nat → Nat} (h : Holds D f) : Gather f (Maps.has D) [] :=
  ⟨fun x hx => (by cases hx), fun d hd hl => (by have := (h.some_ d hd).2; rw [hl] at this; cases this), List.Pairwise.nil⟩
/-- the entry that comes: its device, and what the map says of it. -/
theorem entry_is {D : DataW Unit} {f : Nat → Nat} (h : Holds D f) {x c : Int} (hx : (Lit.int .u16 x).wf = true) (hat : ∀ zd, D.atKey (.int .u16 x) zd = .lit (.int .u64 c)) : ∃ d : Nat, x = (d : Int) ∧ d < 65536 ∧ 0 < f d ∧ c = ((f d : Nat) : Int) := by
  obtain ⟨d, rfl, hd⟩ := un16 hx
  obtain ⟨e, he, hk, hf⟩ := h.key _ (Maps.has_true_of_atKey hat)
  have hde : d = e := by
    injection hk with _ hk
    omega
  subst hde
  have h2 := h.at_ d hd
  rw [show D.atKey (keyL d) (numL 0) = .lit (.int .u64 c) from hat _] at h2
  injection h2 with h2
  injection h2 with _ h2
  exact ⟨d, rfl, hd, hf, h2⟩
theorem struck {left : Lit → Bool} {d e : Nat} : (left (keyL e) && !(keyL e).sameKey (keyL d)) = false ↔ left (keyL e) = false ∨ e = d := by
  rw [same_key]
  cases left (keyL e) <;> simp
theorem Gather.step {f : Nat → Nat} {left : Lit → Bool} {m : List Dot} (h : Gather f left m) {d : Nat} (hd : d < 65536) (hf : 0 < f d) (hl : left (keyL d) = true) : Gather f (fun z => left z && !z.sameKey (keyL d)) (m ++ [(d, f d)]) := by
  refine ⟨fun x hx => ?_, fun e he hle => ?_, ?_⟩
  · rcases List.mem_append.1 hx with hx | hx
    · obtain ⟨h1, h2, h3, h4⟩ := h.of_ x hx
      exact ⟨h1, h2, h3, struck.2 (.inl h4)⟩
    · obtain rfl := List.mem_singleton.1 hx
      exact ⟨hd, hf, rfl, struck.2 (.inr rfl)⟩
  · rcases struck.1 hle with h1 | h1
    · exact List.mem_append_left _ (h.all_ e he h1)
    · subst h1
      exact List.mem_append_right _ (List.mem_singleton.2 rfl)
  · rw [List.pairwise_append]
    refine ⟨h.once, List.pairwise_singleton _ _, fun a ha b hb => ?_⟩
    obtain rfl := List.mem_singleton.1 hb
    intro e
    have := (h.of_ a ha).2.2.2
    rw [e, hl] at this
    cases this
theorem Gather.fit {f : Nat → Nat} {left : Lit → Bool} {m : List Dot} (h : Gather f left m) (hf : Tells f) : Fit m := fun x hx => by
  obtain ⟨h1, h2, h3, _⟩ := h.of_ x hx
  have := hf.2.2 x.1
  exact ⟨h1, by omega⟩
/-- put in order, what was gathered is the vector that tells f. -/
theorem gather_end {f : Nat → Nat} {left : Lit → Bool} {m s : List Dot} (h : Gather f left m) (hf : Tells f) (hl : ∀ kl, left kl = false) (hs : Ord s) (hp : ∀ x, x ∈ s ↔ x ∈ m) : s = listV f := by
  refine ord_uniq hs (rise_up (list_rise f)) fun x => ?_
  rw [hp, list_mem hf]
  constructor
  · intro hx
    obtain ⟨_, h2, h3, _⟩ := h.of_ x hx
    exact ⟨h2, h3⟩
  · rintro ⟨h1, h2⟩
    have := h.all_ x.1 h1 (hl _)
    rwa [← h2] at this
/-- a sum over what is no longer to come: f's parts of it. -/
def partV (left : Lit → Bool) (g : Nat → Nat) : Nat := ((List.range topV).map (fun d => if left (keyL d) = true then 0 else g d)).sum
theorem part_sum (l : List Nat) (left : Lit → Bool) (g : Nat → Nat) (d : Nat) (hl : left (keyL d) = true) (hn : l.Nodup) :
    (l.map (fun e => if (left (keyL e) && !(keyL e).sameKey (keyL d)) = true then 0 else g e)).sum = (l.map (fun e => if left (keyL e) = true then 0 else g e)).sum + (if d ∈ l then g d else 0) := by
  induction l with
  | nil => simp
  | cons e l ih =>
    obtain ⟨h1, h2⟩ := List.nodup_cons.1 hn
    rw [List.map_cons, List.map_cons, List.sum_cons, List.sum_cons, ih h2, same_key]
    by_cases he : e = d
    · subst he
      simp [hl, h1, Nat.add_comm]
    · have he2 : ¬ d = e := fun h => he h.symm
      by_cases hd : d ∈ l <;> by_cases hle : left (keyL e) = true <;> simp [he, he2, hd, hle] <;> omega
theorem part_step {left : Lit → Bool} (g : Nat → Nat) {d : Nat} (hl : left (keyL d) = true) (hd : d < 65536) : partV (fun z => left z && !z.sameKey (keyL d)) g = partV left g + g d := by
  unfold partV
  rw [part_sum _ left g d hl List.nodup_range, if_pos (List.mem_range.2 (by rw [top_eq]; exact hd))]
theorem part_end {left : Lit → Bool} (g : Nat → Nat) (hl : ∀ kl, left kl = false) : partV left g = ((List.range topV).map g).sum := by
  unfold partV
  congr 1
  apply List.map_congr_left
  intro d _
  rw [hl]; simp
theorem part_start {D : DataW Unit} {f g : Nat → Nat} (h : Holds D f) (hg : ∀ d, f d = 0 → g d = 0) : partV (Maps.has D) g = 0 := by
  unfold partV
  rw [sum_zero]
  intro d hd
  by_cases hh : Maps.has D (keyL d) = true
  · rw [if_pos hh]
  · rw [if_neg hh]
    refine hg d ?_
    rcases Nat.eq_zero_or_pos (f d) with h0 | h0
    · exact h0
    · exact absurd (h.some_ d h0).2 hh
end Go.Proofs.Ytbpmbjpepjndaaa.Dt
