/- Words and contracts that the proofs of this seat stand on, part 6 of 18. -/
import Derived.Test.YtmebokpgiehgmaaMgE
import Derived.Test.YtmebokpgiehgmaaMgD
import Derived.Deep.RegionHeld3
import Derived.WalkSmall
import Derived.Deep.RegionLaw
import Derived.Test.YtmebokpgiehgmaaMgB
import Derived.Test.YtmebokpgiehgmaaMgC
import Derived.ShutString
import Derived.ChangeOld
import Derived.Deep.DeepHandedRow
import Derived.Deep.Matrix
import Derived.SizedLaws
import Derived.Deep.SlicePairs
import Derived.Lib.SmallJoins

/- Vectors as what they tell: plain arithmetic. What a vector tells of a device, the vector in order that tells a given thing, and the laws of joining and meeting. No program is named here. -/
namespace Go.Proofs.Ytmebokpgiehgmaa.Dt
set_option linter.unusedVariables false

/-- what a vector tells of a device: the greatest number of its dots that may be. -/
def stepV (d : Nat) (n : Nat) (x : Dot) : Nat := if x.1 = d ∧ mayD x = true ∧ n < x.2 then x.2 else n
def ofV (v : List Dot) (d : Nat) : Nat := v.foldl (stepV d) 0
theorem step_max (d n : Nat) (x : Dot) : stepV d n x = if x.1 = d ∧ mayD x = true then max n x.2 else n := by
  unfold stepV
  by_cases h1 : x.1 = d ∧ mayD x = true
  · by_cases h2 : n < x.2
    · rw [if_pos ⟨h1.1, h1.2, h2⟩, if_pos h1]; omega
    · rw [if_neg (fun h => h2 h.2.2), if_pos h1]; omega
  · rw [if_neg (fun h => h1 ⟨h.1, h.2.1⟩), if_neg h1]
theorem of_from (v : List Dot) (d n : Nat) : v.foldl (stepV d) n = max n (ofV v d) := by
  unfold ofV
  induction v generalizing n with
  | nil => simp
  | cons x v ih =>
    rw [List.foldl_cons, List.foldl_cons, ih, ih (stepV d 0 x), step_max, step_max]
    split <;> omega
theorem of_nil (d : Nat) : ofV [] d = 0 := rfl
theorem of_cons (x : Dot) (v : List Dot) (d : Nat) : ofV (x :: v) d = max (if x.1 = d ∧ mayD x = true then x.2 else 0) (ofV v d) := by
  rw [show ofV (x :: v) d = v.foldl (stepV d) (stepV d 0 x) from rfl, of_from, step_max]
  split <;> omega
theorem of_append (v m : List Dot) (d : Nat) : ofV (v ++ m) d = max (ofV v d) (ofV m d) := by
  rw [show ofV (v ++ m) d = (v ++ m).foldl (stepV d) 0 from rfl, List.foldl_append, of_from]; rfl
theorem of_one (x : Dot) (d : Nat) : ofV [x] d = if x.1 = d ∧ mayD x = true then x.2 else 0 := by rw [of_cons, of_nil]; omega
/-- what is told is a dot's number; of nothing nought is told. -/
theorem of_in (v : List Dot) (d : Nat) (h : 0 < ofV v d) : (d, ofV v d) ∈ v ∧ mayD (d, ofV v d) = true := by
  induction v with
  | nil => rw [of_nil] at h; omega
  | cons x v ih =>
    rw [of_cons] at h ⊢
    by_cases h1 : x.1 = d ∧ mayD x = true
    · rw [if_pos h1] at h ⊢
      rcases Nat.le_total x.2 (ofV v d) with h2 | h2
      · rw [Nat.max_eq_right h2] at h ⊢
        exact ⟨List.mem_cons_of_mem _ (ih h).1, (ih h).2⟩
      · rw [Nat.max_eq_left h2] at h ⊢
        have e : ((d, x.2) : Dot) = x := by rw [← h1.1]
        rw [e]
        exact ⟨List.mem_cons_self .., h1.2⟩
    · rw [if_neg h1] at h ⊢
      rw [Nat.zero_max] at h ⊢
      exact ⟨List.mem_cons_of_mem _ (ih h).1, (ih h).2⟩
theorem of_most (v : List Dot) (x : Dot) (hx : x ∈ v) (hm : mayD x = true) : x.2 ≤ ofV v x.1 := by
  induction v with
  | nil => cases hx
  | cons y v ih =>
    rw [of_cons]
    rcases List.mem_cons.1 hx with rfl | hx
    · rw [if_pos ⟨rfl, hm⟩]; omega
    · have := ih hx; omega
theorem of_lt (v : List Dot) (d : Nat) : ofV v d < 281474976710656 := by
  rcases Nat.eq_zero_or_pos (ofV v d) with h | h
  · omega
  · exact ((may_iff _).1 (of_in v d h).2).2.2
theorem of_zero (v : List Dot) : ofV v 0 = 0 := by
  rcases Nat.eq_zero_or_pos (ofV v 0) with h | h
  · exact h
  · have := ((may_iff _).1 (of_in v 0 h).2).1
    exact absurd this (by simp)
theorem of_far (v : List Dot) (hv : Fit v) (d : Nat) (hd : 65536 ≤ d) : ofV v d = 0 := by
  rcases Nat.eq_zero_or_pos (ofV v d) with h | h
  · exact h
  · have := (hv _ (of_in v d h).1).1
    exact absurd this (by simp only; omega)

/-- what may be told: nothing of device 0, nor of devices beyond; numbers that may be. -/
def Tells (f : Nat → Nat) : Prop := f 0 = 0 ∧ (∀ d, 65536 ≤ d → f d = 0) ∧ ∀ d, f d < 281474976710656
theorem tells_of {v : List Dot} (hv : Fit v) : Tells (ofV v) := ⟨of_zero v, of_far v hv, of_lt v⟩
theorem tells_max {f g : Nat → Nat} (hf : Tells f) (hg : Tells g) : Tells (fun d => max (f d) (g d)) :=
  ⟨by show max (f 0) (g 0) = 0; rw [hf.1, hg.1]; rfl, fun d hd => by show max (f d) (g d) = 0; rw [hf.2.1 d hd, hg.2.1 d hd]; rfl, fun d => by have := hf.2.2 d; have := hg.2.2 d; show max (f d) (g d) < _; omega⟩
theorem tells_min {f g : Nat → Nat} (hf : Tells f) (hg : Tells g) : Tells (fun d => min (f d) (g d)) :=
  ⟨by show min (f 0) (g 0) = 0; rw [hf.1, hg.1]; rfl, fun d hd => by show min (f d) (g d) = 0; rw [hf.2.1 d hd, hg.2.1 d hd]; rfl, fun d => by have := hf.2.2 d; have := hg.2.2 d; show min (f d) (g d) < _; omega⟩

/-- how many devices there are. -/
@[irreducible] def topV : Nat := 65536
theorem top_eq : topV = 65536 := by unfold topV; rfl
/-- one dot of a device, if it tells something of it. -/
def oneV (f : Nat → Nat) (d : Nat) : Option Dot := if 0 < f d then some (d, f d) else none
theorem one_some {f : Nat → Nat} {d : Nat} {x : Dot} (h : oneV f d = some x) : x = (d, f d) ∧ 0 < f d := by
  unfold oneV at h
  split at h
  · exact ⟨(Option.some.inj h).symm, by assumption⟩
  · cases h
/-- the vector in order that tells this. -/
def listV (f : Nat → Nat) : List Dot := (List.range topV).filterMap (oneV f)
theorem list_mem {f : Nat → Nat} (hf : Tells f) (x : Dot) : x ∈ listV f ↔ 0 < f x.1 ∧ x.2 = f x.1 := by
  unfold listV
  rw [List.mem_filterMap]
  constructor
  · rintro ⟨d, _, h⟩
    obtain ⟨rfl, h2⟩ := one_some h
    exact ⟨h2, rfl⟩
  · rintro ⟨h1, h2⟩
    refine ⟨x.1, ?_, ?_⟩
    · rw [List.mem_range, top_eq]
      rcases Nat.lt_or_ge x.1 65536 with h | h
      · exact h
      · rw [hf.2.1 _ h] at h1; omega
    · unfold oneV
      rw [if_pos h1, ← h2]
theorem range_up (n : Nat) : (List.range n).Pairwise (fun a b => a < b) := List.pairwise_lt_range
theorem list_up (f : Nat → Nat) (l : List Nat) (h : l.Pairwise (fun a b => a < b)) : (l.filterMap (oneV f)).Pairwise (fun a b => a.1 < b.1) := by
  induction l with
  | nil => exact List.Pairwise.nil
  | cons d l ih =>
    obtain ⟨h1, h2⟩ := List.pairwise_cons.1 h
    rw [List.filterMap_cons]
    split
    · exact ih h2
    · rename_i x hx
      rw [List.pairwise_cons]
      refine ⟨fun y hy => ?_, ih h2⟩
      obtain ⟨e, he, h3⟩ := List.mem_filterMap.1 hy
      obtain ⟨rfl, _⟩ := one_some hx
      obtain ⟨rfl, _⟩ := one_some h3
      exact h1 e he
theorem list_rise (f : Nat → Nat) : (listV f).Pairwise (fun a b => a.1 < b.1) := list_up f _ (range_up _)
theorem list_may {f : Nat → Nat} (hf : Tells f) {x : Dot} (hx : x ∈ listV f) : mayD x = true := by
  obtain ⟨h1, h2⟩ := (list_mem hf x).1 hx
  rw [may_iff]
  refine ⟨?_, by omega, by rw [h2]; exact hf.2.2 _⟩
  rcases Nat.eq_zero_or_pos x.1 with h | h
  · rw [h, hf.1] at h1; omega
  · exact h
theorem list_fit {f : Nat → Nat} (hf : Tells f) : Fit (listV f) := by
  intro r hr
  obtain ⟨h1, h2⟩ := (list_mem hf r).1 hr
  have h3 := hf.2.2 r.1
  refine ⟨?_, by omega⟩
  rcases Nat.lt_or_ge r.1 65536 with h | h
  · exact h
  · rw [hf.2.1 _ h] at h1; omega
theorem list_length (f : Nat → Nat) : (listV f).length ≤ 65536 := by
  have := List.length_filterMap_le (oneV f) (List.range topV)
  rw [List.length_range] at this
  exact Nat.le_trans this (Nat.le_of_eq top_eq)
/-- the vector that tells f tells f. -/
theorem of_list {f : Nat → Nat} (hf : Tells f) (d : Nat) : ofV (listV f) d = f d := by
  rcases Nat.eq_zero_or_pos (ofV (listV f) d) with h | h
  · rcases Nat.eq_zero_or_pos (f d) with h1 | h1
    · omega
    · have h2 : (d, f d) ∈ listV f := (list_mem hf _).2 ⟨h1, rfl⟩
      have h3 := of_most _ _ h2 (list_may hf h2)
      simp only at h3
      omega
  · exact ((list_mem hf _).1 (of_in _ _ h).1).2
theorem of_list' {f : Nat → Nat} (hf : Tells f) : ofV (listV f) = f := funext (of_list hf)

/-! The document's words. -/
def normV (v : List Dot) : List Dot := listV (ofV v)
def joinV (a b : List Dot) : List Dot := listV (fun d => max (ofV a d) (ofV b d))
def meetV (a b : List Dot) : List Dot := listV (fun d => min (ofV a d) (ofV b d))
def putV (v : List Dot) (x : Dot) : List Dot := joinV v [x]
def hasV (v : List Dot) (x : Dot) : Bool := mayD x && decide (x.2 ≤ ofV v x.1)
/-- does the first one tell of no device more? -/
def mostV (a b : List Dot) : Bool := (List.range topV).all (fun d => decide (ofV a d ≤ ofV b d))
def orderV (a b : List Dot) : Int := if mostV a b = true ∧ mostV b a = true then 0 else if mostV a b = true then -1 else if mostV b a = true then 1 else 2
def lackV (a b : List Dot) : Nat := ((List.range topV).map (fun d => ofV b d - ofV a d)).sum
theorem most_iff {a b : List Dot} (ha : Fit a) : mostV a b = true ↔ ∀ d, ofV a d ≤ ofV b d := by
  unfold mostV
  rw [List.all_eq_true]
  constructor
  · intro h d
    rcases Nat.lt_or_ge d 65536 with h1 | h1
    · exact of_decide_eq_true (h d (List.mem_range.2 (by rw [top_eq]; exact h1)))
    · rw [of_far a ha d h1]; exact Nat.zero_le _
  · exact fun h d _ => decide_eq_true (h d)
theorem tells_join {a b : List Dot} (ha : Fit a) (hb : Fit b) : Tells (fun d => max (ofV a d) (ofV b d)) := tells_max (tells_of ha) (tells_of hb)
theorem tells_meet {a b : List Dot} (ha : Fit a) (hb : Fit b) : Tells (fun d => min (ofV a d) (ofV b d)) := tells_min (tells_of ha) (tells_of hb)
theorem of_norm {v : List Dot} (hv : Fit v) : ofV (normV v) = ofV v := of_list' (tells_of hv)
theorem of_join {a b : List Dot} (ha : Fit a) (hb : Fit b) : ofV (joinV a b) = fun d => max (ofV a d) (ofV b d) := of_list' (tells_join ha hb)
theorem of_meet {a b : List Dot} (ha : Fit a) (hb : Fit b) : ofV (meetV a b) = fun d => min (ofV a d) (ofV b d) := of_list' (tells_meet ha hb)
theorem fit_norm {v : List Dot} (hv : Fit v) : Fit (normV v) := list_fit (tells_of hv)
theorem fit_join {a b : List Dot} (ha : Fit a) (hb : Fit b) : Fit (joinV a b) := list_fit (tells_join ha hb)
theorem fit_meet {a b : List Dot} (ha : Fit a) (hb : Fit b) : Fit (meetV a b) := list_fit (tells_meet ha hb)
theorem fit_one {x : Dot} (h1 : x.1 < 65536) (h2 : x.2 < 18446744073709551616) : Fit [x] := fun r hr => by rw [List.mem_singleton.1 hr]; exact ⟨h1, h2⟩
theorem of_put {v : List Dot} {x : Dot} (hv : Fit v) (hx : Fit [x]) : ofV (putV v x) = fun d => max (ofV v d) (if x.1 = d ∧ mayD x = true then x.2 else 0) := by
  unfold putV
  rw [of_join hv hx]
  funext d
  rw [of_one]
/-- of a dot that may not be nothing is told. -/
theorem put_bad {v : List Dot} {x : Dot} (h : mayD x = false) : putV v x = normV v := by
  unfold putV joinV normV
  congr 1
  funext d
  rw [of_one, if_neg (fun h' => by rw [h] at h'; exact absurd h'.2 (by simp))]
  exact Nat.max_zero _

/-! The laws. -/
theorem has_join {a b : List Dot} (ha : Fit a) (hb : Fit b) (x : Dot) : hasV (joinV a b) x = (hasV a x || hasV b x) := by
  unfold hasV
  rw [of_join ha hb]
  cases mayD x with
  | false => rfl
  | true =>
    simp only [Bool.true_and]
    by_cases h1 : x.2 ≤ ofV a x.1 <;> by_cases h2 : x.2 ≤ ofV b x.1 <;> simp [h1, h2] <;> omega
theorem has_meet {a b : List Dot} (ha : Fit a) (hb : Fit b) (x : Dot) : hasV (meetV a b) x = (hasV a x && hasV b x) := by
  unfold hasV
  rw [of_meet ha hb]
  cases mayD x with
  | false => rfl
  | true =>
    simp only [Bool.true_and]
    by_cases h1 : x.2 ≤ ofV a x.1 <;> by_cases h2 : x.2 ≤ ofV b x.1 <;> simp [h1, h2] <;> omega
theorem sum_zero (l : List Nat) (f : Nat → Nat) : (l.map f).sum = 0 ↔ ∀ d ∈ l, f d = 0 := by
  induction l with
  | nil => simp
  | cons d l ih => rw [List.map_cons, List.sum_cons, Nat.add_eq_zero_iff, ih]; simp
theorem sum_most (l : List Nat) (f : Nat → Nat) (m : Nat) (h : ∀ d, f d ≤ m) : (l.map f).sum ≤ l.length * m := by
  induction l with
  | nil => simp
  | cons d l ih =>
    have := h d
    rw [List.map_cons, List.sum_cons, List.length_cons, Nat.add_mul]
    omega
theorem lack_zero {a b : List Dot} (hb : Fit b) : lackV a b = 0 ↔ mostV b a = true := by
  unfold lackV
  rw [sum_zero, most_iff hb]
  constructor
  · intro h d
    rcases Nat.lt_or_ge d 65536 with h1 | h1
    · have := h d (List.mem_range.2 (by rw [top_eq]; exact h1)); omega
    · rw [of_far b hb d h1]; exact Nat.zero_le _
  · intro h d _
    have := h d
    omega
theorem lack_lt (a b : List Dot) : lackV a b < 18446744073709551616 := by
  unfold lackV
  have h0 : (List.range topV).map (fun d => ofV b d - ofV a d) = (ofV b 0 - ofV a 0) :: (List.range 65535).map (fun d => ofV b (d + 1) - ofV a (d + 1)) := by
    rw [show topV = 65535 + 1 from top_eq, List.range_succ_eq_map, List.map_cons, List.map_map]; rfl
  rw [h0, List.sum_cons, of_zero, of_zero]
  have := sum_most (List.range 65535) (fun d => ofV b (d + 1) - ofV a (d + 1)) 281474976710655 (fun d => by have := of_lt b (d + 1); omega)
  rw [List.length_range] at this
  omega
theorem order_low {a b : List Dot} : (orderV a b = 0 ∨ orderV a b = -1) ↔ mostV a b = true := by
  unfold orderV
  cases mostV a b <;> cases mostV b a <;> simp
theorem order_high {a b : List Dot} : (orderV a b = 0 ∨ orderV a b = 1) ↔ mostV b a = true := by
  unfold orderV
  cases mostV a b <;> cases mostV b a <;> simp
theorem most_put {a : List Dot} {x : Dot} (ha : Fit a) (hx : Fit [x]) : mostV a (putV a x) = true := by
  rw [most_iff ha, of_put ha hx]
  intro d
  exact Nat.le_max_left _ _
theorem has_put {a : List Dot} {x : Dot} (ha : Fit a) (hx : Fit [x]) : hasV (putV a x) x = mayD x := by
  unfold hasV
  rw [of_put ha hx]
  cases h : mayD x with
  | false => rfl
  | true => simp; omega
theorem join_comm (a b : List Dot) : joinV a b = joinV b a := by
  unfold joinV
  congr 1
  funext d
  exact Nat.max_comm _ _
theorem join_assoc {a b c : List Dot} (ha : Fit a) (hb : Fit b) (hc : Fit c) : joinV (joinV a b) c = joinV a (joinV b c) := by
  show listV (fun d => max (ofV (joinV a b) d) (ofV c d)) = listV (fun d => max (ofV a d) (ofV (joinV b c) d))
  rw [of_join ha hb, of_join hb hc]
  congr 1
  funext d
  exact Nat.max_assoc _ _ _
theorem meet_assoc {a b c : List Dot} (ha : Fit a) (hb : Fit b) (hc : Fit c) : meetV (meetV a b) c = meetV a (meetV b c) := by
  show listV (fun d => min (ofV (meetV a b) d) (ofV c d)) = listV (fun d => min (ofV a d) (ofV (meetV b c) d))
  rw [of_meet ha hb, of_meet hb hc]
  congr 1
  funext d
  exact Nat.min_assoc _ _ _
theorem join_self (a : List Dot) : joinV a a = normV a := by
  unfold joinV normV
  congr 1
  funext d
  exact Nat.max_self _
theorem meet_join {a b : List Dot} (ha : Fit a) (hb : Fit b) : meetV a (joinV a b) = normV a := by
  rw [meetV, of_join ha hb, normV]
  congr 1
  funext d
  simp only
  omega
theorem join_meet {a b : List Dot} (ha : Fit a) (hb : Fit b) : joinV a (meetV a b) = normV a := by
  rw [joinV, of_meet ha hb, normV]
  congr 1
  funext d
  simp only
  omega
theorem norm_norm {a : List Dot} (ha : Fit a) : normV (normV a) = normV a := by
  rw [normV, of_norm ha]; rfl
theorem order_norm {a : List Dot} (ha : Fit a) : orderV a (normV a) = 0 := by
  have h1 : mostV a (normV a) = true := (most_iff ha).2 (fun d => by rw [of_norm ha]; exact Nat.le_refl _)
  have h2 : mostV (normV a) a = true := (most_iff (fit_norm ha)).2 (fun d => by rw [of_norm ha]; exact Nat.le_refl _)
  unfold orderV
  rw [if_pos ⟨h1, h2⟩]
/-- in order: the vector that tells what it tells. -/
def goodV (v : List Dot) : Bool := decide (v = normV v)
theorem good_norm {a : List Dot} (ha : Fit a) : goodV (normV a) = true := decide_eq_true (norm_norm ha).symm
/-- a list that rises by device, of dots that may be, is in order. -/
theorem good_rise {v : List Dot} (hv : Fit v) : goodV v = true ↔ v.Pairwise (fun a b => a.1 < b.1) ∧ ∀ x ∈ v, mayD x = true := by
  unfold goodV
  rw [decide_eq_true_iff]
  constructor
  · intro h
    rw [h]
    exact ⟨list_rise _, fun x hx => list_may (tells_of hv) hx⟩
  · rintro ⟨h1, h2⟩
    have key : ∀ (l m : List Dot), l.Pairwise (fun a b => a.1 < b.1) → m.Pairwise (fun a b => a.1 < b.1) → (∀ x, x ∈ l ↔ x ∈ m) → l = m := by
      intro l
      induction l with
      | nil =>
        intro m _ _ h
        cases m with
        | nil => rfl
        | cons b m => exact absurd ((h b).2 (List.mem_cons_self ..)) (by simp)
      | cons a l ih =>
        intro m hl hm h
        cases m with
        | nil => exact absurd ((h a).1 (List.mem_cons_self ..)) (by simp)
        | cons b m =>
          obtain ⟨hl1, hl2⟩ := List.pairwise_cons.1 hl
          obtain ⟨hm1, hm2⟩ := List.pairwise_cons.1 hm
          have hab : a = b := by
            rcases List.mem_cons.1 ((h a).1 (List.mem_cons_self ..)) with h1 | h1
            · exact h1
            · rcases List.mem_cons.1 ((h b).2 (List.mem_cons_self ..)) with h2 | h2
              · exact h2.symm
              · have h3 := hm1 a h1
                have h4 := hl1 b h2
                omega
          subst hab
          congr 1
          refine ih m hl2 hm2 fun x => ⟨fun hx => ?_, fun hx => ?_⟩
          · rcases List.mem_cons.1 ((h x).1 (List.mem_cons_of_mem _ hx)) with h1 | h1
            · have := hl1 x hx; rw [h1] at this; omega
            · exact h1
          · rcases List.mem_cons.1 ((h x).2 (List.mem_cons_of_mem _ hx)) with h1 | h1
            · have := hm1 x hx; rw [h1] at this; omega
            · exact h1
    refine key v (normV v) h1 (list_rise _) fun x => ?_
    unfold normV
    rw [list_mem (tells_of hv)]
    constructor
    · intro hx
      have hm := h2 x hx
      have h3 := of_most v x hx hm
      have h4 := (may_iff x).1 hm
      refine ⟨by omega, ?_⟩
      have h5 := (of_in v x.1 (by omega)).1
      -- one dot of a device
      have : (x.1, ofV v x.1) = x := by
        have hp : ∀ (l : List Dot), l.Pairwise (fun a b => a.1 < b.1) → ∀ a ∈ l, ∀ b ∈ l, a.1 = b.1 → a = b := by
          intro l hl a ha b hb hab
          induction l with
          | nil => cases ha
          | cons c l ih =>
            obtain ⟨g1, g2⟩ := List.pairwise_cons.1 hl
            rcases List.mem_cons.1 ha with e1 | ha1 <;> rcases List.mem_cons.1 hb with e2 | hb1
            · rw [e1, e2]
            · have := g1 b hb1; rw [← e1] at this; omega
            · have := g1 a ha1; rw [← e2] at this; omega
            · exact ih g2 ha1 hb1
        exact hp v h1 _ h5 x hx rfl
      have h6 := congrArg Prod.snd this
      exact h6.symm
    · rintro ⟨g1, g2⟩
      have h5 := (of_in v x.1 g1).1
      rw [← g2] at h5
      exact h5
end Go.Proofs.Ytmebokpgiehgmaa.Dt

/- Contexts as what they tell: of each device runs in order. Plain arithmetic; no program is named here. -/
namespace Go.Proofs.Ytmebokpgiehgmaa.Cx
set_option linter.unusedVariables false

abbrev Run := Ru.Run
abbrev Dot := Dt.Dot
abbrev Part := Nat × List Run
theorem fit_runs {l : List Run} (h : Ru.InOrder l) : Ru.Fit l := fun r hr => by
  have := (Ru.may_iff r).1 (h.1 r hr)
  exact ⟨by omega, by omega⟩
/-- a part of its types. -/
def FitC (c : List Part) : Prop := ∀ x ∈ c, x.1 < 65536 ∧ Ru.Fit x.2
/-- what a context has of a device. -/
def stepC (d : Nat) (o : List Run) (x : Part) : List Run := if x.1 = d ∧ d ≠ 0 then Ru.setL o x.2 0 else o
def runsC (c : List Part) (d : Nat) : List Run := c.foldl (stepC d) []
theorem runs_nil (d : Nat) : runsC [] d = [] := rfl
theorem runs_from (c : List Part) (d : Nat) (o : List Run) (ho : Ru.InOrder o) : Ru.InOrder (c.foldl (stepC d) o) ∧ (∀ n, Ru.has (c.foldl (stepC d) o) n = (Ru.has o n || (decide (d ≠ 0) && c.any (fun x => decide (x.1 = d) && Ru.has x.2 n)))) ∧
    (c.foldl (stepC d) o).length ≤ o.length + (c.map (fun x => x.2.length)).sum := by
  induction c generalizing o with
  | nil => exact ⟨ho, fun n => by simp, by simp⟩
  | cons x c ih =>
    rw [List.foldl_cons]
    by_cases hx : x.1 = d ∧ d ≠ 0
    · rw [show stepC d o x = Ru.setL o x.2 0 from if_pos hx]
      obtain ⟨h1, h2, h3⟩ := ih (Ru.setL o x.2 0) (Ru.set_spec o x.2 0).1
      refine ⟨h1, fun n => ?_, ?_⟩
      · rw [h2, Ru.has0, List.any_cons, decide_eq_true hx.1, decide_eq_true hx.2]
        cases Ru.has o n <;> cases Ru.has x.2 n <;> simp
      · have := Ru.set_length0 o x.2
        rw [List.map_cons, List.sum_cons]
        omega
    · rw [show stepC d o x = o from if_neg hx]
      obtain ⟨h1, h2, h3⟩ := ih o ho
      refine ⟨h1, fun n => ?_, ?_⟩
      · rw [h2, List.any_cons]
        by_cases hd : d = 0
        · simp [hd]
        · have : ¬ x.1 = d := fun h => hx ⟨h, hd⟩
          simp [this]
      · rw [List.map_cons, List.sum_cons]
        omega
theorem runs_order (c : List Part) (d : Nat) : Ru.InOrder (runsC c d) := (runs_from c d [] Ru.order_nil).1
theorem runs_has (c : List Part) (d n : Nat) : Ru.has (runsC c d) n = (decide (d ≠ 0) && c.any (fun x => decide (x.1 = d) && Ru.has x.2 n)) := by
  rw [show runsC c d = c.foldl (stepC d) [] from rfl, (runs_from c d [] Ru.order_nil).2.1]; simp [Ru.has_nil]
theorem runs_length (c : List Part) (d : Nat) : (runsC c d).length ≤ (c.map (fun x => x.2.length)).sum := by
  have := (runs_from c d [] Ru.order_nil).2.2
  simpa [runsC] using this
theorem runs_empty {c : List Part} {d : Nat} (h : d = 0 ∨ ∀ x ∈ c, x.1 ≠ d) : runsC c d = [] := by
  refine Ru.empty_of (runs_order c d) fun n => ?_
  rw [runs_has]
  rcases h with h | h
  · simp [h]
  · have : c.any (fun x => decide (x.1 = d) && Ru.has x.2 n) = false := by
      rw [List.any_eq_false]
      intro x hx
      simp [h x hx]
    rw [this, Bool.and_false]
theorem runs_zero (c : List Part) : runsC c 0 = [] := runs_empty (.inl rfl)
theorem runs_far {c : List Part} (hc : FitC c) {d : Nat} (hd : 65536 ≤ d) : runsC c d = [] := runs_empty (.inr fun x hx => by have := (hc x hx).1; omega)

/-- what may be told: nothing of device 0, nor of devices beyond; runs in order. -/
structure Tells (f : Nat → List Run) : Prop where
  zero : f 0 = []
  far : ∀ d, 65536 ≤ d → f d = []
  order : ∀ d, Ru.InOrder (f d)
theorem tells_runs {c : List Part} (hc : FitC c) : Tells (runsC c) := ⟨runs_zero c, fun d hd => runs_far hc hd, runs_order c⟩
theorem set_nil (how : Int) : Ru.setL [] [] how = [] := Ru.empty_of (Ru.set_spec _ _ _).1 fun n => by rw [(Ru.set_spec [] [] how).2, Ru.has_nil]; exact Ru.inB_ff how
theorem tells_set {f g : Nat → List Run} (hf : Tells f) (hg : Tells g) (how : Int) : Tells (fun d => Ru.setL (f d) (g d) how) :=
  ⟨by show Ru.setL (f 0) (g 0) how = []; rw [hf.zero, hg.zero, set_nil], fun d hd => by show Ru.setL (f d) (g d) how = []; rw [hf.far d hd, hg.far d hd, set_nil], fun d => (Ru.set_spec _ _ _).1⟩
def oneC (f : Nat → List Run) (d : Nat) : Option Part := if (f d).length = 0 then none else some (d, f d)
/-- the context in order that tells this. -/
def listC (f : Nat → List Run) : List Part := (List.range Dt.topV).filterMap (oneC f)
theorem list_mem {f : Nat → List Run} (hf : Tells f) (x : Part) : x ∈ listC f ↔ x.2 = f x.1 ∧ f x.1 ≠ [] := by
  unfold listC
  rw [List.mem_filterMap]
  constructor
  · rintro ⟨d, _, h⟩
    unfold oneC at h
    split at h
    · cases h
    · rename_i h0
      cases h
      exact ⟨rfl, fun h => h0 (by show (f d).length = 0; rw [show f d = [] from h]; rfl)⟩
  · rintro ⟨h1, h2⟩
    refine ⟨x.1, ?_, ?_⟩
    · rw [List.mem_range, Dt.top_eq]
      rcases Nat.lt_or_ge x.1 65536 with h | h
      · exact h
      · exact absurd (hf.far _ h) h2
    · unfold oneC
      rw [if_neg (fun h => h2 (List.eq_nil_of_length_eq_zero h)), ← h1]
theorem list_up (f : Nat → List Run) (l : List Nat) (h : l.Pairwise (fun a b => a < b)) : (l.filterMap (oneC f)).Pairwise (fun a b => a.1 < b.1) := by
  induction l with
  | nil => exact List.Pairwise.nil
  | cons d l ih =>
    obtain ⟨h1, h2⟩ := List.pairwise_cons.1 h
    rw [List.filterMap_cons]
    split
    · exact ih h2
    · rename_i x hx
      rw [List.pairwise_cons]
      refine ⟨fun y hy => ?_, ih h2⟩
      obtain ⟨e, he, h3⟩ := List.mem_filterMap.1 hy
      unfold oneC at hx h3
      split at hx
      · cases hx
      · split at h3
        · cases h3
        · cases hx; cases h3; exact h1 e he
theorem list_rise (f : Nat → List Run) : (listC f).Pairwise (fun a b => a.1 < b.1) := list_up f _ (Dt.range_up _)
theorem list_length (f : Nat → List Run) : (listC f).length ≤ 65536 := by
  have := List.length_filterMap_le (oneC f) (List.range Dt.topV)
  rw [List.length_range] at this
  exact Nat.le_trans this (Nat.le_of_eq Dt.top_eq)
theorem list_fit {f : Nat → List Run} (hf : Tells f) : FitC (listC f) := fun x hx => by
  obtain ⟨h1, h2⟩ := (list_mem hf x).1 hx
  refine ⟨?_, by rw [h1]; exact fit_runs (hf.order _)⟩
  rcases Nat.lt_or_ge x.1 65536 with h | h
  · exact h
  · exact absurd (hf.far _ h) h2
/-- the context that tells f tells f. -/
theorem runs_list {f : Nat → List Run} (hf : Tells f) : runsC (listC f) = f := by
  funext d
  refine Ru.uniq (runs_order _ d) (hf.order d) fun n => ?_
  rw [runs_has]
  by_cases hd : d = 0
  · subst hd; rw [hf.zero]; simp [Ru.has_nil]
  · rw [decide_eq_true hd, Bool.true_and]
    cases h : Ru.has (f d) n with
    | true =>
      rw [List.any_eq_true]
      refine ⟨(d, f d), (list_mem hf _).2 ⟨rfl, fun h2 => ?_⟩, by simp [h]⟩
      rw [show f d = [] from h2, Ru.has_nil] at h; cases h
    | false =>
      rw [List.any_eq_false]
      intro x hx
      obtain ⟨h1, _⟩ := (list_mem hf x).1 hx
      by_cases hx2 : x.1 = d
      · rw [h1, hx2, h]; simp
      · simp [hx2]

/-! The document's words. -/
def setC (a b : List Part) (how : Int) : List Part := listC (fun d => Ru.setL (runsC a d) (runsC b d) how)
def normC (c : List Part) : List Part := listC (runsC c)
theorem tells_both {a b : List Part} (ha : FitC a) (hb : FitC b) (how : Int) : Tells (fun d => Ru.setL (runsC a d) (runsC b d) how) := tells_set (tells_runs ha) (tells_runs hb) how
theorem runs_set {a b : List Part} (ha : FitC a) (hb : FitC b) (how : Int) : runsC (setC a b how) = fun d => Ru.setL (runsC a d) (runsC b d) how := runs_list (tells_both ha hb how)
theorem runs_norm {c : List Part} (hc : FitC c) : runsC (normC c) = runsC c := runs_list (tells_runs hc)
theorem fit_set {a b : List Part} (ha : FitC a) (hb : FitC b) (how : Int) : FitC (setC a b how) := list_fit (tells_both ha hb how)
theorem fit_norm {c : List Part} (hc : FitC c) : FitC (normC c) := list_fit (tells_runs hc)
/-- what is in order already is its own norm. -/
theorem set_self {l : List Run} (h : Ru.InOrder l) : Ru.setL l [] 0 = l := Ru.uniq (Ru.set_spec _ _ _).1 h fun n => by rw [Ru.has0, Ru.has_nil, Bool.or_false]
theorem norm_set (c : List Part) : setC c [] 0 = normC c := by
  unfold setC normC
  congr 1
  funext d
  exact set_self (runs_order c d)
def hasC (c : List Part) (x : Dot) : Bool := Dt.mayD x && Ru.has (runsC c x.1) x.2
def goodC (c : List Part) : Bool := decide (c = normC c)
def withinC (a b : List Part) : Bool := decide (setC a b 2 = [])
def sameC (a b : List Part) : Bool := decide (normC a = normC b)
def onlyC (c : List Part) (d : Nat) : List Part := if (runsC c d).length = 0 then [] else [(d, runsC c d)]
def ofC (l : List Dot) : List Part := l.foldl (fun o x => if Dt.mayD x = true then setC o [(x.1, [(x.2, x.2)])] 0 else o) []
def sizeC (c : List Part) : Nat := ((normC c).map (fun x => Ru.sizeR x.2)).sum
def baseC (c : List Part) : List Dot := (normC c).filterMap (fun x => if 1 < Ru.firstR x.2 then some (x.1, Ru.firstR x.2 - 1) else none)
def plainC (v : List Dot) : List Part := (Dt.normV v).map (fun x => (x.1, [(1, x.2)]))
end Go.Proofs.Ytmebokpgiehgmaa.Cx

/- The contract of the document's 'set': what two lists of runs come to. Condition: at most 32768 runs on either side. -/
namespace Go.Proofs.Ytmebokpgiehgmaa.Ru
open Go.ChangeShapes Go.WideShapes Go.ChangeAt Go.RowKit
set_option linter.unusedVariables false

theorem addR_length (o : List Run) (p q : Nat) : (addR o p q).length ≤ o.length + 1 := by
  unfold addR
  split
  · rename_i r h
    split
    · have hne : o ≠ [] := fun e => by rw [e] at h; simp at h
      rw [List.length_append, List.length_dropLast, List.length_singleton]
      have : 0 < o.length := List.length_pos_iff.2 hne
      omega
    · rw [List.length_append]; simp
  · simp
theorem stF_length (a b : List Run) (how : Int) (P : List Nat) (k : Nat) : (stF a b how P k).length ≤ k := by
  induction k with
  | zero => simp [stF]
  | succ k ih =>
    rw [stF_succ]
    unfold stS
    split
    · have := addR_length (stF a b how P k) (P.getD k 0) (P.getD (k + 1) 0)
      omega
    · omega
theorem getD_some {P : List Nat} {i p : Nat} (h : P[i]? = some p) : P.getD i 0 = p := by
  rw [List.getD_eq_getElem?_getD, h]; rfl

theorem putL_bound {l : List Nat} {n : Nat} (C : Nat → Prop) (hl : ∀ x ∈ l, C x) (hn : C n) : ∀ x ∈ putL l n, C x := by
  have key : ∀ (l : List Nat), (∀ x ∈ l, C x) → ∀ s : List Nat × Bool, (∀ x ∈ s.1, C x) → ∀ x ∈ (l.foldl (putS n) s).1, C x := by
    intro l
    induction l with
    | nil => intro _ s hs; exact hs
    | cons y l ih =>
      intro h s hs
      rw [List.foldl_cons]
      refine ih (fun x hx => h x (by simp [hx])) _ ?_
      have hy : C y := h y (by simp)
      unfold putS
      intro x hx
      split at hx <;> split at hx <;> simp at hx
      all_goals (first
        | (rcases hx with hx | rfl | rfl <;> first | exact hs x hx | exact hn | exact hy)
        | (rcases hx with hx | rfl <;> first | exact hs x hx | exact hn | exact hy)
        | exact hs x hx)
  have h1 := key l hl ([], false) (fun x hx => by cases hx)
  unfold putL
  split
  · exact h1
  · intro x hx
    rcases List.mem_append.1 hx with hx | hx
    · exact h1 x hx
    · obtain rfl := List.mem_singleton.1 hx
      exact hn
/-- points lie from 1 to 2^48. -/
theorem ptL_bound (l : List Run) : ∀ x ∈ ptL l, 1 ≤ x ∧ x ≤ 281474976710656 := by
  suffices h : ∀ o : List Nat, (∀ x ∈ o, 1 ≤ x ∧ x ≤ 281474976710656) → ∀ x ∈ l.foldl ptS o, 1 ≤ x ∧ x ≤ 281474976710656 from h [] (fun x hx => by cases hx)
  induction l with
  | nil => intro o ho; exact ho
  | cons r l ih =>
    intro o ho
    rw [List.foldl_cons]
    refine ih _ ?_
    unfold ptS
    split
    · rename_i hm
      have := of_decide_eq_true hm
      exact putL_bound _ (putL_bound _ ho (by omega)) (by omega)
    · exact ho

theorem bel_drew {w W : World} (h : Below w.heap.size w W) : Below w.heap.size w W.drew := h.drew

def Low (o : List Run) : Prop := ∀ r ∈ o, r.1 ≤ 281474976710656 ∧ r.2 ≤ 281474976710656
theorem addR_nil (p q : Nat) : addR [] p q = [(p, q - 1)] := rfl
theorem addR_last (o : List Run) (lo hi p q : Nat) : addR (o ++ [(lo, hi)]) p q = if hi + 1 = p then o ++ [(lo, q - 1)] else o ++ [(lo, hi)] ++ [(p, q - 1)] := by
  unfold addR
  rw [List.getLast?_append]
  simp only [List.getLast?_singleton, Option.some_or, List.dropLast_concat]
theorem last_of {o : List Run} {z : Nat} (h : o.length = z + 1) : ∃ o' lo hi, o = o' ++ [(lo, hi)] ∧ o'.length = z := by
  have hne : o ≠ [] := fun e => by rw [e] at h; simp at h
  refine ⟨o.dropLast, (o.getLast hne).1, (o.getLast hne).2, (List.dropLast_concat_getLast hne).symm, by rw [List.length_dropLast]; omega⟩
theorem low_last {o : List Run} {lo hi : Nat} (h : Low (o ++ [(lo, hi)])) : lo ≤ 281474976710656 ∧ hi ≤ 281474976710656 := h (lo, hi) (by simp)
theorem low_snoc {o : List Run} {lo hi : Nat} (h : Low o) (h1 : lo ≤ 281474976710656) (h2 : hi ≤ 281474976710656) : Low (o ++ [(lo, hi)]) := fun r hr => by
  rcases List.mem_append.1 hr with hr | hr
  · exact h r hr
  · obtain rfl := List.mem_singleton.1 hr
    exact ⟨h1, h2⟩
theorem low_init {o : List Run} {r : Run} (h : Low (o ++ [r])) : Low o := fun x hx => h x (List.mem_append_left _ hx)
theorem rv_snoc (o : List Run) (lo hi : Nat) : rv (o ++ [(lo, hi)]) = rv o ++ [.int .u64 (lo : Int), .int .u64 (hi : Int)] := rv_append o [(lo, hi)]
theorem rv_set_last (o : List Run) (lo hi v z : Nat) (h : o.length = z) : (rv (o ++ [(lo, hi)])).set (z * 2 + 1) (.int .u64 (v : Int)) = rv (o ++ [(lo, v)]) := by
  have hl : (rv o).length = z * 2 := by rw [rv_length, h]
  rw [rv_snoc, rv_snoc, List.set_append, if_neg (by omega), hl]
  have e : z * 2 + 1 - z * 2 = 1 := by omega
  rw [e]
  rfl
theorem rv_last (o : List Run) (lo hi z : Nat) (h : o.length = z) : (rv (o ++ [(lo, hi)]))[z * 2]? = some (.int .u64 (lo : Int)) ∧ (rv (o ++ [(lo, hi)]))[z * 2 + 1]? = some (.int .u64 (hi : Int)) := by
  refine rv_get (l := o ++ [(lo, hi)]) (r := (lo, hi)) ?_
  rw [List.getElem?_append_right (by omega), h]
  simp
theorem own_drewN {V : World} {B n size : Nat} {e : TypeId} {v : Value} {xs : List Value} (h : V.ownsRow B e size v n xs) (k : Nat) : (V.drewN k).ownsRow B e size v n xs := h
theorem own_drewS {V : World} {B n size : Nat} {e : TypeId} {v : Value} {xs : List Value} (h : V.ownsRow B e size v n xs) (k : Nat) : ((V.drewN k).drew).ownsRow B e size v n xs := h
theorem low_drewS {w V : World} (h : Below w.heap.size w V) (k : Nat) : Below w.heap.size w ((V.drewN k).drew) := (Go.below_drewN h k).drew
theorem lies_num {w : World} {B n c : Nat} {A : Option Addr} {m : List Nat} (h : w.ownsRow B 23 1 (.slice A n c) n (nv m)) (hf : FitN m) : Nums w w.heap.size A m := ⟨hf, lies_any (by decide) h⟩

end Go.Proofs.Ytmebokpgiehgmaa.Ru

/- The contracts of the document's answers for layer runs: Join, Meet, Minus, Norm, Eq, Good, Size, First, Last, Of. Condition: at most 32768 runs (16384 on either side where two lists meet are more than the laws ask), at most 32768 numbers. -/
namespace Go.Proofs.Ytmebokpgiehgmaa.Ru
open Go.ChangeShapes Go.WideShapes Go.ChangeAt Go.RowKit
set_option linter.unusedVariables false
set_option maxRecDepth 4000

theorem fit_order {l : List Run} (h : InOrder l) : Fit l := fun r hr => by
  have := (may_iff r).1 (h.1 r hr)
  omega
/-- the list in order of the same numbers. -/
def normL (l : List Run) : List Run := setL l [] 0
theorem norm_spec (l : List Run) : InOrder (normL l) ∧ ∀ n, has (normL l) n = has l n := by
  obtain ⟨h1, h2⟩ := set_spec l [] 0
  exact ⟨h1, fun n => by rw [show normL l = setL l [] 0 from rfl, h2 n, inB_zero, has_nil, Bool.or_false]⟩
theorem take_more {l m : List Run} {k : Nat} {x : Run} (h : l.take k = m.take k) (h1 : l[k]? = some x) (h2 : m[k]? = some x) : l.take (k + 1) = m.take (k + 1) := by
  rw [List.take_add_one, List.take_add_one, h, h1, h2]
theorem ne_at {l m : List Run} {k : Nat} {x y : Run} (h1 : l[k]? = some x) (h2 : m[k]? = some y) (hn : x ≠ y) : l ≠ m := by
  intro e
  rw [e, h2] at h1
  exact hn (Option.some.inj h1).symm
end Go.Proofs.Ytmebokpgiehgmaa.Ru

/- The contracts of the document's Size and First for layer runs. Condition: at most 32768 runs. -/
namespace Go.Proofs.Ytmebokpgiehgmaa.Ru
open Go.ChangeShapes Go.WideShapes Go.ChangeAt Go.RowKit
set_option linter.unusedVariables false
set_option maxRecDepth 4000

theorem below_drewK {B : Nat} {a w : World} (h : Below B a w) (n : Nat) : Below B a (w.drewN n) := Go.below_drewN h n

theorem sizeR_append (a b : List Run) : sizeR (a ++ b) = sizeR a + sizeR b := by
  induction a with
  | nil => simp [sizeR]
  | cons r a ih => simp only [List.cons_append, sizeR, ih]; omega
theorem sizeR_take {l : List Run} {k lo hi : Nat} (h : l[k]? = some (lo, hi)) : sizeR (l.take (k + 1)) = sizeR (l.take k) + (hi - lo + 1) := by
  rw [List.take_add_one, h, sizeR_append]
  rfl
theorem sizeR_le (l : List Run) (k : Nat) : sizeR (l.take k) ≤ sizeR l := by
  have := sizeR_append (l.take k) (l.drop k)
  rw [List.take_append_drop] at this
  omega

end Go.Proofs.Ytmebokpgiehgmaa.Ru

/- What ctx knows by the name VPut lies in dot's DPut. -/
namespace Go.Proofs.Ytmebokpgiehgmaa.Dt
end Go.Proofs.Ytmebokpgiehgmaa.Dt

/- What the frames of layer event's laws share: an event, a list of events, a dot that came in, as the walks take them. No condition. -/
namespace Go.Proofs.Ytmebokpgiehgmaa.Ev
open Go.ChangeShapes Go.WideShapes Go.ChangeAt Go.RowKit Go.Deep Go.Joins
set_option linter.unusedVariables false
set_option maxRecDepth 4000

theorem own : ownKnob Try.prog.godebug = none := by kernel_rfl
theorem laidOut : laidOutB Try.prog = true := by kernel_rfl
theorem cells16 : Try.prog.cellsOf 24 = 1 := by kernel_rfl
theorem cells64 : Try.prog.cellsOf 23 = 1 := by kernel_rfl
theorem cellsD : Try.prog.cellsOf 26 = 2 := by kernel_rfl
theorem cellsE : Try.prog.cellsOf 38 = 7 := by kernel_rfl
theorem bytesD : Try.prog.bytesOf 26 = 16 := by kernel_rfl
theorem bytesE : Try.prog.bytesOf 38 = 80 := by kernel_rfl
theorem wf_u64 {n : Int} (h : (Lit.int .u64 n).wf = true) : ∃ s : Nat, n = (s : Int) ∧ s < 18446744073709551616 := by
  simp [Lit.wf, IntKind.min, IntKind.max, IntKind.bits, IntKind.signed] at h
  exact ⟨n.toNat, by omega, by omega⟩
theorem wf_u16 {n : Int} (h : (Lit.int .u16 n).wf = true) : ∃ s : Nat, n = (s : Int) ∧ s < 65536 := by
  simp [Lit.wf, IntKind.min, IntKind.max, IntKind.bits, IntKind.signed] at h
  exact ⟨n.toNat, by omega, by omega⟩
theorem wf_u8 {n : Int} (h : (Lit.int .u8 n).wf = true) : ∃ s : Nat, n = (s : Int) ∧ s < 256 := by
  simp [Lit.wf, IntKind.min, IntKind.max, IntKind.bits, IntKind.signed] at h
  exact ⟨n.toNat, by omega, by omega⟩
/-- each slice and text within weighs at most what an argument may weigh. -/
def Held {H : Type} (t : TypeId) (d : DataW H) : Prop := ∀ n ∈ d.weights Try.prog t, n ≤ reachBytes
theorem weights_all {H : Type} {P : Program} {e : TypeId} {l : List (DataW H)} {d : DataW H} (h : d ∈ l) : ∀ n ∈ d.weights P e, n ∈ DataW.weightsAll P e l := by
  induction l with
  | nil => cases h
  | cons x l ih =>
    intro n hn
    simp only [DataW.weightsAll, List.mem_append]
    rcases List.mem_cons.1 h with rfl | h
    · exact Or.inl hn
    · exact Or.inr (ih h n hn)
theorem Held.elem {H : Type} {t e : TypeId} {elems spare : List (DataW H)} (h : Held t (.slice elems spare)) (hu : Try.prog.underlying t = some (.slice e)) {d : DataW H} (hd : d ∈ elems) : Held e d := fun n hn =>
  h n (by simp only [DataW.weights, hu, List.mem_cons, List.mem_append]; exact Or.inr (Or.inl (weights_all hd n hn)))
theorem Held.length {H : Type} {t e : TypeId} {elems spare : List (DataW H)} (h : Held t (.slice elems spare)) (hu : Try.prog.underlying t = some (.slice e)) : (elems.length + spare.length) * Try.prog.bytesOf e ≤ reachBytes :=
  h _ (by simp [DataW.weights, hu])
theorem Held.part {H : Type} {t t' : TypeId} {fs : Array Field} {parts : List (DataW H)} (h : Held t (.agg parts)) (hu : Try.prog.underlying t = some (.struct fs)) {j : Nat} {d : DataW H} (ht : (fs.toList.map (·.type))[j]? = some t') (hd : parts[j]? = some d) : Held t' d := fun n hn =>
  h n (by simp only [DataW.weights, hu]; exact DataW.weights_mem_each ht hd n hn)
theorem list_of {α : Type} {Q : Nat → α → Prop} (n : Nat) (h : ∀ i, i < n → ∃ t, Q i t) : ∃ L : List α, L.length = n ∧ ∀ (i : Nat) (t : α), L[i]? = some t → Q i t := by
  induction n with
  | zero => exact ⟨[], rfl, fun i t hi => by simp at hi⟩
  | succ n ih =>
    obtain ⟨L, hL, hQ⟩ := ih (fun i hi => h i (by omega))
    obtain ⟨t, ht⟩ := h n (by omega)
    refine ⟨L ++ [t], by simp [hL], fun i u hu => ?_⟩
    rcases Nat.lt_or_ge i n with hi | hi
    · rw [List.getElem?_append_left (by omega)] at hu
      exact hQ i u hu
    · rw [List.getElem?_append_right (by omega), hL] at hu
      have e : i = n := by
        rcases Nat.eq_or_lt_of_le hi with e | e
        · exact e.symm
        · rw [List.getElem?_eq_none (by simp; omega)] at hu; cases hu
      subst e
      simp at hu
      subst hu
      exact ht
theorem lies_dots {w : World} {B : Nat} {ad : Addr} (hB : ad.block < B) (L : List Dt.Dot) (h : ∀ (i : Nat) (r : Dt.Dot), L[i]? = some r → w.cell? (ad.add (i * 2)) = some (.int .u16 (r.1 : Int)) ∧ w.cell? (ad.add (i * 2 + 1)) = some (.int .u64 (r.2 : Int))) : Dt.Lies w B (some ad) (Dt.dv L) := fun _ => by
  refine ⟨ad, rfl, hB, fun j u hu => ?_⟩
  have hj : j < (Dt.dv L).length := (List.getElem?_eq_some_iff.1 hu).1
  rw [Dt.dv_length] at hj
  have hd : j / 2 < L.length := by omega
  have hg := List.getElem?_eq_getElem hd
  obtain ⟨g1, g2⟩ := Dt.dv_get hg
  obtain ⟨c1, c2⟩ := h _ _ hg
  rcases Nat.mod_two_eq_zero_or_one j with h0 | h0
  · have e : j = j / 2 * 2 := by omega
    rw [e] at hu ⊢
    rw [g1] at hu
    cases hu
    exact c1
  · have e : j = j / 2 * 2 + 1 := by omega
    generalize hz : j / 2 = z at *
    subst e
    rw [g2] at hu
    cases hu
    exact c2

/-- a dot that came in; it reads as it did in every world. -/
theorem dot_of {H : Type} {enc : TypeId × Value → H} {W : World} {b0 : Nat} {v : Value} {d : DataW H} {p : List MemPlace} (hv : Value.okWide Try.prog W .any b0 26 v) (h : DataW.Trod enc Try.prog W 0 (fun _ => true) true 26 v d p) :
    ∃ r : Dt.Dot, v = .agg #[.int .u16 (r.1 : Int), .int .u64 (r.2 : Int)] ∧ r.1 < 65536 ∧ r.2 < 18446744073709551616 ∧ p = [] ∧ ∀ (W' : World) (sp : Nat → Bool), DataW.Trod enc Try.prog W' 0 sp true 26 v d p := by
  obtain ⟨c0, c1, y0, y1, m, rfl, rfl, rfl, hy0, hy1⟩ := open_agg2 Try.underlying26 (by kernel_rfl) cellsD hv h
  obtain ⟨a, e0, rfl, wa⟩ := DataW.trod_int Try.underlying24 hy0
  obtain ⟨b, e1, rfl, wb⟩ := DataW.trod_int Try.underlying23 hy1
  simp at e0 e1
  subst e0 e1
  have wa' := wa
  have wb' := wb
  obtain ⟨s, rfl, hs⟩ := wf_u16 wa
  obtain ⟨t, rfl, ht⟩ := wf_u64 wb
  exact ⟨(s, t), rfl, hs, ht, rfl, fun W' sp =>
    shut_agg2 (y0 := (.lit (.int .u16 (s : Int)), [])) (y1 := (.lit (.int .u64 (t : Int)), [])) Try.underlying26 (by kernel_rfl) cellsD ⟨1, by simp [DataW.trod, Try.underlying24, wa']⟩ ⟨1, by simp [DataW.trod, Try.underlying23, wb']⟩⟩
/-- dots that stand in a cell. -/
theorem dots_cell {H : Type} {enc : TypeId × Value → H} {W : World} {fuel : Nat} {v : Value} {d : DataW H} {p : List MemPlace} (h : DataW.trod enc Try.prog W 0 (fun _ => true) true fuel 30 [v] = some (d, p)) (hz : Held 30 d) :
    ∃ (A : Option Addr) (n c : Nat) (l : List Dt.Dot), v = .slice A n c ∧ DotsAt W W.heap.size A l n c ∧ n ≤ 8796093021952 := by
  rcases open_slice_pairs Try.underlying30 Try.underlying26 cellsD rfl rfl cells16 cells64 h with ⟨hcs, _⟩ | ⟨x, n0, c0, m, f0, V0, V1, D0, D1, P0, P1, hcs, hb, hl, hm, hmm, hx, hi⟩
  · obtain rfl := (List.cons.inj hcs).1
    exact ⟨none, 0, 0, [], rfl, DotsAt.none_ _ _, by decide⟩
  · obtain rfl := (List.cons.inj hcs).1
    unfold maxLen at hm
    have hmc : m = c0 := by simpa using hmm
    obtain rfl := (Prod.mk.inj hx).1
    have hw := hz.length Try.underlying30
    rw [bytesD] at hw
    simp only [List.length_map, List.length_range, reachBytes] at hw
    have each : ∀ i, i < n0 → ∃ r : Dt.Dot, (r.1 < 65536 ∧ r.2 < 18446744073709551616) ∧ W.cell? (x.add (i * 2)) = some (.int .u16 (r.1 : Int)) ∧ W.cell? (x.add (i * 2 + 1)) = some (.int .u64 (r.2 : Int)) := by
      intro i hil
      obtain ⟨h0, h1, t0, t1⟩ := hi i (by omega)
      obtain ⟨z0, e0, _, w0⟩ := DataW.trod_int Try.underlying24 t0
      obtain ⟨z1, e1, _, w1⟩ := DataW.trod_int Try.underlying23 t1
      obtain ⟨s0, rfl, hs0⟩ := wf_u16 w0
      obtain ⟨s1, rfl, hs1⟩ := wf_u64 w1
      rw [(List.cons.inj e0).1] at h0
      rw [(List.cons.inj e1).1] at h1
      exact ⟨(s0, s1), ⟨hs0, hs1⟩, h0, h1⟩
    obtain ⟨L, hL, hQ⟩ := list_of n0 each
    refine ⟨some x, n0, c0, L, rfl, ⟨hL, (fun e => by cases e), hl, by omega, by omega, fun r hr => ?_, ?_⟩, by omega⟩
    · obtain ⟨i, hi', rfl⟩ := List.getElem_of_mem hr
      exact (hQ i _ (List.getElem?_eq_getElem hi')).1
    · rcases Nat.eq_zero_or_pos L.length with h0 | h0
      · rw [List.eq_nil_of_length_eq_zero h0]; exact Dt.Lies.none_ _ _ _
      · refine lies_dots ?_ L (fun i r hr => (hQ i r hr).2)
        have h1 := (hQ 0 _ (List.getElem?_eq_getElem h0)).2.1
        have h2 := World.block_lt_of_cell? W _ h1
        rwa [block_add] at h2
/-- an event's cells. -/
theorem evt_cells {H : Type} {enc : TypeId × Value → H} {W : World} {fuel : Nat} {cs : List Value} {d : DataW H} {p : List MemPlace} (h : DataW.trod enc Try.prog W 0 (fun _ => true) true fuel 38 cs = some (d, p)) (hz : Held 38 d) :
    ∃ (q : EV) (x : Evt), cs = q.cells ∧ EventIs W W.heap.size q x ∧ q.len ≤ 8796093021952 := by
  obtain ⟨xs, f1, _, hxy, hlen, hxl, hfd⟩ := DataW.trod_struct Try.underlying38 h
  rw [cellsE] at hlen
  match xs, hxl, cs, hlen with
  | [y0, y1, y2, y3, y4, y5], _, [u0, u1, u2, u3, u4, u5, u6], _ =>
    have g0 := hfd 0 _ rfl
    have g1 := hfd 1 _ rfl
    have g2 := hfd 2 _ rfl
    have g3 := hfd 3 _ rfl
    have g4 := hfd 4 _ rfl
    have g5 := hfd 5 _ rfl
    simp only [List.getElem?_cons_zero, List.getElem?_cons_succ] at g0 g1 g2 g3 g4 g5
    have hD : d = .agg ([y0, y1, y2, y3, y4, y5].map (·.1)) := congrArg Prod.fst hxy
    subst hD
    obtain ⟨zs, f2, _, hzy, _, hzl, hfz⟩ := DataW.trod_struct Try.underlying26 g0
    match zs, hzl with
    | [z0, z1], _ =>
      have k0 := hfz 0 _ rfl
      have k1 := hfz 1 _ rfl
      simp only [List.getElem?_cons_zero, List.getElem?_cons_succ] at k0 k1
      obtain ⟨i0, e0, _, w0⟩ := DataW.trod_int Try.underlying24 k0
      obtain ⟨i1, e1, _, w1⟩ := DataW.trod_int Try.underlying23 k1
      obtain ⟨i2, e2, _, w2⟩ := DataW.trod_int Try.underlying5 g1
      obtain ⟨i3, e3, _, w3⟩ := DataW.trod_int Try.underlying23 g2
      obtain ⟨i4, e4, _, w4⟩ := DataW.trod_int Try.underlying5 g3
      obtain ⟨s, e5, hs1, _⟩ := DataW.trod_string Try.underlying9 g4
      obtain ⟨y51, y52⟩ := y5
      have g5' : DataW.trod enc Try.prog W 0 (fun _ => true) true f1 30 [u6] = some (y51, y52) := g5
      obtain ⟨A, n, c, l, e6, hT, hn⟩ := dots_cell g5' (hz.part (j := 5) Try.underlying38 rfl rfl)
      have hst : Held 9 y4.1 := hz.part (j := 4) Try.underlying38 rfl rfl
      rw [hs1] at hst
      have hsl := hst s.data.toList.length (by simp [DataW.weights])
      obtain rfl := (List.cons.inj e0).1
      obtain rfl := (List.cons.inj e1).1
      obtain rfl := (List.cons.inj e2).1
      obtain rfl := (List.cons.inj e3).1
      obtain rfl := (List.cons.inj e4).1
      obtain rfl := (List.cons.inj e5).1
      subst e6
      obtain ⟨s0, rfl, hs0⟩ := wf_u16 w0
      obtain ⟨s1, rfl, hs1⟩ := wf_u64 w1
      obtain ⟨s2, rfl, hs2⟩ := wf_u8 w2
      obtain ⟨s3, rfl, hs3⟩ := wf_u64 w3
      obtain ⟨s4, rfl, hs4⟩ := wf_u8 w4
      refine ⟨⟨s0, s1, s2, s3, s4, s, A, n, c⟩, ⟨(s0, s1), s2, s3, s4, s, l⟩, rfl, ⟨rfl, rfl, rfl, rfl, rfl, rfl, ⟨⟨hs0, hs1⟩, hs2, hs3, hs4, ?_⟩, hT⟩, hn⟩
      unfold Short
      simp only [reachBytes, Array.length_toList] at hsl
      have e : s.data.size = s.size := rfl
      show s.size ≤ 140737488355328
      omega
/-- an event that came in. -/
theorem evt_of {H : Type} {enc : TypeId × Value → H} {W : World} {b0 : Nat} {v : Value} {d : DataW H} {p : List MemPlace} (hv : Value.okWide Try.prog W .any b0 38 v) (h : DataW.Trod enc Try.prog W 0 (fun _ => true) true 38 v d p) (hz : Held 38 d) :
    ∃ (q : EV) (x : Evt), v = q.val ∧ EventIs W W.heap.size q x ∧ q.len ≤ 8796093021952 := by
  obtain ⟨cs, rfl, hsz⟩ := okWide_struct Try.underlying38 hv
  obtain ⟨fuel, hf⟩ := h
  obtain ⟨q, x, e, hq, hn⟩ := evt_cells hf hz
  refine ⟨q, x, ?_, hq, hn⟩
  have e2 : cs.toList = q.cells := e
  have e3 : cs = q.cells.toArray := by rw [← e2]
  rw [e3]
/-- events that came in. -/
theorem evts_of {H : Type} {enc : TypeId × Value → H} {W : World} {A : Option Addr} {n c : Nat} {d : DataW H} {p : List MemPlace} (h : DataW.Trod enc Try.prog W 0 (fun _ => true) true 22 (.slice A n c) d p) (hz : Held 22 d) :
    ∃ l : List Evt, EventsAt W W.heap.size A l n c := by
  obtain ⟨fuel, hf⟩ := h
  rcases open_slice Try.underlying22 hf with ⟨hcs, _⟩ | ⟨x, n0, c0, m, f0, D, Pl, hcs, hb, hl, hm, hmm, hx, hi⟩
  · simp [Value.cells] at hcs
    obtain ⟨rfl, rfl, rfl⟩ := hcs
    exact ⟨[], EventsAt.none_ _ _⟩
  · simp [Value.cells] at hcs
    obtain ⟨rfl, rfl, rfl⟩ := hcs
    unfold maxLen at hm
    have hmc : m = c := by simpa using hmm
    obtain rfl := (Prod.mk.inj hx).1
    have hw := hz.length Try.underlying22
    rw [bytesE] at hw
    simp only [List.length_map, List.length_range, reachBytes] at hw
    have each : ∀ i, i < n → ∃ r : EV × Evt, EventIs W W.heap.size r.1 r.2 ∧ ∀ j (hj : j < r.1.cells.length), W.cell? (x.add (i * 7 + j)) = some r.1.cells[j] := by
      intro i hil
      obtain ⟨cs', k1, k2⟩ := hi i (by omega)
      rw [cellsE] at k1
      obtain ⟨_, hlen, hcell⟩ := World.cells?_some k1
      have hh : Held 38 (D i) := hz.elem Try.underlying22 (List.mem_map.2 ⟨i, List.mem_range.2 hil, rfl⟩)
      obtain ⟨q, y, rfl, hq, _⟩ := evt_cells k2 hh
      refine ⟨(q, y), hq, fun j hj => ?_⟩
      have := hcell j hj
      rw [add_add] at this
      rw [this]
      exact List.getElem?_eq_getElem hj
    obtain ⟨L, hL, hQ⟩ := list_of n each
    refine ⟨L.map (fun r => r.2), ⟨by rw [List.length_map, hL], (fun e => by cases e), hl, by omega, by omega, L.map (fun r => r.1), fun h0 => ?_, by rw [List.length_map, List.length_map], ?_⟩⟩
    · rw [ev_length, List.length_map] at h0
      have h1 := (hQ 0 _ (List.getElem?_eq_getElem (show 0 < L.length by omega))).2 0 (show 0 < 7 by decide)
      have h2 := World.block_lt_of_cell? W _ h1
      rw [block_add] at h2
      refine ⟨x, rfl, h2, fun j u hu => ?_⟩
      have hj : j < L.length * 7 := by have := (List.getElem?_eq_some_iff.1 hu).1; rwa [ev_length, List.length_map] at this
      have hk : j / 7 < L.length := by omega
      have hg : (L.map (fun r => r.1))[j / 7]? = some (L[j / 7]).1 := by simp [hk]
      have hv := ev_get hg (j % 7) (by omega)
      rw [show j / 7 * 7 + j % 7 = j by omega, hu] at hv
      have hc := (hQ (j / 7) _ (List.getElem?_eq_getElem hk)).2 (j % 7) (show j % 7 < 7 by omega)
      rw [show j / 7 * 7 + j % 7 = j by omega] at hc
      rw [hc, ← List.getElem?_eq_getElem, ← hv]
    · intro k q y hq hy
      rw [List.getElem?_map] at hq hy
      obtain ⟨r, hr, rfl⟩ := Option.map_eq_some_iff.1 hq
      rw [hr] at hy
      cases hy
      exact (hQ k r hr).1
end Go.Proofs.Ytmebokpgiehgmaa.Ev
