/- Words and contracts that the proofs of this seat stand on, part 4 of 14. -/
import Derived.Test.YtmhghgogehmehaaMgC
import Derived.Test.YtmhghgogehmehaaMgA
import Derived.Test.YtmhghgogehmehaaMgB

/- Vectors as what they tell: plain arithmetic. What a vector tells of a device, the vector in order that tells a given thing, and the laws of joining and meeting. No program is named here. -/
namespace Go.Proofs.Ytmhghgogehmehaa.Dt
set_option linter.unusedVariables false

/-- what a vector tells of a device: the greatest number of its dots that may be. -/
def stepV (d : Nat) (n : Nat) (x : Dot) : Nat := if x.1 = d ∧ mayD x = true ∧ n < x.2 then x.2 else n
def ofV (v : List Dot) (d : Nat) : Nat := v.foldl (stepV d) 0
theorem step_max (d n : Nat) (x : Dot) : stepV d n x = if x.1 = d ∧ mayD x = true then max n x.2 else n := by
  unfold stepV
  by_cases h1 : x.1 = d ∧ mayD x = true
  · by_cases h2 : n < x.2
    · rw [if_pos ⟨h1.1, h1.2, h2⟩, if_pos h1]; omega
    · rw [if_neg (fun h => h2 h.2.2), if_pos h1]; omega
  · rw [if_neg (fun h => h1 ⟨h.1, h.2.1⟩), if_neg h1]
theorem of_from (v : List Dot) (d n : Nat) : v.foldl (stepV d) n = max n (ofV v d) := by
  unfold ofV
  induction v generalizing n with
  | nil => simp
  | cons x v ih =>
    rw [List.foldl_cons, List.foldl_cons, ih, ih (stepV d 0 x), step_max, step_max]
    split <;> omega
theorem of_nil (d : Nat) : ofV [] d = 0 := rfl
theorem of_cons (x : Dot) (v : List Dot) (d : Nat) : ofV (x :: v) d = max (if x.1 = d ∧ mayD x = true then x.2 else 0) (ofV v d) := by
  rw [show ofV (x :: v) d = v.foldl (stepV d) (stepV d 0 x) from rfl, of_from, step_max]
  split <;> omega
theorem of_append (v m : List Dot) (d : Nat) : ofV (v ++ m) d = max (ofV v d) (ofV m d) := by
  rw [show ofV (v ++ m) d = (v ++ m).foldl (stepV d) 0 from rfl, List.foldl_append, of_from]; rfl
theorem of_one (x : Dot) (d : Nat) : ofV [x] d = if x.1 = d ∧ mayD x = true then x.2 else 0 := by rw [of_cons, of_nil]; omega
/-- what is told is a dot's number; of nothing nought is told. -/
theorem of_in (v : List Dot) (d : Nat) (h : 0 < ofV v d) : (d, ofV v d) ∈ v ∧ mayD (d, ofV v d) = true := by
  induction v with
  | nil => rw [of_nil] at h; omega
  | cons x v ih =>
    rw [of_cons] at h ⊢
    by_cases h1 : x.1 = d ∧ mayD x = true
    · rw [if_pos h1] at h ⊢
      rcases Nat.le_total x.2 (ofV v d) with h2 | h2
      · rw [Nat.max_eq_right h2] at h ⊢
        exact ⟨List.mem_cons_of_mem _ (ih h).1, (ih h).2⟩
      · rw [Nat.max_eq_left h2] at h ⊢
        have e : ((d, x.2) : Dot) = x := by rw [← h1.1]
        rw [e]
        exact ⟨List.mem_cons_self .., h1.2⟩
    · rw [if_neg h1] at h ⊢
      rw [Nat.zero_max] at h ⊢
      exact ⟨List.mem_cons_of_mem _ (ih h).1, (ih h).2⟩
theorem of_most (v : List Dot) (x : Dot) (hx : x ∈ v) (hm : mayD x = true) : x.2 ≤ ofV v x.1 := by
  induction v with
  | nil => cases hx
  | cons y v ih =>
    rw [of_cons]
    rcases List.mem_cons.1 hx with rfl | hx
    · rw [if_pos ⟨rfl, hm⟩]; omega
    · have := ih hx; omega
theorem of_lt (v : List Dot) (d : Nat) : ofV v d < 281474976710656 := by
  rcases Nat.eq_zero_or_pos (ofV v d) with h | h
  · omega
  · exact ((may_iff _).1 (of_in v d h).2).2.2
theorem of_zero (v : List Dot) : ofV v 0 = 0 := by
  rcases Nat.eq_zero_or_pos (ofV v 0) with h | h
  · exact h
  · have := ((may_iff _).1 (of_in v 0 h).2).1
    exact absurd this (by simp)
theorem of_far (v : List Dot) (hv : Fit v) (d : Nat) (hd : 65536 ≤ d) : ofV v d = 0 := by
  rcases Nat.eq_zero_or_pos (ofV v d) with h | h
  · exact h
  · have := (hv _ (of_in v d h).1).1
    exact absurd this (by simp only; omega)

/-- what may be told: nothing of device 0, nor of devices beyond; numbers that may be. -/
def Tells (f : Nat → Nat) : Prop := f 0 = 0 ∧ (∀ d, 65536 ≤ d → f d = 0) ∧ ∀ d, f d < 281474976710656
theorem tells_of {v : List Dot} (hv : Fit v) : Tells (ofV v) := ⟨of_zero v, of_far v hv, of_lt v⟩
theorem tells_max {f g : Nat → Nat} (hf : Tells f) (hg : Tells g) : Tells (fun d => max (f d) (g d)) :=
  ⟨by show max (f 0) (g 0) = 0; rw [hf.1, hg.1]; rfl, fun d hd => by show max (f d) (g d) = 0; rw [hf.2.1 d hd, hg.2.1 d hd]; rfl, fun d => by have := hf.2.2 d; have := hg.2.2 d; show max (f d) (g d) < _; omega⟩
theorem tells_min {f g : Nat → Nat} (hf : Tells f) (hg : Tells g) : Tells (fun d => min (f d) (g d)) :=
  ⟨by show min (f 0) (g 0) = 0; rw [hf.1, hg.1]; rfl, fun d hd => by show min (f d) (g d) = 0; rw [hf.2.1 d hd, hg.2.1 d hd]; rfl, fun d => by have := hf.2.2 d; have := hg.2.2 d; show min (f d) (g d) < _; omega⟩

/-- how many devices there are. -/
@[irreducible] def topV : Nat := 65536
theorem top_eq : topV = 65536 := by unfold topV; rfl
/-- one dot of a device, if it tells something of it. -/
def oneV (f : Nat → Nat) (d : Nat) : Option Dot := if 0 < f d then some (d, f d) else none
theorem one_some {f : Nat → Nat} {d : Nat} {x : Dot} (h : oneV f d = some x) : x = (d, f d) ∧ 0 < f d := by
  unfold oneV at h
  split at h
  · exact ⟨(Option.some.inj h).symm, by assumption⟩
  · cases h
/-- the vector in order that tells this. -/
def listV (f : Nat → Nat) : List Dot := (List.range topV).filterMap (oneV f)
theorem list_mem {f : Nat → Nat} (hf : Tells f) (x : Dot) : x ∈ listV f ↔ 0 < f x.1 ∧ x.2 = f x.1 := by
  unfold listV
  rw [List.mem_filterMap]
  constructor
  · rintro ⟨d, _, h⟩
    obtain ⟨rfl, h2⟩ := one_some h
    exact ⟨h2, rfl⟩
  · rintro ⟨h1, h2⟩
    refine ⟨x.1, ?_, ?_⟩
    · rw [List.mem_range, top_eq]
      rcases Nat.lt_or_ge x.1 65536 with h | h
      · exact h
      · rw [hf.2.1 _ h] at h1; omega
    · unfold oneV
      rw [if_pos h1, ← h2]
theorem range_up (n : Nat) : (List.range n).Pairwise (fun a b => a < b) := List.pairwise_lt_range
theorem list_up (f : Nat → Nat) (l : List Nat) (h : l.Pairwise (fun a b => a < b)) : (l.filterMap (oneV f)).Pairwise (fun a b => a.1 < b.1) := by
  induction l with
  | nil => exact List.Pairwise.nil
  | cons d l ih =>
    obtain ⟨h1, h2⟩ := List.pairwise_cons.1 h
    rw [List.filterMap_cons]
    split
    · exact ih h2
    · rename_i x hx
      rw [List.pairwise_cons]
      refine ⟨fun y hy => ?_, ih h2⟩
      obtain ⟨e, he, h3⟩ := List.mem_filterMap.1 hy
      obtain ⟨rfl, _⟩ := one_some hx
      obtain ⟨rfl, _⟩ := one_some h3
      exact h1 e he
theorem list_rise (f : Nat → Nat) : (listV f).Pairwise (fun a b => a.1 < b.1) := list_up f _ (range_up _)
theorem list_may {f : Nat → Nat} (hf : Tells f) {x : Dot} (hx : x ∈ listV f) : mayD x = true := by
  obtain ⟨h1, h2⟩ := (list_mem hf x).1 hx
  rw [may_iff]
  refine ⟨?_, by omega, by rw [h2]; exact hf.2.2 _⟩
  rcases Nat.eq_zero_or_pos x.1 with h | h
  · rw [h, hf.1] at h1; omega
  · exact h
theorem list_fit {f : Nat → Nat} (hf : Tells f) : Fit (listV f) := by
  intro r hr
  obtain ⟨h1, h2⟩ := (list_mem hf r).1 hr
  have h3 := hf.2.2 r.1
  refine ⟨?_, by omega⟩
  rcases Nat.lt_or_ge r.1 65536 with h | h
  · exact h
  · rw [hf.2.1 _ h] at h1; omega
theorem list_length (f : Nat → Nat) : (listV f).length ≤ 65536 := by
  have := List.length_filterMap_le (oneV f) (List.range topV)
  rw [List.length_range] at this
  exact Nat.le_trans this (Nat.le_of_eq top_eq)
/-- the vector that tells f tells f. -/
theorem of_list {f : Nat → Nat} (hf : Tells f) (d : Nat) : ofV (listV f) d = f d := by
  rcases Nat.eq_zero_or_pos (ofV (listV f) d) with h | h
  · rcases Nat.eq_zero_or_pos (f d) with h1 | h1
    · omega
    · have h2 : (d, f d) ∈ listV f := (list_mem hf _).2 ⟨h1, rfl⟩
      have h3 := of_most _ _ h2 (list_may hf h2)
      simp only at h3
      omega
  · exact ((list_mem hf _).1 (of_in _ _ h).1).2
theorem of_list' {f : Nat → Nat} (hf : Tells f) : ofV (listV f) = f := funext (of_list hf)

/-! The document's words. -/
def normV (v : List Dot) : List Dot := listV (ofV v)
def joinV (a b : List Dot) : List Dot := listV (fun d => max (ofV a d) (ofV b d))
def meetV (a b : List Dot) : List Dot := listV (fun d => min (ofV a d) (ofV b d))
def putV (v : List Dot) (x : Dot) : List Dot := joinV v [x]
def hasV (v : List Dot) (x : Dot) : Bool := mayD x && decide (x.2 ≤ ofV v x.1)
/-- does the first one tell of no device more? -/
def mostV (a b : List Dot) : Bool := (List.range topV).all (fun d => decide (ofV a d ≤ ofV b d))
def orderV (a b : List Dot) : Int := if mostV a b = true ∧ mostV b a = true then 0 else if mostV a b = true then -1 else if mostV b a = true then 1 else 2
def lackV (a b : List Dot) : Nat := ((List.range topV).map (fun d => ofV b d - ofV a d)).sum
theorem most_iff {a b : List Dot} (ha : Fit a) : mostV a b = true ↔ ∀ d, ofV a d ≤ ofV b d := by
  unfold mostV
  rw [List.all_eq_true]
  constructor
  · intro h d
    rcases Nat.lt_or_ge d 65536 with h1 | h1
    · exact of_decide_eq_true (h d (List.mem_range.2 (by rw [top_eq]; exact h1)))
    · rw [of_far a ha d h1]; exact Nat.zero_le _
  · exact fun h d _ => decide_eq_true (h d)
theorem tells_join {a b : List Dot} (ha : Fit a) (hb : Fit b) : Tells (fun d => max (ofV a d) (ofV b d)) := tells_max (tells_of ha) (tells_of hb)
theorem tells_meet {a b : List Dot} (ha : Fit a) (hb : Fit b) : Tells (fun d => min (ofV a d) (ofV b d)) := tells_min (tells_of ha) (tells_of hb)
theorem of_norm {v : List Dot} (hv : Fit v) : ofV (normV v) = ofV v := of_list' (tells_of hv)
theorem of_join {a b : List Dot} (ha : Fit a) (hb : Fit b) : ofV (joinV a b) = fun d => max (ofV a d) (ofV b d) := of_list' (tells_join ha hb)
theorem of_meet {a b : List Dot} (ha : Fit a) (hb : Fit b) : ofV (meetV a b) = fun d => min (ofV a d) (ofV b d) := of_list' (tells_meet ha hb)
theorem fit_norm {v : List Dot} (hv : Fit v) : Fit (normV v) := list_fit (tells_of hv)
theorem fit_join {a b : List Dot} (ha : Fit a) (hb : Fit b) : Fit (joinV a b) := list_fit (tells_join ha hb)
theorem fit_meet {a b : List Dot} (ha : Fit a) (hb : Fit b) : Fit (meetV a b) := list_fit (tells_meet ha hb)
theorem fit_one {x : Dot} (h1 : x.1 < 65536) (h2 : x.2 < 18446744073709551616) : Fit [x] := fun r hr => by rw [List.mem_singleton.1 hr]; exact ⟨h1, h2⟩
theorem of_put {v : List Dot} {x : Dot} (hv : Fit v) (hx : Fit [x]) : ofV (putV v x) = fun d => max (ofV v d) (if x.1 = d ∧ mayD x = true then x.2 else 0) := by
  unfold putV
  rw [of_join hv hx]
  funext d
  rw [of_one]
/-- of a dot that may not be nothing is told. -/
theorem put_bad {v : List Dot} {x : Dot} (h : mayD x = false) : putV v x = normV v := by
  unfold putV joinV normV
  congr 1
  funext d
  rw [of_one, if_neg (fun h' => by rw [h] at h'; exact absurd h'.2 (by simp))]
  exact Nat.max_zero _

/-! The laws. -/
theorem has_join {a b : List Dot} (ha : Fit a) (hb : Fit b) (x : Dot) : hasV (joinV a b) x = (hasV a x || hasV b x) := by
  unfold hasV
  rw [of_join ha hb]
  cases mayD x with
  | false => rfl
  | true =>
    simp only [Bool.true_and]
    by_cases h1 : x.2 ≤ ofV a x.1 <;> by_cases h2 : x.2 ≤ ofV b x.1 <;> simp [h1, h2] <;> omega
theorem has_meet {a b : List Dot} (ha : Fit a) (hb : Fit b) (x : Dot) : hasV (meetV a b) x = (hasV a x && hasV b x) := by
  unfold hasV
  rw [of_meet ha hb]
  cases mayD x with
  | false => rfl
  | true =>
    simp only [Bool.true_and]
    by_cases h1 : x.2 ≤ ofV a x.1 <;> by_cases h2 : x.2 ≤ ofV b x.1 <;> simp [h1, h2] <;> omega
theorem sum_zero (l : List Nat) (f : Nat → Nat) : (l.map f).sum = 0 ↔ ∀ d ∈ l, f d = 0 := by
  induction l with
  | nil => simp
  | cons d l ih => rw [List.map_cons, List.sum_cons, Nat.add_eq_zero_iff, ih]; simp
theorem sum_most (l : List Nat) (f : Nat → Nat) (m : Nat) (h : ∀ d, f d ≤ m) : (l.map f).sum ≤ l.length * m := by
  induction l with
  | nil => simp
  | cons d l ih =>
    have := h d
    rw [List.map_cons, List.sum_cons, List.length_cons, Nat.add_mul]
    omega
theorem lack_zero {a b : List Dot} (hb : Fit b) : lackV a b = 0 ↔ mostV b a = true := by
  unfold lackV
  rw [sum_zero, most_iff hb]
  constructor
  · intro h d
    rcases Nat.lt_or_ge d 65536 with h1 | h1
    · have := h d (List.mem_range.2 (by rw [top_eq]; exact h1)); omega
    · rw [of_far b hb d h1]; exact Nat.zero_le _
  · intro h d _
    have := h d
    omega
theorem lack_lt (a b : List Dot) : lackV a b < 18446744073709551616 := by
  unfold lackV
  have h0 : (List.range topV).map (fun d => ofV b d - ofV a d) = (ofV b 0 - ofV a 0) :: (List.range 65535).map (fun d => ofV b (d + 1) - ofV a (d + 1)) := by
    rw [show topV = 65535 + 1 from top_eq, List.range_succ_eq_map, List.map_cons, List.map_map]; rfl
  rw [h0, List.sum_cons, of_zero, of_zero]
  have := sum_most (List.range 65535) (fun d => ofV b (d + 1) - ofV a (d + 1)) 281474976710655 (fun d => by have := of_lt b (d + 1); omega)
  rw [List.length_range] at this
  omega
theorem order_low {a b : List Dot} : (orderV a b = 0 ∨ orderV a b = -1) ↔ mostV a b = true := by
  unfold orderV
  cases mostV a b <;> cases mostV b a <;> simp
theorem order_high {a b : List Dot} : (orderV a b = 0 ∨ orderV a b = 1) ↔ mostV b a = true := by
  unfold orderV
  cases mostV a b <;> cases mostV b a <;> simp
theorem most_put {a : List Dot} {x : Dot} (ha : Fit a) (hx : Fit [x]) : mostV a (putV a x) = true := by
  rw [most_iff ha, of_put ha hx]
  intro d
  exact Nat.le_max_left _ _
theorem has_put {a : List Dot} {x : Dot} (ha : Fit a) (hx : Fit [x]) : hasV (putV a x) x = mayD x := by
  unfold hasV
  rw [of_put ha hx]
  cases h : mayD x with
  | false => rfl
  | true => simp; omega
theorem join_comm (a b : List Dot) : joinV a b = joinV b a := by
  unfold joinV
  congr 1
  funext d
  exact Nat.max_comm _ _
theorem join_assoc {a b c : List Dot} (ha : Fit a) (hb : Fit b) (hc : Fit c) : joinV (joinV a b) c = joinV a (joinV b c) := by
  show listV (fun d => max (ofV (joinV a b) d) (ofV c d)) = listV (fun d => max (ofV a d) (ofV (joinV b c) d))
  rw [of_join ha hb, of_join hb hc]
  congr 1
  funext d
  exact Nat.max_assoc _ _ _
theorem meet_assoc {a b c : List Dot} (ha : Fit a) (hb : Fit b) (hc : Fit c) : meetV (meetV a b) c = meetV a (meetV b c) := by
  show listV (fun d => min (ofV (meetV a b) d) (ofV c d)) = listV (fun d => min (ofV a d) (ofV (meetV b c) d))
  rw [of_meet ha hb, of_meet hb hc]
  congr 1
  funext d
  exact Nat.min_assoc _ _ _
theorem join_self (a : List Dot) : joinV a a = normV a := by
  unfold joinV normV
  congr 1
  funext d
  exact Nat.max_self _
theorem meet_join {a b : List Dot} (ha : Fit a) (hb : Fit b) : meetV a (joinV a b) = normV a := by
  rw [meetV, of_join ha hb, normV]
  congr 1
  funext d
  simp only
  omega
theorem join_meet {a b : List Dot} (ha : Fit a) (hb : Fit b) : joinV a (meetV a b) = normV a := by
  rw [joinV, of_meet ha hb, normV]
  congr 1
  funext d
  simp only
  omega
theorem norm_norm {a : List Dot} (ha : Fit a) : normV (normV a) = normV a := by
  rw [normV, of_norm ha]; rfl
theorem order_norm {a : List Dot} (ha : Fit a) : orderV a (normV a) = 0 := by
  have h1 : mostV a (normV a) = true := (most_iff ha).2 (fun d => by rw [of_norm ha]; exact Nat.le_refl _)
  have h2 : mostV (normV a) a = true := (most_iff (fit_norm ha)).2 (fun d => by rw [of_norm ha]; exact Nat.le_refl _)
  unfold orderV
  rw [if_pos ⟨h1, h2⟩]
/-- in order: the vector that tells what it tells. -/
def goodV (v : List Dot) : Bool := decide (v = normV v)
theorem good_norm {a : List Dot} (ha : Fit a) : goodV (normV a) = true := decide_eq_true (norm_norm ha).symm
/-- a list that rises by device, of dots that may be, is in order. -/
theorem good_rise {v : List Dot} (hv : Fit v) : goodV v = true ↔ v.Pairwise (fun a b => a.1 < b.1) ∧ ∀ x ∈ v, mayD x = true := by
  unfold goodV
  rw [decide_eq_true_iff]
  constructor
  · intro h
    rw [h]
    exact ⟨list_rise _, fun x hx => list_may (tells_of hv) hx⟩
  · rintro ⟨h1, h2⟩
    have key : ∀ (l m : List Dot), l.Pairwise (fun a b => a.1 < b.1) → m.Pairwise (fun a b => a.1 < b.1) → (∀ x, x ∈ l ↔ x ∈ m) → l = m := by
      intro l
      induction l with
      | nil =>
        intro m _ _ h
        cases m with
        | nil => rfl
        | cons b m => exact absurd ((h b).2 (List.mem_cons_self ..)) (by simp)
      | cons a l ih =>
        intro m hl hm h
        cases m with
        | nil => exact absurd ((h a).1 (List.mem_cons_self ..)) (by simp)
        | cons b m =>
          obtain ⟨hl1, hl2⟩ := List.pairwise_cons.1 hl
          obtain ⟨hm1, hm2⟩ := List.pairwise_cons.1 hm
          have hab : a = b := by
            rcases List.mem_cons.1 ((h a).1 (List.mem_cons_self ..)) with h1 | h1
            · exact h1
            · rcases List.mem_cons.1 ((h b).2 (List.mem_cons_self ..)) with h2 | h2
              · exact h2.symm
              · have h3 := hm1 a h1
                have h4 := hl1 b h2
                omega
          subst hab
          congr 1
          refine ih m hl2 hm2 fun x => ⟨fun hx => ?_, fun hx => ?_⟩
          · rcases List.mem_cons.1 ((h x).1 (List.mem_cons_of_mem _ hx)) with h1 | h1
            · have := hl1 x hx; rw [h1] at this; omega
            · exact h1
          · rcases List.mem_cons.1 ((h x).2 (List.mem_cons_of_mem _ hx)) with h1 | h1
            · have := hm1 x hx; rw [h1] at this; omega
            · exact h1
    refine key v (normV v) h1 (list_rise _) fun x => ?_
    unfold normV
    rw [list_mem (tells_of hv)]
    constructor
    · intro hx
      have hm := h2 x hx
      have h3 := of_most v x hx hm
      have h4 := (may_iff x).1 hm
      refine ⟨by omega, ?_⟩
      have h5 := (of_in v x.1 (by omega)).1
      -- one dot of a device
      have : (x.1, ofV v x.1) = x := by
        have hp : ∀ (l : List Dot), l.Pairwise (fun a b => a.1 < b.1) → ∀ a ∈ l, ∀ b ∈ l, a.1 = b.1 → a = b := by
          intro l hl a ha b hb hab
          induction l with
          | nil => cases ha
          | cons c l ih =>
            obtain ⟨g1, g2⟩ := List.pairwise_cons.1 hl
            rcases List.mem_cons.1 ha with e1 | ha1 <;> rcases List.mem_cons.1 hb with e2 | hb1
            · rw [e1, e2]
            · have := g1 b hb1; rw [← e1] at this; omega
            · have := g1 a ha1; rw [← e2] at this; omega
            · exact ih g2 ha1 hb1
        exact hp v h1 _ h5 x hx rfl
      have h6 := congrArg Prod.snd this
      exact h6.symm
    · rintro ⟨g1, g2⟩
      have h5 := (of_in v x.1 g1).1
      rw [← g2] at h5
      exact h5
end Go.Proofs.Ytmhghgogehmehaa.Dt

/- Contexts as what they tell: of each device runs in order. Plain arithmetic; no program is named here. -/
namespace Go.Proofs.Ytmhghgogehmehaa.Cx
set_option linter.unusedVariables false

abbrev Run := Ru.Run
abbrev Dot := Dt.Dot
abbrev Part := Nat × List Run
theorem fit_runs {l : List Run} (h : Ru.InOrder l) : Ru.Fit l := fun r hr => by
  have := (Ru.may_iff r).1 (h.1 r hr)
  exact ⟨by omega, by omega⟩
/-- a part of its types. -/
def FitC (c : List Part) : Prop := ∀ x ∈ c, x.1 < 65536 ∧ Ru.Fit x.2
/-- what a context has of a device. -/
def stepC (d : Nat) (o : List Run) (x : Part) : List Run := if x.1 = d ∧ d ≠ 0 then Ru.setL o x.2 0 else o
def runsC (c : List Part) (d : Nat) : List Run := c.foldl (stepC d) []
theorem runs_nil (d : Nat) : runsC [] d = [] := rfl
theorem runs_from (c : List Part) (d : Nat) (o : List Run) (ho : Ru.InOrder o) : Ru.InOrder (c.foldl (stepC d) o) ∧ (∀ n, Ru.has (c.foldl (stepC d) o) n = (Ru.has o n || (decide (d ≠ 0) && c.any (fun x => decide (x.1 = d) && Ru.has x.2 n)))) ∧
    (c.foldl (stepC d) o).length ≤ o.length + (c.map (fun x => x.2.length)).sum := by
  induction c generalizing o with
  | nil => exact ⟨ho, fun n => by simp, by simp⟩
  | cons x c ih =>
    rw [List.foldl_cons]
    by_cases hx : x.1 = d ∧ d ≠ 0
    · rw [show stepC d o x = Ru.setL o x.2 0 from if_pos hx]
      obtain ⟨h1, h2, h3⟩ := ih (Ru.setL o x.2 0) (Ru.set_spec o x.2 0).1
      refine ⟨h1, fun n => ?_, ?_⟩
      · rw [h2, Ru.has0, List.any_cons, decide_eq_true hx.1, decide_eq_true hx.2]
        cases Ru.has o n <;> cases Ru.has x.2 n <;> simp
      · have := Ru.set_length0 o x.2
        rw [List.map_cons, List.sum_cons]
        omega
    · rw [show stepC d o x = o from if_neg hx]
      obtain ⟨h1, h2, h3⟩ := ih o ho
      refine ⟨h1, fun n => ?_, ?_⟩
      · rw [h2, List.any_cons]
        by_cases hd : d = 0
        · simp [hd]
        · have : ¬ x.1 = d := fun h => hx ⟨h, hd⟩
          simp [this]
      · rw [List.map_cons, List.sum_cons]
        omega
theorem runs_order (c : List Part) (d : Nat) : Ru.InOrder (runsC c d) := (runs_from c d [] Ru.order_nil).1
theorem runs_has (c : List Part) (d n : Nat) : Ru.has (runsC c d) n = (decide (d ≠ 0) && c.any (fun x => decide (x.1 = d) && Ru.has x.2 n)) := by
  rw [show runsC c d = c.foldl (stepC d) [] from rfl, (runs_from c d [] Ru.order_nil).2.1]; simp [Ru.has_nil]
theorem runs_length (c : List Part) (d : Nat) : (runsC c d).length ≤ (c.map (fun x => x.2.length)).sum := by
  have := (runs_from c d [] Ru.order_nil).2.2
  simpa [runsC] using this
theorem runs_empty {c : List Part} {d : Nat} (h : d = 0 ∨ ∀ x ∈ c, x.1 ≠ d) : runsC c d = [] := by
  refine Ru.empty_of (runs_order c d) fun n => ?_
  rw [runs_has]
  rcases h with h | h
  · simp [h]
  · have : c.any (fun x => decide (x.1 = d) && Ru.has x.2 n) = false := by
      rw [List.any_eq_false]
      intro x hx
      simp [h x hx]
    rw [this, Bool.and_false]
theorem runs_zero (c : List Part) : runsC c 0 = [] := runs_empty (.inl rfl)
theorem runs_far {c : List Part} (hc : FitC c) {d : Nat} (hd : 65536 ≤ d) : runsC c d = [] := runs_empty (.inr fun x hx => by have := (hc x hx).1; omega)

/-- what may be told: nothing of device 0, nor of devices beyond; runs in order. -/
structure Tells (f : Nat → List Run) : Prop where
  zero : f 0 = []
  far : ∀ d, 65536 ≤ d → f d = []
  order : ∀ d, Ru.InOrder (f d)
theorem tells_runs {c : List Part} (hc : FitC c) : Tells (runsC c) := ⟨runs_zero c, fun d hd => runs_far hc hd, runs_order c⟩
theorem set_nil (how : Int) : Ru.setL [] [] how = [] := Ru.empty_of (Ru.set_spec _ _ _).1 fun n => by rw [(Ru.set_spec [] [] how).2, Ru.has_nil]; exact Ru.inB_ff how
theorem tells_set {f g : Nat → List Run} (hf : Tells f) (hg : Tells g) (how : Int) : Tells (fun d => Ru.setL (f d) (g d) how) :=
  ⟨by show Ru.setL (f 0) (g 0) how = []; rw [hf.zero, hg.zero, set_nil], fun d hd => by show Ru.setL (f d) (g d) how = []; rw [hf.far d hd, hg.far d hd, set_nil], fun d => (Ru.set_spec _ _ _).1⟩
def oneC (f : Nat → List Run) (d : Nat) : Option Part := if (f d).length = 0 then none else some (d, f d)
/-- the context in order that tells this. -/
def listC (f : Nat → List Run) : List Part := (List.range Dt.topV).filterMap (oneC f)
theorem list_mem {f : Nat → List Run} (hf : Tells f) (x : Part) : x ∈ listC f ↔ x.2 = f x.1 ∧ f x.1 ≠ [] := by
  unfold listC
  rw [List.mem_filterMap]
  constructor
  · rintro ⟨d, _, h⟩
    unfold oneC at h
    split at h
    · cases h
    · rename_i h0
      cases h
      exact ⟨rfl, fun h => h0 (by show (f d).length = 0; rw [show f d = [] from h]; rfl)⟩
  · rintro ⟨h1, h2⟩
    refine ⟨x.1, ?_, ?_⟩
    · rw [List.mem_range, Dt.top_eq]
      rcases Nat.lt_or_ge x.1 65536 with h | h
      · exact h
      · exact absurd (hf.far _ h) h2
    · unfold oneC
      rw [if_neg (fun h => h2 (List.eq_nil_of_length_eq_zero h)), ← h1]
theorem list_up (f : Nat → List Run) (l : List Nat) (h : l.Pairwise (fun a b => a < b)) : (l.filterMap (oneC f)).Pairwise (fun a b => a.1 < b.1) := by
  induction l with
  | nil => exact List.Pairwise.nil
  | cons d l ih =>
    obtain ⟨h1, h2⟩ := List.pairwise_cons.1 h
    rw [List.filterMap_cons]
    split
    · exact ih h2
    · rename_i x hx
      rw [List.pairwise_cons]
      refine ⟨fun y hy => ?_, ih h2⟩
      obtain ⟨e, he, h3⟩ := List.mem_filterMap.1 hy
      unfold oneC at hx h3
      split at hx
      · cases hx
      · split at h3
        · cases h3
        · cases hx; cases h3; exact h1 e he
theorem list_rise (f : Nat → List Run) : (listC f).Pairwise (fun a b => a.1 < b.1) := list_up f _ (Dt.range_up _)
theorem list_length (f : Nat → List Run) : (listC f).length ≤ 65536 := by
  have := List.length_filterMap_le (oneC f) (List.range Dt.topV)
  rw [List.length_range] at this
  exact Nat.le_trans this (Nat.le_of_eq Dt.top_eq)
theorem list_fit {f : Nat → List Run} (hf : Tells f) : FitC (listC f) := fun x hx => by
  obtain ⟨h1, h2⟩ := (list_mem hf x).1 hx
  refine ⟨?_, by rw [h1]; exact fit_runs (hf.order _)⟩
  rcases Nat.lt_or_ge x.1 65536 with h | h
  · exact h
  · exact absurd (hf.far _ h) h2
/-- the context that tells f tells f. -/
theorem runs_list {f : Nat → List Run} (hf : Tells f) : runsC (listC f) = f := by
  funext d
  refine Ru.uniq (runs_order _ d) (hf.order d) fun n => ?_
  rw [runs_has]
  by_cases hd : d = 0
  · subst hd; rw [hf.zero]; simp [Ru.has_nil]
  · rw [decide_eq_true hd, Bool.true_and]
    cases h : Ru.has (f d) n with
    | true =>
      rw [List.any_eq_true]
      refine ⟨(d, f d), (list_mem hf _).2 ⟨rfl, fun h2 => ?_⟩, by simp [h]⟩
      rw [show f d = [] from h2, Ru.has_nil] at h; cases h
    | false =>
      rw [List.any_eq_false]
      intro x hx
      obtain ⟨h1, _⟩ := (list_mem hf x).1 hx
      by_cases hx2 : x.1 = d
      · rw [h1, hx2, h]; simp
      · simp [hx2]

/-! The document's words. -/
def setC (a b : List Part) (how : Int) : List Part := listC (fun d => Ru.setL (runsC a d) (runsC b d) how)
def normC (c : List Part) : List Part := listC (runsC c)
theorem tells_both {a b : List Part} (ha : FitC a) (hb : FitC b) (how : Int) : Tells (fun d => Ru.setL (runsC a d) (runsC b d) how) := tells_set (tells_runs ha) (tells_runs hb) how
theorem runs_set {a b : List Part} (ha : FitC a) (hb : FitC b) (how : Int) : runsC (setC a b how) = fun d => Ru.setL (runsC a d) (runsC b d) how := runs_list (tells_both ha hb how)
theorem runs_norm {c : List Part} (hc : FitC c) : runsC (normC c) = runsC c := runs_list (tells_runs hc)
theorem fit_set {a b : List Part} (ha : FitC a) (hb : FitC b) (how : Int) : FitC (setC a b how) := list_fit (tells_both ha hb how)
theorem fit_norm {c : List Part} (hc : FitC c) : FitC (normC c) := list_fit (tells_runs hc)
/-- what is in order already is its own norm. -/
theorem set_self {l : List Run} (h : Ru.InOrder l) : Ru.setL l [] 0 = l := Ru.uniq (Ru.set_spec _ _ _).1 h fun n => by rw [Ru.has0, Ru.has_nil, Bool.or_false]
theorem norm_set (c : List Part) : setC c [] 0 = normC c := by
  unfold setC normC
  congr 1
  funext d
  exact set_self (runs_order c d)
def hasC (c : List Part) (x : Dot) : Bool := Dt.mayD x && Ru.has (runsC c x.1) x.2
def goodC (c : List Part) : Bool := decide (c = normC c)
def withinC (a b : List Part) : Bool := decide (setC a b 2 = [])
def sameC (a b : List Part) : Bool := decide (normC a = normC b)
def onlyC (c : List Part) (d : Nat) : List Part := if (runsC c d).length = 0 then [] else [(d, runsC c d)]
def ofC (l : List Dot) : List Part := l.foldl (fun o x => if Dt.mayD x = true then setC o [(x.1, [(x.2, x.2)])] 0 else o) []
def sizeC (c : List Part) : Nat := ((normC c).map (fun x => Ru.sizeR x.2)).sum
def baseC (c : List Part) : List Dot := (normC c).filterMap (fun x => if 1 < Ru.firstR x.2 then some (x.1, Ru.firstR x.2 - 1) else none)
def plainC (v : List Dot) : List Part := (Dt.normV v).map (fun x => (x.1, [(1, x.2)]))
end Go.Proofs.Ytmhghgogehmehaa.Cx

/- Dots and contexts as bytes, and what a reader makes of any bytes. Plain: nothing is asked of a program. -/
namespace Go.Proofs.Ytmhghgogehmehaa.Dc
open Go.ChangeShapes Go.WideShapes Go.ChangeAt Go.RowKit
set_option linter.unusedVariables false

abbrev Dot := Dt.Dot
abbrev Run := Ru.Run
abbrev Part := Cx.Part
/-- numbers that fit 64 bits. -/
abbrev big : Nat := 18446744073709551616

/-! ### Written -/
def dotB (d : Dot) : List Nat := Nu.enc d.1 ++ Nu.enc d.2
/-- of any dots those that may be, in order, each once. -/
def someD (l : List Dot) : List Dot := Dt.sortD (l.filter Dt.mayD)
def dotsB (l : List Dot) : List Nat := Nu.enc l.length ++ l.flatMap dotB
def runB (r : Run) : List Nat := Nu.enc r.1 ++ Nu.enc r.2
def partB (p : Part) : List Nat := Nu.enc p.1 ++ (Nu.enc p.2.length ++ p.2.flatMap runB)
def ctxB (c : List Part) : List Nat := Nu.enc c.length ++ c.flatMap partB
theorem dotB_small (d : Dot) : Nu.Small (dotB d) := Nu.small_append (Nu.enc_small _) (Nu.enc_small _)
theorem small_flat {α : Type} {f : α → List Nat} (h : ∀ x, Nu.Small (f x)) (l : List α) : Nu.Small (l.flatMap f) := fun x hx => by
  obtain ⟨y, _, h2⟩ := List.mem_flatMap.1 hx
  exact h y x h2
theorem dotsB_small (l : List Dot) : Nu.Small (dotsB l) := Nu.small_append (Nu.enc_small _) (small_flat dotB_small l)
theorem runB_small (r : Run) : Nu.Small (runB r) := Nu.small_append (Nu.enc_small _) (Nu.enc_small _)
theorem partB_small (p : Part) : Nu.Small (partB p) := Nu.small_append (Nu.enc_small _) (Nu.small_append (Nu.enc_small _) (small_flat runB_small _))
theorem ctxB_small (c : List Part) : Nu.Small (ctxB c) := Nu.small_append (Nu.enc_small _) (small_flat partB_small c)
theorem enc_le (v : Nat) : (Nu.enc v).length ≤ 9 := by rw [Nu.enc_length]; have := Nu.blen_le v; omega
theorem flat_le {α : Type} {f : α → List Nat} {k : Nat} (h : ∀ x, (f x).length ≤ k) (l : List α) : (l.flatMap f).length ≤ l.length * k := by
  induction l with
  | nil => simp
  | cons x l ih =>
    have := h x
    rw [List.flatMap_cons, List.length_append, List.length_cons, Nat.add_mul]
    omega
theorem dotB_le (d : Dot) : (dotB d).length ≤ 18 := by unfold dotB; rw [List.length_append]; have := enc_le d.1; have := enc_le d.2; omega
theorem runB_le (r : Run) : (runB r).length ≤ 18 := by unfold runB; rw [List.length_append]; have := enc_le r.1; have := enc_le r.2; omega
theorem flat_snoc {α : Type} {f : α → List Nat} {l : List α} {k : Nat} {x : α} (h : l[k]? = some x) : (l.take (k + 1)).flatMap f = (l.take k).flatMap f ++ f x := by
  rw [List.take_add_one, h, List.flatMap_append]
  simp

/-! ### Read -/
/-- what is left to a reader, and the first error. -/
abbrev St := List Nat × Nat
def numN (s : St) : Nat := Nu.numV s.1
def numS (s : St) : St := (Nu.numL s.1, Nu.stopE s.2 (Nu.numE s.1))
def uptoN (m : Nat) (s : St) : Nat := Nu.uptoV m s.1
def uptoS (m : Nat) (s : St) : St := (Nu.uptoL m s.1, Nu.uptoE m s.1 s.2)
def failS (f : Nat) (s : St) : St := ([], Nu.stopE s.2 f)
/-- with an error nothing is left. -/
def Sound (s : St) : Prop := s.2 ≠ 0 → s.1 = []
theorem stop_ne {e f : Nat} (h : f ≠ 0) : Nu.stopE e f ≠ 0 := by
  unfold Nu.stopE; split
  · exact h
  · assumption
theorem stop_nz {e f : Nat} (h : e ≠ 0) : Nu.stopE e f = e := Nu.stop_some h f
theorem stop_iff {e f : Nat} : Nu.stopE e f = 0 ↔ e = 0 ∧ f = 0 := by
  unfold Nu.stopE; split <;> omega
theorem fail_sound (f : Nat) (s : St) : Sound (failS f s) := fun _ => rfl
theorem num_sound {s : St} (h : Sound s) : Sound (numS s) := fun hn => by
  show Nu.numL s.1 = []
  by_cases he : s.2 = 0
  · have h2 : Nu.numE s.1 ≠ 0 := fun e => hn (stop_iff.2 ⟨he, e⟩)
    exact (Nu.numL_bad h2).1
  · rw [h he]; rfl
theorem upto_sound {m : Nat} {s : St} (h : Sound s) : Sound (uptoS m s) := fun hn => by
  show Nu.uptoL m s.1 = []
  unfold Nu.uptoL
  by_cases hm : m < Nu.numV s.1
  · rw [if_pos hm]
  · rw [if_neg hm]
    have h2 : (uptoS m s).2 = (numS s).2 := by show Nu.uptoE m s.1 s.2 = _; unfold Nu.uptoE; rw [if_neg hm]; rfl
    rw [h2] at hn
    exact num_sound h hn
theorem small_numL {l : List Nat} (h : Nu.Small l) : Nu.Small (Nu.numL l) := by
  cases l with
  | nil => exact h
  | cons x r =>
    rw [Nu.numL_cons]
    split
    · exact Nu.small_drop (fun y hy => h y (List.mem_cons_of_mem _ hy)) x
    · intro y hy; cases hy
theorem num_small {s : St} (h : Nu.Small s.1) : Nu.Small (numS s).1 := small_numL h
theorem upto_small {m : Nat} {s : St} (h : Nu.Small s.1) : Nu.Small (uptoS m s).1 := by
  show Nu.Small (Nu.uptoL m s.1)
  unfold Nu.uptoL
  split
  · intro y hy; cases hy
  · exact small_numL h
theorem num_shorter (l : List Nat) : (Nu.numL l).length ≤ l.length ∧ (Nu.numE l = 0 → (Nu.numL l).length < l.length) := by
  cases l with
  | nil => exact ⟨Nat.le_refl _, fun h => by cases h⟩
  | cons x r =>
    rw [Nu.numL_cons]
    split
    · rw [List.length_drop, List.length_cons]; exact ⟨by omega, fun _ => by omega⟩
    · rw [List.length_nil, List.length_cons]; exact ⟨by omega, fun _ => by omega⟩
theorem numS_len (s : St) : (numS s).1.length ≤ s.1.length := (num_shorter s.1).1
theorem numS_ok {s : St} (h : (numS s).2 = 0) : s.2 = 0 ∧ Nu.numE s.1 = 0 ∧ (numS s).1.length < s.1.length := by
  have h1 := stop_iff.1 h
  exact ⟨h1.1, h1.2, (num_shorter s.1).2 h1.2⟩
theorem uptoS_len (m : Nat) (s : St) : (uptoS m s).1.length ≤ s.1.length := by
  show (Nu.uptoL m s.1).length ≤ _
  unfold Nu.uptoL
  split
  · simp
  · exact (num_shorter s.1).1
theorem uptoS_ok {m : Nat} {s : St} (h : (uptoS m s).2 = 0) : s.2 = 0 ∧ Nu.numV s.1 ≤ m ∧ uptoS m s = numS s ∧ uptoN m s = numN s := by
  have hm : ¬ m < Nu.numV s.1 := fun hm => by
    have h2 : (uptoS m s).2 = Nu.stopE (Nu.stopE s.2 (Nu.numE s.1)) 4 := by show Nu.uptoE m s.1 s.2 = _; unfold Nu.uptoE; rw [if_pos hm]
    rw [h2] at h
    exact stop_ne (by decide) h
  have e1 : uptoS m s = numS s := by
    show (Nu.uptoL m s.1, Nu.uptoE m s.1 s.2) = _
    unfold Nu.uptoL Nu.uptoE
    rw [if_neg hm, if_neg hm]
    rfl
  refine ⟨?_, by omega, e1, ?_⟩
  · rw [e1] at h; exact (numS_ok h).1
  · show Nu.uptoV m s.1 = _
    unfold Nu.uptoV
    rw [if_neg hm]; rfl
theorem uptoN_le (m : Nat) (s : St) : uptoN m s ≤ m := by
  show Nu.uptoV m s.1 ≤ m
  unfold Nu.uptoV
  split <;> omega
/-- a number stands there in its only form. -/
theorem num_in {l : List Nat} (hs : Nu.Small l) (h : Nu.numE l = 0) : l = Nu.enc (Nu.numV l) ++ Nu.numL l ∧ Nu.numV l < big := by
  refine ⟨?_, Nu.numV_lt hs⟩
  cases l with
  | nil => cases h
  | cons x r =>
    rw [Nu.numE_cons] at h
    by_cases hf : Nu.form x r = true
    · rw [if_pos hf] at h
      by_cases hl : x ≤ r.length
      · rw [Nu.numV_cons, Nu.numL_cons, if_pos ⟨hf, hl⟩, if_pos ⟨hf, hl⟩]
        obtain ⟨h8, hz⟩ := Nu.form_true hf
        have hst : Nu.Small (r.take x) := Nu.small_take (fun z hz => hs z (List.mem_cons_of_mem _ hz)) x
        obtain ⟨e1, _⟩ := Nu.enc_val (n := x) (t := r.take x) h8 (by rw [List.length_take]; omega) hst (fun z hz' => by
          rcases hz with h | h
          · subst h; simp at hz'
          · intro h'; subst h'
            apply h
            rw [List.getElem?_take] at hz'
            split at hz'
            · exact hz'
            · cases hz')
        rw [e1, List.cons_append, List.take_append_drop]
      · rw [if_neg hl] at h; cases h
    · rw [if_neg hf] at h; cases h
theorem numS_in {s : St} (hs : Nu.Small s.1) (h : (numS s).2 = 0) : s.1 = Nu.enc (numN s) ++ (numS s).1 ∧ numN s < big := num_in hs (numS_ok h).2.1
/-- what was written is read. -/
theorem num_back {v : Nat} (hv : v < big) (r : List Nat) : Nu.numV (Nu.enc v ++ r) = v ∧ Nu.numL (Nu.enc v ++ r) = r ∧ Nu.numE (Nu.enc v ++ r) = 0 := by
  have ht : (Nu.dig (Nu.blen v) v ++ r).take (Nu.blen v) = Nu.dig (Nu.blen v) v := by
    have := List.take_left (l₁ := Nu.dig (Nu.blen v) v) (l₂ := r)
    rwa [Nu.dig_length] at this
  have hd : (Nu.dig (Nu.blen v) v ++ r).drop (Nu.blen v) = r := by
    have := List.drop_left (l₁ := Nu.dig (Nu.blen v) v) (l₂ := r)
    rwa [Nu.dig_length] at this
  have hf : Nu.form (Nu.blen v) (Nu.dig (Nu.blen v) v ++ r) = true := by
    refine decide_eq_true ⟨Nu.blen_le v, ?_⟩
    cases hb : Nu.blen v with
    | zero => exact .inl rfl
    | succ b =>
      have hh := Nu.dig_head hv hb
      exact .inr (by simpa [Nu.dig] using hh)
  have hl : Nu.blen v ≤ (Nu.dig (Nu.blen v) v ++ r).length := by rw [List.length_append, Nu.dig_length]; omega
  have e : Nu.enc v ++ r = Nu.blen v :: (Nu.dig (Nu.blen v) v ++ r) := rfl
  rw [e, Nu.numV_cons, Nu.numL_cons, Nu.numE_cons, if_pos ⟨hf, hl⟩, if_pos ⟨hf, hl⟩, if_pos hf, if_pos hl, ht, hd]
  exact ⟨Nu.val_enc hv, rfl, rfl⟩
theorem numS_back {v : Nat} (hv : v < big) (r : List Nat) : numN (Nu.enc v ++ r, 0) = v ∧ numS (Nu.enc v ++ r, 0) = (r, 0) := by
  obtain ⟨h1, h2, h3⟩ := num_back hv r
  refine ⟨h1, ?_⟩
  show (Nu.numL (Nu.enc v ++ r), Nu.stopE 0 (Nu.numE (Nu.enc v ++ r))) = _
  rw [h2, h3]; rfl
theorem uptoS_back {m v : Nat} (hv : v < big) (hm : v ≤ m) (r : List Nat) : uptoN m (Nu.enc v ++ r, 0) = v ∧ uptoS m (Nu.enc v ++ r, 0) = (r, 0) := by
  obtain ⟨h1, h2, h3⟩ := num_back hv r
  have hn : ¬ m < Nu.numV (Nu.enc v ++ r) := by rw [h1]; omega
  refine ⟨?_, ?_⟩
  · show Nu.uptoV m (Nu.enc v ++ r) = v
    unfold Nu.uptoV
    rw [if_neg hn]; exact h1
  · show (Nu.uptoL m (Nu.enc v ++ r), Nu.uptoE m (Nu.enc v ++ r) 0) = _
    unfold Nu.uptoL Nu.uptoE
    rw [if_neg hn, if_neg hn, h2, h3]; rfl

/-! ### Dots -/
/-- the dot whose numbers stand there. -/
def dotN (s : St) : Dot := (uptoN 65535 s, numN (uptoS 65535 s))
def dotS (s : St) : St := numS (uptoS 65535 s)
def dotR (s : St) : Dot × St := if (dotS s).2 = 0 ∧ Dt.mayD (dotN s) = true then (dotN s, dotS s) else ((0, 0), failS 4 (dotS s))
theorem dotS_sound {s : St} (h : Sound s) : Sound (dotS s) := num_sound (upto_sound h)
theorem dotR_sound {s : St} (h : Sound s) : Sound (dotR s).2 := by
  unfold dotR
  split
  · exact dotS_sound h
  · exact fail_sound _ _
theorem dotR_ok {s : St} (h : (dotR s).2.2 = 0) : (dotS s).2 = 0 ∧ Dt.mayD (dotN s) = true ∧ dotR s = (dotN s, dotS s) := by
  unfold dotR at h ⊢
  by_cases hc : (dotS s).2 = 0 ∧ Dt.mayD (dotN s) = true
  · rw [if_pos hc]; exact ⟨hc.1, hc.2, rfl⟩
  · rw [if_neg hc] at h
    exact absurd h (stop_ne (by decide))
theorem dotR_bad {s : St} (h : (dotR s).2.2 ≠ 0) : (dotR s).1 = (0, 0) := by
  unfold dotR at h ⊢
  by_cases hc : (dotS s).2 = 0 ∧ Dt.mayD (dotN s) = true
  · rw [if_pos hc] at h; exact absurd hc.1 h
  · rw [if_neg hc]
theorem dotR_small {s : St} (h : Nu.Small s.1) : Nu.Small (dotR s).2.1 := by
  unfold dotR
  split
  · exact num_small (upto_small h)
  · intro x hx; cases hx
theorem dotN_fit {s : St} (h : Nu.Small s.1) : (dotN s).1 < 65536 ∧ (dotN s).2 < big := ⟨by have := uptoN_le 65535 s; show uptoN 65535 s < 65536; omega, Nu.numV_lt (upto_small h)⟩
theorem dotR_fit {s : St} (h : Nu.Small s.1) : (dotR s).1.1 < 65536 ∧ (dotR s).1.2 < big := by
  unfold dotR
  split
  · exact dotN_fit h
  · exact ⟨show (0 : Nat) < 65536 by decide, show (0 : Nat) < big by decide⟩
theorem dotR_len (s : St) : (dotR s).2.1.length ≤ s.1.length ∧ ((dotR s).2.2 = 0 → (dotR s).2.1.length + 2 ≤ s.1.length) := by
  have h1 := numS_len (uptoS 65535 s)
  have h2 := uptoS_len 65535 s
  refine ⟨?_, fun h => ?_⟩
  · unfold dotR
    split
    · show (numS (uptoS 65535 s)).1.length ≤ _; omega
    · show ([] : List Nat).length ≤ _; simp
  · obtain ⟨g1, _, g3⟩ := dotR_ok h
    rw [g3]
    have k1 := numS_ok g1
    have k2 := uptoS_ok k1.1
    have k3 := k2.2.2.1 ▸ k1.1
    have k4 := numS_ok k3
    rw [k2.2.2.1] at k1
    show (numS (uptoS 65535 s)).1.length + 2 ≤ _
    rw [k2.2.2.1]
    omega
theorem dot_back {d : Dot} (hm : Dt.mayD d = true) (hd : d.1 < 65536) (hn : d.2 < big) (r : List Nat) : dotR (dotB d ++ r, 0) = (d, (r, 0)) := by
  have e : dotB d ++ r = Nu.enc d.1 ++ (Nu.enc d.2 ++ r) := by unfold dotB; rw [List.append_assoc]
  have hb1 : d.1 < big := by show d.1 < 18446744073709551616; omega
  obtain ⟨h1, h2⟩ := uptoS_back (m := 65535) hb1 (by omega) (Nu.enc d.2 ++ r)
  obtain ⟨h3, h4⟩ := numS_back hn r
  have hN : dotN (dotB d ++ r, 0) = d := by
    unfold dotN
    rw [e, h1, h2, h3]
  have hS : dotS (dotB d ++ r, 0) = (r, 0) := by
    unfold dotS
    rw [e, h2, h4]
  unfold dotR
  rw [hN, hS, if_pos ⟨rfl, hm⟩]
theorem dot_in {s : St} (hs : Nu.Small s.1) (h : (dotR s).2.2 = 0) : s.2 = 0 ∧ s.1 = dotB (dotR s).1 ++ (dotR s).2.1 ∧ Dt.mayD (dotR s).1 = true := by
  obtain ⟨h1, h2, h3⟩ := dotR_ok h
  have h4 := numS_ok h1
  have h5 := uptoS_ok h4.1
  have h6 := h5.2.2.1 ▸ h4.1
  obtain ⟨a1, _⟩ := numS_in hs h6
  obtain ⟨b1, _⟩ := numS_in (upto_small (m := 65535) hs) h1
  rw [h3]
  refine ⟨h5.1, ?_, h2⟩
  show s.1 = (Nu.enc (uptoN 65535 s) ++ Nu.enc (numN (uptoS 65535 s))) ++ (numS (uptoS 65535 s)).1
  rw [List.append_assoc, ← b1, h5.2.2.1, h5.2.2.2]
  exact a1

/-- does a dot stand behind the last one? -/
def stepsB (o : List Dot) (d : Dot) : Bool := match o.getLast? with | none => true | some x => Dt.aheadD x d
def dotsS (o : List Dot) (s : St) : St := if (dotR s).2.2 = 0 ∧ stepsB o (dotR s).1 = false then failS 4 (dotR s).2 else (dotR s).2
def dotsL : Nat → List Dot → St → List Dot × St
  | 0, o, s => (o, s)
  | k + 1, o, s => if s.2 = 0 then dotsL k (o ++ [(dotR s).1]) (dotsS o s) else (o, s)
def dotsF (most : Nat) (s : St) : St := if most < numN s then failS 3 (numS s) else numS s
def dotsR (most : Nat) (s : St) : List Dot × St := if (dotsL (numN s) [] (dotsF most s)).2.2 = 0 then dotsL (numN s) [] (dotsF most s) else ([], (dotsL (numN s) [] (dotsF most s)).2)
theorem dotsS_sound {o : List Dot} {s : St} (h : Sound s) : Sound (dotsS o s) := by
  unfold dotsS
  split
  · exact fail_sound _ _
  · exact dotR_sound h
theorem dotsF_sound {most : Nat} {s : St} (h : Sound s) : Sound (dotsF most s) := by
  unfold dotsF
  split
  · exact fail_sound _ _
  · exact num_sound h
theorem dotsL_bad {k : Nat} {o : List Dot} {s : St} (h : s.2 ≠ 0) : dotsL k o s = (o, s) := by
  cases k with
  | zero => rfl
  | succ k => unfold dotsL; rw [if_neg h]
theorem dotsL_sound : ∀ (k : Nat) (o : List Dot) (s : St), Sound s → Sound (dotsL k o s).2
  | 0, o, s, h => h
  | k + 1, o, s, h => by
    unfold dotsL
    split
    · exact dotsL_sound k _ _ (dotsS_sound h)
    · exact h
theorem dots_loop : ∀ (q o : List Dot) (r : List Nat), (∀ x ∈ q, Dt.mayD x = true ∧ x.1 < 65536 ∧ x.2 < big) → Dt.Ord (o ++ q) → dotsL q.length o (q.flatMap dotB ++ r, 0) = (o ++ q, (r, 0))
  | [], o, r, _, _ => by simp [dotsL]
  | d :: q, o, r, hq, ho => by
    have hd := hq d (List.mem_cons_self ..)
    have e : (d :: q).flatMap dotB ++ r = dotB d ++ (q.flatMap dotB ++ r) := by rw [List.flatMap_cons, List.append_assoc]
    have hr := dot_back hd.1 hd.2.1 hd.2.2 (q.flatMap dotB ++ r)
    have hs : stepsB o d = true := by
      unfold stepsB
      cases hg : o.getLast? with
      | none => rfl
      | some x =>
        have hx : x ∈ o := List.mem_of_getLast? hg
        have h2 := (List.pairwise_append.1 ho).2.2 x hx d (List.mem_cons_self ..)
        exact h2
    show dotsL (q.length + 1) o _ = _
    unfold dotsL
    rw [e, if_pos rfl]
    unfold dotsS
    rw [hr, hs]
    simp only [Bool.true_eq_false, and_false, if_false]
    have ih := dots_loop q (o ++ [d]) r (fun x hx => hq x (List.mem_cons_of_mem _ hx)) (by rw [List.append_assoc]; exact ho)
    rw [ih, List.append_assoc]
    rfl
theorem dots_back {l : List Dot} {most : Nat} (hl : ∀ x ∈ l, Dt.mayD x = true ∧ x.1 < 65536 ∧ x.2 < big) (ho : Dt.Ord l) (hm : l.length ≤ most) (hb : l.length < big) (r : List Nat) : dotsR most (dotsB l ++ r, 0) = (l, (r, 0)) := by
  have e : dotsB l ++ r = Nu.enc l.length ++ (l.flatMap dotB ++ r) := by unfold dotsB; rw [List.append_assoc]
  obtain ⟨h1, h2⟩ := numS_back hb (l.flatMap dotB ++ r)
  have hF : dotsF most (dotsB l ++ r, 0) = (l.flatMap dotB ++ r, 0) := by
    unfold dotsF
    rw [e, h1, h2, if_neg (by omega)]
  unfold dotsR
  rw [hF, e, h1, dots_loop l [] r hl (by simpa using ho)]
  rfl
theorem some_self {l : List Dot} (hl : ∀ x ∈ l, Dt.mayD x = true) (ho : Dt.Ord l) : someD l = l := by
  unfold someD
  rw [List.filter_eq_self.2 hl, Dt.sort_same ho]

/-! ### Contexts -/
def runsL : Nat → List Run → St → List Run × St
  | 0, o, s => (o, s)
  | k + 1, o, s => if s.2 = 0 then runsL k (o ++ [(numN s, numN (numS s))]) (numS (numS s)) else (o, s)
/-- the part that stands there, and what is left. -/
def partR (s : St) : Part × St := ((uptoN 65535 s, (runsL (numN (uptoS 65535 s)) [] (numS (uptoS 65535 s))).1), (runsL (numN (uptoS 65535 s)) [] (numS (uptoS 65535 s))).2)
def partsL : Nat → List Part → St → List Part × St
  | 0, o, s => (o, s)
  | k + 1, o, s => if s.2 = 0 then partsL k (o ++ [(partR s).1]) (partR s).2 else (o, s)
/-- all parts, as they stand there. -/
def ctxL (s : St) : List Part × St := partsL (numN s) [] (numS s)
def ctxR (s : St) : List Part × St := if (ctxL s).2.2 = 0 ∧ Cx.goodC (ctxL s).1 = true then ctxL s else ([], failS 4 (ctxL s).2)
def endN (s : St) : Nat := Nu.endE s.1 s.2
def decR (b : List Nat) : List Part × Nat := if endN (ctxR (b, 0)).2 = 0 then ((ctxR (b, 0)).1, 0) else ([], endN (ctxR (b, 0)).2)
theorem runsL_bad {k : Nat} {o : List Run} {s : St} (h : s.2 ≠ 0) : runsL k o s = (o, s) := by
  cases k with
  | zero => rfl
  | succ k => unfold runsL; rw [if_neg h]
theorem partsL_bad {k : Nat} {o : List Part} {s : St} (h : s.2 ≠ 0) : partsL k o s = (o, s) := by
  cases k with
  | zero => rfl
  | succ k => unfold partsL; rw [if_neg h]
theorem runsL_sound : ∀ (k : Nat) (o : List Run) (s : St), Sound s → Sound (runsL k o s).2
  | 0, o, s, h => h
  | k + 1, o, s, h => by
    unfold runsL
    split
    · exact runsL_sound k _ _ (num_sound (num_sound h))
    · exact h
theorem runsL_small : ∀ (k : Nat) (o : List Run) (s : St), Nu.Small s.1 → Nu.Small (runsL k o s).2.1
  | 0, o, s, h => h
  | k + 1, o, s, h => by
    unfold runsL
    split
    · exact runsL_small k _ _ (num_small (num_small h))
    · exact h
theorem partR_sound {s : St} (h : Sound s) : Sound (partR s).2 := runsL_sound _ _ _ (num_sound (upto_sound h))
theorem partR_small {s : St} (h : Nu.Small s.1) : Nu.Small (partR s).2.1 := runsL_small _ _ _ (num_small (upto_small h))
theorem partsL_sound : ∀ (k : Nat) (o : List Part) (s : St), Sound s → Sound (partsL k o s).2
  | 0, o, s, h => h
  | k + 1, o, s, h => by
    unfold partsL
    split
    · exact partsL_sound k _ _ (partR_sound h)
    · exact h
theorem ctxL_sound {s : St} (h : Sound s) : Sound (ctxL s).2 := partsL_sound _ _ _ (num_sound h)
theorem ctxR_sound {s : St} (h : Sound s) : Sound (ctxR s).2 := by
  unfold ctxR
  split
  · exact ctxL_sound h
  · exact fail_sound _ _
/-- of runs that were read: what they told, and that they stood there. -/
theorem runs_in : ∀ (k : Nat) (o : List Run) (s : St), Nu.Small s.1 → (runsL k o s).2.2 = 0 → s.2 = 0 ∧ ∃ q, (runsL k o s).1 = o ++ q ∧ q.length = k ∧ s.1 = q.flatMap runB ++ (runsL k o s).2.1 ∧ Ru.Fit q
  | 0, o, s, hs, h => ⟨h, [], by simp [runsL], rfl, by simp [runsL], fun r hr => by cases hr⟩
  | k + 1, o, s, hs, h => by
    by_cases h0 : s.2 = 0
    · have e : runsL (k + 1) o s = runsL k (o ++ [(numN s, numN (numS s))]) (numS (numS s)) := by rw [runsL, if_pos h0]
      rw [e] at h ⊢
      obtain ⟨h1, q, h2, h3, h4, h5⟩ := runs_in k _ _ (num_small (num_small hs)) h
      have g1 := numS_ok h1
      obtain ⟨a1, a2⟩ := numS_in hs g1.1
      obtain ⟨b1, b2⟩ := numS_in (num_small hs) h1
      refine ⟨h0, (numN s, numN (numS s)) :: q, by rw [h2, List.append_assoc]; rfl, by rw [List.length_cons, h3], ?_, ?_⟩
      · rw [List.flatMap_cons, List.append_assoc, ← h4]
        show s.1 = (Nu.enc (numN s) ++ Nu.enc (numN (numS s))) ++ (numS (numS s)).1
        rw [List.append_assoc, ← b1]
        exact a1
      · intro r hr
        rcases List.mem_cons.1 hr with rfl | hr
        · exact ⟨a2, b2⟩
        · exact h5 r hr
    · rw [runsL_bad h0] at h; exact absurd h h0
theorem part_in {s : St} (hs : Nu.Small s.1) (h : (partR s).2.2 = 0) : s.2 = 0 ∧ s.1 = partB (partR s).1 ++ (partR s).2.1 ∧ (partR s).1.1 < 65536 ∧ Ru.Fit (partR s).1.2 ∧ (partR s).1.2.length < big := by
  have hs1 := upto_small (m := 65535) hs
  obtain ⟨h1, q, h2, h3, h4, h5⟩ := runs_in _ _ _ (num_small hs1) h
  have g1 := numS_ok h1
  have g2 := uptoS_ok g1.1
  have g3 : (numS s).2 = 0 := by rw [← g2.2.2.1]; exact g1.1
  obtain ⟨a1, a2⟩ := numS_in hs g3
  obtain ⟨b1, b2⟩ := numS_in hs1 h1
  have hq : (partR s).1.2 = q := by show (runsL _ _ _).1 = q; rw [h2, List.nil_append]
  have hd : (partR s).1.1 = uptoN 65535 s := rfl
  refine ⟨g2.1, ?_, by rw [hd]; have := uptoN_le 65535 s; omega, by rw [hq]; exact h5, by rw [hq, h3]; exact b2⟩
  unfold partB
  rw [hq, hd, h3, List.append_assoc, List.append_assoc]
  show s.1 = Nu.enc (uptoN 65535 s) ++ (Nu.enc (numN (uptoS 65535 s)) ++ (q.flatMap runB ++ (runsL (numN (uptoS 65535 s)) [] (numS (uptoS 65535 s))).2.1))
  rw [← h4, ← b1, g2.2.2.1, g2.2.2.2]
  exact a1
theorem parts_in : ∀ (k : Nat) (o : List Part) (s : St), Nu.Small s.1 → (partsL k o s).2.2 = 0 → s.2 = 0 ∧ ∃ q, (partsL k o s).1 = o ++ q ∧ q.length = k ∧ s.1 = q.flatMap partB ++ (partsL k o s).2.1 ∧ (∀ x ∈ q, x.1 < 65536 ∧ Ru.Fit x.2 ∧ x.2.length < big)
  | 0, o, s, hs, h => ⟨h, [], by simp [partsL], rfl, by simp [partsL], fun r hr => by cases hr⟩
  | k + 1, o, s, hs, h => by
    by_cases h0 : s.2 = 0
    · have e : partsL (k + 1) o s = partsL k (o ++ [(partR s).1]) (partR s).2 := by rw [partsL, if_pos h0]
      rw [e] at h ⊢
      obtain ⟨h1, q, h2, h3, h4, h5⟩ := parts_in k _ _ (partR_small hs) h
      obtain ⟨a1, a2, a3, a4, a5⟩ := part_in hs h1
      refine ⟨h0, (partR s).1 :: q, by rw [h2, List.append_assoc]; rfl, by rw [List.length_cons, h3], ?_, ?_⟩
      · rw [List.flatMap_cons, List.append_assoc, ← h4]
        exact a2
      · intro x hx
        rcases List.mem_cons.1 hx with rfl | hx
        · exact ⟨a3, a4, a5⟩
        · exact h5 x hx
    · rw [partsL_bad h0] at h; exact absurd h h0
/-- numbers of a context fit. -/
def FitB (c : List Part) : Prop := c.length < big ∧ ∀ x ∈ c, x.1 < 65536 ∧ Ru.Fit x.2 ∧ x.2.length < big
theorem FitB.fit {c : List Part} (h : FitB c) : Cx.FitC c := fun x hx => ⟨(h.2 x hx).1, (h.2 x hx).2.1⟩
/-- WHAT IS READ AS A CONTEXT HAS BEEN WRITTEN SO. -/
theorem ctx_in {s : St} (hs : Nu.Small s.1) (h : (ctxR s).2.2 = 0) : s.2 = 0 ∧ s.1 = ctxB (ctxR s).1 ++ (ctxR s).2.1 ∧ Cx.goodC (ctxR s).1 = true ∧ FitB (ctxR s).1 := by
  by_cases hc : (ctxL s).2.2 = 0 ∧ Cx.goodC (ctxL s).1 = true
  · have e : ctxR s = ctxL s := if_pos hc
    rw [e]
    obtain ⟨h1, q, h2, h3, h4, h5⟩ := parts_in _ _ _ (num_small hs) hc.1
    have g1 := numS_ok h1
    obtain ⟨a1, a2⟩ := numS_in hs h1
    have hq : (ctxL s).1 = q := by show (partsL _ _ _).1 = q; rw [h2, List.nil_append]
    refine ⟨g1.1, ?_, hc.2, ?_⟩
    · unfold ctxB
      rw [hq, h3, List.append_assoc]
      show s.1 = Nu.enc (numN s) ++ (q.flatMap partB ++ (partsL (numN s) [] (numS s)).2.1)
      rw [← h4]
      exact a1
    · rw [hq]
      exact ⟨by rw [h3]; exact a2, h5⟩
  · have e : ctxR s = ([], failS 4 (ctxL s).2) := if_neg hc
    rw [e] at h
    exact absurd h (stop_ne (by decide))
theorem runs_loop : ∀ (q o : List Run) (r : List Nat), Ru.Fit q → runsL q.length o (q.flatMap runB ++ r, 0) = (o ++ q, (r, 0))
  | [], o, r, _ => by simp [runsL]
  | x :: q, o, r, hq => by
    have hx := hq x (List.mem_cons_self ..)
    have e : (x :: q).flatMap runB ++ r = Nu.enc x.1 ++ (Nu.enc x.2 ++ (q.flatMap runB ++ r)) := by rw [List.flatMap_cons, runB, List.append_assoc, List.append_assoc]
    obtain ⟨h1, h2⟩ := numS_back hx.1 (Nu.enc x.2 ++ (q.flatMap runB ++ r))
    obtain ⟨h3, h4⟩ := numS_back hx.2 (q.flatMap runB ++ r)
    show runsL (q.length + 1) o _ = _
    unfold runsL
    rw [e, if_pos rfl, h1, h2, h3, h4]
    rw [runs_loop q (o ++ [(x.1, x.2)]) r (fun y hy => hq y (List.mem_cons_of_mem _ hy)), List.append_assoc]
    rfl
theorem part_back {p : Part} (h1 : p.1 < 65536) (h2 : Ru.Fit p.2) (h3 : p.2.length < big) (r : List Nat) : partR (partB p ++ r, 0) = (p, (r, 0)) := by
  have e : partB p ++ r = Nu.enc p.1 ++ (Nu.enc p.2.length ++ (p.2.flatMap runB ++ r)) := by unfold partB; rw [List.append_assoc, List.append_assoc]
  have hb1 : p.1 < big := by show p.1 < 18446744073709551616; omega
  obtain ⟨g1, g2⟩ := uptoS_back (m := 65535) hb1 (by omega) (Nu.enc p.2.length ++ (p.2.flatMap runB ++ r))
  obtain ⟨g3, g4⟩ := numS_back h3 (p.2.flatMap runB ++ r)
  unfold partR
  rw [e, g1, g2, g3, g4, runs_loop p.2 [] r h2]
  rfl
theorem parts_loop : ∀ (q o : List Part) (r : List Nat), (∀ x ∈ q, x.1 < 65536 ∧ Ru.Fit x.2 ∧ x.2.length < big) → partsL q.length o (q.flatMap partB ++ r, 0) = (o ++ q, (r, 0))
  | [], o, r, _ => by simp [partsL]
  | x :: q, o, r, hq => by
    have hx := hq x (List.mem_cons_self ..)
    have e : (x :: q).flatMap partB ++ r = partB x ++ (q.flatMap partB ++ r) := by rw [List.flatMap_cons, List.append_assoc]
    have hr := part_back hx.1 hx.2.1 hx.2.2 (q.flatMap partB ++ r)
    show partsL (q.length + 1) o _ = _
    unfold partsL
    rw [e, if_pos rfl, hr]
    rw [parts_loop q (o ++ [x]) r (fun y hy => hq y (List.mem_cons_of_mem _ hy)), List.append_assoc]
    rfl
/-- WHAT IS WRITTEN IS READ. -/
theorem ctx_back {c : List Part} (hg : Cx.goodC c = true) (hf : FitB c) (r : List Nat) : ctxR (ctxB c ++ r, 0) = (c, (r, 0)) := by
  have e : ctxB c ++ r = Nu.enc c.length ++ (c.flatMap partB ++ r) := by unfold ctxB; rw [List.append_assoc]
  obtain ⟨h1, h2⟩ := numS_back hf.1 (c.flatMap partB ++ r)
  have hL : ctxL (ctxB c ++ r, 0) = (c, (r, 0)) := by
    unfold ctxL
    rw [e, h1, h2, parts_loop c [] r hf.2]
    rfl
  unfold ctxR
  rw [hL, if_pos ⟨rfl, hg⟩]
theorem end_nil : endN ([], 0) = 0 := rfl
theorem end_more {l : List Nat} (h : l ≠ []) : endN (l, 0) = 4 := by
  show Nu.endE l 0 = 4
  unfold Nu.endE
  rw [if_neg h]; rfl
theorem end_zero {s : St} (hs : Sound s) (h : endN s = 0) : s = ([], 0) := by
  obtain ⟨l, e⟩ := s
  have h' : Nu.endE l e = 0 := h
  unfold Nu.endE at h'
  by_cases hl : l = []
  · rw [if_pos hl] at h'
    rw [hl, h']
  · rw [if_neg hl] at h'
    exact absurd h' (stop_ne (by decide))
/-- what is decoded: just what was encoded. -/
theorem dec_in {b : List Nat} (hb : Nu.Small b) (h : (decR b).2 = 0) : b = ctxB (decR b).1 ∧ Cx.goodC (decR b).1 = true ∧ FitB (decR b).1 := by
  unfold decR at h ⊢
  by_cases he : endN (ctxR (b, 0)).2 = 0
  · rw [if_pos he]
    have hz := end_zero (ctxR_sound (fun h => absurd rfl h)) he
    obtain ⟨_, h2, h3, h4⟩ := ctx_in (s := (b, 0)) hb (by rw [hz])
    refine ⟨?_, h3, h4⟩
    rw [hz] at h2
    simpa using h2
  · rw [if_neg he] at h; exact absurd h he
theorem dec_back {c : List Part} (hg : Cx.goodC c = true) (hf : FitB c) : decR (ctxB c) = (c, 0) := by
  have h := ctx_back hg hf []
  rw [List.append_nil] at h
  unfold decR
  rw [h, if_pos end_nil]
/-- with more behind it it is none. -/
theorem dec_more {c : List Part} (hg : Cx.goodC c = true) (hf : FitB c) {r : List Nat} (hr : r ≠ []) : (decR (ctxB c ++ r)).2 ≠ 0 := by
  have h := ctx_back hg hf r
  unfold decR
  rw [h, end_more hr, if_neg (by decide)]
  decide
/-- with less it is none. -/
theorem dec_less {b r : List Nat} (hb : Nu.Small (b ++ r)) (hr : r ≠ []) (h : (decR (b ++ r)).2 = 0) : (decR b).2 ≠ 0 := fun h2 => by
  obtain ⟨e, h3, h4⟩ := dec_in (fun x hx => hb x (List.mem_append_left _ hx)) h2
  have := dec_more h3 h4 hr
  rw [← e] at this
  exact this h
theorem dec_bad {b : List Nat} (h : (decR b).2 ≠ 0) : (decR b).1 = [] := by
  unfold decR at h ⊢
  split
  · rename_i h2; rw [if_pos h2] at h; exact absurd rfl h
  · rfl
/-! ### How long -/
theorem ctxB_len (c : List Part) : (ctxB c).length ≤ 9 + c.length * 18 + (c.map (fun x => x.2.length)).sum * 18 := by
  have h : ∀ c : List Part, (c.flatMap partB).length ≤ c.length * 18 + (c.map (fun x => x.2.length)).sum * 18 := by
    intro c
    induction c with
    | nil => simp
    | cons x c ih =>
      have h1 := enc_le x.1
      have h2 := enc_le x.2.length
      have h3 := flat_le (f := runB) (k := 18) runB_le x.2
      rw [List.flatMap_cons, List.length_append, List.length_cons, List.map_cons, List.sum_cons]
      have e : (partB x).length = (Nu.enc x.1).length + ((Nu.enc x.2.length).length + (x.2.flatMap runB).length) := by unfold partB; rw [List.length_append, List.length_append]
      rw [e]
      omega
  have h1 := h c
  have h2 := enc_le c.length
  unfold ctxB
  rw [List.length_append]
  omega
theorem dotsB_len (l : List Dot) : (dotsB l).length ≤ 9 + l.length * 18 := by
  have h1 := flat_le (f := dotB) (k := 18) dotB_le l
  have h2 := enc_le l.length
  unfold dotsB
  rw [List.length_append]
  omega
theorem some_len (l : List Dot) : (someD l).length ≤ l.length := by
  have h1 : ∀ (l m : List Dot), (l.foldl Dt.putD m).length ≤ m.length + l.length := by
    intro l
    induction l with
    | nil => intro m; simp
    | cons x l ih =>
      intro m
      have h2 := ih (Dt.putD m x)
      have h3 := Dt.put_length m x
      rw [List.foldl_cons, List.length_cons]
      omega
  have h2 := h1 (l.filter Dt.mayD) []
  have h3 : (l.filter Dt.mayD).length ≤ l.length := List.length_filter_le _ _
  unfold someD Dt.sortD
  simp only [List.length_nil, Nat.zero_add] at h2
  omega
end Go.Proofs.Ytmhghgogehmehaa.Dc
