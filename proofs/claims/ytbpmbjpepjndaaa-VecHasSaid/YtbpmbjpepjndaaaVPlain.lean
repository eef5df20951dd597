/- Vectors as what they tell: plain arithmetic. What a vector tells of a device, the vector in order that tells a given thing, and the laws of joining and meeting. No program is named here. -/
import Derived.Test.YtbpmbjpepjndaaaVOrd
namespace Go.Proofs.Ytbpmbjpepjndaaa.Dt
set_option linter.unusedVariables false

/-- what a vector tells of a device: the greatest number of its dots that may be. -/
def stepV (d : Nat) (n : Nat) (x : Dot) : Nat := if x.1 = d ∧ mayD x = true ∧ n < x.2 then x.2 else n
def ofV (v : List Dot) (d : Nat) : Nat := v.foldl (stepV d) 0
theorem step_max (d n : Nat) (x : Dot) : stepV d n x = if x.1 = d ∧ mayD x = true then max n x.2 else n := by
  unfold stepV
  by_cases h1 : x.1 = d ∧ mayD x = true
  · by_cases h2 : n < x.2
    · rw [if_pos ⟨h1.1, h1.2, h2⟩, if_pos h1]; omega
    · rw [if_neg (fun h => h2 h.2.2), if_pos h1]; omega
  · rw [if_neg (fun h => h1 ⟨h.1, h.2.1⟩), if_neg h1]
theorem of_from (v : List Dot) (d n : Nat) : v.foldl (stepV d) n = max n (ofV v d) := by
  unfold ofV
  induction v generalizing n with
  | nil => simp
  | cons x v ih =>
    rw [List.foldl_cons, List.foldl_cons, ih, ih (stepV d 0 x), step_max, step_max]
    split <;> omega
theorem of_nil (d : Nat) : ofV [] d = 0 := rfl
theorem of_cons (x : Dot) (v : List Dot) (d : Nat) : ofV (x :: v) d = max (if x.1 = d ∧ mayD x = true then x.2 else 0) (ofV v d) := by
  rw [show ofV (x :: v) d = v.foldl (stepV d) (stepV d 0 x) from rfl, of_from, step_max]
  split <;> omega
theorem of_append (v m : List Dot) (d : Nat) : ofV (v ++ m) d = max (ofV v d) (ofV m d) := by
  rw [show ofV (v ++ m) d = (v ++ m).foldl (stepV d) 0 from rfl, List.foldl_append, of_from]; rfl
theorem of_one (x : Dot) (d : Nat) : ofV [x] d = if x.1 = d ∧ mayD x = true then x.2 else 0 := by rw [of_cons, of_nil]; omega
/-- what is told is a dot's number; of nothing nought is told. -/
theorem of_in (v : List Dot) (d : Nat) (h : 0 < ofV v d) : (d, ofV v d) ∈ v ∧ mayD (d, ofV v d) = true := by
  induction v with
  | nil => rw [of_nil] at h; omega
  | cons x v ih =>
    rw [of_cons] at h ⊢
    by_cases h1 : x.1 = d ∧ mayD x = true
    · rw [if_pos h1] at h ⊢
      rcases Nat.le_total x.2 (ofV v d) with h2 | h2
      · rw [Nat.max_eq_right h2] at h ⊢
        exact ⟨List.mem_cons_of_mem _ (ih h).1, (ih h).2⟩
      · rw [Nat.max_eq_left h2] at h ⊢
        have e : ((d, x.2) : Dot) = x := by rw [← h1.1]
        rw [e]
        exact ⟨List.mem_cons_self .., h1.2⟩
    · rw [if_neg h1] at h ⊢
      rw [Nat.zero_max] at h ⊢
      exact ⟨List.mem_cons_of_mem _ (ih h).1, (ih h).2⟩
theorem of_most (v : List Dot) (x : Dot) (hx : x ∈ v) (hm : mayD x = true) : x.2 ≤ ofV v x.1 := by
  induction v with
  | nil => cases hx
  | cons y v ih =>
    rw [of_cons]
    rcases List.mem_cons.1 hx with rfl | hx
    · rw [if_pos ⟨rfl, hm⟩]; omega
    · have := ih hx; omega
theorem of_lt (v : List Dot) (d : Nat) : ofV v d < 281474976710656 := by
  rcases Nat.eq_zero_or_pos (ofV v d) with h | h
  · omega
  · exact ((may_iff _).1 (of_in v d h).2).2.2
theorem of_zero (v : List Dot) : ofV v 0 = 0 := by
  rcases Nat.eq_zero_or_pos (ofV v 0) with h | h
  · exact h
  · have := ((may_iff _).1 (of_in v 0 h).2).1
    exact absurd this (by simp)
theorem of_far (v : List Dot) (hv : Fit v) (d : Nat) (hd : 65536 ≤ d) : ofV v d = 0 := by
  rcases Nat.eq_zero_or_pos (ofV v d) with h | h
  · exact h
  · have := (hv _ (of_in v d h).1).1
    exact absurd this (by simp only; omega)

/-- what may be told: nothing of device 0, nor of devices beyond; numbers that may be. -/
def Tells (f : Nat → Nat) : Prop := f 0 = 0 ∧ (∀ d, 65536 ≤ d → f d = 0) ∧ ∀ d, f d < 281474976710656
theorem tells_of {v : List Dot} (hv : Fit v) : Tells (ofV v) := ⟨of_zero v, of_far v hv, of_lt v⟩
theorem tells_max {f g : Nat → Nat} (hf : Tells f) (hg : Tells g) : Tells (fun d => max (f d) (g d)) :=
  ⟨by show max (f 0) (g 0) = 0; rw [hf.1, hg.1]; rfl, fun d hd => by show max (f d) (g d) = 0; rw [hf.2.1 d hd, hg.2.1 d hd]; rfl, fun d => by have := hf.2.2 d; have := hg.2.2 d; show max (f d) (g d) < _; omega⟩
theorem tells_min {f g : Nat → Nat} (hf : Tells f) (hg : Tells g) : Tells (fun d => min (f d) (g d)) :=
  ⟨by show min (f 0) (g 0) = 0; rw [hf.1, hg.1]; rfl, fun d hd => by show min (f d) (g d) = 0; rw [hf.2.1 d hd, hg.2.1 d hd]; rfl, fun d => by have := hf.2.2 d; have := hg.2.2 d; show min (f d) (g d) < _; omega⟩

/-- how many devices there are. -/
@[irreducible] def topV : Nat := 65536
theorem top_eq : topV = 65536 := by unfold topV; rfl
/-- one dot of a device, if it tells something of it. -/
def oneV (f : Nat → Nat) (d : Nat) : Option Dot := if 0 < f d then some (d, f d) else none
theorem one_some {f : Nat → Nat} {d : Nat} {x : Dot} (h : oneV f d = some x) : x = (d, f d) ∧ 0 < f d := by
  unfold oneV at h
  split at h
  · exact ⟨(Option.some.inj h).symm, by assumption⟩
  · cases h
/-- the vector in order that tells this. -/
def listV (f : Nat → Nat) : List Dot := (List.range topV).filterMap (oneV f)
theorem list_mem {f : Nat → Nat} (hf : Tells f) (x : Dot) : x ∈ listV f ↔ 0 < f x.1 ∧ x.2 = f x.1 := by
  unfold listV
  rw [List.mem_filterMap]
  constructor
  · rintro ⟨d, _, h⟩
    obtain ⟨rfl, h2⟩ := one_some h
    exact ⟨h2, rfl⟩
  · rintro ⟨h1, h2⟩
    refine ⟨x.1, ?_, ?_⟩
    · rw [List.mem_range, top_eq]
      rcases Nat.lt_or_ge x.1 65536 with h | h
      · exact h
      · rw [hf.2.1 _ h] at h1; omega
    · unfold oneV
      rw [if_pos h1, ← h2]
theorem range_up (n : Nat) : (List.range n).Pairwise (fun a b => a < b) := List.pairwise_lt_range
theorem list_up (f : Nat → Nat) (l : List Nat) (h : l.Pairwise (fun a b => a < b)) : (l.filterMap (oneV f)).Pairwise (fun a b => a.1 < b.1) := by
  induction l with
  | nil => exact List.Pairwise.nil
  | cons d l ih =>
    obtain ⟨h1, h2⟩ := List.pairwise_cons.1 h
    rw [List.filterMap_cons]
    split
    · exact ih h2
    · rename_i x hx
      rw [List.pairwise_cons]
      refine ⟨fun y hy => ?_, ih h2⟩
      obtain ⟨e, he, h3⟩ := List.mem_filterMap.1 hy
      obtain ⟨rfl, _⟩ := one_some hx
      obtain ⟨rfl, _⟩ := one_some h3
      exact h1 e he
theorem list_rise (f : Nat → Nat) : (listV f).Pairwise (fun a b => a.1 < b.1) := list_up f _ (range_up _)
theorem list_may {f : Nat → Nat} (hf : Tells f) {x : Dot} (hx : x ∈ listV f) : mayD x = true := by
  obtain ⟨h1, h2⟩ := (list_mem hf x).1 hx
  rw [may_iff]
  refine ⟨?_, by omega, by rw [h2]; exact hf.2.2 _⟩
  rcases Nat.eq_zero_or_pos x.1 with h | h
  · rw [h, hf.1] at h1; omega
  · exact h
theorem list_fit {f : Nat → Nat} (hf : Tells f) : Fit (listV f) := by
  intro r hr
  obtain ⟨h1, h2⟩ := (list_mem hf r).1 hr
  have h3 := hf.2.2 r.1
  refine ⟨?_, by omega⟩
  rcases Nat.lt_or_ge r.1 65536 with h | h
  · exact h
  · rw [hf.2.1 _ h] at h1; omega
theorem list_length (f : Nat → Nat) : (listV f).length ≤ 65536 := by
  have := List.length_filterMap_le (oneV f) (List.range topV)
  rw [List.length_range] at this
  exact Nat.le_trans this (Nat.le_of_eq top_eq)
/-- the vector that tells f tells f. -/
theorem of_list {f : Nat → Nat} (hf : Tells f) (d : Nat) : ofV (listV f) d = f d := by
  rcases Nat.eq_zero_or_pos (ofV (listV f) d) with h | h
  · rcases Nat.eq_zero_or_pos (f d) with h1 | h1
    · omega
    · have h2 : (d, f d) ∈ listV f := (list_mem hf _).2 ⟨h1, rfl⟩
      have h3 := of_most _ _ h2 (list_may hf h2)
      simp only at h3
      omega
  · exact ((list_mem hf _).1 (of_in _ _ h).1).2
theorem of_list' {f : Nat → Nat} (hf : Tells f) : ofV (listV f) = f := funext (of_list hf)

/-! The document's words. -/
def normV (v : List Dot) : List Dot := listV (ofV v)
def joinV (a b : List Dot) : List Dot := listV (fun d => max (ofV a d) (ofV b d))
def meetV (a b : List Dot) : List Dot := listV (fun d => min (ofV a d) (ofV b d))
def putV (v : List Dot) (x : Dot) : List Dot := joinV v [x]
def hasV (v : List Dot) (x : Dot) : Bool := mayD x && decide (x.2 ≤ ofV v x.1)
/-- does the first one tell of no device more? -/
def mostV (a b : List Dot) : Bool := (List.range topV).all (fun d => decide (ofV a d ≤ ofV b d))
def orderV (a b : List Dot) : Int := if mostV a b = true ∧ mostV b a = true then 0 else if mostV a b = true then -1 else if mostV b a = true then 1 else 2
def lackV (a b : List Dot) : Nat := ((List.range topV).map (fun d => ofV b d - ofV a d)).sum
theorem most_iff {a b : List Dot} (ha : Fit a) : mostV a b = true ↔ ∀ d, ofV a d ≤ ofV b d := by
  unfold mostV
  rw [List.all_eq_true]
  constructor
  · intro h d
    rcases Nat.lt_or_ge d 65536 with h1 | h1
    · exact of_decide_eq_true (h d (List.mem_range.2 (by rw [top_eq]; exact h1)))
    · rw [of_far a ha d h1]; exact Nat.zero_le _
  · exact fun h d _ => decide_eq_true (h d)
theorem tells_join {a b : List Dot} (ha : Fit a) (hb : Fit b) : Tells (fun d => max (ofV a d) (ofV b d)) := tells_max (tells_of ha) (tells_of hb)
theorem tells_meet {a b : List Dot} (ha : Fit a) (hb : Fit b) : Tells (fun d => min (ofV a d) (ofV b d)) := tells_min (tells_of ha) (tells_of hb)
theorem of_norm {v : List Dot} (hv : Fit v) : ofV (normV v) = ofV v := of_list' (tells_of hv)
theorem of_join {a b : List Dot} (ha : Fit a) (hb : Fit b) : ofV (joinV a b) = fun d => max (ofV a d) (ofV b d) := of_list' (tells_join ha hb)
theorem of_meet {a b : List Dot} (ha : Fit a) (hb : Fit b) : ofV (meetV a b) = fun d => min (ofV a d) (ofV b d) := of_list' (tells_meet ha hb)
theorem fit_norm {v : List Dot} (hv : Fit v) : Fit (normV v) := list_fit (tells_of hv)
theorem fit_join {a b : List Dot} (ha : Fit a) (hb : Fit b) : Fit (joinV a b) := list_fit (tells_join ha hb)
theorem fit_meet {a b : List Dot} (ha : Fit a) (hb : Fit b) : Fit (meetV a b) := list_fit (tells_meet ha hb)
theorem fit_one {x : Dot} (h1 : x.1 < 65536) (h2 : x.2 < 18446744073709551616) : Fit [x] := fun r hr => by rw [List.mem_singleton.1 hr]; exact ⟨h1, h2⟩
theorem of_put {v : List Dot} {x : Dot} (hv : Fit v) (hx : Fit [x]) : ofV (putV v x) = fun d => max (ofV v d) (if x.1 = d ∧ mayD x = true then x.2 else 0) := by
  unfold putV
  rw [of_join hv hx]
  funext d
  rw [of_one]
/-- of a dot that may not be nothing is told. -/
theorem put_bad {v : List Dot} {x : Dot} (h : mayD x = false) : putV v x = normV v := by
  unfold putV joinV normV
  congr 1
  funext d
  rw [of_one, if_neg (fun h' => by rw [h] at h'; exact absurd h'.2 (by simp))]
  exact Nat.max_zero _

/-! The laws. -/
theorem has_join {a b : List Dot} (ha : Fit a) (hb : Fit b) (x : Dot) : hasV (joinV a b) x = (hasV a x || hasV b x) := by
  unfold hasV
  rw [of_join ha hb]
  cases mayD x with
  | false => rfl
  | true =>
    simp only [Bool.true_and]
    by_cases h1 : x.2 ≤ ofV a x.1 <;> by_cases h2 : x.2 ≤ ofV b x.1 <;> simp [h1, h2] <;> omega
theorem has_meet {a b : List Dot} (ha : Fit a) (hb : Fit b) (x : Dot) : hasV (meetV a b) x = (hasV a x && hasV b x) := by
  unfold hasV
  rw [of_meet ha hb]
  cases mayD x with
  | false => rfl
  | true =>
    simp only [Bool.true_and]
    by_cases h1 : x.2 ≤ ofV a x.1 <;> by_cases h2 : x.2 ≤ ofV b x.1 <;> simp [h1, h2] <;> omega
theorem sum_zero (l : List Nat) (f : Nat → Nat) : (l.map f).sum = 0 ↔ ∀ d ∈ l, f d = 0 := by
  induction l with
  | nil => simp
  | cons d l ih => rw [List.map_cons, List.sum_cons, Nat.add_eq_zero_iff, ih]; simp
theorem sum_most (l : List Nat) (f : Nat → Nat) (m : Nat) (h : ∀ d, f d ≤ m) : (l.map f).sum ≤ l.length * m := by
  induction l with
  | nil => simp
  | cons d l ih =>
    have := h d
    rw [List.map_cons, List.sum_cons, List.length_cons, Nat.add_mul]
    omega
theorem lack_zero {a b : List Dot} (hb : Fit b) : lackV a b = 0 ↔ mostV b a = true := by
  unfold lackV
  rw [sum_zero, most_iff hb]
  constructor
  · intro h d
    rcases Nat.lt_or_ge d 65536 with h1 | h1
    · have := h d (List.mem_range.2 (by rw [top_eq]; exact h1)); omega
    · rw [of_far b hb d h1]; exact Nat.zero_le _
  · intro h d _
    have := h d
    omega
theorem lack_lt (a b : List Dot) : lackV a b < 18446744073709551616 := by
  unfold lackV
  have h0 : (List.range topV).map (fun d => ofV b d - ofV a d) = (ofV b 0 - ofV a 0) :: (List.range 65535).map (fun d => ofV b (d + 1) - ofV a (d + 1)) := by
    rw [show topV = 65535 + 1 from top_eq, List.range_succ_eq_map, List.map_cons, List.map_map]; rfl
  rw [h0, List.sum_cons, of_zero, of_zero]
  have := sum_most (List.range 65535) (fun d => ofV b (d + 1) - ofV a (d + 1)) 281474976710655 (fun d => by have := of_lt b (d + 1); omega)
  rw [List.length_range] at this
  omega
theorem order_low {a b : List Dot} : (orderV a b = 0 ∨ orderV a b = -1) ↔ mostV a b = true := by
  unfold orderV
  cases mostV a b <;> cases mostV b a <;> simp
theorem order_high {a b : List Dot} : (orderV a b = 0 ∨ orderV a b = 1) ↔ mostV b a = true := by
  unfold orderV
  cases mostV a b <;> cases mostV b a <;> simp
theorem most_put {a : List Dot} {x : Dot} (ha : Fit a) (hx : Fit [x]) : mostV a (putV a x) = true := by
  rw [most_iff ha, of_put ha hx]
  intro d
  exact Nat.le_max_left _ _
theorem has_put {a : List Dot} {x : Dot} (ha : Fit a) (hx : Fit [x]) : hasV (putV a x) x = mayD x := by
  unfold hasV
  rw [of_put ha hx]
  cases h : mayD x with
  | false => rfl
  | true => simp; omega
theorem join_comm (a b : List Dot) : joinV a b = joinV b a := by
  unfold joinV
  congr 1
  funext d
  exact Nat.max_comm _ _
theorem join_assoc {a b c : List Dot} (ha : Fit a) (hb : Fit b) (hc : Fit c) : joinV (joinV a b) c = joinV a (joinV b c) := by
  show listV (fun d => max (ofV (joinV a b) d) (ofV c d)) = listV (fun d => max (ofV a d) (ofV (joinV b c) d))
  rw [of_join ha hb, of_join hb hc]
  congr 1
  funext d
  exact Nat.max_assoc _ _ _
theorem meet_assoc {a b c : List Dot} (ha : Fit a) (hb : Fit b) (hc : Fit c) : meetV (meetV a b) c = meetV a (meetV b c) := by
  show listV (fun d => min (ofV (meetV a b) d) (ofV c d)) = listV (fun d => min (ofV a d) (ofV (meetV b c) d))
  rw [of_meet ha hb, of_meet hb hc]
  congr 1
  funext d
  exact Nat.min_assoc _ _ _
theorem join_self (a : List Dot) : joinV a a = normV a := by
  unfold joinV normV
  congr 1
  funext d
  exact Nat.max_self _
theorem meet_join {a b : List Dot} (ha : Fit a) (hb : Fit b) : meetV a (joinV a b) = normV a := by
  rw [meetV, of_join ha hb, normV]
  congr 1
  funext d
  simp only
  omega
theorem join_meet {a b : List Dot} (ha : Fit a) (hb : Fit b) : joinV a (meetV a b) = normV a := by
  rw [joinV, of_meet ha hb, normV]
  congr 1
  funext d
  simp only
  omega
theorem norm_norm {a : List Dot} (ha : Fit a) : normV (normV a) = normV a := by
  rw [normV, of_norm ha]; rfl
theorem order_norm {a : List Dot} (ha : Fit a) : orderV a (normV a) = 0 := by
  have h1 : mostV a (normV a) = true := (most_iff ha).2 (fun d => by rw [of_norm ha]; exact Nat.le_refl _)
  have h2 : mostV (normV a) a = true := (most_iff (fit_norm ha)).2 (fun d => by rw [of_norm ha]; exact Nat.le_refl _)
  unfold orderV
  rw [if_pos ⟨h1, h2⟩]
/-- in order: the vector that tells what it tells. -/
def goodV (v : List Dot) : Bool := decide (v = normV v)
theorem good_norm {a : List Dot} (ha : Fit a) : goodV (normV a) = true := decide_eq_true (norm_norm ha).symm
/-- a list that rises by device, of dots that may be, is in order. -/
theorem good_rise {v : List Dot} (hv : Fit v) : goodV v = true ↔ v.Pairwise (fun a b => a.1 < b.1) ∧ ∀ x ∈ v, mayD x = true := by
  unfold goodV
  rw [decide_eq_true_iff]
  constructor
  · intro h
    rw [h]
    exact ⟨list_rise _, fun x hx => list_may (tells_of hv) hx⟩
  · rintro ⟨h1, h2⟩
    have key : ∀ (l m : List Dot), l.Pairwise (fun a b => a.1 < b.1) → m.Pairwise (fun a b => a.1 < b.1) → (∀ x, x ∈ l ↔ x ∈ m) → l = m := by
      intro l
      induction l with
      | nil =>
        intro m _ _ h
        cases m with
        | nil => rfl
        | cons b m => exact absurd ((h b).2 (List.mem_cons_self ..)) (by simp)
      | cons a l ih =>
        intro m hl hm h
        cases m with
        | nil => exact absurd ((h a).1 (List.mem_cons_self ..)) (by simp)
        | cons b m =>
          obtain ⟨hl1, hl2⟩ := List.pairwise_cons.1 hl
          obtain ⟨hm1, hm2⟩ := List.pairwise_cons.1 hm
          have hab : a = b := by
            rcases List.mem_cons.1 ((h a).1 (List.mem_cons_self ..)) with h1 | h1
            · exact h1
            · rcases List.mem_cons.1 ((h b).2 (List.mem_cons_self ..)) with h2 | h2
              · exact h2.symm
              · have h3 := hm1 a h1
                have h4 := hl1 b h2
                omega
          subst hab
          congr 1
          refine ih m hl2 hm2 fun x => ⟨fun hx => ?_, fun hx => ?_⟩
          · rcases List.mem_cons.1 ((h x).1 (List.mem_cons_of_mem _ hx)) with h1 | h1
            · have := hl1 x hx; rw [h1] at this; omega
            · exact h1
          · rcases List.mem_cons.1 ((h x).2 (List.mem_cons_of_mem _ hx)) with h1 | h1
            · have := hm1 x hx; rw [h1] at this; omega
            · exact h1
    refine key v (normV v) h1 (list_rise _) fun x => ?_
    unfold normV
    rw [list_mem (tells_of hv)]
    constructor
    · intro hx
      have hm := h2 x hx
      have h3 := of_most v x hx hm
      have h4 := (may_iff x).1 hm
      refine ⟨by omega, ?_⟩
      have h5 := (of_in v x.1 (by omega)).1
      -- one dot of a device
      have : (x.1, ofV v x.1) = x := by
        have hp : ∀ (l : List Dot), l.Pairwise (fun a b => a.1 < b.1) → ∀ a ∈ l, ∀ b ∈ l, a.1 = b.1 → a = b := by
          intro l hl a ha b hb hab
          induction l with
          | nil => cases ha
          | cons c l ih =>
            obtain ⟨g1, g2⟩ := List.pairwise_cons.1 hl
            rcases List.mem_cons.1 ha with e1 | ha1 <;> rcases List.mem_cons.1 hb with e2 | hb1
            · rw [e1, e2]
            · have := g1 b hb1; rw [← e1] at this; omega
            · have := g1 a ha1; rw [← e2] at this; omega
            · exact ih g2 ha1 hb1
        exact hp v h1 _ h5 x hx rfl
      have h6 := congrArg Prod.snd this
      exact h6.symm
    · rintro ⟨g1, g2⟩
      have h5 := (of_in v x.1 g1).1
      rw [← g2] at h5
      exact h5
end Go.Proofs.Ytbpmbjpepjndaaa.Dt
