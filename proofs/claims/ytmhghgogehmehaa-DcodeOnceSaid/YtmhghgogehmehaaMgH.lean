/- Words and contracts that the proofs of this seat stand on, part 8 of 14. -/
import Derived.Test.YtmhghgogehmehaaMgG
import Derived.Test.YtmhghgogehmehaaMgE
import Derived.ShutString
import Derived.ChangeOld
import Derived.Deep.DeepHandedRow
import Derived.Deep.Matrix
import Derived.SizedLaws
import Derived.Deep.SlicePairs
import Derived.Lib.SmallJoins

/- What the laws of layer ctx ask of contexts. Plain arithmetic; no program is named here. -/
namespace Go.Proofs.Ytmhghgogehmehaa.Cx
set_option linter.unusedVariables false

/-- a context in order. -/
def OrdC (c : List Part) : Prop := ∃ f, Tells f ∧ c = listC f
theorem OrdC.fit {c : List Part} (h : OrdC c) : FitC c := by
  obtain ⟨f, h1, rfl⟩ := h
  exact list_fit h1
theorem OrdC.norm {c : List Part} (h : OrdC c) : normC c = c := by
  obtain ⟨f, h1, rfl⟩ := h
  unfold normC
  rw [runs_list h1]
theorem tells_uniq {f g : Nat → List Run} (hf : Tells f) (hg : Tells g) (h : ∀ d n, Ru.has (f d) n = Ru.has (g d) n) : f = g := funext fun d => Ru.uniq (hf.order d) (hg.order d) (h d)
theorem norm_eq {a b : List Part} (ha : FitC a) (hb : FitC b) (h : ∀ d n, Ru.has (runsC a d) n = Ru.has (runsC b d) n) : normC a = normC b := by
  unfold normC
  rw [tells_uniq (tells_runs ha) (tells_runs hb) h]
theorem ord_eq {a b : List Part} (ha : OrdC a) (hb : OrdC b) (h : ∀ d n, Ru.has (runsC a d) n = Ru.has (runsC b d) n) : a = b := by
  rw [← ha.norm, ← hb.norm]
  exact norm_eq ha.fit hb.fit h
theorem ord_set {a b : List Part} (ha : FitC a) (hb : FitC b) (how : Int) : OrdC (setC a b how) := ⟨_, tells_both ha hb how, rfl⟩
theorem ord_norm {a : List Part} (ha : FitC a) : OrdC (normC a) := ⟨_, tells_runs ha, rfl⟩
theorem ord_good {a : List Part} (h : OrdC a) : goodC a = true := decide_eq_true h.norm.symm
theorem ord_nil : OrdC [] := ⟨fun _ => [], ⟨rfl, fun _ _ => rfl, fun _ => Ru.order_nil⟩, by
  unfold listC
  induction List.range Dt.topV with
  | nil => rfl
  | cons d l ih => rw [List.filterMap_cons]; exact ih⟩
theorem list_none {f : Nat → List Run} (h : ∀ d, f d = []) : listC f = [] := by
  unfold listC
  induction List.range Dt.topV with
  | nil => rfl
  | cons d l ih => rw [List.filterMap_cons, show oneC f d = none from if_pos (by rw [h]; rfl)]; exact ih
theorem has_set0 {a b : List Part} (ha : FitC a) (hb : FitC b) (d n : Nat) : Ru.has (runsC (setC a b 0) d) n = (Ru.has (runsC a d) n || Ru.has (runsC b d) n) := by rw [runs_set ha hb]; exact Ru.has0 _ _ _
theorem has_set1 {a b : List Part} (ha : FitC a) (hb : FitC b) (d n : Nat) : Ru.has (runsC (setC a b 1) d) n = (Ru.has (runsC a d) n && Ru.has (runsC b d) n) := by rw [runs_set ha hb]; exact Ru.has1 _ _ _
theorem has_set2 {a b : List Part} (ha : FitC a) (hb : FitC b) (d n : Nat) : Ru.has (runsC (setC a b 2) d) n = (Ru.has (runsC a d) n && !Ru.has (runsC b d) n) := by rw [runs_set ha hb]; exact Ru.has2 _ _ _

/-! CtxLaws. -/
theorem has_join {a b : List Part} (ha : FitC a) (hb : FitC b) (x : Dot) : hasC (setC a b 0) x = (hasC a x || hasC b x) := by
  unfold hasC
  rw [has_set0 ha hb]
  cases Dt.mayD x <;> simp
theorem has_meet {a b : List Part} (ha : FitC a) (hb : FitC b) (x : Dot) : hasC (setC a b 1) x = (hasC a x && hasC b x) := by
  unfold hasC
  rw [has_set1 ha hb]
  cases Dt.mayD x <;> simp
theorem has_minus {a b : List Part} (ha : FitC a) (hb : FitC b) (x : Dot) : hasC (setC a b 2) x = (hasC a x && !hasC b x) := by
  unfold hasC
  rw [has_set2 ha hb]
  cases Dt.mayD x <;> simp
theorem join_turn (a b : List Part) : setC b a 0 = setC a b 0 := by
  unfold setC
  congr 1
  funext d
  exact Ru.join_turn _ _
theorem meet_turn (a b : List Part) : setC b a 1 = setC a b 1 := by
  unfold setC
  congr 1
  funext d
  exact Ru.meet_turn _ _
theorem both_parts {a b : List Part} (ha : FitC a) (hb : FitC b) : sameC (setC (setC a b 2) (setC a b 1) 0) a = true := by
  have h1 := fit_set ha hb 2
  have h2 := fit_set ha hb 1
  refine decide_eq_true (norm_eq (fit_set h1 h2 0) ha fun d n => ?_)
  rw [has_set0 h1 h2, has_set2 ha hb, has_set1 ha hb]
  cases Ru.has (runsC a d) n <;> cases Ru.has (runsC b d) n <;> rfl
theorem within_iff {a b : List Part} (ha : FitC a) (hb : FitC b) (h : ∀ d n, Ru.has (runsC a d) n = true → Ru.has (runsC b d) n = true) : withinC a b = true := by
  refine decide_eq_true (list_none fun d => Ru.empty_of (Ru.set_spec _ _ _).1 fun n => ?_)
  rw [Ru.has2]
  cases h1 : Ru.has (runsC a d) n with
  | false => rfl
  | true => rw [h d n h1]; rfl
theorem within_meet {a b : List Part} (ha : FitC a) (hb : FitC b) : withinC (setC a b 1) b = true := within_iff (fit_set ha hb 1) hb fun d n h => by
  rw [has_set1 ha hb, Bool.and_eq_true] at h
  exact h.2
theorem within_join {a b : List Part} (ha : FitC a) (hb : FitC b) : withinC b (setC a b 0) = true := within_iff hb (fit_set ha hb 0) fun d n h => by
  rw [has_set0 ha hb, h, Bool.or_true]

/-! Sizes. -/
theorem size_list (f : Nat → List Run) (l : List Nat) : ((l.filterMap (oneC f)).map (fun x => Ru.sizeR x.2)).sum = (l.map (fun d => Ru.sizeR (f d))).sum := by
  induction l with
  | nil => rfl
  | cons d l ih =>
    rw [List.filterMap_cons]
    by_cases h : (f d).length = 0
    · rw [show oneC f d = none from if_pos h, List.map_cons, List.sum_cons, List.eq_nil_of_length_eq_zero h, ih]
      simp [Ru.sizeR]
    · rw [show oneC f d = some (d, f d) from if_neg h]
      simp only [List.map_cons, List.sum_cons, ih]
theorem size_sum (c : List Part) : sizeC c = ((List.range Dt.topV).map (fun d => Ru.sizeR (runsC c d))).sum := size_list _ _
theorem sum_two (l : List Nat) (f g : Nat → Nat) : (l.map f).sum + (l.map g).sum = (l.map (fun d => f d + g d)).sum := by
  induction l with
  | nil => rfl
  | cons d l ih => simp only [List.map_cons, List.sum_cons]; omega
theorem size_both {a b : List Run} (ha : Ru.InOrder a) (hb : Ru.InOrder b) : Ru.sizeR (Ru.setL a b 0) + Ru.sizeR (Ru.setL a b 1) = Ru.sizeR a + Ru.sizeR b := by
  have h := Ru.sizes a b
  have e : ∀ l, Ru.InOrder l → Ru.nrm l = l := fun l hl => set_self hl
  rw [e _ (Ru.set_spec a b 0).1, e _ (Ru.set_spec a b 1).1, e a ha, e b hb] at h
  exact h
theorem sizes {a b : List Part} (ha : FitC a) (hb : FitC b) : sizeC (setC a b 0) + sizeC (setC a b 1) = sizeC a + sizeC b := by
  rw [size_sum, size_sum, size_sum, size_sum, sum_two, sum_two, runs_set ha hb, runs_set ha hb]
  congr 2
  funext d
  exact size_both (runs_order a d) (runs_order b d)
theorem sum_less (n : Nat) (f : Nat → Nat) (m : Nat) (h0 : f 0 = 0) (h : ∀ d, f d ≤ m) : ((List.range (n + 1)).map f).sum ≤ n * m := by
  induction n with
  | zero => simp [h0]
  | succ n ih =>
    rw [List.range_succ, List.map_append, List.sum_append]
    have := h (n + 1)
    have e : (n + 1) * m = n * m + m := Nat.succ_mul n m
    simp only [List.map_cons, List.map_nil, List.sum_cons, List.sum_nil]
    omega
theorem size_lt (c : List Part) : sizeC c < 18446744073709551616 := by
  rw [size_sum, Dt.top_eq]
  have h := sum_less 65535 (fun d => Ru.sizeR (runsC c d)) 281474976710656 (by show Ru.sizeR (runsC c 0) = 0; rw [runs_zero]; rfl) (fun d => Ru.size_le (runs_order c d))
  exact Nat.lt_of_le_of_lt h (by decide)

/-! Lists of dots as contexts. -/
theorem ord_of {l : List Dot} (hl : Dt.Fit l) : OrdC (ofC l) := by
  obtain ⟨f, h1, h2, _⟩ := (of_whole l hl).form
  exact ⟨f, h1, h2⟩
theorem dot_may {x : Dot} (h : Dt.mayD x = true) : Ru.mayR (x.2, x.2) = true := by
  have := (Dt.may_iff x).1 h
  exact (Ru.may_iff _).2 ⟨by show 1 ≤ x.2; omega, Nat.le_refl _, by show x.2 ≤ _; omega⟩
theorem has_dot {x : Dot} (h : Dt.mayD x = true) (d n : Nat) : Ru.has (runsC (dotC x) d) n = (decide (x.1 = d) && decide (x.2 = n)) := by
  have hx := (Dt.may_iff x).1 h
  rw [runs_has, show dotC x = [(x.1, [(x.2, x.2)])] from rfl, List.any_cons, List.any_nil, Bool.or_false, Ru.has_one, dot_may h, Bool.true_and]
  by_cases h1 : x.1 = d
  · subst h1
    have h2 : x.1 ≠ 0 := by omega
    by_cases h3 : x.2 = n
    · subst h3; simp [h2]
    · have h4 : ¬ n = x.2 := fun e => h3 e.symm
      simp [h3, h4]
  · simp [h1]
def isDot (d n : Nat) (x : Dot) : Bool := Dt.mayD x && (decide (x.1 = d) && decide (x.2 = n))
theorem has_stepO {o : List Part} (ho : FitC o) {x : Dot} (hx : x.1 < 65536 ∧ x.2 < 18446744073709551616) (d n : Nat) : Ru.has (runsC (stepO o x) d) n = (Ru.has (runsC o d) n || isDot d n x) := by
  unfold stepO isDot
  cases h : Dt.mayD x with
  | false => simp
  | true => rw [if_pos rfl, has_set0 ho (fit_dot hx.1 hx.2), has_dot h, Bool.true_and]
theorem has_of_upto {l : List Dot} (hl : Dt.Fit l) (d n k : Nat) : Ru.has (runsC (ofC (l.take k)) d) n = (l.take k).any (isDot d n) := by
  induction k with
  | zero => show Ru.has (runsC [] d) n = false; rw [runs_nil]; rfl
  | succ k ih =>
    by_cases hk : k < l.length
    · have hg := List.getElem?_eq_getElem hk
      rw [of_next hg, has_stepO (of_most l hl k).fit (hl _ (List.getElem_mem hk)), ih, List.take_add_one, hg, List.any_append]
      simp
    · have e : l.take (k + 1) = l.take k := by rw [List.take_of_length_le (by omega), List.take_of_length_le (by omega)]
      rw [e]; exact ih
theorem has_of {l : List Dot} (hl : Dt.Fit l) (d n : Nat) : Ru.has (runsC (ofC l) d) n = l.any (isDot d n) := by
  have := has_of_upto hl d n l.length
  rwa [List.take_length] at this
theorem fit_app {l m : List Dot} (hl : Dt.Fit l) (hm : Dt.Fit m) : Dt.Fit (l ++ m) := fun x hx => by
  rcases List.mem_append.1 hx with h | h
  · exact hl x h
  · exact hm x h
/-- more dots. -/
theorem set_of {l m : List Dot} (hl : Dt.Fit l) (hm : Dt.Fit m) : setC (ofC l) (ofC m) 0 = ofC (l ++ m) :=
  ord_eq (ord_set (ord_of hl).fit (ord_of hm).fit 0) (ord_of (fit_app hl hm)) fun d n => by
    rw [has_set0 (ord_of hl).fit (ord_of hm).fit, has_of hl, has_of hm, has_of (fit_app hl hm), List.any_append]
theorem of_same {l m : List Dot} (hl : Dt.Fit l) (hm : Dt.Fit m) (h : ∀ x, x ∈ l ↔ x ∈ m) : ofC l = ofC m :=
  ord_eq (ord_of hl) (ord_of hm) fun d n => by
    rw [has_of hl, has_of hm, Bool.eq_iff_iff, List.any_eq_true, List.any_eq_true]
    exact ⟨fun ⟨x, h1, h2⟩ => ⟨x, (h x).1 h1, h2⟩, fun ⟨x, h1, h2⟩ => ⟨x, (h x).2 h1, h2⟩⟩
/-- every place is met once one goes round. -/
theorem round_at {n r i : Nat} (hi : i < n) : ∃ j, j < n ∧ (n - 1 - j + r) % n = i := by
  refine ⟨(n - 1 + r - i) % n, Nat.mod_lt _ (by omega), ?_⟩
  have h1 := Nat.div_add_mod (n - 1 + r - i) n
  have h2 : (n - 1 + r - i) % n < n := Nat.mod_lt _ (by omega)
  generalize (n - 1 + r - i) % n = j at h1 h2 ⊢
  generalize (n - 1 + r - i) / n = q at h1
  have h3 : n - 1 - j + r = i + n * q := by omega
  rw [h3, Nat.add_mul_mod_self_left, Nat.mod_eq_of_lt hi]

/-! Bases. -/
def gapV (c : List Part) (d : Nat) : Nat := Ru.firstR (runsC c d) - 1
theorem first_nil : Ru.firstR [] = 1 := rfl
theorem tells_gap {c : List Part} (hc : FitC c) : Dt.Tells (gapV c) := by
  refine ⟨?_, fun d hd => ?_, fun d => ?_⟩
  · unfold gapV; rw [runs_zero]; rfl
  · unfold gapV; rw [runs_far hc hd]; rfl
  · have := first_max (runs_order c d)
    unfold gapV; omega
theorem base_list {c : List Part} : baseC c = Dt.listV (gapV c) := by
  rw [base_fold]
  unfold normC listC Dt.listV
  rw [List.filterMap_filterMap]
  congr 1
  funext d
  unfold oneC Dt.oneV gapV
  by_cases h : (runsC c d).length = 0
  · rw [if_pos h, List.eq_nil_of_length_eq_zero h]
    rfl
  · rw [if_neg h]
    show lastB (d, runsC c d) = _
    unfold lastB
    by_cases h1 : 1 < Ru.firstR (runsC c d)
    · rw [if_pos h1, if_pos (by omega)]
    · rw [if_neg h1, if_neg (by omega)]
theorem of_base {c : List Part} (hc : FitC c) : Dt.ofV (baseC c) = gapV c := by rw [base_list, Dt.of_list' (tells_gap hc)]
theorem fit_base {c : List Part} (hc : FitC c) : Dt.Fit (baseC c) := by rw [base_list]; exact Dt.list_fit (tells_gap hc)
theorem gap_has {c : List Part} {d n : Nat} (h1 : 1 ≤ n) (h2 : n ≤ gapV c d) : Ru.has (runsC c d) n = true := by
  unfold gapV at h2
  exact (Ru.first_spec (runs_order c d)).2.2 n h1 (by omega)
theorem base_in {c : List Part} (hc : FitC c) {x : Dot} (hx : x ∈ baseC c) : hasC c x = true ∧ hasC c (x.1, x.2 + 1) = false := by
  rw [base_list] at hx
  obtain ⟨h1, h2⟩ := (Dt.list_mem (tells_gap hc) x).1 hx
  have hm := Dt.list_may (tells_gap hc) hx
  have hs := Ru.first_spec (runs_order c x.1)
  constructor
  · unfold hasC
    rw [hm, Bool.true_and]
    exact gap_has (by omega) (by omega)
  · unfold hasC
    have e : x.2 + 1 = Ru.firstR (runsC c x.1) := by unfold gapV at h1 h2; omega
    show (Dt.mayD (x.1, x.2 + 1) && Ru.has (runsC c x.1) (x.2 + 1)) = false
    rw [e, hs.2.1, Bool.and_false]
theorem plain_has {v : List Dot} (hv : Dt.Fit v) (d n : Nat) : Ru.has (runsC (plainC v) d) n = (decide (1 ≤ n) && decide (n ≤ Dt.ofV v d)) := by
  rw [runs_has, Bool.eq_iff_iff]
  simp only [Bool.and_eq_true, decide_eq_true_eq, List.any_eq_true]
  constructor
  · rintro ⟨h0, y, hy, rfl, h2⟩
    obtain ⟨x, hx, rfl⟩ := List.mem_map.1 hy
    obtain ⟨h3, h4⟩ := (Dt.list_mem (Dt.tells_of hv) x).1 hx
    obtain ⟨r, hr, ht⟩ := (Ru.has_iff _ _).1 h2
    obtain rfl := List.mem_singleton.1 hr
    obtain ⟨_, h5, h6⟩ := (Ru.tst_iff _ _).1 ht
    simp only at h5 h6
    exact ⟨h5, by show n ≤ Dt.ofV v x.1; omega⟩
  · rintro ⟨h1, h2⟩
    have hp : 0 < Dt.ofV v d := by omega
    have hlt := Dt.of_lt v d
    have hd : d ≠ 0 := fun e => by rw [e, Dt.of_zero] at hp; omega
    refine ⟨hd, (d, [(1, Dt.ofV v d)]), List.mem_map.2 ⟨(d, Dt.ofV v d), (Dt.list_mem (Dt.tells_of hv) _).2 ⟨hp, rfl⟩, rfl⟩, rfl, ?_⟩
    refine (Ru.has_iff _ _).2 ⟨_, List.mem_singleton.2 rfl, (Ru.tst_iff _ _).2 ⟨(Ru.may_iff _).2 ⟨Nat.le_refl _, ?_, ?_⟩, h1, h2⟩⟩
    · show 1 ≤ Dt.ofV v d; omega
    · show Dt.ofV v d ≤ _; omega
theorem fit_plain {v : List Dot} (hv : Dt.Fit v) : FitC (plainC v) := fun x hx => by
  obtain ⟨y, hy, rfl⟩ := List.mem_map.1 hx
  have := Dt.fit_norm hv y hy
  exact ⟨this.1, fun r hr => by obtain rfl := List.mem_singleton.1 hr; exact ⟨by show 1 < _; omega, this.2⟩⟩
theorem gap_plain {v : List Dot} (hv : Dt.Fit v) (d : Nat) : gapV (plainC v) d = Dt.ofV v d := by
  obtain ⟨h1, h2, h3⟩ := Ru.first_spec (runs_order (plainC v) d)
  unfold gapV
  generalize Ru.firstR (runsC (plainC v) d) = z at h1 h2 h3
  rw [plain_has hv] at h2
  have h4 : ¬ z ≤ Dt.ofV v d := fun h => by rw [decide_eq_true h1, decide_eq_true h] at h2; cases h2
  have h5 : ¬ Dt.ofV v d + 1 < z := fun h => by
    have := h3 (Dt.ofV v d + 1) (by omega) h
    rw [plain_has hv, Bool.and_eq_true, decide_eq_true_eq, decide_eq_true_eq] at this
    omega
  omega
theorem base_plain {v : List Dot} (hv : Dt.Fit v) : baseC (plainC v) = Dt.normV v := by
  rw [base_list, show gapV (plainC v) = Dt.ofV v from funext (gap_plain hv)]
  rfl
theorem norm_base {c : List Part} (hc : FitC c) : Dt.normV (baseC c) = baseC c := by
  unfold Dt.normV
  rw [of_base hc, base_list]
theorem base_plain_base {c : List Part} (hc : FitC c) : baseC (plainC (baseC c)) = baseC c := by rw [base_plain (fit_base hc), norm_base hc]
theorem within_base {c : List Part} (hc : FitC c) : withinC (plainC (baseC c)) c = true := within_iff (fit_plain (fit_base hc)) hc fun d n h => by
  rw [plain_has (fit_base hc), of_base hc, Bool.and_eq_true, decide_eq_true_eq, decide_eq_true_eq] at h
  exact gap_has h.1 h.2

/-! What is in order. -/
theorem ord_rise {c : List Part} (hr : c.Pairwise (fun a b => a.1 < b.1)) (ho : ∀ x ∈ c, Ru.InOrder x.2 ∧ x.2 ≠ [] ∧ 1 ≤ x.1 ∧ x.1 < 65536) : OrdC c := by
  have hf : FitC c := fun x hx => ⟨(ho x hx).2.2.2, fit_runs (ho x hx).1⟩
  have same : ∀ x ∈ c, ∀ y ∈ c, y.1 = x.1 → y = x := fun x hx y hy e => by
    rcases List.getElem_of_mem hx with ⟨i, hi, rfl⟩
    rcases List.getElem_of_mem hy with ⟨j, hj, rfl⟩
    rcases Nat.lt_trichotomy i j with h | h | h
    · have := (List.pairwise_iff_getElem.1 hr) i j hi hj h; omega
    · subst h; rfl
    · have := (List.pairwise_iff_getElem.1 hr) j i hj hi h; omega
  have own : ∀ x ∈ c, runsC c x.1 = x.2 := fun x hx => by
    refine Ru.uniq (runs_order _ _) (ho x hx).1 fun n => ?_
    rw [runs_has, Bool.eq_iff_iff]
    simp only [Bool.and_eq_true, decide_eq_true_eq, List.any_eq_true]
    exact ⟨fun ⟨_, y, hy, e, h⟩ => by rw [same x hx y hy e] at h; exact h, fun h => ⟨by have := (ho x hx).2.2.1; omega, x, hx, rfl, h⟩⟩
  refine ⟨runsC c, tells_runs hf, rise_uniq (fun x => x.1) hr (list_rise _) fun x => ?_⟩
  rw [list_mem (tells_runs hf)]
  constructor
  · intro hx
    exact ⟨(own x hx).symm, by rw [own x hx]; exact (ho x hx).2.1⟩
  · rintro ⟨h1, h2⟩
    have h3 : ∃ y ∈ c, y.1 = x.1 := by
      refine Classical.byContradiction fun h => h2 (runs_empty (.inr fun y hy e => h ⟨y, hy, e⟩))
    obtain ⟨y, hy, e⟩ := h3
    have := own y hy
    rw [e, ← h1] at this
    have e2 : x = y := Prod.ext e.symm this
    rw [e2]; exact hy
end Go.Proofs.Ytmhghgogehmehaa.Cx

/- The words of layer dcode: bytes, dots and contexts that come out. -/
namespace Go.Proofs.Ytmhghgogehmehaa.Dc
open Go.ChangeShapes Go.WideShapes Go.ChangeAt Go.RowKit
set_option linter.unusedVariables false
set_option maxRecDepth 4000

theorem lies_run (V : World) (lo hi : Nat) : Ru.Lies (V.alloc (.cells #[.int .u64 (lo : Int), .int .u64 (hi : Int)] 35)) (V.alloc (.cells #[.int .u64 (lo : Int), .int .u64 (hi : Int)] 35)).heap.size (some ⟨V.heap.size, 0, none⟩) (Ru.rv [(lo, hi)]) := fun _ => by
  refine ⟨_, rfl, by simp, fun j u hu => ?_⟩
  rw [Ru.zero_add, World.cell?_alloc_new]
  have e : Ru.rv [(lo, hi)] = [.int .u64 (lo : Int), .int .u64 (hi : Int)] := rfl
  rw [e] at hu
  simpa using hu
theorem match_row {V U : World} {ps : List Cx.PV} {o : List Part} {row : Option Nat} (hm : Cx.Match V ps o) (hg : V.grownBy U row) (hne : ∀ p ∈ ps, ∀ ad, p.adr = some ad → some ad.block ≠ row) : Cx.Match U ps o :=
  ⟨hm.1, fun k p x hp hx => by
    have h1 := hm.2 k p x hp hx
    exact ⟨h1.dev, h1.fit, h1.len, h1.nil, h1.cap, h1.max, Cx.runs_grown hg h1.runs (hne p (List.mem_of_getElem? hp))⟩⟩
theorem bel_grown {w V : World} (h : w.grownBy V (some w.heap.size)) : Below w.heap.size w V := ⟨h.os, h.tape, h.output, h.size, fun i hi => h.block i hi (fun e => by cases e; omega)⟩
theorem lies_grown {w V : World} {g : Nat} {A : Option Addr} {vs : List Value} (h : Dt.Lies w w.heap.size A vs) (hg : w.grownBy V (some g)) (hne : ∀ ad, A = some ad → ad.block ≠ g) : Dt.Lies V V.heap.size A vs := fun hl => by
  obtain ⟨ad, e, hB, hc⟩ := h hl
  refine ⟨ad, e, Nat.lt_of_lt_of_le hB hg.size, fun j u hu => ?_⟩
  rw [World.grownBy.cell_far hg (ad.add j) (by rw [Dt.block_add]; exact hB) (by rw [Dt.block_add]; intro e2; exact hne ad e (by simpa using e2))]
  exact hc j u hu
/-- dots that came out, in blocks from B0 on. -/
structure DL (B0 : Nat) (V : World) (A : Option Addr) (l : List Dot) (n c : Nat) : Prop where
  len : l.length = n
  nil : A = none → n = 0 ∧ c = 0
  cap : n ≤ c
  max : c ≤ 9223372036854775807
  dots : Dt.Dots V V.heap.size A l
  far : ∀ ad, A = some ad → B0 ≤ ad.block
theorem DL.below {B0 n c : Nat} {V U : World} {A : Option Addr} {l : List Dot} (h : DL B0 V A l n c) (hb : Below V.heap.size V U) : DL B0 U A l n c := ⟨h.len, h.nil, h.cap, h.max, h.dots.up hb, h.far⟩
theorem DL.kept {B0 n c g : Nat} {V U : World} {A : Option Addr} {l : List Dot} (h : DL B0 V A l n c) (hg : V.grownBy U (some g)) (hB : g < B0) : DL B0 U A l n c :=
  ⟨h.len, h.nil, h.cap, h.max, ⟨h.dots.1, lies_grown h.dots.2 hg (fun ad e => by have := h.far ad e; omega)⟩, h.far⟩
/-- a context that came out, in blocks from B0 on. -/
structure CL (B0 : Nat) (V : World) (A : Option Addr) (o : List Part) (n c : Nat) : Prop where
  len : o.length = n
  nil : A = none → n = 0 ∧ c = 0
  cap : n ≤ c
  max : c ≤ 9223372036854775807
  far : ∀ ad, A = some ad → B0 ≤ ad.block
  parts : ∃ ps, Dt.Lies V V.heap.size A (Cx.cv ps) ∧ Cx.Match V ps o ∧ ∀ p ∈ ps, ∀ ad, p.adr = some ad → B0 ≤ ad.block
theorem CL.ctx {B0 n c : Nat} {V : World} {A : Option Addr} {o : List Part} (h : CL B0 V A o n c) : Cx.CtxAt V A o n c := by
  obtain ⟨ps, h1, h2, _⟩ := h.parts
  exact ⟨h.len, h.nil, h.cap, h.max, ps, h1, h2⟩
theorem CL.kept {B0 n c g : Nat} {V U : World} {A : Option Addr} {o : List Part} (h : CL B0 V A o n c) (hg : V.grownBy U (some g)) (hB : g < B0) : CL B0 U A o n c := by
  obtain ⟨ps, h1, h2, h3⟩ := h.parts
  exact ⟨h.len, h.nil, h.cap, h.max, h.far, ps, lies_grown h1 hg (fun ad e => by have := h.far ad e; omega), match_row h2 hg (fun p hp ad e e2 => by cases e2; have := h3 p hp ad e; omega), h3⟩
theorem CL.below {B0 n c : Nat} {V U : World} {A : Option Addr} {o : List Part} (h : CL B0 V A o n c) (hb : Below V.heap.size V U) : CL B0 U A o n c := by
  obtain ⟨ps, h1, h2, h3⟩ := h.parts
  exact ⟨h.len, h.nil, h.cap, h.max, h.far, ps, (h1.below hb).more hb.size, h2.up hb, h3⟩
/-- what is decoded comes out. -/
def DecPost (w : World) (b : List Nat) (e : Ending) (w' : World) : Prop := ∃ A' m c', e = .returned (.tuple #[.slice A' m c', .int .i64 ((decR b).2 : Int)]) ∧ CL w.heap.size w' A' (decR b).1 m c' ∧ Below w.heap.size w w'
theorem CL.none_ (B0 : Nat) (w : World) : CL B0 w none [] 0 0 := ⟨rfl, (fun _ => ⟨rfl, rfl⟩), Nat.le_refl _, by decide, (fun ad e => by cases e), [], Dt.Lies.none_ _ _ _, Cx.Match.nil_ _, fun p hp => by cases hp⟩
theorem CL.less {B0 B1 n c : Nat} {V : World} {A : Option Addr} {o : List Part} (h : CL B0 V A o n c) (hB : B1 ≤ B0) : CL B1 V A o n c := by
  obtain ⟨ps, h1, h2, h3⟩ := h.parts
  exact ⟨h.len, h.nil, h.cap, h.max, (fun ad e => Nat.le_trans hB (h.far ad e)), ps, h1, h2, fun p hp ad e => Nat.le_trans hB (h3 p hp ad e)⟩
theorem pw_up {w W : World} {B g : Nat} {rb : Option Nat} {m : List Nat} (h : Nu.PW w B g rb m) (hb : Below w.heap.size w W) : Nu.PW W B g rb m := by
  obtain ⟨v, n, h1, h2, h3, h4⟩ := h
  exact ⟨v, n, h1.below hb h1.lt, h2, Nu.own_below h3 hb, h4⟩
end Go.Proofs.Ytmhghgogehmehaa.Dc

/- What the walks of layer dcode ask of the program; the chapter's example. -/
namespace Go.Proofs.Ytmhghgogehmehaa.Dc
open Go.ChangeShapes Go.WideShapes Go.ChangeAt Go.RowKit
set_option linter.unusedVariables false
set_option maxRecDepth 4000

/-- what the program's functions answer. -/
structure PDc : Prop where
  putctx : ∀ (w0 w : World) (g : Nat) (rb : Option Nat) (m : List Nat) (A : Option Addr) (C : List Part) (n c : Nat), Nu.PW w w0.heap.size g rb m → Below w0.heap.size w0 w → Cx.CtxAt w0 A C n c → Cx.Small C → m.length ≤ 1099511627776 → Calls Try.prog 11 #[.pointer (some ⟨g, 0, none⟩), .slice A n c] w (Nu.WPost w w0.heap.size g rb (m ++ ctxB (Cx.normC C)))
  encode : ∀ (w : World) (A : Option Addr) (C : List Part) (n c : Nat), Cx.CtxAt w A C n c → Cx.Small C → Calls Try.prog 7 #[.slice A n c] w (BPost w (ctxB (Cx.normC C)))
  ctx : ∀ (w : World) (g B : Nat) (l : List Nat) (e : Nat), Nu.PR w g B l e → B ≤ g → l.length ≤ 1048576 → Calls Try.prog 9 #[.pointer (some ⟨g, 0, none⟩)] w fun r V => ∃ A' m c', r = .returned (.slice A' m c') ∧ CL w.heap.size V A' (ctxR (l, e)).1 m c' ∧ Nu.PR V g B (ctxR (l, e)).2.1 (ctxR (l, e)).2.2 ∧ w.grownBy V (some g)
  decode : ∀ (w : World) (A : Option Addr) (b : List Nat) (n c : Nat), BL w A b n c → n ≤ 1048576 → Calls Try.prog 5 #[.slice A n c] w (DecPost w b)

/-- the example's context. -/
abbrev exC : List Part := [(1, [(1, 2)])]
theorem ex_norm : Cx.normC exC = exC := (Cx.ord_rise (by simp) (by
  intro x hx
  obtain rfl : x = (1, [(1, 2)]) := by simpa using hx
  exact ⟨by unfold Ru.InOrder; decide, by decide, by decide, by decide⟩)).norm
theorem ex_bytes : ctxB exC = [1, 1, 1, 1, 1, 1, 1, 1, 1, 2] := by decide
theorem ex_small : Cx.Small exC := ⟨by decide, by decide⟩
theorem ex_at (w : World) : Cx.CtxAt ((w.alloc (.cells #[.int .u64 1, .int .u64 2] 35)).alloc (.cells #[.int .u16 1, .slice (some ⟨w.heap.size, 0, none⟩) 1 1] 38)) (some ⟨w.heap.size + 1, 0, none⟩) exC 1 1 := by
  rw [show w.heap.size + 1 = (w.alloc (.cells #[.int .u64 1, .int .u64 2] 35)).heap.size from (alloc_size _ _).symm]
  have h1 := lies_run w 1 2
  have e1 : ((1 : Nat) : Int) = 1 := rfl
  have e2 : ((2 : Nat) : Int) = 2 := rfl
  rw [e1, e2] at h1
  generalize hw1 : w.alloc (.cells #[.int .u64 1, .int .u64 2] 35) = w1 at *
  have hb := below_new w1 (.cells #[.int .u16 1, .slice (some ⟨w.heap.size, 0, none⟩) 1 1] 38)
  refine ⟨rfl, (fun e => by cases e), Nat.le_refl _, by decide, [⟨1, some ⟨w.heap.size, 0, none⟩, 1, 1⟩], fun _ => ⟨_, rfl, by simp, fun j u hu => ?_⟩, ?_⟩
  · rw [Ru.zero_add, World.cell?_alloc_new]
    have e : Cx.cv [⟨1, some ⟨w.heap.size, 0, none⟩, 1, 1⟩] = [.int .u16 1, .slice (some ⟨w.heap.size, 0, none⟩) 1 1] := rfl
    rw [e] at hu
    simpa using hu
  · refine ⟨rfl, fun k p x hp hx => ?_⟩
    cases k with
    | succ k => simp at hp
    | zero =>
      obtain rfl : p = ⟨1, some ⟨w.heap.size, 0, none⟩, 1, 1⟩ := by simpa using hp.symm
      obtain rfl : x = (1, [(1, 2)]) := by simpa using hx.symm
      exact ⟨rfl, by decide, rfl, (fun e => by cases e), Nat.le_refl _, (by show 1 ≤ 9223372036854775807; decide), (by intro r hr; obtain rfl := List.mem_singleton.1 hr; exact ⟨by decide, by decide⟩), (h1.below hb).more hb.size⟩
set_option maxHeartbeats 1000000 in
theorem works_any (P : PDc) (w : World) : Calls Try.prog 4 #[] w fun r w' => r = .returned (.bool true) ∧ Below w.heap.size w w' := by
  have HX := Lib.hid (ex_at w)
  have HB : Hid (Below w.heap.size w ((w.alloc (.cells #[.int .u64 1, .int .u64 2] 35)).alloc (.cells #[.int .u16 1, .slice (some ⟨w.heap.size, 0, none⟩) 1 1] 38))) := Lib.hid (bel_alloc _ (below_new w _))
  have CE := Lib.hid (P.encode _ _ _ _ _ HX.out ex_small)
  clear HX
  go_enter Try.func4, Try.ntmps4
  go_wp2_with fail
  refine CE.out.mono ?_
  rintro e w3 ⟨A, n, c, rfl, hl, hb⟩
  rw [ex_norm, ex_bytes] at hl
  have HL := Lib.hid hl
  have HB3 := Lib.hid (HB.out.trans (hb.mono HB.out.size))
  clear hl hb CE HB
  go_wp2_with fail
  refine (Nu.equal_any _ w3.heap.size (w3.heap.size + 1) A (some ⟨w3.heap.size, 0, none⟩) [1, 1, 1, 1, 1, 1, 1, 1, 1, 2] [1, 1, 1, 1, 1, 1, 1, 1, 1, 2] n 10 c 10 HL.out.len rfl (HL.out.at_.below (below_new w3 _)) (Nu.bytes_new w3 _ _ rfl (by unfold Nu.Small; decide) 5)).mono ?_
  rintro r w4 ⟨rfl, rfl⟩
  go_wp2
  go_ret
  exact ⟨rfl, HB3.out.alloc HB3.out.size _⟩
end Go.Proofs.Ytmhghgogehmehaa.Dc

/- What the frames of layer dcode's laws share: a dot, a list of dots, a context that came in, as the walks take them. No condition. -/
namespace Go.Proofs.Ytmhghgogehmehaa.Cx
open Go.ChangeShapes Go.WideShapes Go.ChangeAt Go.RowKit Go.Deep Go.Joins
set_option linter.unusedVariables false
set_option maxRecDepth 4000

/-- a slice of dots, that lies in this world. -/
structure DotsIn (w : World) (A : Option Addr) (l : List Dot) (n c : Nat) : Prop where
  len : l.length = n
  nil : A = none → n = 0 ∧ c = 0
  cap : n ≤ c
  max : c ≤ 9223372036854775807
  dots : Dt.Dots w w.heap.size A l

theorem own : ownKnob Try.prog.godebug = none := by kernel_rfl
theorem laidOut : laidOutB Try.prog = true := by kernel_rfl
theorem cells16 : Try.prog.cellsOf 32 = 1 := by kernel_rfl
theorem cells64 : Try.prog.cellsOf 33 = 1 := by kernel_rfl
theorem cellsRs : Try.prog.cellsOf 36 = 1 := by kernel_rfl
theorem cellsR : Try.prog.cellsOf 35 = 2 := by kernel_rfl
theorem cellsP : Try.prog.cellsOf 38 = 2 := by kernel_rfl
theorem wf_u64 {n : Int} (h : (Lit.int .u64 n).wf = true) : ∃ s : Nat, n = (s : Int) ∧ s < 18446744073709551616 := by
  simp [Lit.wf, IntKind.min, IntKind.max, IntKind.bits, IntKind.signed] at h
  exact ⟨n.toNat, by omega, by omega⟩
theorem wf_u16 {n : Int} (h : (Lit.int .u16 n).wf = true) : ∃ s : Nat, n = (s : Int) ∧ s < 65536 := by
  simp [Lit.wf, IntKind.min, IntKind.max, IntKind.bits, IntKind.signed] at h
  exact ⟨n.toNat, by omega, by omega⟩
theorem wf_u8 {n : Int} (h : (Lit.int .u8 n).wf = true) : ∃ s : Nat, n = (s : Int) ∧ s < 256 := by
  simp [Lit.wf, IntKind.min, IntKind.max, IntKind.bits, IntKind.signed] at h
  exact ⟨n.toNat, by omega, by omega⟩
theorem list_of {α : Type} {Q : Nat → α → Prop} (n : Nat) (h : ∀ i, i < n → ∃ t, Q i t) : ∃ L : List α, L.length = n ∧ ∀ (i : Nat) (t : α), L[i]? = some t → Q i t := by
  induction n with
  | zero => exact ⟨[], rfl, fun i t hi => by simp at hi⟩
  | succ n ih =>
    obtain ⟨L, hL, hQ⟩ := ih (fun i hi => h i (by omega))
    obtain ⟨t, ht⟩ := h n (by omega)
    refine ⟨L ++ [t], by simp [hL], fun i u hu => ?_⟩
    rcases Nat.lt_or_ge i n with hi | hi
    · rw [List.getElem?_append_left (by omega)] at hu
      exact hQ i u hu
    · rw [List.getElem?_append_right (by omega), hL] at hu
      have e : i = n := by
        rcases Nat.eq_or_lt_of_le hi with e | e
        · exact e.symm
        · rw [List.getElem?_eq_none (by simp; omega)] at hu; cases hu
      subst e
      simp at hu
      subst hu
      exact ht
/-- rows of two cells. -/
theorem lies_two {α : Type} {w : World} {B : Nat} {ad : Addr} (hB : ad.block < B) (f g : α → Value) (L : List α) (h : ∀ (i : Nat) (r : α), L[i]? = some r → w.cell? (ad.add (i * 2)) = some (f r) ∧ w.cell? (ad.add (i * 2 + 1)) = some (g r)) : Dt.Lies w B (some ad) (L.flatMap fun r => [f r, g r]) := fun _ => by
  have len : ∀ L : List α, (L.flatMap fun r => [f r, g r]).length = L.length * 2 := fun L => by
    induction L with
    | nil => rfl
    | cons r L ih => simp only [List.flatMap_cons, List.length_append, List.length_cons, List.length_nil, ih]; omega
  have get : ∀ (L : List α) (k : Nat) (r : α), L[k]? = some r → (L.flatMap fun r => [f r, g r])[k * 2]? = some (f r) ∧ (L.flatMap fun r => [f r, g r])[k * 2 + 1]? = some (g r) := fun L => by
    induction L with
    | nil => intro k r h; simp at h
    | cons x L ih =>
      intro k r h
      cases k with
      | zero => obtain rfl : x = r := by simpa using h
                exact ⟨rfl, rfl⟩
      | succ k =>
        have h2 := ih k r (by simpa using h)
        have e : (x :: L).flatMap (fun r => [f r, g r]) = f x :: g x :: L.flatMap (fun r => [f r, g r]) := rfl
        have e1 : (k + 1) * 2 = k * 2 + 2 := by omega
        rw [e, e1]
        exact ⟨by simpa using h2.1, by simpa using h2.2⟩
  refine ⟨ad, rfl, hB, fun j u hu => ?_⟩
  have hj : j < (L.flatMap fun r => [f r, g r]).length := (List.getElem?_eq_some_iff.1 hu).1
  rw [len] at hj
  have hd : j / 2 < L.length := by omega
  have hg := List.getElem?_eq_getElem hd
  obtain ⟨g1, g2⟩ := get L _ _ hg
  obtain ⟨c1, c2⟩ := h _ _ hg
  rcases Nat.mod_two_eq_zero_or_one j with h0 | h0
  · have e : j = j / 2 * 2 := by omega
    rw [e] at hu ⊢
    rw [g1] at hu
    cases hu
    exact c1
  · have e : j = j / 2 * 2 + 1 := by omega
    generalize hz : j / 2 = z at *
    subst e
    rw [g2] at hu
    cases hu
    exact c2
/-- what a slice's datum is as long as. -/
def Long {H : Type} (d : DataW H) (n : Nat) : Prop := n = 0 ∨ ∃ elems spare, d = .slice elems spare ∧ elems.length = n
/-- a slice of runs that stands in a cell. -/
theorem runs_cell {H : Type} {enc : TypeId × Value → H} {W : World} {fuel : Nat} {v : Value} {d : DataW H} {p : List MemPlace} (h : DataW.trod enc Try.prog W 0 (fun _ => true) true fuel 36 [v] = some (d, p)) :
    ∃ (A : Option Addr) (n c : Nat) (l : List Run), v = .slice A n c ∧ RunsAt W A l n c ∧ Long d n := by
  rcases open_slice_pairs Try.underlying36 Try.underlying35 cellsR rfl rfl cells64 cells64 h with ⟨hcs, _⟩ | ⟨x, n0, c0, m, f0, V0, V1, D0, D1, P0, P1, hcs, hb, hl, hm, hmm, hx, hi⟩
  · obtain rfl := (List.cons.inj hcs).1
    exact ⟨none, 0, 0, [], rfl, ⟨rfl, fun _ => ⟨rfl, rfl⟩, Nat.le_refl _, by omega, Ru.Runs.none_ _ _ _⟩, .inl rfl⟩
  · obtain rfl := (List.cons.inj hcs).1
    unfold maxLen at hm
    have hmc : m = c0 := by simpa using hmm
    have each : ∀ i, i < n0 → ∃ r : Run, (r.1 < 18446744073709551616 ∧ r.2 < 18446744073709551616) ∧ W.cell? (x.add (i * 2)) = some (.int .u64 (r.1 : Int)) ∧ W.cell? (x.add (i * 2 + 1)) = some (.int .u64 (r.2 : Int)) := by
      intro i hil
      obtain ⟨h0, h1, t0, t1⟩ := hi i (by omega)
      obtain ⟨z0, e0, _, w0⟩ := DataW.trod_int Try.underlying33 t0
      obtain ⟨z1, e1, _, w1⟩ := DataW.trod_int Try.underlying33 t1
      obtain ⟨s0, rfl, hs0⟩ := wf_u64 w0
      obtain ⟨s1, rfl, hs1⟩ := wf_u64 w1
      rw [(List.cons.inj e0).1] at h0
      rw [(List.cons.inj e1).1] at h1
      exact ⟨(s0, s1), ⟨hs0, hs1⟩, h0, h1⟩
    obtain ⟨L, hL, hQ⟩ := list_of n0 each
    simp only [Prod.mk.injEq] at hx
    refine ⟨some x, n0, c0, L, rfl, ⟨hL, (fun e => by cases e), by omega, by omega, fun r hr => ?_, ?_⟩, .inr ⟨_, _, hx.1, by simp⟩⟩
    · obtain ⟨i, hi', rfl⟩ := List.getElem_of_mem hr
      exact (hQ i _ (List.getElem?_eq_getElem hi')).1
    · rcases Nat.eq_zero_or_pos L.length with h0 | h0
      · rw [List.eq_nil_of_length_eq_zero h0]; exact Ru.Lies.none_ _ _ _
      · refine lies_two ?_ (fun r : Run => Value.int .u64 (r.1 : Int)) (fun r : Run => Value.int .u64 (r.2 : Int)) L (fun i r hr => (hQ i r hr).2)
        have h1 := (hQ 0 _ (List.getElem?_eq_getElem h0)).2.1
        have h2 := World.block_lt_of_cell? W _ h1
        rwa [Dt.block_add] at h2
/-- a context that came in, and how long its parts' data are. -/
theorem ctx_of {H : Type} {enc : TypeId × Value → H} {W : World} {a : Option Addr} {len cap : Nat} {d : DataW H} {p : List MemPlace} (h : DataW.Trod enc Try.prog W 0 (fun _ => true) true 25 (.slice a len cap) d p) :
    ∃ c : List Part, CtxAt W a c len cap ∧ (len = 0 ∨ ∃ (D0 D1 : Nat → DataW H) (spare : List (DataW H)), d = .slice ((List.range len).map fun i => .agg [D0 i, D1 i]) spare ∧ ∀ (i : Nat) (x : Part), c[i]? = some x → Long (D1 i) x.2.length) := by
  obtain ⟨fuel, hf⟩ := h
  rcases open_slice_pairs Try.underlying25 Try.underlying38 cellsP rfl rfl cells16 cellsRs hf with ⟨hcs, _⟩ | ⟨x, n0, c0, m, f0, V0, V1, D0, D1, P0, P1, hcs, hb, hl, hm, hmm, hx, hi⟩
  · simp [Value.cells] at hcs
    obtain ⟨rfl, rfl, rfl⟩ := hcs
    exact ⟨[], CtxAt.none_ W, .inl rfl⟩
  · simp [Value.cells] at hcs
    obtain ⟨rfl, rfl, rfl⟩ := hcs
    unfold maxLen at hm
    have hmc : m = cap := by simpa using hmm
    have each : ∀ i, i < len → ∃ r : PV × Part, PartIs W W.heap.size r.1 r.2 ∧ Long (D1 i) r.2.2.length ∧ W.cell? (x.add (i * 2)) = some (.int .u16 (r.1.dev : Int)) ∧ W.cell? (x.add (i * 2 + 1)) = some (.slice r.1.adr r.1.len r.1.cap) := by
      intro i hil
      obtain ⟨h0, h1, t0, t1⟩ := hi i (by omega)
      obtain ⟨z0, e0, _, w0⟩ := DataW.trod_int Try.underlying32 t0
      obtain ⟨s0, rfl, hs0⟩ := wf_u16 w0
      rw [(List.cons.inj e0).1] at h0
      obtain ⟨A, n, c, l, e1, hR, hLg⟩ := runs_cell t1
      rw [e1] at h1
      exact ⟨(⟨s0, A, n, c⟩, (s0, l)), ⟨rfl, hs0, hR.len, hR.nil, hR.cap, hR.max, hR.runs⟩, by show Long (D1 i) l.length; rw [hR.len]; exact hLg, h0, h1⟩
    obtain ⟨L, hL, hQ⟩ := list_of len each
    simp only [Prod.mk.injEq] at hx
    refine ⟨L.map (fun r => r.2), ⟨by rw [List.length_map, hL], (fun e => by cases e), by omega, by omega, L.map (fun r => r.1), ?_, by rw [List.length_map, List.length_map], ?_⟩, .inr ⟨D0, D1, _, hx.1, ?_⟩⟩
    · have e : cv (L.map (fun r => r.1)) = L.flatMap (fun r => [Value.int .u16 (r.1.dev : Int), .slice r.1.adr r.1.len r.1.cap]) := by
        unfold cv
        rw [List.flatMap_map]
      rw [e]
      rcases Nat.eq_zero_or_pos L.length with h0 | h0
      · rw [List.eq_nil_of_length_eq_zero h0]; exact Dt.Lies.none_ _ _ _
      · refine lies_two ?_ (fun r : PV × Part => Value.int .u16 (r.1.dev : Int)) (fun r : PV × Part => Value.slice r.1.adr r.1.len r.1.cap) L (fun i r hr => (hQ i r hr).2.2)
        have h1 := (hQ 0 _ (List.getElem?_eq_getElem h0)).2.2.1
        have h2 := World.block_lt_of_cell? W _ h1
        rwa [Dt.block_add] at h2
    · intro k p y hp hy
      rw [List.getElem?_map] at hp hy
      obtain ⟨r, hr, rfl⟩ := Option.map_eq_some_iff.1 hp
      rw [hr] at hy
      cases hy
      exact (hQ k r hr).1
    · intro i y hy
      rw [List.getElem?_map] at hy
      obtain ⟨r, hr, rfl⟩ := Option.map_eq_some_iff.1 hy
      exact (hQ i r hr).2.1
end Go.Proofs.Ytmhghgogehmehaa.Cx
namespace Go.Proofs.Ytmhghgogehmehaa.Dc
open Go.ChangeShapes Go.WideShapes Go.ChangeAt Go.RowKit Go.Deep Go.Joins
theorem wf_i64 {n : Int} (h : (Lit.int .i64 n).wf = true) : -9223372036854775808 ≤ n ∧ n < 9223372036854775808 := by
  simp [Lit.wf, IntKind.min, IntKind.max, IntKind.bits, IntKind.signed] at h
  omega
theorem cells5 : Try.prog.cellsOf 5 = 1 := by kernel_rfl
/-- numbers of a row of bytes, as the walks take them. -/
theorem bytes_row {W : World} {x : Addr} {len : Nat} {zs : List Int} (hl : len ≤ zs.length) (hcell : ∀ i, i < len → W.cell? (x.add i) = some (.int .u8 (zs.getD i 0))) (hwz : ∀ n ∈ zs, (Lit.int .u8 n).wf = true) :
    ∃ l : List Nat, l.length = len ∧ Nu.Bytes W W.heap.size (some x) l := by
  refine ⟨(zs.take len).map Int.toNat, by simp; omega, fun y hy => ?_, fun h0 => ⟨x, rfl, ?_, fun j y hj => ?_⟩⟩
  · obtain ⟨n, hn, rfl⟩ := List.mem_map.1 hy
    obtain ⟨s, rfl, hs⟩ := Cx.wf_u8 (hwz n (List.mem_of_mem_take hn))
    omega
  · have h1 : 0 < len := by simp at h0; omega
    have h2 := World.block_lt_of_cell? W _ (hcell 0 h1)
    rwa [Nu.block_add] at h2
  · have hjl : j < len := by
      have := (List.getElem?_eq_some_iff.1 hj).1
      simp at this
      omega
    rw [hcell j hjl]
    have hz : j < zs.length := by omega
    rw [List.getElem?_map, List.getElem?_take_of_lt hjl, List.getElem?_eq_getElem hz] at hj
    simp only [Option.map_some, Option.some.injEq] at hj
    obtain ⟨s, hs, _⟩ := Cx.wf_u8 (hwz zs[j] (List.getElem_mem hz))
    have e : zs.getD j 0 = (y : Int) := by
      rw [List.getD_eq_getElem?_getD, List.getElem?_eq_getElem hz, Option.getD_some]
      omega
    rw [e]
/-- a slice of bytes that came in. -/
theorem bytes_of {H : Type} {enc : TypeId × Value → H} {W : World} {a : Option Addr} {len cap : Nat} {d : DataW H} {p : List MemPlace} (h : DataW.Trod enc Try.prog W 0 (fun _ => true) true 22 (.slice a len cap) d p) :
    ∃ l : List Nat, BL W a l len cap := by
  obtain ⟨fuel, hf⟩ := h
  rcases open_ints Try.underlying22 Try.underlying5 cells5 hf with ⟨hcs, _⟩ | ⟨x, l, c, zs, hcs, _, hl, hm, hz, _, hcell, hwz⟩
  · simp [Value.cells] at hcs
    obtain ⟨rfl, rfl, rfl⟩ := hcs
    exact ⟨[], BL.none_ W⟩
  · simp [Value.cells] at hcs
    obtain ⟨rfl, rfl, rfl⟩ := hcs
    have hz' : zs.length = cap := by simpa using hz
    obtain ⟨l, hl1, hl2⟩ := bytes_row (len := len) (by omega) (fun i hi => hcell i (by omega)) hwz
    unfold maxLen at hm
    exact ⟨l, hl1, (fun h => by cases h), by omega, by omega, hl2⟩
end Go.Proofs.Ytmhghgogehmehaa.Dc

/- DcodeOnce: the law's walk. -/
namespace Go.Proofs.Ytmhghgogehmehaa.Dc
open Go.ChangeShapes Go.WideShapes Go.ChangeAt Go.RowKit
set_option linter.unusedVariables false
set_option maxRecDepth 4000

theorem enc_one (x : Nat) : 1 ≤ (Nu.enc x).length := Nu.enc_pos x
theorem runs_least (q : List Run) : q.length ≤ (q.flatMap runB).length := by
  induction q with
  | nil => simp
  | cons r q ih =>
    have h1 := enc_one r.1
    have e : (runB r).length = (Nu.enc r.1).length + (Nu.enc r.2).length := by unfold runB; rw [List.length_append]
    rw [List.flatMap_cons, List.length_append, List.length_cons, e]
    omega
theorem parts_least (c : List Part) : c.length ≤ (c.flatMap partB).length ∧ (c.map (fun x => x.2.length)).sum ≤ (c.flatMap partB).length := by
  induction c with
  | nil => simp
  | cons p c ih =>
    have h1 := enc_one p.1
    have h2 := runs_least p.2
    have e : (partB p).length = (Nu.enc p.1).length + ((Nu.enc p.2.length).length + (p.2.flatMap runB).length) := by unfold partB; rw [List.length_append, List.length_append]
    rw [List.flatMap_cons, List.length_append, List.length_cons, List.map_cons, List.sum_cons, e]
    omega
theorem small_of {c : List Part} (h : (ctxB c).length ≤ 1000) : Cx.Small c := by
  have h1 := parts_least c
  unfold ctxB at h
  rw [List.length_append] at h
  exact ⟨Nat.le_trans h1.1 (by omega), Nat.le_trans h1.2 (by omega)⟩
theorem ctx_pos (c : List Part) : 1 ≤ (ctxB c).length := by
  have := enc_one c.length
  unfold ctxB
  rw [List.length_append]
  omega
theorem take_back {b : List Nat} (h : 1 ≤ b.length) : ∃ r, r ≠ [] ∧ b = b.take (b.length - 1) ++ r := ⟨b.drop (b.length - 1), (fun e => by have := congrArg List.length e; rw [List.length_drop] at this; simp at this; omega), (List.take_append_drop _ _).symm⟩
theorem own_bl {w2 w4 : World} {g2 cap2 n : Nat} {m : List Nat} (ho : w4.ownsRow w2.heap.size 5 1 (.slice (some ⟨g2, 0, none⟩) n cap2) n (Nu.vals m)) (hn : m.length = n) (hs : Nu.Small m) : BL w4 (some ⟨g2, 0, none⟩) m n cap2 := by
  obtain ⟨h1, h2, h3⟩ := Dt.own_len ho
  exact ⟨hn, h3, h1, h2, Nu.bytes_own ho hs⟩
/-- what is decoded comes out, or an error. -/
def DecOr (w : World) (b : List Nat) (e : Ending) (w' : World) : Prop := ∃ A' m c' er, er ≠ 0 ∧ e = .returned (.tuple #[.slice A' m c', .int .i64 ((er : Nat) : Int)]) ∧ Below w.heap.size w w'
theorem dec_or {w w' : World} {b : List Nat} {e : Ending} (h : DecPost w b e w') (hb : (decR b).2 ≠ 0) : DecOr w b e w' := by
  obtain ⟨A', m, c', rfl, _, hw⟩ := h
  exact ⟨A', m, c', _, hb, rfl, hw⟩

set_option maxHeartbeats 8000000 in
theorem once_walk (P : PDc) (w : World) (A : Option Addr) (b : List Nat) (n c s : Nat) (hb : BL w A b n c) (hs : s < 256) :
    Calls Try.prog 3 #[.slice A n c, .int .u8 (s : Int)] w fun e w' => e = .returned (.bool true) ∧ Below w.heap.size w w' := by
  by_cases hn : 600 < n
  · have d1 : decide ((600 : Int) < (n : Int)) = true := decide_eq_true (by omega)
    clear hb
    go_enter Try.func3, Try.ntmps3
    go_wp2_with fail
    refine (works_any P _).mono ?_
    rintro e w1 ⟨rfl, b1⟩
    have HE := Lib.hid b1
    clear b1
    go_wp2
    go_ret
    exact ⟨rfl, HE.out⟩
  · have d1 : decide ((600 : Int) < (n : Int)) = false := decide_eq_false (by omega)
    have CD := Lib.hid (P.decode w A b n c hb (by omega))
    have H := Lib.hid hb
    clear hb
    by_cases he : (decR b).2 = 0
    · obtain ⟨h1, h2, h3⟩ := dec_in H.out.at_.1 he
      have hnn : 1 ≤ n := by rw [← H.out.len, h1]; exact ctx_pos _
      obtain ⟨C, hC⟩ : ∃ C, (decR b).1 = C := ⟨_, rfl⟩
      have CD2 : Calls Try.prog 5 #[.slice A n c] w fun e w' => ∃ A' m c', e = .returned (.tuple #[.slice A' m c', .int .i64 0]) ∧ CL w.heap.size w' A' C m c' ∧ Below w.heap.size w w' := by
        refine CD.out.mono ?_
        rintro e w' ⟨A', m, c', rfl, k1, k2⟩
        exact ⟨A', m, c', by rw [he]; rfl, by rw [← hC]; exact k1, k2⟩
      have K := Lib.hid CD2
      rw [hC] at h1 h2 h3
      have hsm := Lib.hid (small_of (c := C) (by rw [← h1, H.out.len]; omega))
      have hnorm : Cx.normC C = C := (of_decide_eq_true h2).symm
      have HNORM := Lib.hid hnorm
      have HB := Lib.hid h1
      have hless : (decR (b.take (n - 1))).2 ≠ 0 := by
        obtain ⟨r, hr, e⟩ := take_back (b := b) (by rw [H.out.len]; exact hnn)
        rw [H.out.len] at e
        exact dec_less (b := b.take (n - 1)) (r := r) (by rw [← e]; exact H.out.at_.1) hr (by rw [← e]; exact he)
      have hmore : (decR (b ++ [s])).2 ≠ 0 := by
        rw [h1]
        exact dec_more h2 h3 (by simp)
      have HL := Lib.hid hless
      have HM := Lib.hid hmore
      clear CD CD2 he h1 h2 h3 hC hnorm hless hmore
      have hA : ∃ ad, A = some ad := by
        cases A with
        | some ad => exact ⟨ad, rfl⟩
        | none => have := (H.out.nil rfl).1; omega
      obtain ⟨ad, rfl⟩ := hA
      obtain ⟨i0, hi0, hz0, hz1, hz2⟩ := info_parts Nu.byte_info
      have s1 : IntKind.i64.wrap ((n : Int) - 1) = ((n - 1 : Nat) : Int) := by rw [IntWalk.i64_in _ (by omega)]; omega
      have s2 : max ((n - 1 : Nat) : Int) 0 = ((n - 1 : Nat) : Int) := by omega
      have s3 : (0 : Int) ≤ ((n - 1 : Nat) : Int) := by omega
      have hcap := H.out.cap
      have hmax := H.out.max
      have s4 : ((n - 1 : Nat) : Int) ≤ (c : Int) := by omega
      go_enter Try.func3, Try.ntmps3
      go_wp2_with fail
      refine K.out.mono ?_
      rintro e w1 ⟨A1, m1, c1, rfl, k1, b1⟩
      have K1 := Lib.hid k1
      have B1 := Lib.hid b1
      clear K k1 b1
      go_wp2_with fail
      have bt : BL w1 (some ad) (b.take (n - 1)) (n - 1) c := ⟨by rw [List.length_take, H.out.len]; omega, (fun e => by cases e), by omega, hmax, (H.out.up B1.out).at_.take (n - 1)⟩
      have C2 := (P.decode w1 (some ad) (b.take (n - 1)) (n - 1) c bt (by omega)).mono (fun e V h => dec_or h HL.out)
      clear s1 s2 s3 s4 bt
      refine C2.mono ?_
      rintro e w2 ⟨A2, m2, c2, er, her, rfl, b2⟩
      have hi2 : ((er : Int) == 0) = false := by rw [beq_eq_false_iff_ne]; omega
      have B2 := Lib.hid (B1.out.trans (b2.mono B1.out.size))
      have K2 := Lib.hid (K1.out.below b2)
      have H2 := Lib.hid (H.out.up B2.out)
      have HO := Lib.hid (Nu.out_new w2)
      have HB1 := Lib.hid ((H2.out.up (below_new w2 (.cells #[] 5))).at_)
      have HW := Lib.hid (below_new w2 (.cells #[] 5))
      have hj2 : ((er : Int) != 0) = true := by rw [bne, hi2]; rfl
      have hk2 : ¬ (er : Int) = 0 := by omega
      clear C2 b2 B1 K1 H HL
      go_wp2_with (first
        | (at_builtin
           refine Nu.wpList_out rfl (.tmp 39) (.tmp 40) rfl rfl _ w2.heap.size w2.heap.size (some ad) b n c rfl rfl HO.out (fun e => by cases e) HB1.out H2.out.len (by omega) (by simp) ?_
           intro g1 cap1 w3 ho1 hg1 hB1
           have HO1 := Lib.hid ho1
           have HW1 : Hid (Below w2.heap.size w2 w3) := HW.out.grown hg1 (by simp) (fun k e => by cases e; exact Nat.le_refl _)
           clear ho1 hg1)
        | (at_builtin
           refine wpList_append_own _ rfl (.tmp 41) (.tmp 43) 22 rfl w2.heap.size 5 i0 (.int .u8 0) 1 1 Try.underlying22 hi0 hz0 hz1 hz2 rfl (by decide) (.slice (some ⟨g1, 0, none⟩) n cap1) n (Nu.vals b) rfl (HO1.out.alloc _) ⟨w3.heap.size, 0, none⟩ 1 1 (Nu.vals [s]) rfl rfl (Nu.cell_one w3 _ 5) (Nu.vals_one _) (by simp only [maxLen]; omega) (by omega) (Nat.le_trans HW1.out.size (by simp)) ?_
           intro v2 w4 ho2 hg2 hat2
           obtain ⟨g2, cap2, rfl, hgw2⟩ := Nu.own_shape (w := w2) ho2 (.inl (by omega))
           have HO2 := Lib.hid ho2
           have HW2 : Hid (Below w2.heap.size w2 w4) := (HW1.out.alloc HW1.out.size _).grown hg2 (Nat.le_trans HW1.out.size (by simp)) (fun k hk => by simp [Value.ownBlock] at hk; omega)
           clear ho2 hg2 hat2))
      have ho4 := HO2.out
      rw [← Nu.vals_append] at ho4
      have bl4 : BL w4 (some ⟨g2, 0, none⟩) (b ++ [s]) (n + 1) cap2 := own_bl ho4 (by rw [List.length_append, H2.out.len]; rfl) (Nu.small_append H2.out.at_.1 (fun x hx => by obtain rfl := List.mem_singleton.1 hx; exact hs))
      have C4 := (P.decode w4 (some ⟨g2, 0, none⟩) (b ++ [s]) (n + 1) cap2 bl4 (by omega)).mono (fun e V h => dec_or h HM.out)
      clear ho4 bl4 HO HB1 HW HO1 HW1 HO2 HM hi0 hz0 hz1 hz2
      refine C4.mono ?_
      rintro e w5 ⟨A5, m5, c5, er5, her5, rfl, b5⟩
      have hi5 : ((er5 : Int) == 0) = false := by rw [beq_eq_false_iff_ne]; omega
      have U5 := Lib.hid (HW2.out.trans (b5.mono HW2.out.size))
      have B5 := Lib.hid (B2.out.trans (U5.out.mono B2.out.size))
      have K5 := Lib.hid (K2.out.below U5.out)
      have H5 := Lib.hid (H2.out.up U5.out)
      have hj5 : ((er5 : Int) != 0) = true := by rw [bne, hi5]; rfl
      have hk5 : ¬ (er5 : Int) = 0 := by omega
      clear C4 b5 B2 K2 H2 HW2 U5
      go_wp2_with fail
      have C6 := P.encode w5 A1 C m1 c1 K5.out.ctx hsm.out
      rw [HNORM.out, ← HB.out] at C6
      refine C6.mono ?_
      rintro e w6 ⟨A6, n6, c6, rfl, l6, b6⟩
      have L6 := Lib.hid l6
      have H6 := Lib.hid (H5.out.up b6)
      have B6 := Lib.hid (B5.out.trans (b6.mono B5.out.size))
      clear C6 l6 b6 H5 B5 K5
      go_wp2_with fail
      have C7 := Nu.equal_any w6 w6.heap.size w6.heap.size A6 (some ad) b b n6 n c6 c L6.out.len H6.out.len L6.out.at_ H6.out.at_
      rw [decide_eq_true rfl] at C7
      refine C7.mono ?_
      rintro e w7 ⟨rfl, rfl⟩
      clear C7 L6 H6
      go_wp2_with fail
      refine (works_any P _).mono ?_
      rintro e w8 ⟨rfl, b8⟩
      have HE := Lib.hid (B6.out.trans (b8.mono B6.out.size))
      clear b8
      go_wp2
      go_ret
      exact ⟨rfl, HE.out⟩
    · have hnil := dec_bad he
      have hi : (((decR b).2 : Int) == 0) = false := by rw [beq_eq_false_iff_ne]; omega
      have CD2 : Calls Try.prog 5 #[.slice A n c] w fun e w' => ∃ A' c', e = .returned (.tuple #[.slice A' 0 c', .int .i64 ((decR b).2 : Int)]) ∧ Below w.heap.size w w' := by
        refine CD.out.mono ?_
        rintro e w' ⟨A', m, c', rfl, k1, k2⟩
        have hm := k1.len
        rw [hnil] at hm
        obtain rfl : m = 0 := hm.symm
        exact ⟨A', c', rfl, k2⟩
      have K := Lib.hid CD2
      clear CD CD2 hnil H
      generalize (decR b).2 = er at *
      go_enter Try.func3, Try.ntmps3
      go_wp2_with fail
      refine K.out.mono ?_
      rintro e w1 ⟨A1, c1, rfl, b1⟩
      have B1 := Lib.hid b1
      clear K b1
      go_wp2_with fail
      refine (works_any P _).mono ?_
      rintro e w2 ⟨rfl, b2⟩
      have HE := Lib.hid (B1.out.trans (b2.mono B1.out.size))
      clear b2
      go_wp2
      go_ret
      exact ⟨rfl, HE.out⟩
end Go.Proofs.Ytmhghgogehmehaa.Dc

/- Walks over a writer, step by step, beside what another call made; a context that came out apart. -/
namespace Go.Proofs.Ytmhghgogehmehaa.Dc
open Go.ChangeShapes Go.WideShapes Go.ChangeAt Go.RowKit
set_option linter.unusedVariables false
set_option maxRecDepth 4000

/-- a writer that began in world w, and what it has by now. -/
structure WS (w V : World) (B g : Nat) (rb : Option Nat) (m : List Nat) : Prop where
  now : ∃ r, Nu.PW V B g r m ∧ (r = rb ∨ ∀ k, r = some k → w.heap.size ≤ k)
  two : Nu.Two w V g rb
theorem WS.start {w : World} {B g : Nat} {rb : Option Nat} {m : List Nat} (h : Nu.PW w B g rb m) : WS w w B g rb m := ⟨⟨rb, h, .inl rfl⟩, ⟨rfl, rfl, rfl, Nat.le_refl _, fun _ _ _ _ => rfl⟩⟩
theorem two_below {w V : World} {g : Nat} {rb : Option Nat} (h : Below w.heap.size w V) : Nu.Two w V g rb := ⟨h.os, h.tape, h.output, h.size, fun k hk _ _ => h.block k hk⟩
theorem WS.more {w V U : World} {B g : Nat} {rb : Option Nat} {m : List Nat} (h : WS w V B g rb m) (hb : Below V.heap.size V U) : WS w U B g rb m := by
  obtain ⟨r, h1, h2⟩ := h.now
  exact ⟨⟨r, pw_up h1 hb, h2⟩, Nu.two_trans h.two (two_below (g := g) (rb := rb) hb) (.inl rfl)⟩
/-- a call of the writer's. -/
theorem WS.step {w V : World} {B g f : Nat} {rb : Option Nat} {m m2 : List Nat} {args : Array Value} (h : WS w V B g rb m) (hc : ∀ r, Nu.PW V B g r m → Calls Try.prog f args V (Nu.WPost V B g r m2)) :
    Calls Try.prog f args V fun e U => e = .returned (.tuple #[]) ∧ WS w U B g rb m2 := by
  obtain ⟨r, h1, h2⟩ := h.now
  refine (hc r h1).mono ?_
  rintro e U ⟨rfl, r', k1, k2, k3⟩
  refine ⟨rfl, ⟨r', k1, ?_⟩, Nu.two_trans h.two k3 h2⟩
  rcases k2 with rfl | k2
  · exact h2
  · exact .inr fun k e => Nat.le_trans h.two.size (k2 k e)
theorem WS.post {w V : World} {B g : Nat} {rb : Option Nat} {m : List Nat} (h : WS w V B g rb m) : Nu.WPost w B g rb m (.returned (.tuple #[])) V := by
  obtain ⟨r, h1, h2⟩ := h.now
  exact ⟨rfl, r, h1, h2, h.two⟩
/-- what was made first, told from the world ahead of it. -/
theorem WS.from {w w1 V : World} {B g : Nat} {rb : Option Nat} {m : List Nat} (h : WS w1 V B g rb m) (hb : Below w.heap.size w w1) : WS w V B g rb m := by
  obtain ⟨r, h1, h2⟩ := h.now
  refine ⟨⟨r, h1, ?_⟩, Nu.two_trans (two_below hb) h.two (.inl rfl)⟩
  rcases h2 with h2 | h2
  · exact .inl h2
  · exact .inr fun k e => Nat.le_trans hb.size (h2 k e)
theorem WS.pw {w V : World} {B g : Nat} {rb : Option Nat} {m : List Nat} (h : WS w V B g rb m) : ∃ r, Nu.PW V B g r m := by
  obtain ⟨r, h1, _⟩ := h.now
  exact ⟨r, h1⟩
theorem lies_two {w V : World} {g : Nat} {rb : Option Nat} {A : Option Addr} {vs : List Value} (h : Dt.Lies w w.heap.size A vs) (ht : Nu.Two w V g rb) (hg : ∀ ad, A = some ad → ad.block ≠ g ∧ some ad.block ≠ rb) : Dt.Lies V V.heap.size A vs := fun hl => by
  obtain ⟨ad, e, hB, hc⟩ := h hl
  refine ⟨ad, e, Nat.lt_of_lt_of_le hB ht.size, fun j u hu => ?_⟩
  obtain ⟨h1, h2⟩ := hg ad e
  have hb := ht.block ad.block hB h1 h2
  have hc := hc j u hu
  have : V.cell? (ad.add j) = w.cell? (ad.add j) := by
    have e2 : (ad.add j).block = ad.block := Dt.block_add ..
    unfold World.cell?
    rw [e2, hb]
  rw [this]
  exact hc
/-- a context that was made, behind a writer's calls. -/
theorem CL.two {B0 n c g : Nat} {rb : Option Nat} {V U : World} {A : Option Addr} {o : List Part} (h : CL B0 V A o n c) (ht : Nu.Two V U g rb) (hB : g < B0) (hr : ∀ k, rb = some k → k < B0) : CL B0 U A o n c := by
  obtain ⟨ps, h1, h2, h3⟩ := h.parts
  have ok : ∀ k, B0 ≤ k → k ≠ g ∧ some k ≠ rb := fun k hk => ⟨by omega, fun e => by have := hr k e.symm; omega⟩
  refine ⟨h.len, h.nil, h.cap, h.max, h.far, ps, lies_two h1 ht (fun ad e => ok _ (h.far ad e)), ⟨h2.1, fun k p x hp hx => ?_⟩, h3⟩
  have hp2 := h2.2 k p x hp hx
  exact ⟨hp2.dev, hp2.fit, hp2.len, hp2.nil, hp2.cap, hp2.max, hp2.runs.1, lies_two hp2.runs.2 ht (fun ad e => ok _ (h3 p (List.mem_of_getElem? hp) ad e))⟩
theorem DL.two {B0 n c g : Nat} {rb : Option Nat} {V U : World} {A : Option Addr} {l : List Dot} (h : DL B0 V A l n c) (ht : Nu.Two V U g rb) (hB : g < B0) (hr : ∀ k, rb = some k → k < B0) : DL B0 U A l n c :=
  ⟨h.len, h.nil, h.cap, h.max, ⟨h.dots.1, lies_two h.dots.2 ht (fun ad e => by have := h.far ad e; exact ⟨by omega, fun e => by have := hr _ e.symm; omega⟩)⟩, h.far⟩
/-- calls told from a world in between. -/
theorem WS.join {w V U : World} {B g : Nat} {rb r : Option Nat} {m2 : List Nat} (h2 : r = rb ∨ ∀ k, r = some k → w.heap.size ≤ k) (ht : Nu.Two w V g rb) (k : WS V U B g r m2) : WS w U B g rb m2 := by
  obtain ⟨r', k1, k2⟩ := k.now
  refine ⟨⟨r', k1, ?_⟩, Nu.two_trans ht k.two h2⟩
  rcases k2 with rfl | k2
  · exact h2
  · exact .inr fun q e => Nat.le_trans ht.size (k2 q e)
/-- cells of a block that is neither the writer's nor its row. -/
theorem two_cell {w V : World} {g bx : Nat} {rb : Option Nat} (ht : Nu.Two w V g rb) (hb : bx < w.heap.size) (h1 : bx ≠ g) (h2 : some bx ≠ rb) (i : Nat) : V.cell? ⟨bx, i, none⟩ = w.cell? ⟨bx, i, none⟩ := by
  unfold World.cell?
  rw [ht.block bx hb h1 h2]
/-- a writer at hand, and a new box beside it: all that a few calls with the box need. -/
structure Side (w V : World) (B g bx : Nat) (m : List Nat) (r : Option Nat) : Prop where
  ws : WS w V B g r m
  g_ne : bx ≠ g
  r_ne : some bx ≠ r
  lt : bx < w.heap.size
theorem Side.cell {w V : World} {B g bx : Nat} {m : List Nat} {r : Option Nat} (h : Side w V B g bx m r) (i : Nat) : V.cell? ⟨bx, i, none⟩ = w.cell? ⟨bx, i, none⟩ := two_cell h.ws.two h.lt h.g_ne h.r_ne i
theorem side_new {w V : World} {B g : Nat} {rb : Option Nat} {m : List Nat} (h : WS w V B g rb m) (o : Obj) : ∃ r, (r = rb ∨ ∀ k, r = some k → w.heap.size ≤ k) ∧ Nu.Two w (V.alloc o) g rb ∧ Side (V.alloc o) (V.alloc o) B g V.heap.size m r := by
  obtain ⟨r, h1, h2⟩ := h.now
  refine ⟨r, h2, (h.more (below_new V o)).two, WS.start (pw_up h1 (below_new V o)), ?_, fun e => ?_, by rw [alloc_size]; omega⟩
  · have := h1.base.2; omega
  · have := (h1.row _ e.symm).2; omega
/-- a context that was made, its parts as they stand in memory. -/
structure CP (B0 : Nat) (V : World) (A : Option Addr) (ps : List Cx.PV) (o : List Part) (n c : Nat) : Prop where
  len : o.length = n
  nil : A = none → n = 0 ∧ c = 0
  cap : n ≤ c
  max : c ≤ 9223372036854775807
  far : ∀ ad, A = some ad → B0 ≤ ad.block
  lies : Dt.Lies V V.heap.size A (Cx.cv ps)
  mat : Cx.Match V ps o
  runs : ∀ p ∈ ps, ∀ ad, p.adr = some ad → B0 ≤ ad.block
theorem CL.cp {B0 n c : Nat} {V : World} {A : Option Addr} {o : List Part} (h : CL B0 V A o n c) : ∃ ps, CP B0 V A ps o n c := by
  obtain ⟨ps, h1, h2, h3⟩ := h.parts
  exact ⟨ps, h.len, h.nil, h.cap, h.max, h.far, h1, h2, h3⟩
theorem CP.two {B0 n c g : Nat} {rb : Option Nat} {V U : World} {A : Option Addr} {ps : List Cx.PV} {o : List Part} (h : CP B0 V A ps o n c) (ht : Nu.Two V U g rb) (hB : g < B0) (hr : ∀ k, rb = some k → k < B0) : CP B0 U A ps o n c := by
  have ok : ∀ k, B0 ≤ k → k ≠ g ∧ some k ≠ rb := fun k hk => ⟨by omega, fun e => by have := hr k e.symm; omega⟩
  refine ⟨h.len, h.nil, h.cap, h.max, h.far, lies_two h.lies ht (fun ad e => ok _ (h.far ad e)), ⟨h.mat.1, fun k p x hp hx => ?_⟩, h.runs⟩
  have hp2 := h.mat.2 k p x hp hx
  exact ⟨hp2.dev, hp2.fit, hp2.len, hp2.nil, hp2.cap, hp2.max, hp2.runs.1, lies_two hp2.runs.2 ht (fun ad e => ok _ (h.runs p (List.mem_of_getElem? hp) ad e))⟩
theorem CP.at_ {B0 n c : Nat} {V : World} {A : Option Addr} {ps : List Cx.PV} {o : List Part} (h : CP B0 V A ps o n c) {k : Nat} (hk : k < n) :
    ∃ (ad : Addr) (p : Cx.PV) (x : Part), A = some ad ∧ ps[k]? = some p ∧ o[k]? = some x ∧ Cx.PartIs V V.heap.size p x ∧ V.cell? (ad.add (k * 2)) = some (.int .u16 (x.1 : Int)) ∧ V.cell? ⟨(ad.add (k * 2)).block, (ad.add (k * 2)).off + 1, none⟩ = some (.slice p.adr p.len p.cap) := by
  have hkc : k < o.length := by rw [h.len]; exact hk
  have hkp : k < ps.length := by rw [h.mat.1]; exact hkc
  have hx := List.getElem?_eq_getElem hkc
  have hp := List.getElem?_eq_getElem hkp
  have hpi := h.mat.2 k _ _ hp hx
  obtain ⟨ad, e, hB, hc⟩ := h.lies (by rw [Cx.cv_length]; omega)
  obtain ⟨g1, g2⟩ := Cx.cv_get hp
  refine ⟨ad, _, _, e, hp, hx, hpi, ?_, ?_⟩
  · rw [← hpi.dev]; exact hc _ _ g1
  · rw [Dt.add_next]
    exact hc _ _ g2
theorem pr_new {w : World} {h B e : Nat} {l : List Nat} (k : Nu.PR w h B l e) (hB : B ≤ h) (o : Obj) : Nu.PR (w.alloc o) h B l e :=
  k.kept (Nu.turn_below (below_new w o) none) (Nat.le_of_lt (Nat.lt_of_le_of_lt hB k.lt)) (fun e => by cases e) (fun q e => by cases e)
theorem pr_below {w V : World} {h B e : Nat} {l : List Nat} (k : Nu.PR w h B l e) (hB : B ≤ h) (hb : Below w.heap.size w V) : Nu.PR V h B l e :=
  k.kept (Nu.turn_below hb none) (Nat.le_of_lt (Nat.lt_of_le_of_lt hB k.lt)) (fun e => by cases e) (fun q e => by cases e)
theorem pr_set {w : World} {h B e g : Nat} {l : List Nat} (k : Nu.PR w h B l e) (hB : B ≤ h) (hg : h < g) (i : Nat) (u : Value) : Nu.PR (w.setCell ⟨g, i, none⟩ u) h B l e :=
  k.kept (Nu.turn_set w g i u) (Nat.le_of_lt (Nat.lt_of_le_of_lt hB k.lt)) (fun e => by cases e; omega) (fun k hk => by cases hk; omega)
theorem pr_row {w V : World} {h B e : Nat} {l : List Nat} {row : Option Nat} (k : Nu.PR w h B l e) (hB : B ≤ h) (hg : w.grownBy V row) (hr : ∀ q, row = some q → h < q) : Nu.PR V h B l e :=
  k.kept hg (Nat.le_of_lt (Nat.lt_of_le_of_lt hB k.lt)) (fun e => by have := hr h e.symm; omega) (fun q e => Nat.le_trans hB (Nat.le_of_lt (hr q e)))
end Go.Proofs.Ytmhghgogehmehaa.Dc
