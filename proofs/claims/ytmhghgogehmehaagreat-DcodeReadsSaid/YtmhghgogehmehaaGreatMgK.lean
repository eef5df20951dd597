/- Words and contracts that the proofs of this seat stand on, part 11 of 20. -/
import Derived.Test.YtmhghgogehmehaaGreatMgJ
import Derived.Test.YtmhghgogehmehaaGreatMgG
import Derived.Test.YtmhghgogehmehaaGreatMgI
import Derived.ShutString
import Derived.ChangeOld
import Derived.Deep.DeepHandedRow
import Derived.Deep.Matrix
import Derived.SizedLaws
import Derived.Deep.SlicePairs
import Derived.Lib.SmallJoins

/- What the laws of layer ctx ask of contexts. Plain arithmetic; no program is named here. -/
namespace Go.Proofs.YtmhghgogehmehaaGreat.Cx
set_option linter.unusedVariables false

/-- a context in order. -/
def OrdC (c : List Part) : Prop := ∃ f, Tells f ∧ c = listC f
theorem OrdC.fit {c : List Part} (h : OrdC c) : FitC c := by
  obtain ⟨f, h1, rfl⟩ := h
  exact list_fit h1
theorem OrdC.norm {c : List Part} (h : OrdC c) : normC c = c := by
  obtain ⟨f, h1, rfl⟩ := h
  unfold normC
  rw [runs_list h1]
theorem tells_uniq {f g : Nat → List Run} (hf : Tells f) (hg : Tells g) (h : ∀ d n, Ru.has (f d) n = Ru.has (g d) n) : f = g := funext fun d => Ru.uniq (hf.order d) (hg.order d) (h d)
theorem norm_eq {a b : List Part} (ha : FitC a) (hb : FitC b) (h : ∀ d n, Ru.has (runsC a d) n = Ru.has (runsC b d) n) : normC a = normC b := by
  unfold normC
  rw [tells_uniq (tells_runs ha) (tells_runs hb) h]
theorem ord_eq {a b : List Part} (ha : OrdC a) (hb : OrdC b) (h : ∀ d n, Ru.has (runsC a d) n = Ru.has (runsC b d) n) : a = b := by
  rw [← ha.norm, ← hb.norm]
  exact norm_eq ha.fit hb.fit h
theorem ord_set {a b : List Part} (ha : FitC a) (hb : FitC b) (how : Int) : OrdC (setC a b how) := ⟨_, tells_both ha hb how, rfl⟩
theorem ord_norm {a : List Part} (ha : FitC a) : OrdC (normC a) := ⟨_, tells_runs ha, rfl⟩
theorem ord_good {a : List Part} (h : OrdC a) : goodC a = true := decide_eq_true h.norm.symm
theorem ord_nil : OrdC [] := ⟨fun _ => [], ⟨rfl, fun _ _ => rfl, fun _ => Ru.order_nil⟩, by
  unfold listC
  induction List.range Dt.topV with
  | nil => rfl
  | cons d l ih => rw [List.filterMap_cons]; exact ih⟩
theorem list_none {f : Nat → List Run} (h : ∀ d, f d = []) : listC f = [] := by
  unfold listC
  induction List.range Dt.topV with
  | nil => rfl
  | cons d l ih => rw [List.filterMap_cons, show oneC f d = none from if_pos (by rw [h]; rfl)]; exact ih
theorem has_set0 {a b : List Part} (ha : FitC a) (hb : FitC b) (d n : Nat) : Ru.has (runsC (setC a b 0) d) n = (Ru.has (runsC a d) n || Ru.has (runsC b d) n) := by rw [runs_set ha hb]; exact Ru.has0 _ _ _
theorem has_set1 {a b : List Part} (ha : FitC a) (hb : FitC b) (d n : Nat) : Ru.has (runsC (setC a b 1) d) n = (Ru.has (runsC a d) n && Ru.has (runsC b d) n) := by rw [runs_set ha hb]; exact Ru.has1 _ _ _
theorem has_set2 {a b : List Part} (ha : FitC a) (hb : FitC b) (d n : Nat) : Ru.has (runsC (setC a b 2) d) n = (Ru.has (runsC a d) n && !Ru.has (runsC b d) n) := by rw [runs_set ha hb]; exact Ru.has2 _ _ _

/-! CtxLaws. -/
theorem has_join {a b : List Part} (ha : FitC a) (hb : FitC b) (x : Dot) : hasC (setC a b 0) x = (hasC a x || hasC b x) := by
  unfold hasC
  rw [has_set0 ha hb]
  cases Dt.mayD x <;> simp
theorem has_meet {a b : List Part} (ha : FitC a) (hb : FitC b) (x : Dot) : hasC (setC a b 1) x = (hasC a x && hasC b x) := by
  unfold hasC
  rw [has_set1 ha hb]
  cases Dt.mayD x <;> simp
theorem has_minus {a b : List Part} (ha : FitC a) (hb : FitC b) (x : Dot) : hasC (setC a b 2) x = (hasC a x && !hasC b x) := by
  unfold hasC
  rw [has_set2 ha hb]
  cases Dt.mayD x <;> simp
theorem join_turn (a b : List Part) : setC b a 0 = setC a b 0 := by
  unfold setC
  congr 1
  funext d
  exact Ru.join_turn _ _
theorem meet_turn (a b : List Part) : setC b a 1 = setC a b 1 := by
  unfold setC
  congr 1
  funext d
  exact Ru.meet_turn _ _
theorem both_parts {a b : List Part} (ha : FitC a) (hb : FitC b) : sameC (setC (setC a b 2) (setC a b 1) 0) a = true := by
  have h1 := fit_set ha hb 2
  have h2 := fit_set ha hb 1
  refine decide_eq_true (norm_eq (fit_set h1 h2 0) ha fun d n => ?_)
  rw [has_set0 h1 h2, has_set2 ha hb, has_set1 ha hb]
  cases Ru.has (runsC a d) n <;> cases Ru.has (runsC b d) n <;> rfl
theorem within_iff {a b : List Part} (ha : FitC a) (hb : FitC b) (h : ∀ d n, Ru.has (runsC a d) n = true → Ru.has (runsC b d) n = true) : withinC a b = true := by
  refine decide_eq_true (list_none fun d => Ru.empty_of (Ru.set_spec _ _ _).1 fun n => ?_)
  rw [Ru.has2]
  cases h1 : Ru.has (runsC a d) n with
  | false => rfl
  | true => rw [h d n h1]; rfl
theorem within_meet {a b : List Part} (ha : FitC a) (hb : FitC b) : withinC (setC a b 1) b = true := within_iff (fit_set ha hb 1) hb fun d n h => by
  rw [has_set1 ha hb, Bool.and_eq_true] at h
  exact h.2
theorem within_join {a b : List Part} (ha : FitC a) (hb : FitC b) : withinC b (setC a b 0) = true := within_iff hb (fit_set ha hb 0) fun d n h => by
  rw [has_set0 ha hb, h, Bool.or_true]

/-! Sizes. -/
theorem size_list (f : Nat → List Run) (l : List Nat) : ((l.filterMap (oneC f)).map (fun x => Ru.sizeR x.2)).sum = (l.map (fun d => Ru.sizeR (f d))).sum := by
  induction l with
  | nil => rfl
  | cons d l ih =>
    rw [List.filterMap_cons]
    by_cases h : (f d).length = 0
    · rw [show oneC f d = none from if_pos h, List.map_cons, List.sum_cons, List.eq_nil_of_length_eq_zero h, ih]
      simp [Ru.sizeR]
    · rw [show oneC f d = some (d, f d) from if_neg h]
      simp only [List.map_cons, List.sum_cons, ih]
theorem size_sum (c : List Part) : sizeC c = ((List.range Dt.topV).map (fun d => Ru.sizeR (runsC c d))).sum := size_list _ _
theorem sum_two (l : List Nat) (f g : Nat → Nat) : (l.map f).sum + (l.map g).sum = (l.map (fun d => f d + g d)).sum := by
  induction l with
  | nil => rfl
  | cons d l ih => simp only [List.map_cons, List.sum_cons]; omega
theorem size_both {a b : List Run} (ha : Ru.InOrder a) (hb : Ru.InOrder b) : Ru.sizeR (Ru.setL a b 0) + Ru.sizeR (Ru.setL a b 1) = Ru.sizeR a + Ru.sizeR b := by
  have h := Ru.sizes a b
  have e : ∀ l, Ru.InOrder l → Ru.nrm l = l := fun l hl => set_self hl
  rw [e _ (Ru.set_spec a b 0).1, e _ (Ru.set_spec a b 1).1, e a ha, e b hb] at h
  exact h
theorem sizes {a b : List Part} (ha : FitC a) (hb : FitC b) : sizeC (setC a b 0) + sizeC (setC a b 1) = sizeC a + sizeC b := by
  rw [size_sum, size_sum, size_sum, size_sum, sum_two, sum_two, runs_set ha hb, runs_set ha hb]
  congr 2
  funext d
  exact size_both (runs_order a d) (runs_order b d)
theorem sum_less (n : Nat) (f : Nat → Nat) (m : Nat) (h0 : f 0 = 0) (h : ∀ d, f d ≤ m) : ((List.range (n + 1)).map f).sum ≤ n * m := by
  induction n with
  | zero => simp [h0]
  | succ n ih =>
    rw [List.range_succ, List.map_append, List.sum_append]
    have := h (n + 1)
    have e : (n + 1) * m = n * m + m := Nat.succ_mul n m
    simp only [List.map_cons, List.map_nil, List.sum_cons, List.sum_nil]
    omega
theorem size_lt (c : List Part) : sizeC c < 18446744073709551616 := by
  rw [size_sum, Dt.top_eq]
  have h := sum_less 65535 (fun d => Ru.sizeR (runsC c d)) 281474976710656 (by show Ru.sizeR (runsC c 0) = 0; rw [runs_zero]; rfl) (fun d => Ru.size_le (runs_order c d))
  exact Nat.lt_of_le_of_lt h (by decide)

/-! Lists of dots as contexts. -/
theorem ord_of {l : List Dot} (hl : Dt.Fit l) : OrdC (ofC l) := by
  obtain ⟨f, h1, h2, _⟩ := (of_whole l hl).form
  exact ⟨f, h1, h2⟩
theorem dot_may {x : Dot} (h : Dt.mayD x = true) : Ru.mayR (x.2, x.2) = true := by
  have := (Dt.may_iff x).1 h
  exact (Ru.may_iff _).2 ⟨by show 1 ≤ x.2; omega, Nat.le_refl _, by show x.2 ≤ _; omega⟩
theorem has_dot {x : Dot} (h : Dt.mayD x = true) (d n : Nat) : Ru.has (runsC (dotC x) d) n = (decide (x.1 = d) && decide (x.2 = n)) := by
  have hx := (Dt.may_iff x).1 h
  rw [runs_has, show dotC x = [(x.1, [(x.2, x.2)])] from rfl, List.any_cons, List.any_nil, Bool.or_false, Ru.has_one, dot_may h, Bool.true_and]
  by_cases h1 : x.1 = d
  · subst h1
    have h2 : x.1 ≠ 0 := by omega
    by_cases h3 : x.2 = n
    · subst h3; simp [h2]
    · have h4 : ¬ n = x.2 := fun e => h3 e.symm
      simp [h3, h4]
  · simp [h1]
def isDot (d n : Nat) (x : Dot) : Bool := Dt.mayD x && (decide (x.1 = d) && decide (x.2 = n))
theorem has_stepO {o : List Part} (ho : FitC o) {x : Dot} (hx : x.1 < 65536 ∧ x.2 < 18446744073709551616) (d n : Nat) : Ru.has (runsC (stepO o x) d) n = (Ru.has (runsC o d) n || isDot d n x) := by
  unfold stepO isDot
  cases h : Dt.mayD x with
  | false => simp
  | true => rw [if_pos rfl, has_set0 ho (fit_dot hx.1 hx.2), has_dot h, Bool.true_and]
theorem has_of_upto {l : List Dot} (hl : Dt.Fit l) (d n k : Nat) : Ru.has (runsC (ofC (l.take k)) d) n = (l.take k).any (isDot d n) := by
  induction k with
  | zero => show Ru.has (runsC [] d) n = false; rw [runs_nil]; rfl
  | succ k ih =>
    by_cases hk : k < l.length
    · have hg := List.getElem?_eq_getElem hk
      rw [of_next hg, has_stepO (of_most l hl k).fit (hl _ (List.getElem_mem hk)), ih, List.take_add_one, hg, List.any_append]
      simp
    · have e : l.take (k + 1) = l.take k := by rw [List.take_of_length_le (by omega), List.take_of_length_le (by omega)]
      rw [e]; exact ih
theorem has_of {l : List Dot} (hl : Dt.Fit l) (d n : Nat) : Ru.has (runsC (ofC l) d) n = l.any (isDot d n) := by
  have := has_of_upto hl d n l.length
  rwa [List.take_length] at this
theorem fit_app {l m : List Dot} (hl : Dt.Fit l) (hm : Dt.Fit m) : Dt.Fit (l ++ m) := fun x hx => by
  rcases List.mem_append.1 hx with h | h
  · exact hl x h
  · exact hm x h
/-- more dots. -/
theorem set_of {l m : List Dot} (hl : Dt.Fit l) (hm : Dt.Fit m) : setC (ofC l) (ofC m) 0 = ofC (l ++ m) :=
  ord_eq (ord_set (ord_of hl).fit (ord_of hm).fit 0) (ord_of (fit_app hl hm)) fun d n => by
    rw [has_set0 (ord_of hl).fit (ord_of hm).fit, has_of hl, has_of hm, has_of (fit_app hl hm), List.any_append]
theorem of_same {l m : List Dot} (hl : Dt.Fit l) (hm : Dt.Fit m) (h : ∀ x, x ∈ l ↔ x ∈ m) : ofC l = ofC m :=
  ord_eq (ord_of hl) (ord_of hm) fun d n => by
    rw [has_of hl, has_of hm, Bool.eq_iff_iff, List.any_eq_true, List.any_eq_true]
    exact ⟨fun ⟨x, h1, h2⟩ => ⟨x, (h x).1 h1, h2⟩, fun ⟨x, h1, h2⟩ => ⟨x, (h x).2 h1, h2⟩⟩
/-- every place is met once one goes round. -/
theorem round_at {n r i : Nat} (hi : i < n) : ∃ j, j < n ∧ (n - 1 - j + r) % n = i := by
  refine ⟨(n - 1 + r - i) % n, Nat.mod_lt _ (by omega), ?_⟩
  have h1 := Nat.div_add_mod (n - 1 + r - i) n
  have h2 : (n - 1 + r - i) % n < n := Nat.mod_lt _ (by omega)
  generalize (n - 1 + r - i) % n = j at h1 h2 ⊢
  generalize (n - 1 + r - i) / n = q at h1
  have h3 : n - 1 - j + r = i + n * q := by omega
  rw [h3, Nat.add_mul_mod_self_left, Nat.mod_eq_of_lt hi]

/-! Bases. -/
def gapV (c : List Part) (d : Nat) : Nat := Ru.firstR (runsC c d) - 1
theorem first_nil : Ru.firstR [] = 1 := rfl
theorem tells_gap {c : List Part} (hc : FitC c) : Dt.Tells (gapV c) := by
  refine ⟨?_, fun d hd => ?_, fun d => ?_⟩
  · unfold gapV; rw [runs_zero]; rfl
  · unfold gapV; rw [runs_far hc hd]; rfl
  · have := first_max (runs_order c d)
    unfold gapV; omega
theorem base_list {c : List Part} : baseC c = Dt.listV (gapV c) := by
  rw [base_fold]
  unfold normC listC Dt.listV
  rw [List.filterMap_filterMap]
  congr 1
  funext d
  unfold oneC Dt.oneV gapV
  by_cases h : (runsC c d).length = 0
  · rw [if_pos h, List.eq_nil_of_length_eq_zero h]
    rfl
  · rw [if_neg h]
    show lastB (d, runsC c d) = _
    unfold lastB
    by_cases h1 : 1 < Ru.firstR (runsC c d)
    · rw [if_pos h1, if_pos (by omega)]
    · rw [if_neg h1, if_neg (by omega)]
theorem of_base {c : List Part} (hc : FitC c) : Dt.ofV (baseC c) = gapV c := by rw [base_list, Dt.of_list' (tells_gap hc)]
theorem fit_base {c : List Part} (hc : FitC c) : Dt.Fit (baseC c) := by rw [base_list]; exact Dt.list_fit (tells_gap hc)
theorem gap_has {c : List Part} {d n : Nat} (h1 : 1 ≤ n) (h2 : n ≤ gapV c d) : Ru.has (runsC c d) n = true := by
  unfold gapV at h2
  exact (Ru.first_spec (runs_order c d)).2.2 n h1 (by omega)
theorem base_in {c : List Part} (hc : FitC c) {x : Dot} (hx : x ∈ baseC c) : hasC c x = true ∧ hasC c (x.1, x.2 + 1) = false := by
  rw [base_list] at hx
  obtain ⟨h1, h2⟩ := (Dt.list_mem (tells_gap hc) x).1 hx
  have hm := Dt.list_may (tells_gap hc) hx
  have hs := Ru.first_spec (runs_order c x.1)
  constructor
  · unfold hasC
    rw [hm, Bool.true_and]
    exact gap_has (by omega) (by omega)
  · unfold hasC
    have e : x.2 + 1 = Ru.firstR (runsC c x.1) := by unfold gapV at h1 h2; omega
    show (Dt.mayD (x.1, x.2 + 1) && Ru.has (runsC c x.1) (x.2 + 1)) = false
    rw [e, hs.2.1, Bool.and_false]
theorem plain_has {v : List Dot} (hv : Dt.Fit v) (d n : Nat) : Ru.has (runsC (plainC v) d) n = (decide (1 ≤ n) && decide (n ≤ Dt.ofV v d)) := by
  rw [runs_has, Bool.eq_iff_iff]
  simp only [Bool.and_eq_true, decide_eq_true_eq, List.any_eq_true]
  constructor
  · rintro ⟨h0, y, hy, rfl, h2⟩
    obtain ⟨x, hx, rfl⟩ := List.mem_map.1 hy
    obtain ⟨h3, h4⟩ := (Dt.list_mem (Dt.tells_of hv) x).1 hx
    obtain ⟨r, hr, ht⟩ := (Ru.has_iff _ _).1 h2
    obtain rfl := List.mem_singleton.1 hr
    obtain ⟨_, h5, h6⟩ := (Ru.tst_iff _ _).1 ht
    simp only at h5 h6
    exact ⟨h5, by show n ≤ Dt.ofV v x.1; omega⟩
  · rintro ⟨h1, h2⟩
    have hp : 0 < Dt.ofV v d := by omega
    have hlt := Dt.of_lt v d
    have hd : d ≠ 0 := fun e => by rw [e, Dt.of_zero] at hp; omega
    refine ⟨hd, (d, [(1, Dt.ofV v d)]), List.mem_map.2 ⟨(d, Dt.ofV v d), (Dt.list_mem (Dt.tells_of hv) _).2 ⟨hp, rfl⟩, rfl⟩, rfl, ?_⟩
    refine (Ru.has_iff _ _).2 ⟨_, List.mem_singleton.2 rfl, (Ru.tst_iff _ _).2 ⟨(Ru.may_iff _).2 ⟨Nat.le_refl _, ?_, ?_⟩, h1, h2⟩⟩
    · show 1 ≤ Dt.ofV v d; omega
    · show Dt.ofV v d ≤ _; omega
theorem fit_plain {v : List Dot} (hv : Dt.Fit v) : FitC (plainC v) := fun x hx => by
  obtain ⟨y, hy, rfl⟩ := List.mem_map.1 hx
  have := Dt.fit_norm hv y hy
  exact ⟨this.1, fun r hr => by obtain rfl := List.mem_singleton.1 hr; exact ⟨by show 1 < _; omega, this.2⟩⟩
theorem gap_plain {v : List Dot} (hv : Dt.Fit v) (d : Nat) : gapV (plainC v) d = Dt.ofV v d := by
  obtain ⟨h1, h2, h3⟩ := Ru.first_spec (runs_order (plainC v) d)
  unfold gapV
  generalize Ru.firstR (runsC (plainC v) d) = z at h1 h2 h3
  rw [plain_has hv] at h2
  have h4 : ¬ z ≤ Dt.ofV v d := fun h => by rw [decide_eq_true h1, decide_eq_true h] at h2; cases h2
  have h5 : ¬ Dt.ofV v d + 1 < z := fun h => by
    have := h3 (Dt.ofV v d + 1) (by omega) h
    rw [plain_has hv, Bool.and_eq_true, decide_eq_true_eq, decide_eq_true_eq] at this
    omega
  omega
theorem base_plain {v : List Dot} (hv : Dt.Fit v) : baseC (plainC v) = Dt.normV v := by
  rw [base_list, show gapV (plainC v) = Dt.ofV v from funext (gap_plain hv)]
  rfl
theorem norm_base {c : List Part} (hc : FitC c) : Dt.normV (baseC c) = baseC c := by
  unfold Dt.normV
  rw [of_base hc, base_list]
theorem base_plain_base {c : List Part} (hc : FitC c) : baseC (plainC (baseC c)) = baseC c := by rw [base_plain (fit_base hc), norm_base hc]
theorem within_base {c : List Part} (hc : FitC c) : withinC (plainC (baseC c)) c = true := within_iff (fit_plain (fit_base hc)) hc fun d n h => by
  rw [plain_has (fit_base hc), of_base hc, Bool.and_eq_true, decide_eq_true_eq, decide_eq_true_eq] at h
  exact gap_has h.1 h.2

/-! What is in order. -/
theorem ord_rise {c : List Part} (hr : c.Pairwise (fun a b => a.1 < b.1)) (ho : ∀ x ∈ c, Ru.InOrder x.2 ∧ x.2 ≠ [] ∧ 1 ≤ x.1 ∧ x.1 < 65536) : OrdC c := by
  have hf : FitC c := fun x hx => ⟨(ho x hx).2.2.2, fit_runs (ho x hx).1⟩
  have same : ∀ x ∈ c, ∀ y ∈ c, y.1 = x.1 → y = x := fun x hx y hy e => by
    rcases List.getElem_of_mem hx with ⟨i, hi, rfl⟩
    rcases List.getElem_of_mem hy with ⟨j, hj, rfl⟩
    rcases Nat.lt_trichotomy i j with h | h | h
    · have := (List.pairwise_iff_getElem.1 hr) i j hi hj h; omega
    · subst h; rfl
    · have := (List.pairwise_iff_getElem.1 hr) j i hj hi h; omega
  have own : ∀ x ∈ c, runsC c x.1 = x.2 := fun x hx => by
    refine Ru.uniq (runs_order _ _) (ho x hx).1 fun n => ?_
    rw [runs_has, Bool.eq_iff_iff]
    simp only [Bool.and_eq_true, decide_eq_true_eq, List.any_eq_true]
    exact ⟨fun ⟨_, y, hy, e, h⟩ => by rw [same x hx y hy e] at h; exact h, fun h => ⟨by have := (ho x hx).2.2.1; omega, x, hx, rfl, h⟩⟩
  refine ⟨runsC c, tells_runs hf, rise_uniq (fun x => x.1) hr (list_rise _) fun x => ?_⟩
  rw [list_mem (tells_runs hf)]
  constructor
  · intro hx
    exact ⟨(own x hx).symm, by rw [own x hx]; exact (ho x hx).2.1⟩
  · rintro ⟨h1, h2⟩
    have h3 : ∃ y ∈ c, y.1 = x.1 := by
      refine Classical.byContradiction fun h => h2 (runs_empty (.inr fun y hy e => h ⟨y, hy, e⟩))
    obtain ⟨y, hy, e⟩ := h3
    have := own y hy
    rw [e, ← h1] at this
    have e2 : x = y := Prod.ext e.symm this
    rw [e2]; exact hy
end Go.Proofs.YtmhghgogehmehaaGreat.Cx

/- The words of layer dcode: bytes, dots and contexts that come out. -/
namespace Go.Proofs.YtmhghgogehmehaaGreat.Dc
open Go.ChangeShapes Go.WideShapes Go.ChangeAt Go.RowKit
set_option linter.unusedVariables false
set_option maxRecDepth 4000

theorem lies_run (V : World) (lo hi : Nat) : Ru.Lies (V.alloc (.cells #[.int .u64 (lo : Int), .int .u64 (hi : Int)] 73)) (V.alloc (.cells #[.int .u64 (lo : Int), .int .u64 (hi : Int)] 73)).heap.size (some ⟨V.heap.size, 0, none⟩) (Ru.rv [(lo, hi)]) := fun _ => by
  refine ⟨_, rfl, by simp, fun j u hu => ?_⟩
  rw [Ru.zero_add, World.cell?_alloc_new]
  have e : Ru.rv [(lo, hi)] = [.int .u64 (lo : Int), .int .u64 (hi : Int)] := rfl
  rw [e] at hu
  simpa using hu
theorem match_row {V U : World} {ps : List Cx.PV} {o : List Part} {row : Option Nat} (hm : Cx.Match V ps o) (hg : V.grownBy U row) (hne : ∀ p ∈ ps, ∀ ad, p.adr = some ad → some ad.block ≠ row) : Cx.Match U ps o :=
  ⟨hm.1, fun k p x hp hx => by
    have h1 := hm.2 k p x hp hx
    exact ⟨h1.dev, h1.fit, h1.len, h1.nil, h1.cap, h1.max, Cx.runs_grown hg h1.runs (hne p (List.mem_of_getElem? hp))⟩⟩
theorem bel_grown {w V : World} (h : w.grownBy V (some w.heap.size)) : Below w.heap.size w V := ⟨h.os, h.tape, h.output, h.size, fun i hi => h.block i hi (fun e => by cases e; omega)⟩
theorem lies_grown {w V : World} {g : Nat} {A : Option Addr} {vs : List Value} (h : Dt.Lies w w.heap.size A vs) (hg : w.grownBy V (some g)) (hne : ∀ ad, A = some ad → ad.block ≠ g) : Dt.Lies V V.heap.size A vs := fun hl => by
  obtain ⟨ad, e, hB, hc⟩ := h hl
  refine ⟨ad, e, Nat.lt_of_lt_of_le hB hg.size, fun j u hu => ?_⟩
  rw [World.grownBy.cell_far hg (ad.add j) (by rw [Dt.block_add]; exact hB) (by rw [Dt.block_add]; intro e2; exact hne ad e (by simpa using e2))]
  exact hc j u hu
/-- dots that came out, in blocks from B0 on. -/
structure DL (B0 : Nat) (V : World) (A : Option Addr) (l : List Dot) (n c : Nat) : Prop where
  len : l.length = n
  nil : A = none → n = 0 ∧ c = 0
  cap : n ≤ c
  max : c ≤ 9223372036854775807
  dots : Dt.Dots V V.heap.size A l
  far : ∀ ad, A = some ad → B0 ≤ ad.block
theorem DL.below {B0 n c : Nat} {V U : World} {A : Option Addr} {l : List Dot} (h : DL B0 V A l n c) (hb : Below V.heap.size V U) : DL B0 U A l n c := ⟨h.len, h.nil, h.cap, h.max, h.dots.up hb, h.far⟩
theorem DL.kept {B0 n c g : Nat} {V U : World} {A : Option Addr} {l : List Dot} (h : DL B0 V A l n c) (hg : V.grownBy U (some g)) (hB : g < B0) : DL B0 U A l n c :=
  ⟨h.len, h.nil, h.cap, h.max, ⟨h.dots.1, lies_grown h.dots.2 hg (fun ad e => by have := h.far ad e; omega)⟩, h.far⟩
/-- a context that came out, in blocks from B0 on. -/
structure CL (B0 : Nat) (V : World) (A : Option Addr) (o : List Part) (n c : Nat) : Prop where
  len : o.length = n
  nil : A = none → n = 0 ∧ c = 0
  cap : n ≤ c
  max : c ≤ 9223372036854775807
  far : ∀ ad, A = some ad → B0 ≤ ad.block
  parts : ∃ ps, Dt.Lies V V.heap.size A (Cx.cv ps) ∧ Cx.Match V ps o ∧ ∀ p ∈ ps, ∀ ad, p.adr = some ad → B0 ≤ ad.block
theorem CL.ctx {B0 n c : Nat} {V : World} {A : Option Addr} {o : List Part} (h : CL B0 V A o n c) : Cx.CtxAt V A o n c := by
  obtain ⟨ps, h1, h2, _⟩ := h.parts
  exact ⟨h.len, h.nil, h.cap, h.max, ps, h1, h2⟩
theorem CL.kept {B0 n c g : Nat} {V U : World} {A : Option Addr} {o : List Part} (h : CL B0 V A o n c) (hg : V.grownBy U (some g)) (hB : g < B0) : CL B0 U A o n c := by
  obtain ⟨ps, h1, h2, h3⟩ := h.parts
  exact ⟨h.len, h.nil, h.cap, h.max, h.far, ps, lies_grown h1 hg (fun ad e => by have := h.far ad e; omega), match_row h2 hg (fun p hp ad e e2 => by cases e2; have := h3 p hp ad e; omega), h3⟩
theorem CL.below {B0 n c : Nat} {V U : World} {A : Option Addr} {o : List Part} (h : CL B0 V A o n c) (hb : Below V.heap.size V U) : CL B0 U A o n c := by
  obtain ⟨ps, h1, h2, h3⟩ := h.parts
  exact ⟨h.len, h.nil, h.cap, h.max, h.far, ps, (h1.below hb).more hb.size, h2.up hb, h3⟩
/-- what is decoded comes out. -/
def DecPost (w : World) (b : List Nat) (e : Ending) (w' : World) : Prop := ∃ A' m c', e = .returned (.tuple #[.slice A' m c', .int .i64 ((decR b).2 : Int)]) ∧ CL w.heap.size w' A' (decR b).1 m c' ∧ Below w.heap.size w w'
theorem CL.none_ (B0 : Nat) (w : World) : CL B0 w none [] 0 0 := ⟨rfl, (fun _ => ⟨rfl, rfl⟩), Nat.le_refl _, by decide, (fun ad e => by cases e), [], Dt.Lies.none_ _ _ _, Cx.Match.nil_ _, fun p hp => by cases hp⟩
theorem CL.less {B0 B1 n c : Nat} {V : World} {A : Option Addr} {o : List Part} (h : CL B0 V A o n c) (hB : B1 ≤ B0) : CL B1 V A o n c := by
  obtain ⟨ps, h1, h2, h3⟩ := h.parts
  exact ⟨h.len, h.nil, h.cap, h.max, (fun ad e => Nat.le_trans hB (h.far ad e)), ps, h1, h2, fun p hp ad e => Nat.le_trans hB (h3 p hp ad e)⟩
theorem pw_up {w W : World} {B g : Nat} {rb : Option Nat} {m : List Nat} (h : Nu.PW w B g rb m) (hb : Below w.heap.size w W) : Nu.PW W B g rb m := by
  obtain ⟨v, n, h1, h2, h3, h4⟩ := h
  exact ⟨v, n, h1.below hb h1.lt, h2, Nu.own_below h3 hb, h4⟩
end Go.Proofs.YtmhghgogehmehaaGreat.Dc

/- What the walks of layer dcode ask of the program; the chapter's example. -/
namespace Go.Proofs.YtmhghgogehmehaaGreat.Dc
open Go.ChangeShapes Go.WideShapes Go.ChangeAt Go.RowKit
set_option linter.unusedVariables false
set_option maxRecDepth 4000

/-- what the program's functions answer. -/
structure PDc : Prop where
  putdot : ∀ (w : World) (B g : Nat) (rb : Option Nat) (m : List Nat) (d : Dot), Nu.PW w B g rb m → d.1 < 65536 → d.2 < big → m.length ≤ 1099511627776 → Calls Tryz.prog 8 #[.pointer (some ⟨g, 0, none⟩), dval d] w (Nu.WPost w B g rb (m ++ dotB d))
  putdots : ∀ (w : World) (B g : Nat) (rb : Option Nat) (m : List Nat) (A : Option Addr) (l : List Dot) (n c : Nat), Nu.PW w B g rb m → B ≤ w.heap.size → l.length = n → (A = none → n = 0 ∧ c = 0) → n ≤ c → c ≤ 9223372036854775807 → Dt.Dots w B A l → n ≤ 1048576 → m.length ≤ 1099511627776 → Calls Tryz.prog 9 #[.pointer (some ⟨g, 0, none⟩), .slice A n c] w (Nu.WPost w B g rb (m ++ dotsB (someD l)))
  putctx : ∀ (w0 w : World) (g : Nat) (rb : Option Nat) (m : List Nat) (A : Option Addr) (C : List Part) (n c : Nat), Nu.PW w w0.heap.size g rb m → Below w0.heap.size w0 w → Cx.CtxAt w0 A C n c → Cx.Small C → m.length ≤ 1099511627776 → Calls Tryz.prog 10 #[.pointer (some ⟨g, 0, none⟩), .slice A n c] w (Nu.WPost w w0.heap.size g rb (m ++ ctxB (Cx.normC C)))
  encode : ∀ (w : World) (A : Option Addr) (C : List Part) (n c : Nat), Cx.CtxAt w A C n c → Cx.Small C → Calls Tryz.prog 16 #[.slice A n c] w (BPost w (ctxB (Cx.normC C)))
  dot : ∀ (w : World) (g B : Nat) (l : List Nat) (e : Nat), Nu.PR w g B l e → B ≤ g → Calls Tryz.prog 18 #[.pointer (some ⟨g, 0, none⟩)] w (Nu.PPost w g B (dval (dotR (l, e)).1) (dotR (l, e)).2.1 (dotR (l, e)).2.2)
  dots : ∀ (w : World) (g B : Nat) (l : List Nat) (e : Nat) (most : Int), Nu.PR w g B l e → B ≤ g → l.length ≤ 1048576 → -9223372036854775808 ≤ most → most < 9223372036854775808 → Calls Tryz.prog 21 #[.pointer (some ⟨g, 0, none⟩), .int .i64 most] w fun r V => ∃ A' m c', r = .returned (.slice A' m c') ∧ DL w.heap.size V A' (dotsR most.toNat (l, e)).1 m c' ∧ Nu.PR V g B (dotsR most.toNat (l, e)).2.1 (dotsR most.toNat (l, e)).2.2 ∧ w.grownBy V (some g)
  ctx : ∀ (w : World) (g B : Nat) (l : List Nat) (e : Nat), Nu.PR w g B l e → B ≤ g → l.length ≤ 1048576 → Calls Tryz.prog 24 #[.pointer (some ⟨g, 0, none⟩)] w fun r V => ∃ A' m c', r = .returned (.slice A' m c') ∧ CL w.heap.size V A' (ctxR (l, e)).1 m c' ∧ Nu.PR V g B (ctxR (l, e)).2.1 (ctxR (l, e)).2.2 ∧ w.grownBy V (some g)
  decode : ∀ (w : World) (A : Option Addr) (b : List Nat) (n c : Nat), BL w A b n c → n ≤ 1048576 → Calls Tryz.prog 28 #[.slice A n c] w (DecPost w b)

/-- the example's context. -/
abbrev exC : List Part := [(1, [(1, 2)])]
theorem ex_norm : Cx.normC exC = exC := (Cx.ord_rise (by simp) (by
  intro x hx
  obtain rfl : x = (1, [(1, 2)]) := by simpa using hx
  exact ⟨by unfold Ru.InOrder; decide, by decide, by decide, by decide⟩)).norm
theorem ex_bytes : ctxB exC = [1, 1, 1, 1, 1, 1, 1, 1, 1, 2] := by decide
theorem ex_small : Cx.Small exC := ⟨by decide, by decide⟩
theorem ex_at (w : World) : Cx.CtxAt ((w.alloc (.cells #[.int .u64 1, .int .u64 2] 73)).alloc (.cells #[.int .u16 1, .slice (some ⟨w.heap.size, 0, none⟩) 1 1] 71)) (some ⟨w.heap.size + 1, 0, none⟩) exC 1 1 := by
  rw [show w.heap.size + 1 = (w.alloc (.cells #[.int .u64 1, .int .u64 2] 73)).heap.size from (alloc_size _ _).symm]
  have h1 := lies_run w 1 2
  have e1 : ((1 : Nat) : Int) = 1 := rfl
  have e2 : ((2 : Nat) : Int) = 2 := rfl
  rw [e1, e2] at h1
  generalize hw1 : w.alloc (.cells #[.int .u64 1, .int .u64 2] 73) = w1 at *
  have hb := below_new w1 (.cells #[.int .u16 1, .slice (some ⟨w.heap.size, 0, none⟩) 1 1] 71)
  refine ⟨rfl, (fun e => by cases e), Nat.le_refl _, by decide, [⟨1, some ⟨w.heap.size, 0, none⟩, 1, 1⟩], fun _ => ⟨_, rfl, by simp, fun j u hu => ?_⟩, ?_⟩
  · rw [Ru.zero_add, World.cell?_alloc_new]
    have e : Cx.cv [⟨1, some ⟨w.heap.size, 0, none⟩, 1, 1⟩] = [.int .u16 1, .slice (some ⟨w.heap.size, 0, none⟩) 1 1] := rfl
    rw [e] at hu
    simpa using hu
  · refine ⟨rfl, fun k p x hp hx => ?_⟩
    cases k with
    | succ k => simp at hp
    | zero =>
      obtain rfl : p = ⟨1, some ⟨w.heap.size, 0, none⟩, 1, 1⟩ := by simpa using hp.symm
      obtain rfl : x = (1, [(1, 2)]) := by simpa using hx.symm
      exact ⟨rfl, by decide, rfl, (fun e => by cases e), Nat.le_refl _, (by show 1 ≤ 9223372036854775807; decide), (by intro r hr; obtain rfl := List.mem_singleton.1 hr; exact ⟨by decide, by decide⟩), (h1.below hb).more hb.size⟩
set_option maxHeartbeats 1000000 in
theorem works_any (P : PDc) (w : World) : Calls Tryz.prog 7 #[] w fun r w' => r = .returned (.bool true) ∧ Below w.heap.size w w' := by
  have HX := Lib.hid (ex_at w)
  have HB : Hid (Below w.heap.size w ((w.alloc (.cells #[.int .u64 1, .int .u64 2] 73)).alloc (.cells #[.int .u16 1, .slice (some ⟨w.heap.size, 0, none⟩) 1 1] 71))) := Lib.hid (bel_alloc _ (below_new w _))
  have CE := Lib.hid (P.encode _ _ _ _ _ HX.out ex_small)
  clear HX
  go_enter Tryz.func7, Tryz.ntmps7
  go_wp2_with fail
  refine CE.out.mono ?_
  rintro e w3 ⟨A, n, c, rfl, hl, hb⟩
  rw [ex_norm, ex_bytes] at hl
  have HL := Lib.hid hl
  have HB3 := Lib.hid (HB.out.trans (hb.mono HB.out.size))
  clear hl hb CE HB
  go_wp2_with fail
  refine (Nu.equal_any _ w3.heap.size (w3.heap.size + 1) A (some ⟨w3.heap.size, 0, none⟩) [1, 1, 1, 1, 1, 1, 1, 1, 1, 2] [1, 1, 1, 1, 1, 1, 1, 1, 1, 2] n 10 c 10 HL.out.len rfl (HL.out.at_.below (below_new w3 _)) (Nu.bytes_new w3 _ _ rfl (by unfold Nu.Small; decide) 5)).mono ?_
  rintro r w4 ⟨rfl, rfl⟩
  go_wp2
  go_ret
  exact ⟨rfl, HB3.out.alloc HB3.out.size _⟩
end Go.Proofs.YtmhghgogehmehaaGreat.Dc

/- What the frames of layer dcode's laws share: a dot, a list of dots, a context that came in, as the walks take them. No condition. -/
namespace Go.Proofs.YtmhghgogehmehaaGreat.Cx
open Go.ChangeShapes Go.WideShapes Go.ChangeAt Go.RowKit Go.Deep Go.Joins
set_option linter.unusedVariables false
set_option maxRecDepth 4000

/-- a slice of dots, that lies in this world. -/
structure DotsIn (w : World) (A : Option Addr) (l : List Dot) (n c : Nat) : Prop where
  len : l.length = n
  nil : A = none → n = 0 ∧ c = 0
  cap : n ≤ c
  max : c ≤ 9223372036854775807
  dots : Dt.Dots w w.heap.size A l

theorem own : ownKnob Tryz.prog.godebug = none := by kernel_rfl
theorem laidOut : laidOutB Tryz.prog = true := by kernel_rfl
theorem cells16 : Tryz.prog.cellsOf 22 = 1 := by kernel_rfl
theorem cells64 : Tryz.prog.cellsOf 23 = 1 := by kernel_rfl
theorem cellsRs : Tryz.prog.cellsOf 69 = 1 := by kernel_rfl
theorem cellsR : Tryz.prog.cellsOf 73 = 2 := by kernel_rfl
theorem cellsD : Tryz.prog.cellsOf 25 = 2 := by kernel_rfl
theorem cellsP : Tryz.prog.cellsOf 71 = 2 := by kernel_rfl
theorem wf_u64 {n : Int} (h : (Lit.int .u64 n).wf = true) : ∃ s : Nat, n = (s : Int) ∧ s < 18446744073709551616 := by
  simp [Lit.wf, IntKind.min, IntKind.max, IntKind.bits, IntKind.signed] at h
  exact ⟨n.toNat, by omega, by omega⟩
theorem wf_u16 {n : Int} (h : (Lit.int .u16 n).wf = true) : ∃ s : Nat, n = (s : Int) ∧ s < 65536 := by
  simp [Lit.wf, IntKind.min, IntKind.max, IntKind.bits, IntKind.signed] at h
  exact ⟨n.toNat, by omega, by omega⟩
theorem wf_u8 {n : Int} (h : (Lit.int .u8 n).wf = true) : ∃ s : Nat, n = (s : Int) ∧ s < 256 := by
  simp [Lit.wf, IntKind.min, IntKind.max, IntKind.bits, IntKind.signed] at h
  exact ⟨n.toNat, by omega, by omega⟩
/-- a dot that came in; it reads as it did in every world. -/
theorem dot_of {H : Type} {enc : TypeId × Value → H} {W : World} {b0 : Nat} {v : Value} {d : DataW H} {p : List MemPlace} (hv : Value.okWide Tryz.prog W .any b0 25 v) (h : DataW.Trod enc Tryz.prog W 0 (fun _ => true) true 25 v d p) :
    ∃ r : Dot, v = .agg #[.int .u16 (r.1 : Int), .int .u64 (r.2 : Int)] ∧ r.1 < 65536 ∧ r.2 < 18446744073709551616 ∧ p = [] ∧ ∀ (W' : World) (sp : Nat → Bool), DataW.Trod enc Tryz.prog W' 0 sp true 25 v d p := by
  obtain ⟨c0, c1, y0, y1, m, rfl, rfl, rfl, hy0, hy1⟩ := open_agg2 Tryz.underlying25 (by kernel_rfl) cellsD hv h
  obtain ⟨a, e0, rfl, wa⟩ := DataW.trod_int Tryz.underlying22 hy0
  obtain ⟨b, e1, rfl, wb⟩ := DataW.trod_int Tryz.underlying23 hy1
  simp at e0 e1
  subst e0 e1
  have wa' := wa
  have wb' := wb
  obtain ⟨s, rfl, hs⟩ := wf_u16 wa
  obtain ⟨t, rfl, ht⟩ := wf_u64 wb
  exact ⟨(s, t), rfl, hs, ht, rfl, fun W' sp =>
    shut_agg2 (y0 := (.lit (.int .u16 (s : Int)), [])) (y1 := (.lit (.int .u64 (t : Int)), [])) Tryz.underlying25 (by kernel_rfl) cellsD ⟨1, by simp [DataW.trod, Tryz.underlying22, wa']⟩ ⟨1, by simp [DataW.trod, Tryz.underlying23, wb']⟩⟩
theorem list_of {α : Type} {Q : Nat → α → Prop} (n : Nat) (h : ∀ i, i < n → ∃ t, Q i t) : ∃ L : List α, L.length = n ∧ ∀ (i : Nat) (t : α), L[i]? = some t → Q i t := by
  induction n with
  | zero => exact ⟨[], rfl, fun i t hi => by simp at hi⟩
  | succ n ih =>
    obtain ⟨L, hL, hQ⟩ := ih (fun i hi => h i (by omega))
    obtain ⟨t, ht⟩ := h n (by omega)
    refine ⟨L ++ [t], by simp [hL], fun i u hu => ?_⟩
    rcases Nat.lt_or_ge i n with hi | hi
    · rw [List.getElem?_append_left (by omega)] at hu
      exact hQ i u hu
    · rw [List.getElem?_append_right (by omega), hL] at hu
      have e : i = n := by
        rcases Nat.eq_or_lt_of_le hi with e | e
        · exact e.symm
        · rw [List.getElem?_eq_none (by simp; omega)] at hu; cases hu
      subst e
      simp at hu
      subst hu
      exact ht
/-- rows of two cells. -/
theorem lies_two {α : Type} {w : World} {B : Nat} {ad : Addr} (hB : ad.block < B) (f g : α → Value) (L : List α) (h : ∀ (i : Nat) (r : α), L[i]? = some r → w.cell? (ad.add (i * 2)) = some (f r) ∧ w.cell? (ad.add (i * 2 + 1)) = some (g r)) : Dt.Lies w B (some ad) (L.flatMap fun r => [f r, g r]) := fun _ => by
  have len : ∀ L : List α, (L.flatMap fun r => [f r, g r]).length = L.length * 2 := fun L => by
    induction L with
    | nil => rfl
    | cons r L ih => simp only [List.flatMap_cons, List.length_append, List.length_cons, List.length_nil, ih]; omega
  have get : ∀ (L : List α) (k : Nat) (r : α), L[k]? = some r → (L.flatMap fun r => [f r, g r])[k * 2]? = some (f r) ∧ (L.flatMap fun r => [f r, g r])[k * 2 + 1]? = some (g r) := fun L => by
    induction L with
    | nil => intro k r h; simp at h
    | cons x L ih =>
      intro k r h
      cases k with
      | zero => obtain rfl : x = r := by simpa using h
                exact ⟨rfl, rfl⟩
      | succ k =>
        have h2 := ih k r (by simpa using h)
        have e : (x :: L).flatMap (fun r => [f r, g r]) = f x :: g x :: L.flatMap (fun r => [f r, g r]) := rfl
        have e1 : (k + 1) * 2 = k * 2 + 2 := by omega
        rw [e, e1]
        exact ⟨by simpa using h2.1, by simpa using h2.2⟩
  refine ⟨ad, rfl, hB, fun j u hu => ?_⟩
  have hj : j < (L.flatMap fun r => [f r, g r]).length := (List.getElem?_eq_some_iff.1 hu).1
  rw [len] at hj
  have hd : j / 2 < L.length := by omega
  have hg := List.getElem?_eq_getElem hd
  obtain ⟨g1, g2⟩ := get L _ _ hg
  obtain ⟨c1, c2⟩ := h _ _ hg
  rcases Nat.mod_two_eq_zero_or_one j with h0 | h0
  · have e : j = j / 2 * 2 := by omega
    rw [e] at hu ⊢
    rw [g1] at hu
    cases hu
    exact c1
  · have e : j = j / 2 * 2 + 1 := by omega
    generalize hz : j / 2 = z at *
    subst e
    rw [g2] at hu
    cases hu
    exact c2
/-- a list of dots that came in. -/
theorem dots_of {H : Type} {enc : TypeId × Value → H} {W : World} {a : Option Addr} {len cap : Nat} {d : DataW H} {p : List MemPlace} (h : DataW.Trod enc Tryz.prog W 0 (fun _ => true) true 26 (.slice a len cap) d p) :
    ∃ l : List Dot, DotsIn W a l len cap := by
  obtain ⟨fuel, hf⟩ := h
  rcases open_slice_pairs Tryz.underlying26 Tryz.underlying25 cellsD rfl rfl cells16 cells64 hf with ⟨hcs, _⟩ | ⟨x, n0, c0, m, f0, V0, V1, D0, D1, P0, P1, hcs, hb, hl, hm, hmm, hx, hi⟩
  · simp [Value.cells] at hcs
    obtain ⟨rfl, rfl, rfl⟩ := hcs
    exact ⟨[], rfl, fun _ => ⟨rfl, rfl⟩, Nat.le_refl _, by omega, Dt.Dots.none_ _ _ _⟩
  · simp [Value.cells] at hcs
    obtain ⟨rfl, rfl, rfl⟩ := hcs
    unfold maxLen at hm
    have hmc : m = cap := by simpa using hmm
    have each : ∀ i, i < len → ∃ r : Dot, (r.1 < 65536 ∧ r.2 < 18446744073709551616) ∧ W.cell? (x.add (i * 2)) = some (.int .u16 (r.1 : Int)) ∧ W.cell? (x.add (i * 2 + 1)) = some (.int .u64 (r.2 : Int)) := by
      intro i hil
      obtain ⟨h0, h1, t0, t1⟩ := hi i (by omega)
      obtain ⟨z0, e0, _, w0⟩ := DataW.trod_int Tryz.underlying22 t0
      obtain ⟨z1, e1, _, w1⟩ := DataW.trod_int Tryz.underlying23 t1
      obtain ⟨s0, rfl, hs0⟩ := wf_u16 w0
      obtain ⟨s1, rfl, hs1⟩ := wf_u64 w1
      rw [(List.cons.inj e0).1] at h0
      rw [(List.cons.inj e1).1] at h1
      exact ⟨(s0, s1), ⟨hs0, hs1⟩, h0, h1⟩
    obtain ⟨L, hL, hQ⟩ := list_of len each
    refine ⟨L, hL, (fun e => by cases e), by omega, by omega, fun r hr => ?_, ?_⟩
    · obtain ⟨i, hi', rfl⟩ := List.getElem_of_mem hr
      exact (hQ i _ (List.getElem?_eq_getElem hi')).1
    · rcases Nat.eq_zero_or_pos L.length with h0 | h0
      · rw [List.eq_nil_of_length_eq_zero h0]; exact Dt.Lies.none_ _ _ _
      · refine lies_two ?_ (fun r : Dot => Value.int .u16 (r.1 : Int)) (fun r : Dot => Value.int .u64 (r.2 : Int)) L (fun i r hr => (hQ i r hr).2)
        have h1 := (hQ 0 _ (List.getElem?_eq_getElem h0)).2.1
        have h2 := World.block_lt_of_cell? W _ h1
        rwa [Dt.block_add] at h2
/-- what a slice's datum is as long as. -/
def Long {H : Type} (d : DataW H) (n : Nat) : Prop := n = 0 ∨ ∃ elems spare, d = .slice elems spare ∧ elems.length = n
/-- a slice of runs that stands in a cell. -/
theorem runs_cell {H : Type} {enc : TypeId × Value → H} {W : World} {fuel : Nat} {v : Value} {d : DataW H} {p : List MemPlace} (h : DataW.trod enc Tryz.prog W 0 (fun _ => true) true fuel 69 [v] = some (d, p)) :
    ∃ (A : Option Addr) (n c : Nat) (l : List Run), v = .slice A n c ∧ RunsAt W A l n c ∧ Long d n := by
  rcases open_slice_pairs Tryz.underlying69 Tryz.underlying73 cellsR rfl rfl cells64 cells64 h with ⟨hcs, _⟩ | ⟨x, n0, c0, m, f0, V0, V1, D0, D1, P0, P1, hcs, hb, hl, hm, hmm, hx, hi⟩
  · obtain rfl := (List.cons.inj hcs).1
    exact ⟨none, 0, 0, [], rfl, ⟨rfl, fun _ => ⟨rfl, rfl⟩, Nat.le_refl _, by omega, Ru.Runs.none_ _ _ _⟩, .inl rfl⟩
  · obtain rfl := (List.cons.inj hcs).1
    unfold maxLen at hm
    have hmc : m = c0 := by simpa using hmm
    have each : ∀ i, i < n0 → ∃ r : Run, (r.1 < 18446744073709551616 ∧ r.2 < 18446744073709551616) ∧ W.cell? (x.add (i * 2)) = some (.int .u64 (r.1 : Int)) ∧ W.cell? (x.add (i * 2 + 1)) = some (.int .u64 (r.2 : Int)) := by
      intro i hil
      obtain ⟨h0, h1, t0, t1⟩ := hi i (by omega)
      obtain ⟨z0, e0, _, w0⟩ := DataW.trod_int Tryz.underlying23 t0
      obtain ⟨z1, e1, _, w1⟩ := DataW.trod_int Tryz.underlying23 t1
      obtain ⟨s0, rfl, hs0⟩ := wf_u64 w0
      obtain ⟨s1, rfl, hs1⟩ := wf_u64 w1
      rw [(List.cons.inj e0).1] at h0
      rw [(List.cons.inj e1).1] at h1
      exact ⟨(s0, s1), ⟨hs0, hs1⟩, h0, h1⟩
    obtain ⟨L, hL, hQ⟩ := list_of n0 each
    simp only [Prod.mk.injEq] at hx
    refine ⟨some x, n0, c0, L, rfl, ⟨hL, (fun e => by cases e), by omega, by omega, fun r hr => ?_, ?_⟩, .inr ⟨_, _, hx.1, by simp⟩⟩
    · obtain ⟨i, hi', rfl⟩ := List.getElem_of_mem hr
      exact (hQ i _ (List.getElem?_eq_getElem hi')).1
    · rcases Nat.eq_zero_or_pos L.length with h0 | h0
      · rw [List.eq_nil_of_length_eq_zero h0]; exact Ru.Lies.none_ _ _ _
      · refine lies_two ?_ (fun r : Run => Value.int .u64 (r.1 : Int)) (fun r : Run => Value.int .u64 (r.2 : Int)) L (fun i r hr => (hQ i r hr).2)
        have h1 := (hQ 0 _ (List.getElem?_eq_getElem h0)).2.1
        have h2 := World.block_lt_of_cell? W _ h1
        rwa [Dt.block_add] at h2
/-- a context that came in, and how long its parts' data are. -/
theorem ctx_of {H : Type} {enc : TypeId × Value → H} {W : World} {a : Option Addr} {len cap : Nat} {d : DataW H} {p : List MemPlace} (h : DataW.Trod enc Tryz.prog W 0 (fun _ => true) true 28 (.slice a len cap) d p) :
    ∃ c : List Part, CtxAt W a c len cap ∧ (len = 0 ∨ ∃ (D0 D1 : Nat → DataW H) (spare : List (DataW H)), d = .slice ((List.range len).map fun i => .agg [D0 i, D1 i]) spare ∧ ∀ (i : Nat) (x : Part), c[i]? = some x → Long (D1 i) x.2.length) := by
  obtain ⟨fuel, hf⟩ := h
  rcases open_slice_pairs Tryz.underlying28 Tryz.underlying71 cellsP rfl rfl cells16 cellsRs hf with ⟨hcs, _⟩ | ⟨x, n0, c0, m, f0, V0, V1, D0, D1, P0, P1, hcs, hb, hl, hm, hmm, hx, hi⟩
  · simp [Value.cells] at hcs
    obtain ⟨rfl, rfl, rfl⟩ := hcs
    exact ⟨[], CtxAt.none_ W, .inl rfl⟩
  · simp [Value.cells] at hcs
    obtain ⟨rfl, rfl, rfl⟩ := hcs
    unfold maxLen at hm
    have hmc : m = cap := by simpa using hmm
    have each : ∀ i, i < len → ∃ r : PV × Part, PartIs W W.heap.size r.1 r.2 ∧ Long (D1 i) r.2.2.length ∧ W.cell? (x.add (i * 2)) = some (.int .u16 (r.1.dev : Int)) ∧ W.cell? (x.add (i * 2 + 1)) = some (.slice r.1.adr r.1.len r.1.cap) := by
      intro i hil
      obtain ⟨h0, h1, t0, t1⟩ := hi i (by omega)
      obtain ⟨z0, e0, _, w0⟩ := DataW.trod_int Tryz.underlying22 t0
      obtain ⟨s0, rfl, hs0⟩ := wf_u16 w0
      rw [(List.cons.inj e0).1] at h0
      obtain ⟨A, n, c, l, e1, hR, hLg⟩ := runs_cell t1
      rw [e1] at h1
      exact ⟨(⟨s0, A, n, c⟩, (s0, l)), ⟨rfl, hs0, hR.len, hR.nil, hR.cap, hR.max, hR.runs⟩, by show Long (D1 i) l.length; rw [hR.len]; exact hLg, h0, h1⟩
    obtain ⟨L, hL, hQ⟩ := list_of len each
    simp only [Prod.mk.injEq] at hx
    refine ⟨L.map (fun r => r.2), ⟨by rw [List.length_map, hL], (fun e => by cases e), by omega, by omega, L.map (fun r => r.1), ?_, by rw [List.length_map, List.length_map], ?_⟩, .inr ⟨D0, D1, _, hx.1, ?_⟩⟩
    · have e : cv (L.map (fun r => r.1)) = L.flatMap (fun r => [Value.int .u16 (r.1.dev : Int), .slice r.1.adr r.1.len r.1.cap]) := by
        unfold cv
        rw [List.flatMap_map]
      rw [e]
      rcases Nat.eq_zero_or_pos L.length with h0 | h0
      · rw [List.eq_nil_of_length_eq_zero h0]; exact Dt.Lies.none_ _ _ _
      · refine lies_two ?_ (fun r : PV × Part => Value.int .u16 (r.1.dev : Int)) (fun r : PV × Part => Value.slice r.1.adr r.1.len r.1.cap) L (fun i r hr => (hQ i r hr).2.2)
        have h1 := (hQ 0 _ (List.getElem?_eq_getElem h0)).2.2.1
        have h2 := World.block_lt_of_cell? W _ h1
        rwa [Dt.block_add] at h2
    · intro k p y hp hy
      rw [List.getElem?_map] at hp hy
      obtain ⟨r, hr, rfl⟩ := Option.map_eq_some_iff.1 hp
      rw [hr] at hy
      cases hy
      exact (hQ k r hr).1
    · intro i y hy
      rw [List.getElem?_map] at hy
      obtain ⟨r, hr, rfl⟩ := Option.map_eq_some_iff.1 hy
      exact (hQ i r hr).2.1
end Go.Proofs.YtmhghgogehmehaaGreat.Cx
namespace Go.Proofs.YtmhghgogehmehaaGreat.Dc
open Go.ChangeShapes Go.WideShapes Go.ChangeAt Go.RowKit Go.Deep Go.Joins
theorem wf_i64 {n : Int} (h : (Lit.int .i64 n).wf = true) : -9223372036854775808 ≤ n ∧ n < 9223372036854775808 := by
  simp [Lit.wf, IntKind.min, IntKind.max, IntKind.bits, IntKind.signed] at h
  omega
theorem cells5 : Tryz.prog.cellsOf 5 = 1 := by kernel_rfl
/-- numbers of a row of bytes, as the walks take them. -/
theorem bytes_row {W : World} {x : Addr} {len : Nat} {zs : List Int} (hl : len ≤ zs.length) (hcell : ∀ i, i < len → W.cell? (x.add i) = some (.int .u8 (zs.getD i 0))) (hwz : ∀ n ∈ zs, (Lit.int .u8 n).wf = true) :
    ∃ l : List Nat, l.length = len ∧ Nu.Bytes W W.heap.size (some x) l := by
  refine ⟨(zs.take len).map Int.toNat, by simp; omega, fun y hy => ?_, fun h0 => ⟨x, rfl, ?_, fun j y hj => ?_⟩⟩
  · obtain ⟨n, hn, rfl⟩ := List.mem_map.1 hy
    obtain ⟨s, rfl, hs⟩ := Cx.wf_u8 (hwz n (List.mem_of_mem_take hn))
    omega
  · have h1 : 0 < len := by simp at h0; omega
    have h2 := World.block_lt_of_cell? W _ (hcell 0 h1)
    rwa [Nu.block_add] at h2
  · have hjl : j < len := by
      have := (List.getElem?_eq_some_iff.1 hj).1
      simp at this
      omega
    rw [hcell j hjl]
    have hz : j < zs.length := by omega
    rw [List.getElem?_map, List.getElem?_take_of_lt hjl, List.getElem?_eq_getElem hz] at hj
    simp only [Option.map_some, Option.some.injEq] at hj
    obtain ⟨s, hs, _⟩ := Cx.wf_u8 (hwz zs[j] (List.getElem_mem hz))
    have e : zs.getD j 0 = (y : Int) := by
      rw [List.getD_eq_getElem?_getD, List.getElem?_eq_getElem hz, Option.getD_some]
      omega
    rw [e]
/-- a slice of bytes that came in. -/
theorem bytes_of {H : Type} {enc : TypeId × Value → H} {W : World} {a : Option Addr} {len cap : Nat} {d : DataW H} {p : List MemPlace} (h : DataW.Trod enc Tryz.prog W 0 (fun _ => true) true 31 (.slice a len cap) d p) :
    ∃ l : List Nat, BL W a l len cap := by
  obtain ⟨fuel, hf⟩ := h
  rcases open_ints Tryz.underlying31 Tryz.underlying5 cells5 hf with ⟨hcs, _⟩ | ⟨x, l, c, zs, hcs, _, hl, hm, hz, _, hcell, hwz⟩
  · simp [Value.cells] at hcs
    obtain ⟨rfl, rfl, rfl⟩ := hcs
    exact ⟨[], BL.none_ W⟩
  · simp [Value.cells] at hcs
    obtain ⟨rfl, rfl, rfl⟩ := hcs
    have hz' : zs.length = cap := by simpa using hz
    obtain ⟨l, hl1, hl2⟩ := bytes_row (len := len) (by omega) (fun i hi => hcell i (by omega)) hwz
    unfold maxLen at hm
    exact ⟨l, hl1, (fun h => by cases h), by omega, by omega, hl2⟩
end Go.Proofs.YtmhghgogehmehaaGreat.Dc

/- How long what is written of a small context is; writers beside each other. -/
namespace Go.Proofs.YtmhghgogehmehaaGreat.Dc
open Go.ChangeShapes Go.WideShapes Go.ChangeAt Go.RowKit
set_option linter.unusedVariables false
set_option maxRecDepth 4000

theorem rise_len : ∀ (c : List Part) (m : List Nat), c.Pairwise (fun a b => a.1 < b.1) → (∀ x ∈ c, x.1 ∈ m) → c.length ≤ m.length
  | [], m, _, _ => Nat.zero_le _
  | x :: c, m, h, hm => by
    obtain ⟨h1, h2⟩ := List.pairwise_cons.1 h
    have hx := hm x (List.mem_cons_self ..)
    have ih := rise_len c (m.erase x.1) h2 (fun y hy => (List.mem_erase_of_ne (by have := h1 y hy; omega)).2 (hm y (List.mem_cons_of_mem _ hy)))
    rw [List.length_erase_of_mem hx] at ih
    have := List.length_pos_of_mem hx
    rw [List.length_cons]
    omega
theorem norm_len {c : List Part} (hf : Cx.FitC c) : (Cx.normC c).length ≤ c.length := by
  have h := rise_len (Cx.normC c) (c.map (fun x => x.1)) (Cx.list_rise _) (fun x hx => by
    obtain ⟨h1, h2⟩ := (Cx.list_mem (Cx.tells_runs hf) x).1 hx
    rw [List.mem_map]
    rcases Classical.em (∃ y ∈ c, y.1 = x.1) with ⟨y, hy, e⟩ | hn
    · exact ⟨y, hy, e⟩
    · exact absurd (Cx.runs_empty (.inr fun y hy e => hn ⟨y, hy, e⟩)) h2)
  rwa [List.length_map] at h
theorem sum_each {c : List Part} {k : Nat} (h : ∀ x ∈ c, x.2.length ≤ k) : (c.map (fun x => x.2.length)).sum ≤ c.length * k := by
  induction c with
  | nil => simp
  | cons x c ih =>
    have h1 := h x (List.mem_cons_self ..)
    have h2 := ih (fun y hy => h y (List.mem_cons_of_mem _ hy))
    rw [List.map_cons, List.sum_cons, List.length_cons, Nat.add_mul]
    omega
theorem few_bytes {c : List Part} (hf : Cx.FitC c) (h : Cx.fewC c = true) : (ctxB (Cx.normC c)).length ≤ 500000 := by
  obtain ⟨h1, h2⟩ := of_decide_eq_true h
  have h3 := norm_len hf
  have h4 := sum_each h2
  have h5 : (c.map (fun x => x.2.length)).sum ≤ 900 := by omega
  have h6 : ∀ x ∈ Cx.normC c, x.2.length ≤ 900 := fun x hx => by
    rw [((Cx.list_mem (Cx.tells_runs hf) x).1 hx).1]
    exact Nat.le_trans (Cx.runs_length c x.1) h5
  have h7 := sum_each h6
  have h8 := ctxB_len (Cx.normC c)
  omega
theorem dots_bytes {l : List Dot} (h : l.length ≤ 100) : (dotsB (someD l)).length ≤ 2000 := by
  have h1 := dotsB_len (someD l)
  have h2 := some_len l
  omega
theorem fit_at {w : World} {A : Option Addr} {C : List Part} {n c : Nat} (h : Cx.CtxAt w A C n c) : Cx.FitC C := by
  obtain ⟨ps, _, h1, h2⟩ := h.parts
  intro x hx
  obtain ⟨k, hk⟩ := List.mem_iff_getElem?.1 hx
  obtain ⟨p, hp⟩ : ∃ p, ps[k]? = some p := ⟨ps[k]'(by rw [h1]; exact (List.getElem?_eq_some_iff.1 hk).1), List.getElem?_eq_getElem _⟩
  have := h2 k p x hp hk
  exact ⟨this.fit, this.runs.1⟩

/-- a new writer. -/
theorem pw_new {w : World} {B : Nat} (hB : B ≤ w.heap.size) : Nu.PW (w.alloc (.cells #[.slice none 0 0] 33)) B w.heap.size none [] :=
  ⟨.slice none 0 0, 0, Nu.At.new _ _ _, rfl, World.ownsRow_nil _ _ _ _, rfl, fun x hx => (by cases hx), hB⟩
/-- another writer's call. -/
theorem pw_two {w w' : World} {B g g' : Nat} {rb : Option Nat} {m m' : List Nat} (h : Nu.PW w B g rb m) (k : Nu.PW w B g' none m') (hg : g ≠ g') (ht : Nu.Two w w' g' none) : Nu.PW w' B g rb m := by
  obtain ⟨v, n, h1, h2, h3, h4⟩ := h
  obtain ⟨v', n', k1, k2, k3, k4⟩ := k
  have hgr : w.grownBy w' (some g') := ⟨ht.os, ht.tape, ht.output, ht.size, fun i hi hne => ht.block i hi (fun e => hne (by rw [e])) (by simp)⟩
  exact ⟨v, n, h1.kept hgr (fun e => by cases e; exact hg rfl), h2, h3.kept hgr (.inr (fun e => Nu.own_ne k1 h3 e.symm)), h4⟩
theorem post_clone {w w' : World} {m : List Nat} {e : Ending} (h : Nu.ClonePost w m e w') : BPost w m e w' := by
  obtain ⟨A, n, c, rfl, h1, h2, h3, h4, h5, h6, _⟩ := h
  exact ⟨A, n, c, rfl, ⟨h1, (fun e => by subst e; have := h5 rfl; omega), h3, h4, h2⟩, h6⟩
end Go.Proofs.YtmhghgogehmehaaGreat.Dc

/- The contract of the document's PutCtx of layer dcode. -/
namespace Go.Proofs.YtmhghgogehmehaaGreat.Dc
open Go.ChangeShapes Go.WideShapes Go.ChangeAt Go.RowKit
set_option linter.unusedVariables false
set_option maxRecDepth 4000

/-- a context of which no list is long. -/
def Room (c : List Part) : Prop := c.length ≤ 65536 ∧ ∀ x ∈ c, x.1 < 65536 ∧ Ru.Fit x.2 ∧ x.2.length ≤ 10000
theorem room_norm {c : List Part} (hf : Cx.FitC c) (hs : Cx.Small c) : Room (Cx.normC c) := by
  refine ⟨Cx.list_length _, fun x hx => ?_⟩
  have h1 := Cx.fit_norm hf x hx
  refine ⟨h1.1, h1.2, ?_⟩
  have h2 := ((Cx.list_mem (Cx.tells_runs hf) x).1 hx).1
  rw [h2]
  exact Cx.small_runs hs x.1
theorem Room.fit {c : List Part} (h : Room c) : FitB c := ⟨Nat.lt_of_le_of_lt h.1 (by decide), fun x hx => ⟨(h.2 x hx).1, (h.2 x hx).2.1, Nat.lt_of_le_of_lt (h.2 x hx).2.2 (by decide)⟩⟩
theorem part_len {x : Part} (h : x.2.length ≤ 10000) : (partB x).length ≤ 180018 := by
  have h1 := enc_le x.1
  have h2 := enc_le x.2.length
  have h3 := flat_le (f := runB) (k := 18) runB_le x.2
  have e : (partB x).length = (Nu.enc x.1).length + ((Nu.enc x.2.length).length + (x.2.flatMap runB).length) := by unfold partB; rw [List.length_append, List.length_append]
  omega
theorem parts_len {c : List Part} (h : ∀ x ∈ c, x.2.length ≤ 10000) : (c.flatMap partB).length ≤ c.length * 180018 := by
  induction c with
  | nil => simp
  | cons x c ih =>
    have h1 := part_len (h x (List.mem_cons_self ..))
    have h2 := ih (fun y hy => h y (List.mem_cons_of_mem _ hy))
    rw [List.flatMap_cons, List.length_append, List.length_cons, Nat.add_mul]
    omega
/-- what was written ahead of part k. -/
def upTo (l : List Nat) (c : List Part) (k : Nat) : List Nat := l ++ Nu.enc c.length ++ (c.take k).flatMap partB
theorem upTo_zero (l : List Nat) (c : List Part) : upTo l c 0 = l ++ Nu.enc c.length := by unfold upTo; rw [List.take_zero, List.flatMap_nil, List.append_nil]
theorem upTo_next {l : List Nat} {c : List Part} {k : Nat} {x : Part} (h : c[k]? = some x) : upTo l c (k + 1) = upTo l c k ++ Nu.enc x.1 ++ Nu.enc x.2.length ++ x.2.flatMap runB := by
  unfold upTo
  rw [flat_snoc h]
  unfold partB
  simp only [List.append_assoc]
theorem upTo_all {l : List Nat} {c : List Part} {n : Nat} (h : c.length = n) : upTo l c n = l ++ ctxB c := by
  unfold upTo ctxB
  rw [List.take_of_length_le (by omega), List.append_assoc]
theorem upTo_len {l : List Nat} {c : List Part} {k n : Nat} (hl : l.length = n) (hn : n ≤ 1099511627776) (hr : Room c) : (upTo l c k).length ≤ 1200000000000 := by
  have h1 := enc_le c.length
  have h2 := parts_len (c := c.take k) (fun x hx => (hr.2 x (List.mem_of_mem_take hx)).2.2)
  have h3 : (c.take k).length ≤ c.length := by rw [List.length_take]; omega
  have h4 := hr.1
  unfold upTo
  rw [List.length_append, List.length_append]
  omega
theorem runs_next {b : List Nat} {q : List Run} {j : Nat} {r : Run} (h : q[j]? = some r) : b ++ (q.take (j + 1)).flatMap runB = b ++ (q.take j).flatMap runB ++ Nu.enc r.1 ++ Nu.enc r.2 := by
  rw [flat_snoc h]
  unfold runB
  simp only [List.append_assoc]

set_option maxHeartbeats 8000000 in
theorem rputctx_any (w : World) (A : Option Addr) (l : List Nat) (n c : Nat) (A0 : Option Addr) (C : List Part) (n0 c0 : Nat) (h : BL w A l n c) (hn : n ≤ 1099511627776) (hc : Cx.CtxAt w A0 C n0 c0) (hs : Cx.Small C) :
    Calls Tryz.prog 15 #[.slice A n c, .slice A0 n0 c0] w (BPost w (l ++ ctxB (Cx.normC C))) := by
  have H := Lib.hid h
  have hR := room_norm hc.fit hs
  have CN := Cx.rnorm_any w A0 C n0 c0 hc hs
  obtain ⟨N, hN⟩ : ∃ N, Cx.normC C = N := ⟨_, rfl⟩
  rw [hN] at hR CN ⊢
  have HR := Lib.hid hR
  clear h hc hs hN hR
  go_enter Tryz.func15, Tryz.ntmps15
  go_wp2_with fail
  refine CN.mono ?_
  intro e w1 hp
  obtain ⟨A1, n1, c1, rfl, hc1, hb1⟩ := Cx.post_ctx hp
  have HC := Lib.hid hc1
  have HB := Lib.hid hb1
  have hnl : N.length = n1 := hc1.len
  have HNL := Lib.hid hnl
  have hn1 : n1 ≤ 65536 := by rw [← hnl]; exact HR.out.1
  have hnb : n1 < big := by show n1 < 18446744073709551616; omega
  have hwr : IntKind.u64.wrap (n1 : Int) = (n1 : Int) := by rw [IntKind.wrap_u64]; omega
  have CA := app_later (v := n1) (H.out.up HB.out) (by omega) hnb (Below.refl _ w1)
  clear hp hc1 hb1 hnl CN
  go_wp2_with fail
  refine CA.mono ?_
  rintro e w2 ⟨A2, n2, c2, rfl, h2, hb2⟩
  have H2 := Lib.hid h2
  have HB2 := Lib.hid hb2
  clear h2 hb2 CA
  go_wp2_with fail
  go_loopw [5, 6] (fun v i wq => ∃ (k : Nat) (A3 : Option Addr) (n3 c3 : Nat), k ≤ n1 ∧ i = .int .i64 (k : Int) ∧ v = .slice A3 n3 c3 ∧ BL wq A3 (upTo l N k) n3 c3 ∧ Below w1.heap.size w1 wq) (fun _ i _ => n1 - (intOf i).toNat)
  case atStart => exact ⟨0, A2, n2, c2, Nat.zero_le _, rfl, rfl, by rw [upTo_zero, HNL.out]; exact H2.out, HB2.out⟩
  case round =>
    clear H2 HB2
    obtain ⟨k, A3, n3, c3, hk3, rfl, rfl, h3, hb3⟩ := hrel
    have H3 := Lib.hid h3
    have HB3 := Lib.hid hb3
    clear h3 hb3
    by_cases hlt : k < n1
    · obtain ⟨ad, p, x, rfl, hadb, hlx, hpx, hcx⟩ := HC.out.cells hlt
      have HX := Lib.hid hpx
      have HCX := Lib.hid hcx
      have HN := Lib.hid (upTo_next (l := l) hlx)
      have HM := Lib.hid (HR.out.2 x (List.mem_of_getElem? hlx))
      have hlen := upTo_len (k := k) H.out.len hn HR.out
      have HLN := Lib.hid hlen
      obtain ⟨d0, d1⟩ := hcx wr HB3.out
      have hx1 := hpx.fit
      have hw1 : IntKind.u64.wrap (x.1 : Int) = (x.1 : Int) := by rw [IntKind.wrap_u64]; omega
      have hxb : x.1 < big := by show x.1 < 18446744073709551616; omega
      have CA := app_later (v := x.1) H3.out (by have := H3.out.len; omega) hxb (Below.refl _ wr)
      clear hpx hcx hlx hlen
      go_wp2_with fail
      refine CA.mono ?_
      rintro e w4 ⟨A4, n4, c4, rfl, h4, hb4⟩
      have H4 := Lib.hid h4
      have HB4 := Lib.hid (HB3.out.trans (hb4.mono HB3.out.size))
      obtain ⟨e0, e1⟩ := HCX.out w4 HB4.out
      have hpl : p.len ≤ 10000 := by rw [← HX.out.len]; exact HM.out.2.2
      have hw2 : IntKind.u64.wrap (p.len : Int) = (p.len : Int) := by rw [IntKind.wrap_u64]; omega
      have hpb : p.len < big := by show p.len < 18446744073709551616; omega
      have hn4 : n4 ≤ 140737488351232 := by have := H4.out.len; have := enc_le x.1; have := HLN.out; rw [List.length_append] at *; omega
      have CA2 := app_later (v := p.len) H4.out hn4 hpb (Below.refl _ w4)
      clear h4 hb4 CA d0 d1
      go_wp2_with fail
      refine CA2.mono ?_
      rintro e w5 ⟨A5, n5, c5, rfl, h5, hb5⟩
      have H5 := Lib.hid h5
      have HB5 := Lib.hid (HB4.out.trans (hb5.mono HB4.out.size))
      have HL5 : Hid ((upTo l N k ++ Nu.enc x.1 ++ Nu.enc p.len).length ≤ 1200000000018) := Lib.hid (by have := enc_le x.1; have := enc_le p.len; have := HLN.out; rw [List.length_append, List.length_append]; omega)
      clear h5 hb5 CA2 e0 e1 H4
      obtain ⟨base, hbase⟩ : ∃ base, upTo l N k ++ Nu.enc x.1 ++ Nu.enc p.len = base := ⟨_, rfl⟩
      rw [hbase] at H5 HL5
      have HBS := Lib.hid hbase
      clear hbase
      go_wp2_with fail
      go_loopw [5, 7] (fun v i wq => ∃ (j : Nat) (A6 : Option Addr) (n6 c6 : Nat), j ≤ p.len ∧ i = .int .i64 (j : Int) ∧ v = .slice A6 n6 c6 ∧ BL wq A6 (base ++ (x.2.take j).flatMap runB) n6 c6 ∧ Below w1.heap.size w1 wq) (fun _ i _ => p.len - (intOf i).toNat)
      case atStart => exact ⟨0, A5, n5, c5, Nat.zero_le _, rfl, rfl, by rw [List.take_zero, List.flatMap_nil, List.append_nil]; exact H5.out, HB5.out⟩
      case round =>
        clear H5 HB5
        obtain ⟨j, A6, n6, c6, hj6, rfl, rfl, h6, hb6⟩ := hrel
        have H6 := Lib.hid h6
        have HB6 := Lib.hid hb6
        clear h6 hb6
        obtain ⟨e0, e1⟩ := HCX.out wr HB6.out
        by_cases hlt2 : j < p.len
        · obtain ⟨rad, lo, hi, hpa, hlr, hlo, hhi, g0, g1⟩ := (HX.out.runs.up HB6.out).at_ (k := j) (by rw [HX.out.len]; exact hlt2)
          rw [← Ru.add_next] at g1
          have HK : Hid (∀ V, Below wr.heap.size wr V → V.cell? ⟨(ad.add (k * 2)).block, (ad.add (k * 2)).off + 1, none⟩ = some (.slice (some rad) p.len p.cap) ∧ V.cell? (rad.add (j * 2)) = some (.int .u64 (lo : Int)) ∧ V.cell? ⟨(rad.add (j * 2)).block, (rad.add (j * 2)).off + 1, none⟩ = some (.int .u64 (hi : Int))) := Lib.hid (fun V hV => by
            rw [← hpa]
            exact ⟨(hV.cell (World.block_lt_of_cell? _ _ e1)).trans e1, (hV.cell (World.block_lt_of_cell? _ _ g0)).trans g0, (hV.cell (World.block_lt_of_cell? _ _ g1)).trans g1⟩)
          have HRN := Lib.hid (runs_next (b := base) hlr)
          have hn6 : n6 ≤ 70368744177664 := by
            have h1 := H6.out.len
            have h2 := flat_le (f := runB) (k := 18) runB_le (x.2.take j)
            have h3 : (x.2.take j).length ≤ x.2.length := by rw [List.length_take]; omega
            have h4 := HM.out.2.2
            have h5 := HL5.out
            rw [List.length_append] at h1
            omega
          have C1 := fun W (hW : Below wr.heap.size wr W) => app_later (v := lo) H6.out (by omega) hlo hW
          have hl6 := Lib.hid H6.out.len
          obtain ⟨q0, q1, q2⟩ := HK.out wr (Below.refl _ _)
          clear e0 e1 g0 g1 hlr
          go_wp2_with fail
          go_region_held3 (fun V => V.cell? ⟨(ad.add (k * 2)).block, (ad.add (k * 2)).off + 1, none⟩ = some (.slice (some rad) p.len p.cap) ∧ V.cell? (rad.add (j * 2)) = some (.int .u64 (lo : Int)) ∧ V.cell? ⟨(rad.add (j * 2)).block, (rad.add (j * 2)).off + 1, none⟩ = some (.int .u64 (hi : Int))) (first | go_keep | assumption | exact HK.out _ (by (repeat (first | exact Below.refl _ _ | assumption | apply bel_drew)))) (first
            | (go_at_call 39; (with_reducible refine (C1 _ ?_).mono ?_); (repeat (first | exact Below.refl _ _ | assumption | apply bel_drew)); rintro e V ⟨A', n', c', rfl, hV, bv⟩; have k2 := HK.out V bv)
            | (go_at_call 39; (with_reducible refine (app_from hV bv (len_more hl6.out hV.len hn6) hhi ?_).mono ?_); (repeat (first | exact Below.refl _ _ | assumption | apply bel_drew)); rintro e U ⟨A7, n7, c7, rfl, hU, bu⟩; have k3 := HK.out U bu))
          all_goals
            have HU := Lib.hid hU
            have HBU := Lib.hid (HB6.out.trans (bu.mono HB6.out.size))
            clear k2 k3 q0 q1 q2 C1 HK hU bu hV bv
            go_wp2
            rw [← hpa]
            clear hpa
            go_roundw
            case rel => exact ⟨j + 1, A7, n7, c7, hlt2, by go_num, rfl, by rw [HRN.out]; exact HU.out, HBU.out⟩
            case measure => simp [intOf]; omega
        · obtain rfl : j = p.len := by omega
          have HE : Hid (BL wr A6 (upTo l N (k + 1)) n6 c6) := Lib.hid (by
            have h := H6.out
            rw [List.take_of_length_le (by rw [HX.out.len]; exact Nat.le_refl _)] at h
            rw [HN.out, HX.out.len, HBS.out]
            exact h)
          clear H6
          go_wp2
          go_roundw
          case rel => exact ⟨k + 1, A6, n6, c6, hlt, by go_num, rfl, HE.out, HB6.out⟩
          case measure => simp [intOf]; omega
    · obtain rfl : k = n1 := by omega
      go_wp2
      go_ret
      refine ⟨A3, n3, c3, rfl, ?_, HB.out.trans (HB3.out.mono HB.out.size)⟩
      have h := H3.out
      rw [upTo_all HNL.out] at h
      exact h
end Go.Proofs.YtmhghgogehmehaaGreat.Dc
