/- Plain arithmetic for layer runs: lists of runs as sets of numbers; a list in order is told by its numbers; what the document's 'set' comes to. No program is walked here. -/
import Derived.Test.YtaoojiacdkabbaaForm
namespace Go.Proofs.Ytaoojiacdkabbaa.Ru
set_option linter.unusedVariables false

def tst (r : Run) (n : Nat) : Bool := mayR r && (decide (r.1 ≤ n) && decide (n ≤ r.2))
theorem tst_iff (r : Run) (n : Nat) : tst r n = true ↔ mayR r = true ∧ r.1 ≤ n ∧ n ≤ r.2 := by unfold tst; simp
theorem has_cons (r : Run) (l : List Run) (n : Nat) : has (r :: l) n = (tst r n || has l n) := rfl
theorem has_nil (n : Nat) : has [] n = false := rfl
theorem has_append (a b : List Run) (n : Nat) : has (a ++ b) n = (has a n || has b n) := by unfold has; exact List.any_append
theorem has_iff (l : List Run) (n : Nat) : has l n = true ↔ ∃ r ∈ l, tst r n = true := by unfold has tst; exact List.any_eq_true
theorem may_iff (r : Run) : mayR r = true ↔ 1 ≤ r.1 ∧ r.1 ≤ r.2 ∧ r.2 ≤ 281474976710655 := decide_eq_true_iff

/-- in order: all tell something, each next one more than one above. -/
def InOrder (l : List Run) : Prop := (∀ r ∈ l, mayR r = true) ∧ l.Pairwise fun r s => r.2 + 1 < s.1
theorem order_tail {r : Run} {l : List Run} (h : InOrder (r :: l)) : InOrder l ∧ mayR r = true ∧ ∀ s ∈ l, r.2 + 1 < s.1 :=
  ⟨⟨fun s hs => h.1 s (List.mem_cons_of_mem _ hs), (List.pairwise_cons.1 h.2).2⟩, h.1 r List.mem_cons_self, (List.pairwise_cons.1 h.2).1⟩
theorem far {r : Run} {l : List Run} (h : ∀ s ∈ l, r.2 + 1 < s.1) {n : Nat} (hn : has l n = true) : r.2 + 1 < n := by
  obtain ⟨s, hs, ht⟩ := (has_iff l n).1 hn
  have h1 := h s hs
  have h2 := ((tst_iff s n).1 ht).2.1
  omega
theorem has_head {r : Run} {l : List Run} (h : InOrder (r :: l)) : has (r :: l) r.1 = true := by
  obtain ⟨_, hm, _⟩ := order_tail h
  have := (may_iff r).1 hm
  rw [has_cons, (tst_iff r r.1).2 ⟨hm, by omega, by omega⟩]
  rfl
theorem least {r : Run} {l : List Run} (h : InOrder (r :: l)) {n : Nat} (hn : has (r :: l) n = true) : r.1 ≤ n := by
  obtain ⟨_, hm, hf⟩ := order_tail h
  have hr := (may_iff r).1 hm
  rw [has_cons, Bool.or_eq_true] at hn
  rcases hn with hn | hn
  · exact ((tst_iff r n).1 hn).2.1
  · have := far hf hn; omega
/-- A LIST IN ORDER IS TOLD BY ITS NUMBERS. -/
theorem uniq {a b : List Run} (ha : InOrder a) (hb : InOrder b) (h : ∀ n, has a n = has b n) : a = b := by
  induction a generalizing b with
  | nil =>
    cases b with
    | nil => rfl
    | cons s b =>
      have := has_head hb
      rw [← h, has_nil] at this
      cases this
  | cons r a ih =>
    cases b with
    | nil =>
      have := has_head ha
      rw [h, has_nil] at this
      cases this
    | cons s b =>
      obtain ⟨ha', hmr, fr⟩ := order_tail ha
      obtain ⟨hb', hms, fs⟩ := order_tail hb
      have r1 := (may_iff r).1 hmr
      have s1 := (may_iff s).1 hms
      have e1 : r.1 = s.1 := by
        have x1 := has_head ha
        rw [h] at x1
        have x2 := has_head hb
        rw [← h] at x2
        have := least hb x1
        have := least ha x2
        omega
      have key : ∀ {r s : Run} {a b : List Run}, (∀ t ∈ a, r.2 + 1 < t.1) → mayR s = true → r.1 = s.1 → r.1 ≤ r.2 → (∀ n, has (s :: b) n = true → has (r :: a) n = true) → s.2 ≤ r.2 := by
        intro r s a b fr hms e1 hr hh
        rcases Nat.lt_or_ge r.2 s.2 with hlt | hge
        · exfalso
          have h1 : has (s :: b) (r.2 + 1) = true := by
            rw [has_cons, (tst_iff s (r.2 + 1)).2 ⟨hms, by omega, by omega⟩]; rfl
          have h2 := hh _ h1
          rw [has_cons, Bool.or_eq_true] at h2
          rcases h2 with h2 | h2
          · have := ((tst_iff r _).1 h2).2.2; omega
          · have := far fr h2; omega
        · exact hge
      have e2 : r.2 = s.2 := by
        have k1 := key (b := b) fr hms e1 (by omega) (fun n hn => by rw [h]; exact hn)
        have k2 := key (b := a) fs hmr e1.symm (by omega) (fun n hn => by rw [← h]; exact hn)
        omega
      have e : r = s := Prod.ext e1 e2
      subst e
      congr 1
      refine ih ha' hb' fun n => ?_
      have hn := h n
      rw [has_cons, has_cons] at hn
      cases ht : tst r n with
      | false => rw [ht] at hn; simpa using hn
      | true =>
        have h2 := ((tst_iff r n).1 ht).2.2
        have no : ∀ {l : List Run}, (∀ t ∈ l, r.2 + 1 < t.1) → has l n = false := fun f => by
          cases hl : has _ n with
          | false => rfl
          | true => have := far f hl; omega
        rw [no fr, no fs]

/-! What 'set' comes to. -/
theorem ptS_rising {o : List Nat} {r : Run} (h : Rising o) : Rising (ptS o r) := by
  unfold ptS
  split
  · rw [put_ins _ h, put_ins _ (ins_rising h _)]
    exact ins_rising (ins_rising h _) _
  · exact h
theorem mem_ptS {o : List Nat} {r : Run} (h : Rising o) (x : Nat) : x ∈ ptS o r ↔ x ∈ o ∨ (mayR r = true ∧ (x = r.1 ∨ x = r.2 + 1)) := by
  unfold ptS
  split
  · rename_i hm
    rw [put_ins _ h, put_ins _ (ins_rising h _), mem_ins, mem_ins]
    constructor
    · rintro (h | h | h) <;> simp [h, hm]
    · rintro (h | ⟨_, h | h⟩) <;> simp [h]
  · rename_i hm
    simp [hm]
theorem ptL_spec (l : List Run) : Rising (ptL l) ∧ ∀ x, x ∈ ptL l ↔ ∃ r ∈ l, mayR r = true ∧ (x = r.1 ∨ x = r.2 + 1) := by
  suffices hs : ∀ (l : List Run) (o : List Nat), Rising o → Rising (l.foldl ptS o) ∧ ∀ x, x ∈ l.foldl ptS o ↔ x ∈ o ∨ ∃ r ∈ l, mayR r = true ∧ (x = r.1 ∨ x = r.2 + 1) by
    have := hs l [] List.Pairwise.nil
    unfold ptL
    refine ⟨this.1, fun x => ?_⟩
    rw [this.2 x]
    simp
  intro l
  induction l with
  | nil => intro o ho; exact ⟨ho, fun x => by simp⟩
  | cons r l ih =>
    intro o ho
    obtain ⟨h1, h2⟩ := ih (ptS o r) (ptS_rising ho)
    refine ⟨h1, fun x => ?_⟩
    rw [List.foldl_cons, h2 x, mem_ptS ho]
    constructor
    · rintro ((h | h) | ⟨s, hs, h⟩)
      · exact .inl h
      · exact .inr ⟨r, by simp, h⟩
      · exact .inr ⟨s, by simp [hs], h⟩
    · rintro (h | ⟨s, hs, h⟩)
      · exact .inl (.inl h)
      · rcases List.mem_cons.1 hs with rfl | hs
        · exact .inl (.inr h)
        · exact .inr ⟨s, hs, h⟩
theorem rising_get {P : List Nat} (h : Rising P) {i j : Nat} (hij : i < j) (hj : j < P.length) : P.getD i 0 < P.getD j 0 := by
  have := List.pairwise_iff_getElem.1 h i j (by omega) hj hij
  rw [List.getD_eq_getElem?_getD, List.getD_eq_getElem?_getD, List.getElem?_eq_getElem hj, List.getElem?_eq_getElem (by omega : i < P.length)]
  exact this
theorem between {P : List Nat} (h : Rising P) {k : Nat} (hk : k + 1 < P.length) {x : Nat} (hx : x ∈ P) : x ≤ P.getD k 0 ∨ P.getD (k + 1) 0 ≤ x := by
  obtain ⟨i, hi, rfl⟩ := List.getElem_of_mem hx
  have e : P[i] = P.getD i 0 := by rw [List.getD_eq_getElem?_getD, List.getElem?_eq_getElem hi]; rfl
  rw [e]
  rcases Nat.lt_or_ge i k with h1 | h1
  · exact .inl (Nat.le_of_lt (rising_get h h1 (by omega)))
  · rcases Nat.eq_or_lt_of_le h1 with rfl | h2
    · exact .inl (Nat.le_refl _)
    · rcases Nat.eq_or_lt_of_le (show k + 1 ≤ i by omega) with rfl | h3
      · exact .inr (Nat.le_refl _)
      · exact .inr (Nat.le_of_lt (rising_get h h3 hi))
/-- between two points nothing begins, and nothing ends. -/
theorem steady {P : List Nat} {l : List Run} (h : Rising P) (hP : ∀ r ∈ l, mayR r = true → r.1 ∈ P ∧ r.2 + 1 ∈ P) {k n : Nat} (hk : k + 1 < P.length) (h1 : P.getD k 0 ≤ n) (h2 : n < P.getD (k + 1) 0) : has l n = has l (P.getD k 0) := by
  have hpq := rising_get h (Nat.lt_succ_self k) hk
  rw [Bool.eq_iff_iff, has_iff, has_iff]
  constructor
  · rintro ⟨r, hr, ht⟩
    obtain ⟨hm, a1, a2⟩ := (tst_iff r n).1 ht
    obtain ⟨p1, p2⟩ := hP r hr hm
    refine ⟨r, hr, (tst_iff r _).2 ⟨hm, ?_, ?_⟩⟩
    · rcases between h hk p1 with h | h <;> omega
    · rcases between h hk p2 with h | h <;> omega
  · rintro ⟨r, hr, ht⟩
    obtain ⟨hm, a1, a2⟩ := (tst_iff r _).1 ht
    obtain ⟨p1, p2⟩ := hP r hr hm
    refine ⟨r, hr, (tst_iff r _).2 ⟨hm, by omega, ?_⟩⟩
    rcases between h hk p2 with h | h <;> omega
theorem inB_ff (how : Int) : inB how false false = false := by unfold inB; split <;> (try split) <;> rfl

/-- what holds behind k rounds. -/
structure Upto (a b : List Run) (how : Int) (P : List Nat) (k : Nat) : Prop where
  order : InOrder (stF a b how P k)
  low : ∀ r ∈ stF a b how P k, r.2 < P.getD k 0
  tells : ∀ n, has (stF a b how P k) n = (decide (n < P.getD k 0) && inB how (has a n) (has b n))
theorem order_snoc {o : List Run} {r : Run} (h : InOrder o) (hr : mayR r = true) (hf : ∀ s ∈ o, s.2 + 1 < r.1) : InOrder (o ++ [r]) := by
  refine ⟨fun s hs => ?_, List.pairwise_append.2 ⟨h.2, List.pairwise_singleton _ _, fun s hs t ht => ?_⟩⟩
  · rcases List.mem_append.1 hs with hs | hs
    · exact h.1 s hs
    · obtain rfl := List.mem_singleton.1 hs; exact hr
  · obtain rfl := List.mem_singleton.1 ht
    exact hf s hs
theorem order_init {o : List Run} {r : Run} (h : InOrder (o ++ [r])) : InOrder o ∧ mayR r = true ∧ ∀ s ∈ o, s.2 + 1 < r.1 := by
  obtain ⟨h1, _, h3⟩ := List.pairwise_append.1 h.2
  exact ⟨⟨fun s hs => h.1 s (List.mem_append_left _ hs), h1⟩, h.1 r (by simp), fun s hs => h3 s hs r (by simp)⟩
theorem first_le {P : List Nat} (h : Rising P) {x : Nat} (hx : x ∈ P) : P.getD 0 0 ≤ x := by
  obtain ⟨i, hi, rfl⟩ := List.getElem_of_mem hx
  have e : P[i] = P.getD i 0 := by rw [List.getD_eq_getElem?_getD, List.getElem?_eq_getElem hi]; rfl
  rw [e]
  rcases Nat.eq_zero_or_pos i with rfl | h0
  · exact Nat.le_refl _
  · exact Nat.le_of_lt (rising_get h h0 hi)
theorem le_last {P : List Nat} (h : Rising P) {x : Nat} (hx : x ∈ P) : x ≤ P.getD (P.length - 1) 0 := by
  obtain ⟨i, hi, rfl⟩ := List.getElem_of_mem hx
  have e : P[i] = P.getD i 0 := by rw [List.getD_eq_getElem?_getD, List.getElem?_eq_getElem hi]; rfl
  rw [e]
  rcases Nat.lt_or_ge i (P.length - 1) with h0 | h0
  · exact Nat.le_of_lt (rising_get h h0 (by omega))
  · have : i = P.length - 1 := by omega
    subst this
    exact Nat.le_refl _
theorem none_ahead {P : List Nat} {l : List Run} (h : Rising P) (hP : ∀ r ∈ l, mayR r = true → r.1 ∈ P ∧ r.2 + 1 ∈ P) {n : Nat} (hn : n < P.getD 0 0) : has l n = false := by
  cases ht : has l n with
  | false => rfl
  | true =>
    obtain ⟨r, hr, ht⟩ := (has_iff l n).1 ht
    obtain ⟨hm, a1, a2⟩ := (tst_iff r n).1 ht
    have := first_le h (hP r hr hm).1
    omega
theorem none_behind {P : List Nat} {l : List Run} (h : Rising P) (hP : ∀ r ∈ l, mayR r = true → r.1 ∈ P ∧ r.2 + 1 ∈ P) {n : Nat} (hn : P.getD (P.length - 1) 0 ≤ n) : has l n = false := by
  cases ht : has l n with
  | false => rfl
  | true =>
    obtain ⟨r, hr, ht⟩ := (has_iff l n).1 ht
    obtain ⟨hm, a1, a2⟩ := (tst_iff r n).1 ht
    have := le_last h (hP r hr hm).2
    omega
theorem upto_zero {a b : List Run} {how : Int} {P : List Nat} (h : Rising P) (ha : ∀ r ∈ a, mayR r = true → r.1 ∈ P ∧ r.2 + 1 ∈ P) (hb : ∀ r ∈ b, mayR r = true → r.1 ∈ P ∧ r.2 + 1 ∈ P) : Upto a b how P 0 := by
  refine ⟨⟨fun r hr => (by cases hr), List.Pairwise.nil⟩, fun r hr => (by cases hr), fun n => ?_⟩
  show has [] n = _
  rw [has_nil]
  by_cases hn : n < P.getD 0 0
  · rw [none_ahead h ha hn, none_ahead h hb hn, inB_ff, Bool.and_false]
  · rw [decide_eq_false hn, Bool.false_and]
theorem has_off {o : List Run} {p n : Nat} (h : ∀ r ∈ o, r.2 < p) (hn : p ≤ n) : has o n = false := by
  cases ht : has o n with
  | false => rfl
  | true =>
    obtain ⟨r, hr, ht⟩ := (has_iff o n).1 ht
    have := h r hr
    have := ((tst_iff r n).1 ht).2.2
    omega
theorem addR_last' (o : List Run) (lo hi p q : Nat) : addR (o ++ [(lo, hi)]) p q = if hi + 1 = p then o ++ [(lo, q - 1)] else o ++ [(lo, hi)] ++ [(p, q - 1)] := by
  unfold addR
  rw [List.getLast?_append]
  simp only [List.getLast?_singleton, Option.some_or, List.dropLast_concat]
/-- points lie from 1 to 2^48. -/
theorem ptL_bound' (l : List Run) : ∀ x ∈ ptL l, 1 ≤ x ∧ x ≤ 281474976710656 := fun x hx => by
  obtain ⟨r, _, hm, h⟩ := ((ptL_spec l).2 x).1 hx
  have := (may_iff r).1 hm
  rcases h with rfl | rfl <;> omega
theorem addR_nil' (p q : Nat) : addR [] p q = [(p, q - 1)] := rfl
theorem upto_step {a b : List Run} {how : Int} {P : List Nat} {k : Nat} (h : Rising P) (ha : ∀ r ∈ a, mayR r = true → r.1 ∈ P ∧ r.2 + 1 ∈ P) (hb : ∀ r ∈ b, mayR r = true → r.1 ∈ P ∧ r.2 + 1 ∈ P) (hbd : ∀ x ∈ P, 1 ≤ x ∧ x ≤ 281474976710656) (hk : k + 1 < P.length) (hu : Upto a b how P k) : Upto a b how P (k + 1) := by
  obtain ⟨hord, hlow, htell⟩ := hu
  have hpq := rising_get h (Nat.lt_succ_self k) hk
  have bp : 1 ≤ P.getD k 0 := by
    rw [List.getD_eq_getElem?_getD, List.getElem?_eq_getElem (by omega : k < P.length)]
    exact (hbd _ (List.getElem_mem _)).1
  have bq : P.getD (k + 1) 0 ≤ 281474976710656 := by
    rw [List.getD_eq_getElem?_getD, List.getElem?_eq_getElem hk]
    exact (hbd _ (List.getElem_mem _)).2
  have sa : ∀ n, P.getD k 0 ≤ n → n < P.getD (k + 1) 0 → has a n = has a (P.getD k 0) := fun n h1 h2 => steady h ha hk h1 h2
  have sb : ∀ n, P.getD k 0 ≤ n → n < P.getD (k + 1) 0 → has b n = has b (P.getD k 0) := fun n h1 h2 => steady h hb hk h1 h2
  suffices hs : InOrder (stF a b how P (k + 1)) ∧ (∀ r ∈ stF a b how P (k + 1), r.2 < P.getD (k + 1) 0) ∧ ∀ n, has (stF a b how P (k + 1)) n = (decide (n < P.getD (k + 1) 0) && inB how (has a n) (has b n)) from ⟨hs.1, hs.2.1, hs.2.2⟩
  have es := stF_succ a b how P k
  unfold stS at es
  generalize stF a b how P k = o at *
  generalize P.getD k 0 = p at *
  generalize P.getD (k + 1) 0 = q at *
  have goal : ∀ n, (decide (n < q) && inB how (has a n) (has b n)) = (has o n || (decide (p ≤ n) && decide (n < q) && inB how (has a p) (has b p))) := fun n => by
    rw [htell n]
    by_cases c1 : n < p
    · have c2 : n < q := by omega
      simp [c1, c2, show ¬ p ≤ n by omega]
    · have c3 : p ≤ n := by omega
      by_cases c2 : n < q
      · rw [sa n c3 c2, sb n c3 c2]
        simp [c1, c2, c3]
      · simp [c1, c2]
  cases hv : inB how (has a p) (has b p) with
  | false =>
    rw [hv, if_neg (by simp)] at es
    rw [es]
    refine ⟨hord, fun r hr => by have := hlow r hr; omega, fun n => ?_⟩
    rw [goal n, hv, Bool.and_false, Bool.or_false]
  | true =>
    rw [hv, if_pos rfl] at es
    rw [es]
    rcases List.eq_nil_or_concat o with rfl | ⟨o', ⟨lo, hi⟩, rfl⟩
    · rw [addR_nil']
      refine ⟨⟨fun r hr => ?_, List.pairwise_singleton _ _⟩, fun r hr => ?_, fun n => ?_⟩
      · obtain rfl := List.mem_singleton.1 hr
        exact (may_iff _).2 ⟨bp, by show p ≤ q - 1; omega, by show q - 1 ≤ _; omega⟩
      · obtain rfl := List.mem_singleton.1 hr
        show q - 1 < q
        omega
      · rw [goal n, hv, has_cons, has_nil, Bool.or_false, Bool.false_or, Bool.and_true, Bool.eq_iff_iff, tst_iff, Bool.and_eq_true, decide_eq_true_iff, decide_eq_true_iff]
        constructor
        · rintro ⟨_, h1, h2⟩
          exact ⟨h1, by have : n ≤ q - 1 := h2; omega⟩
        · rintro ⟨h1, h2⟩
          exact ⟨(may_iff _).2 ⟨bp, by show p ≤ q - 1; omega, by show q - 1 ≤ _; omega⟩, h1, by show n ≤ q - 1; omega⟩
    · rw [List.concat_eq_append] at *
      rw [addR_last']
      obtain ⟨ho, hm, hfar⟩ := order_init hord
      have hl : hi < p := hlow (lo, hi) (by simp)
      obtain ⟨m1, m2, m3⟩ := (may_iff (lo, hi)).1 hm
      simp only at m1 m2 m3
      split
      · rename_i ht
        have hm' : mayR (lo, q - 1) = true := (may_iff _).2 ⟨m1, by show lo ≤ q - 1; omega, by show q - 1 ≤ _; omega⟩
        refine ⟨order_snoc ho hm' hfar, fun r hr => ?_, fun n => ?_⟩
        · rcases List.mem_append.1 hr with hr | hr
          · have := hlow r (List.mem_append_left _ hr); omega
          · obtain rfl := List.mem_singleton.1 hr
            show q - 1 < q
            omega
        · rw [goal n, hv, has_append, has_append, has_cons, has_cons, has_nil, Bool.or_false, Bool.or_false, Bool.and_true, Bool.or_assoc]
          congr 1
          rw [Bool.eq_iff_iff, Bool.or_eq_true, tst_iff, tst_iff, Bool.and_eq_true, decide_eq_true_iff, decide_eq_true_iff]
          constructor
          · rintro ⟨_, h1, h2⟩
            have h2 : n ≤ q - 1 := h2
            by_cases hc : n ≤ hi
            · exact .inl ⟨hm, h1, hc⟩
            · exact .inr ⟨by omega, by omega⟩
          · rintro (⟨_, h1, h2⟩ | ⟨h1, h2⟩)
            · have h1 : lo ≤ n := h1
              have h2 : n ≤ hi := h2
              exact ⟨hm', h1, by show n ≤ q - 1; omega⟩
            · exact ⟨hm', by show lo ≤ n; omega, by show n ≤ q - 1; omega⟩
      · rename_i ht
        have hm' : mayR (p, q - 1) = true := (may_iff _).2 ⟨bp, by show p ≤ q - 1; omega, by show q - 1 ≤ _; omega⟩
        refine ⟨order_snoc hord hm' fun s hs => ?_, fun r hr => ?_, fun n => ?_⟩
        · rcases List.mem_append.1 hs with hs | hs
          · have h1 := hfar s hs
            have h1 : s.2 + 1 < lo := h1
            show s.2 + 1 < p
            omega
          · obtain rfl := List.mem_singleton.1 hs
            show hi + 1 < p
            omega
        · rcases List.mem_append.1 hr with hr | hr
          · have := hlow r hr; omega
          · obtain rfl := List.mem_singleton.1 hr
            show q - 1 < q
            omega
        · rw [goal n, hv, has_append (o' ++ [(lo, hi)]), has_cons, has_nil, Bool.or_false, Bool.and_true]
          congr 1
          rw [Bool.eq_iff_iff, tst_iff, Bool.and_eq_true, decide_eq_true_iff, decide_eq_true_iff]
          constructor
          · rintro ⟨_, h1, h2⟩
            exact ⟨h1, by have : n ≤ q - 1 := h2; omega⟩
          · rintro ⟨h1, h2⟩
            exact ⟨hm', h1, by show n ≤ q - 1; omega⟩

/-- WHAT THE DOCUMENT's 'set' COMES TO: a list in order that tells just the numbers that are said. -/
theorem set_spec (a b : List Run) (how : Int) : InOrder (setL a b how) ∧ ∀ n, has (setL a b how) n = inB how (has a n) (has b n) := by
  obtain ⟨hr, hmem⟩ := ptL_spec (a ++ b)
  have hbd := ptL_bound' (a ++ b)
  unfold setL
  generalize ptL (a ++ b) = P at *
  have ha : ∀ r ∈ a, mayR r = true → r.1 ∈ P ∧ r.2 + 1 ∈ P := fun r h1 h2 =>
    ⟨(hmem _).2 ⟨r, List.mem_append_left _ h1, h2, .inl rfl⟩, (hmem _).2 ⟨r, List.mem_append_left _ h1, h2, .inr rfl⟩⟩
  have hb : ∀ r ∈ b, mayR r = true → r.1 ∈ P ∧ r.2 + 1 ∈ P := fun r h1 h2 =>
    ⟨(hmem _).2 ⟨r, List.mem_append_right _ h1, h2, .inl rfl⟩, (hmem _).2 ⟨r, List.mem_append_right _ h1, h2, .inr rfl⟩⟩
  have key : ∀ k, k ≤ P.length - 1 → Upto a b how P k := by
    intro k
    induction k with
    | zero => intro _; exact upto_zero hr ha hb
    | succ k ih => intro hk; exact upto_step hr ha hb hbd (by omega) (ih (by omega))
  obtain ⟨h1, h2, h3⟩ := key (P.length - 1) (Nat.le_refl _)
  refine ⟨h1, fun n => ?_⟩
  rw [h3 n]
  by_cases hn : n < P.getD (P.length - 1) 0
  · rw [decide_eq_true hn, Bool.true_and]
  · rw [decide_eq_false hn, none_behind hr ha (by omega), none_behind hr hb (by omega), inB_ff, Bool.and_false]
end Go.Proofs.Ytaoojiacdkabbaa.Ru
