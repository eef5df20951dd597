/- Words and contracts that the proofs of this seat stand on, part 7 of 39. -/
import Derived.Test.YtgaegfddobpomaaGreatOrF

namespace Go.Proofs.YtgaegfddobpomaaGreat.Ru
set_option linter.unusedVariables false
set_option maxRecDepth 4000
def tst (r : Run) (n : Nat) : Bool := mayR r && (decide (r.1 ≤ n) && decide (n ≤ r.2))
theorem tst_iff (r : Run) (n : Nat) : tst r n = true ↔ mayR r = true ∧ r.1 ≤ n ∧ n ≤ r.2 := by unfold tst; simp
theorem has_cons (r : Run) (l : List Run) (n : Nat) : has (r :: l) n = (tst r n || has l n) := rfl
theorem has_nil (n : Nat) : has [] n = false := rfl
theorem has_append (a b : List Run) (n : Nat) : has (a ++ b) n = (has a n || has b n) := by unfold has; exact List.any_append
theorem has_iff (l : List Run) (n : Nat) : has l n = true ↔ ∃ r ∈ l, tst r n = true := by unfold has tst; exact List.any_eq_true
theorem may_iff (r : Run) : mayR r = true ↔ 1 ≤ r.1 ∧ r.1 ≤ r.2 ∧ r.2 ≤ 281474976710655 := decide_eq_true_iff
def InOrder (l : List Run) : Prop := (∀ r ∈ l, mayR r = true) ∧ l.Pairwise fun r s => r.2 + 1 < s.1
theorem order_tail {r : Run} {l : List Run} (h : InOrder (r :: l)) : InOrder l ∧ mayR r = true ∧ ∀ s ∈ l, r.2 + 1 < s.1 :=
 ⟨⟨fun s hs => h.1 s (List.mem_cons_of_mem _ hs), (List.pairwise_cons.1 h.2).2⟩, h.1 r List.mem_cons_self, (List.pairwise_cons.1 h.2).1⟩
theorem far {r : Run} {l : List Run} (h : ∀ s ∈ l, r.2 + 1 < s.1) {n : Nat} (hn : has l n = true) : r.2 + 1 < n := by
 obtain ⟨s, hs, ht⟩ := (has_iff l n).1 hn
 have h1 := h s hs
 have h2 := ((tst_iff s n).1 ht).2.1
 omega
theorem has_head {r : Run} {l : List Run} (h : InOrder (r :: l)) : has (r :: l) r.1 = true := by
 obtain ⟨_, hm, _⟩ := order_tail h
 have := (may_iff r).1 hm
 rw [has_cons, (tst_iff r r.1).2 ⟨hm, by omega, by omega⟩]
 rfl
theorem least {r : Run} {l : List Run} (h : InOrder (r :: l)) {n : Nat} (hn : has (r :: l) n = true) : r.1 ≤ n := by
 obtain ⟨_, hm, hf⟩ := order_tail h
 have hr := (may_iff r).1 hm
 rw [has_cons, Bool.or_eq_true] at hn
 rcases hn with hn | hn
 · exact ((tst_iff r n).1 hn).2.1
 · have := far hf hn; omega
theorem uniq {a b : List Run} (ha : InOrder a) (hb : InOrder b) (h : ∀ n, has a n = has b n) : a = b := by
 induction a generalizing b with
 | nil =>
   cases b with
   | nil => rfl
   | cons s b =>
     have := has_head hb
     rw [← h, has_nil] at this
     cases this
 | cons r a ih =>
   cases b with
   | nil =>
     have := has_head ha
     rw [h, has_nil] at this
     cases this
   | cons s b =>
     obtain ⟨ha', hmr, fr⟩ := order_tail ha
     obtain ⟨hb', hms, fs⟩ := order_tail hb
     have r1 := (may_iff r).1 hmr
     have s1 := (may_iff s).1 hms
     have e1 : r.1 = s.1 := by
       have x1 := has_head ha
       rw [h] at x1
       have x2 := has_head hb
       rw [← h] at x2
       have := least hb x1
       have := least ha x2
       omega
     have key : ∀ {r s : Run} {a b : List Run}, (∀ t ∈ a, r.2 + 1 < t.1) → mayR s = true → r.1 = s.1 → r.1 ≤ r.2 → (∀ n, has (s :: b) n = true → has (r :: a) n = true) → s.2 ≤ r.2 := by
       intro r s a b fr hms e1 hr hh
       rcases Nat.lt_or_ge r.2 s.2 with hlt | hge
       · exfalso
         have h1 : has (s :: b) (r.2 + 1) = true := by
           rw [has_cons, (tst_iff s (r.2 + 1)).2 ⟨hms, by omega, by omega⟩]; rfl
         have h2 := hh _ h1
         rw [has_cons, Bool.or_eq_true] at h2
         rcases h2 with h2 | h2
         · have := ((tst_iff r _).1 h2).2.2; omega
         · have := far fr h2; omega
       · exact hge
     have e2 : r.2 = s.2 := by
       have k1 := key (b := b) fr hms e1 (by omega) (fun n hn => by rw [h]; exact hn)
       have k2 := key (b := a) fs hmr e1.symm (by omega) (fun n hn => by rw [← h]; exact hn)
       omega
     have e : r = s := Prod.ext e1 e2
     subst e
     congr 1
     refine ih ha' hb' fun n => ?_
     have hn := h n
     rw [has_cons, has_cons] at hn
     cases ht : tst r n with
     | false => rw [ht] at hn; simpa using hn
     | true =>
       have h2 := ((tst_iff r n).1 ht).2.2
       have no : ∀ {l : List Run}, (∀ t ∈ l, r.2 + 1 < t.1) → has l n = false := fun f => by
         cases hl : has _ n with
         | false => rfl
         | true => have := far f hl; omega
       rw [no fr, no fs]
/-! What 'set' comes to. -/
theorem ptS_rising {o : List Nat} {r : Run} (h : Rising o) : Rising (ptS o r) := by
 unfold ptS
 split
 · rw [put_ins _ h, put_ins _ (ins_rising h _)]
   exact ins_rising (ins_rising h _) _
 · exact h
theorem mem_ptS {o : List Nat} {r : Run} (h : Rising o) (x : Nat) : x ∈ ptS o r ↔ x ∈ o ∨ (mayR r = true ∧ (x = r.1 ∨ x = r.2 + 1)) := by
 unfold ptS
 split
 · rename_i hm
   rw [put_ins _ h, put_ins _ (ins_rising h _), mem_ins, mem_ins]
   constructor
   · rintro (h | h | h) <;> simp [h, hm]
   · rintro (h | ⟨_, h | h⟩) <;> simp [h]
 · rename_i hm
   simp [hm]
theorem ptL_spec (l : List Run) : Rising (ptL l) ∧ ∀ x, x ∈ ptL l ↔ ∃ r ∈ l, mayR r = true ∧ (x = r.1 ∨ x = r.2 + 1) := by
 suffices hs : ∀ (l : List Run) (o : List Nat), Rising o → Rising (l.foldl ptS o) ∧ ∀ x, x ∈ l.foldl ptS o ↔ x ∈ o ∨ ∃ r ∈ l, mayR r = true ∧ (x = r.1 ∨ x = r.2 + 1) by
   have := hs l [] List.Pairwise.nil
   unfold ptL
   refine ⟨this.1, fun x => ?_⟩
   rw [this.2 x]
   simp
 intro l
 induction l with
 | nil => intro o ho; exact ⟨ho, fun x => by simp⟩
 | cons r l ih =>
   intro o ho
   obtain ⟨h1, h2⟩ := ih (ptS o r) (ptS_rising ho)
   refine ⟨h1, fun x => ?_⟩
   rw [List.foldl_cons, h2 x, mem_ptS ho]
   constructor
   · rintro ((h | h) | ⟨s, hs, h⟩)
     · exact .inl h
     · exact .inr ⟨r, by simp, h⟩
     · exact .inr ⟨s, by simp [hs], h⟩
   · rintro (h | ⟨s, hs, h⟩)
     · exact .inl (.inl h)
     · rcases List.mem_cons.1 hs with rfl | hs
       · exact .inl (.inr h)
       · exact .inr ⟨s, hs, h⟩
theorem rising_get {P : List Nat} (h : Rising P) {i j : Nat} (hij : i < j) (hj : j < P.length) : P.getD i 0 < P.getD j 0 := by
 have := List.pairwise_iff_getElem.1 h i j (by omega) hj hij
 rw [List.getD_eq_getElem?_getD, List.getD_eq_getElem?_getD, List.getElem?_eq_getElem hj, List.getElem?_eq_getElem (by omega : i < P.length)]
 exact this
theorem between {P : List Nat} (h : Rising P) {k : Nat} (hk : k + 1 < P.length) {x : Nat} (hx : x ∈ P) : x ≤ P.getD k 0 ∨ P.getD (k + 1) 0 ≤ x := by
 obtain ⟨i, hi, rfl⟩ := List.getElem_of_mem hx
 have e : P[i] = P.getD i 0 := by rw [List.getD_eq_getElem?_getD, List.getElem?_eq_getElem hi]; rfl
 rw [e]
 rcases Nat.lt_or_ge i k with h1 | h1
 · exact .inl (Nat.le_of_lt (rising_get h h1 (by omega)))
 · rcases Nat.eq_or_lt_of_le h1 with rfl | h2
   · exact .inl (Nat.le_refl _)
   · rcases Nat.eq_or_lt_of_le (show k + 1 ≤ i by omega) with rfl | h3
     · exact .inr (Nat.le_refl _)
     · exact .inr (Nat.le_of_lt (rising_get h h3 hi))
theorem steady {P : List Nat} {l : List Run} (h : Rising P) (hP : ∀ r ∈ l, mayR r = true → r.1 ∈ P ∧ r.2 + 1 ∈ P) {k n : Nat} (hk : k + 1 < P.length) (h1 : P.getD k 0 ≤ n) (h2 : n < P.getD (k + 1) 0) : has l n = has l (P.getD k 0) := by
 have hpq := rising_get h (Nat.lt_succ_self k) hk
 rw [Bool.eq_iff_iff, has_iff, has_iff]
 constructor
 · rintro ⟨r, hr, ht⟩
   obtain ⟨hm, a1, a2⟩ := (tst_iff r n).1 ht
   obtain ⟨p1, p2⟩ := hP r hr hm
   refine ⟨r, hr, (tst_iff r _).2 ⟨hm, ?_, ?_⟩⟩
   · rcases between h hk p1 with h | h <;> omega
   · rcases between h hk p2 with h | h <;> omega
 · rintro ⟨r, hr, ht⟩
   obtain ⟨hm, a1, a2⟩ := (tst_iff r _).1 ht
   obtain ⟨p1, p2⟩ := hP r hr hm
   refine ⟨r, hr, (tst_iff r _).2 ⟨hm, by omega, ?_⟩⟩
   rcases between h hk p2 with h | h <;> omega
theorem inB_ff (how : Int) : inB how false false = false := by unfold inB; split <;> (try split) <;> rfl
structure Upto (a b : List Run) (how : Int) (P : List Nat) (k : Nat) : Prop where
 order : InOrder (stF a b how P k)
 low : ∀ r ∈ stF a b how P k, r.2 < P.getD k 0
 tells : ∀ n, has (stF a b how P k) n = (decide (n < P.getD k 0) && inB how (has a n) (has b n))
theorem order_snoc {o : List Run} {r : Run} (h : InOrder o) (hr : mayR r = true) (hf : ∀ s ∈ o, s.2 + 1 < r.1) : InOrder (o ++ [r]) := by
 refine ⟨fun s hs => ?_, List.pairwise_append.2 ⟨h.2, List.pairwise_singleton _ _, fun s hs t ht => ?_⟩⟩
 · rcases List.mem_append.1 hs with hs | hs
   · exact h.1 s hs
   · obtain rfl := List.mem_singleton.1 hs; exact hr
 · obtain rfl := List.mem_singleton.1 ht
   exact hf s hs
theorem order_init {o : List Run} {r : Run} (h : InOrder (o ++ [r])) : InOrder o ∧ mayR r = true ∧ ∀ s ∈ o, s.2 + 1 < r.1 := by
 obtain ⟨h1, _, h3⟩ := List.pairwise_append.1 h.2
 exact ⟨⟨fun s hs => h.1 s (List.mem_append_left _ hs), h1⟩, h.1 r (by simp), fun s hs => h3 s hs r (by simp)⟩
theorem first_le {P : List Nat} (h : Rising P) {x : Nat} (hx : x ∈ P) : P.getD 0 0 ≤ x := by
 obtain ⟨i, hi, rfl⟩ := List.getElem_of_mem hx
 have e : P[i] = P.getD i 0 := by rw [List.getD_eq_getElem?_getD, List.getElem?_eq_getElem hi]; rfl
 rw [e]
 rcases Nat.eq_zero_or_pos i with rfl | h0
 · exact Nat.le_refl _
 · exact Nat.le_of_lt (rising_get h h0 hi)
theorem le_last {P : List Nat} (h : Rising P) {x : Nat} (hx : x ∈ P) : x ≤ P.getD (P.length - 1) 0 := by
 obtain ⟨i, hi, rfl⟩ := List.getElem_of_mem hx
 have e : P[i] = P.getD i 0 := by rw [List.getD_eq_getElem?_getD, List.getElem?_eq_getElem hi]; rfl
 rw [e]
 rcases Nat.lt_or_ge i (P.length - 1) with h0 | h0
 · exact Nat.le_of_lt (rising_get h h0 (by omega))
 · have : i = P.length - 1 := by omega
   subst this
   exact Nat.le_refl _
theorem none_ahead {P : List Nat} {l : List Run} (h : Rising P) (hP : ∀ r ∈ l, mayR r = true → r.1 ∈ P ∧ r.2 + 1 ∈ P) {n : Nat} (hn : n < P.getD 0 0) : has l n = false := by
 cases ht : has l n with
 | false => rfl
 | true =>
   obtain ⟨r, hr, ht⟩ := (has_iff l n).1 ht
   obtain ⟨hm, a1, a2⟩ := (tst_iff r n).1 ht
   have := first_le h (hP r hr hm).1
   omega
theorem none_behind {P : List Nat} {l : List Run} (h : Rising P) (hP : ∀ r ∈ l, mayR r = true → r.1 ∈ P ∧ r.2 + 1 ∈ P) {n : Nat} (hn : P.getD (P.length - 1) 0 ≤ n) : has l n = false := by
 cases ht : has l n with
 | false => rfl
 | true =>
   obtain ⟨r, hr, ht⟩ := (has_iff l n).1 ht
   obtain ⟨hm, a1, a2⟩ := (tst_iff r n).1 ht
   have := le_last h (hP r hr hm).2
   omega
theorem upto_zero {a b : List Run} {how : Int} {P : List Nat} (h : Rising P) (ha : ∀ r ∈ a, mayR r = true → r.1 ∈ P ∧ r.2 + 1 ∈ P) (hb : ∀ r ∈ b, mayR r = true → r.1 ∈ P ∧ r.2 + 1 ∈ P) : Upto a b how P 0 := by
 refine ⟨⟨fun r hr => (by cases hr), List.Pairwise.nil⟩, fun r hr => (by cases hr), fun n => ?_⟩
 show has [] n = _
 rw [has_nil]
 by_cases hn : n < P.getD 0 0
 · rw [none_ahead h ha hn, none_ahead h hb hn, inB_ff, Bool.and_false]
 · rw [decide_eq_false hn, Bool.false_and]
theorem addR_last' (o : List Run) (lo hi p q : Nat) : addR (o ++ [(lo, hi)]) p q = if hi + 1 = p then o ++ [(lo, q - 1)] else o ++ [(lo, hi)] ++ [(p, q - 1)] := by
 unfold addR
 rw [List.getLast?_append]
 simp only [List.getLast?_singleton, Option.some_or, List.dropLast_concat]
theorem ptL_bound' (l : List Run) : ∀ x ∈ ptL l, 1 ≤ x ∧ x ≤ 281474976710656 := fun x hx => by
 obtain ⟨r, _, hm, h⟩ := ((ptL_spec l).2 x).1 hx
 have := (may_iff r).1 hm
 rcases h with rfl | rfl <;> omega
theorem addR_nil' (p q : Nat) : addR [] p q = [(p, q - 1)] := rfl
theorem upto_step {a b : List Run} {how : Int} {P : List Nat} {k : Nat} (h : Rising P) (ha : ∀ r ∈ a, mayR r = true → r.1 ∈ P ∧ r.2 + 1 ∈ P) (hb : ∀ r ∈ b, mayR r = true → r.1 ∈ P ∧ r.2 + 1 ∈ P) (hbd : ∀ x ∈ P, 1 ≤ x ∧ x ≤ 281474976710656) (hk : k + 1 < P.length) (hu : Upto a b how P k) : Upto a b how P (k + 1) := by
 obtain ⟨hord, hlow, htell⟩ := hu
 have hpq := rising_get h (Nat.lt_succ_self k) hk
 have bp : 1 ≤ P.getD k 0 := by
   rw [List.getD_eq_getElem?_getD, List.getElem?_eq_getElem (by omega : k < P.length)]
   exact (hbd _ (List.getElem_mem _)).1
 have bq : P.getD (k + 1) 0 ≤ 281474976710656 := by
   rw [List.getD_eq_getElem?_getD, List.getElem?_eq_getElem hk]
   exact (hbd _ (List.getElem_mem _)).2
 have sa : ∀ n, P.getD k 0 ≤ n → n < P.getD (k + 1) 0 → has a n = has a (P.getD k 0) := fun n h1 h2 => steady h ha hk h1 h2
 have sb : ∀ n, P.getD k 0 ≤ n → n < P.getD (k + 1) 0 → has b n = has b (P.getD k 0) := fun n h1 h2 => steady h hb hk h1 h2
 suffices hs : InOrder (stF a b how P (k + 1)) ∧ (∀ r ∈ stF a b how P (k + 1), r.2 < P.getD (k + 1) 0) ∧ ∀ n, has (stF a b how P (k + 1)) n = (decide (n < P.getD (k + 1) 0) && inB how (has a n) (has b n)) from ⟨hs.1, hs.2.1, hs.2.2⟩
 have es := stF_succ a b how P k
 unfold stS at es
 generalize stF a b how P k = o at *
 generalize P.getD k 0 = p at *
 generalize P.getD (k + 1) 0 = q at *
 have goal : ∀ n, (decide (n < q) && inB how (has a n) (has b n)) = (has o n || (decide (p ≤ n) && decide (n < q) && inB how (has a p) (has b p))) := fun n => by
   rw [htell n]
   by_cases c1 : n < p
   · have c2 : n < q := by omega
     simp [c1, c2, show ¬ p ≤ n by omega]
   · have c3 : p ≤ n := by omega
     by_cases c2 : n < q
     · rw [sa n c3 c2, sb n c3 c2]
       simp [c1, c2, c3]
     · simp [c1, c2]
 cases hv : inB how (has a p) (has b p) with
 | false =>
   rw [hv, if_neg (by simp)] at es
   rw [es]
   refine ⟨hord, fun r hr => by have := hlow r hr; omega, fun n => ?_⟩
   rw [goal n, hv, Bool.and_false, Bool.or_false]
 | true =>
   rw [hv, if_pos rfl] at es
   rw [es]
   rcases List.eq_nil_or_concat o with rfl | ⟨o', ⟨lo, hi⟩, rfl⟩
   · rw [addR_nil']
     refine ⟨⟨fun r hr => ?_, List.pairwise_singleton _ _⟩, fun r hr => ?_, fun n => ?_⟩
     · obtain rfl := List.mem_singleton.1 hr
       exact (may_iff _).2 ⟨bp, by show p ≤ q - 1; omega, by show q - 1 ≤ _; omega⟩
     · obtain rfl := List.mem_singleton.1 hr
       show q - 1 < q
       omega
     · rw [goal n, hv, has_cons, has_nil, Bool.or_false, Bool.false_or, Bool.and_true, Bool.eq_iff_iff, tst_iff, Bool.and_eq_true, decide_eq_true_iff, decide_eq_true_iff]
       constructor
       · rintro ⟨_, h1, h2⟩
         exact ⟨h1, by have : n ≤ q - 1 := h2; omega⟩
       · rintro ⟨h1, h2⟩
         exact ⟨(may_iff _).2 ⟨bp, by show p ≤ q - 1; omega, by show q - 1 ≤ _; omega⟩, h1, by show n ≤ q - 1; omega⟩
   · rw [List.concat_eq_append] at *
     rw [addR_last']
     obtain ⟨ho, hm, hfar⟩ := order_init hord
     have hl : hi < p := hlow (lo, hi) (by simp)
     obtain ⟨m1, m2, m3⟩ := (may_iff (lo, hi)).1 hm
     simp only at m1 m2 m3
     split
     · rename_i ht
       have hm' : mayR (lo, q - 1) = true := (may_iff _).2 ⟨m1, by show lo ≤ q - 1; omega, by show q - 1 ≤ _; omega⟩
       refine ⟨order_snoc ho hm' hfar, fun r hr => ?_, fun n => ?_⟩
       · rcases List.mem_append.1 hr with hr | hr
         · have := hlow r (List.mem_append_left _ hr); omega
         · obtain rfl := List.mem_singleton.1 hr
           show q - 1 < q
           omega
       · rw [goal n, hv, has_append, has_append, has_cons, has_cons, has_nil, Bool.or_false, Bool.or_false, Bool.and_true, Bool.or_assoc]
         congr 1
         rw [Bool.eq_iff_iff, Bool.or_eq_true, tst_iff, tst_iff, Bool.and_eq_true, decide_eq_true_iff, decide_eq_true_iff]
         constructor
         · rintro ⟨_, h1, h2⟩
           have h2 : n ≤ q - 1 := h2
           by_cases hc : n ≤ hi
           · exact .inl ⟨hm, h1, hc⟩
           · exact .inr ⟨by omega, by omega⟩
         · rintro (⟨_, h1, h2⟩ | ⟨h1, h2⟩)
           · have h1 : lo ≤ n := h1
             have h2 : n ≤ hi := h2
             exact ⟨hm', h1, by show n ≤ q - 1; omega⟩
           · exact ⟨hm', by show lo ≤ n; omega, by show n ≤ q - 1; omega⟩
     · rename_i ht
       have hm' : mayR (p, q - 1) = true := (may_iff _).2 ⟨bp, by show p ≤ q - 1; omega, by show q - 1 ≤ _; omega⟩
       refine ⟨order_snoc hord hm' fun s hs => ?_, fun r hr => ?_, fun n => ?_⟩
       · rcases List.mem_append.1 hs with hs | hs
         · have h1 := hfar s hs
           have h1 : s.2 + 1 < lo := h1
           show s.2 + 1 < p
           omega
         · obtain rfl := List.mem_singleton.1 hs
           show hi + 1 < p
           omega
       · rcases List.mem_append.1 hr with hr | hr
         · have := hlow r hr; omega
         · obtain rfl := List.mem_singleton.1 hr
           show q - 1 < q
           omega
       · rw [goal n, hv, has_append (o' ++ [(lo, hi)]), has_cons, has_nil, Bool.or_false, Bool.and_true]
         congr 1
         rw [Bool.eq_iff_iff, tst_iff, Bool.and_eq_true, decide_eq_true_iff, decide_eq_true_iff]
         constructor
         · rintro ⟨_, h1, h2⟩
           exact ⟨h1, by have : n ≤ q - 1 := h2; omega⟩
         · rintro ⟨h1, h2⟩
           exact ⟨hm', h1, by show n ≤ q - 1; omega⟩
theorem set_spec (a b : List Run) (how : Int) : InOrder (setL a b how) ∧ ∀ n, has (setL a b how) n = inB how (has a n) (has b n) := by
 obtain ⟨hr, hmem⟩ := ptL_spec (a ++ b)
 have hbd := ptL_bound' (a ++ b)
 unfold setL
 generalize ptL (a ++ b) = P at *
 have ha : ∀ r ∈ a, mayR r = true → r.1 ∈ P ∧ r.2 + 1 ∈ P := fun r h1 h2 =>
   ⟨(hmem _).2 ⟨r, List.mem_append_left _ h1, h2, .inl rfl⟩, (hmem _).2 ⟨r, List.mem_append_left _ h1, h2, .inr rfl⟩⟩
 have hb : ∀ r ∈ b, mayR r = true → r.1 ∈ P ∧ r.2 + 1 ∈ P := fun r h1 h2 =>
   ⟨(hmem _).2 ⟨r, List.mem_append_right _ h1, h2, .inl rfl⟩, (hmem _).2 ⟨r, List.mem_append_right _ h1, h2, .inr rfl⟩⟩
 have key : ∀ k, k ≤ P.length - 1 → Upto a b how P k := by
   intro k
   induction k with
   | zero => intro _; exact upto_zero hr ha hb
   | succ k ih => intro hk; exact upto_step hr ha hb hbd (by omega) (ih (by omega))
 obtain ⟨h1, h2, h3⟩ := key (P.length - 1) (Nat.le_refl _)
 refine ⟨h1, fun n => ?_⟩
 rw [h3 n]
 by_cases hn : n < P.getD (P.length - 1) 0
 · rw [decide_eq_true hn, Bool.true_and]
 · rw [decide_eq_false hn, none_behind hr ha (by omega), none_behind hr hb (by omega), inB_ff, Bool.and_false]
def cnt (f : Nat → Bool) : Nat → Nat
 | 0 => 0
 | n + 1 => cnt f n + (bif f n then 1 else 0)
def sizeR : List Run → Nat
 | [] => 0
 | r :: l => (r.2 - r.1 + 1) + sizeR l
def firstR : List Run → Nat
 | [] => 1
 | r :: _ => if r.1 = 1 then r.2 + 1 else 1
def lastR (l : List Run) : Nat :=
 match l.getLast? with
 | some r => r.2
 | none => 0
theorem has_one (n m : Nat) : has [(n, n)] m = (mayR (n, n) && decide (m = n)) := by
 rw [has_cons, has_nil, Bool.or_false]
 unfold tst
 congr 1
 rw [Bool.eq_iff_iff, Bool.and_eq_true, decide_eq_true_iff, decide_eq_true_iff, decide_eq_true_iff]
 constructor
 · rintro ⟨h1, h2⟩; exact Nat.le_antisymm h2 h1
 · rintro rfl; exact ⟨Nat.le_refl _, Nat.le_refl _⟩
def ofL (l : List Nat) : List Run := l.foldl (fun o n => setL o [(n, n)] 0) []
theorem inB_zero (x y : Bool) : inB 0 x y = (x || y) := rfl
def nrm (l : List Run) : List Run := setL l [] 0
theorem nrm_spec (l : List Run) : InOrder (nrm l) ∧ ∀ n, has (nrm l) n = has l n := by
 obtain ⟨h1, h2⟩ := set_spec l [] 0
 exact ⟨h1, fun n => by rw [show nrm l = setL l [] 0 from rfl, h2 n, inB_zero, has_nil, Bool.or_false]⟩
theorem nrm_uniq {l m : List Run} (h : InOrder m) (hs : ∀ n, has m n = has l n) : m = nrm l := uniq h (nrm_spec l).1 fun n => by rw [hs n, (nrm_spec l).2 n]
/-! Runs that rise, joined. -/
def joinS (o : List Run) (r : Run) : List Run :=
 match o.getLast? with
 | none => o ++ [r]
 | some s => if s.2 + 1 < r.1 then o ++ [r] else o.dropLast ++ [(s.1, max s.2 r.2)]
def joinL (l : List Run) : List Run := l.foldl joinS []
theorem joinS_nil (r : Run) : joinS [] r = [r] := rfl
theorem joinS_far {o : List Run} {s r : Run} (h : s.2 + 1 < r.1) : joinS (o ++ [s]) r = o ++ [s] ++ [r] := by unfold joinS; simp [h]
theorem joinS_near {o : List Run} {s r : Run} (h : ¬ s.2 + 1 < r.1) : joinS (o ++ [s]) r = o ++ [(s.1, max s.2 r.2)] := by unfold joinS; simp [h]
theorem joinL_take {l : List Run} {k : Nat} {r : Run} (h : l[k]? = some r) : joinL (l.take (k + 1)) = joinS (joinL (l.take k)) r := by
 unfold joinL
 rw [List.take_add_one, h]
 simp
theorem snoc_cases (o : List Run) : o = [] ∨ ∃ o' s, o = o' ++ [s] := by
 rcases List.eq_nil_or_concat o with h | ⟨o', s, h⟩
 · exact .inl h
 · exact .inr ⟨o', s, by simpa using h⟩
theorem joinS_spec {o : List Run} {r : Run} (ho : InOrder o) (hr : mayR r = true) (hb : ∀ s ∈ o, s.1 ≤ r.1) :
   InOrder (joinS o r) ∧ (∀ n, has (joinS o r) n = (has o n || tst r n)) ∧ (∀ s ∈ joinS o r, s.1 ≤ r.1) ∧ (joinS o r).length ≤ o.length + 1 := by
 rcases snoc_cases o with rfl | ⟨o', s, rfl⟩
 · rw [joinS_nil]
   refine ⟨⟨fun s hs => by obtain rfl := List.mem_singleton.1 hs; exact hr, by simp⟩, fun n => by rw [has_cons, has_nil]; simp, fun s hs => by obtain rfl := List.mem_singleton.1 hs; exact Nat.le_refl _, by simp⟩
 · obtain ⟨h1, h2, h3⟩ := order_init ho
   have hs := hb s (by simp)
   have m1 := (may_iff s).1 h2
   have m2 := (may_iff r).1 hr
   by_cases hf : s.2 + 1 < r.1
   · rw [joinS_far hf]
     refine ⟨order_snoc ho hr fun t ht => ?_, fun n => by rw [has_append (o' ++ [s]) [r], has_cons r [], has_nil, Bool.or_false], fun t ht => ?_, by simp⟩
     · rcases List.mem_append.1 ht with ht | ht
       · have := h3 t ht
         omega
       · obtain rfl := List.mem_singleton.1 ht
         exact hf
     · rcases List.mem_append.1 ht with ht | ht
       · exact hb t ht
       · obtain rfl := List.mem_singleton.1 ht
         exact Nat.le_refl _
   · rw [joinS_near hf]
     have hm : mayR (s.1, max s.2 r.2) = true := (may_iff _).2 ⟨m1.1, by show s.1 ≤ max s.2 r.2; omega, by show max s.2 r.2 ≤ _; omega⟩
     have ht : ∀ n, tst (s.1, max s.2 r.2) n = (tst s n || tst r n) := fun n => by
       rw [Bool.eq_iff_iff, Bool.or_eq_true, tst_iff, tst_iff, tst_iff]
       constructor
       · rintro ⟨_, a1, a2⟩
         replace a1 : s.1 ≤ n := a1
         replace a2 : n ≤ max s.2 r.2 := a2
         by_cases hn : n ≤ s.2
         · exact .inl ⟨h2, a1, hn⟩
         · exact .inr ⟨hr, by omega, by omega⟩
       · rintro (⟨_, a1, a2⟩ | ⟨_, a1, a2⟩)
         · exact ⟨hm, a1, by show n ≤ max s.2 r.2; omega⟩
         · exact ⟨hm, by show s.1 ≤ n; omega, by show n ≤ max s.2 r.2; omega⟩
     refine ⟨order_snoc h1 hm h3, fun n => ?_, fun t ht => ?_, by simp⟩
     · rw [has_append, has_append, has_cons, has_cons, has_nil, ht n]
       simp [Bool.or_assoc]
     · rcases List.mem_append.1 ht with ht | ht
       · exact hb t (by simp [ht])
       · obtain rfl := List.mem_singleton.1 ht
         exact hs
def Rise (l : List Run) : Prop := l.Pairwise fun r s => r.1 ≤ s.1
theorem joinL_go : ∀ (l o : List Run), InOrder o → (∀ r ∈ l, mayR r = true) → Rise l → (∀ s ∈ o, ∀ r ∈ l, s.1 ≤ r.1) →
   InOrder (l.foldl joinS o) ∧ (∀ n, has (l.foldl joinS o) n = (has o n || has l n)) ∧ (l.foldl joinS o).length ≤ o.length + l.length
 | [], o, ho, _, _, _ => ⟨ho, fun n => by rw [has_nil, Bool.or_false]; rfl, by simp⟩
 | r :: l, o, ho, hm, hr, hb => by
   obtain ⟨s1, s2, s3, s4⟩ := joinS_spec (r := r) ho (hm r (by simp)) (fun s hs => hb s hs r (by simp))
   have hr' := List.pairwise_cons.1 hr
   obtain ⟨t1, t2, t3⟩ := joinL_go l (joinS o r) s1 (fun x hx => hm x (by simp [hx])) hr'.2 (fun s hs x hx => Nat.le_trans (s3 s hs) (hr'.1 x hx))
   refine ⟨t1, fun n => ?_, ?_⟩
   · show has (l.foldl joinS (joinS o r)) n = _
     rw [t2 n, s2 n, has_cons, Bool.or_assoc]
   · show (l.foldl joinS (joinS o r)).length ≤ _
     rw [List.length_cons]
     omega
theorem order_nil : InOrder [] := ⟨fun r hr => (by cases hr), List.Pairwise.nil⟩
theorem joinL_spec {l : List Run} (hm : ∀ r ∈ l, mayR r = true) (hr : Rise l) : InOrder (joinL l) ∧ (∀ n, has (joinL l) n = has l n) ∧ (joinL l).length ≤ l.length := by
 obtain ⟨h1, h2, h3⟩ := joinL_go l [] order_nil hm hr (fun s hs => by cases hs)
 exact ⟨h1, fun n => by rw [show joinL l = l.foldl joinS [] from rfl, h2 n, has_nil, Bool.false_or], by simpa [joinL] using h3⟩
theorem joinL_upto {l : List Run} (hm : ∀ r ∈ l, mayR r = true) (hr : Rise l) (k : Nat) : InOrder (joinL (l.take k)) ∧ (joinL (l.take k)).length ≤ k := by
 obtain ⟨h1, _, h3⟩ := joinL_spec (l := l.take k) (fun r h => hm r (List.mem_of_mem_take h)) (List.Pairwise.sublist (List.take_sublist _ _) hr)
 exact ⟨h1, Nat.le_trans h3 (by simp; omega)⟩
def tells (l : List Run) : List Run := l.filter mayR
theorem has_tells (l : List Run) (n : Nat) : has (tells l) n = has l n := by
 induction l with
 | nil => rfl
 | cons r l ih =>
   unfold tells at ih ⊢
   rw [has_cons, List.filter_cons]
   by_cases h : mayR r = true
   · rw [if_pos h, has_cons, ih]
   · rw [if_neg h, ih]
     have : tst r n = false := by unfold tst; simp [h]
     rw [this, Bool.false_or]
theorem has_perm {l m : List Run} (h : l.Perm m) (n : Nat) : has l n = has m n := by
 rw [Bool.eq_iff_iff, has_iff, has_iff]
 exact ⟨fun ⟨r, h1, h2⟩ => ⟨r, h.mem_iff.1 h1, h2⟩, fun ⟨r, h1, h2⟩ => ⟨r, h.mem_iff.2 h1, h2⟩⟩
theorem joined_norm {l m : List Run} (hp : m.Perm (tells l)) (hr : Rise m) : joinL m = nrm l := by
 have hm : ∀ r ∈ m, mayR r = true := fun r h => (List.mem_filter.1 (hp.mem_iff.1 h)).2
 obtain ⟨h1, h2, _⟩ := joinL_spec hm hr
 exact nrm_uniq h1 fun n => by rw [h2 n, has_perm hp n, has_tells]
theorem exists_sorted (l : List Run) : ∃ m : List Run, m.Perm l ∧ Rise m := by
 refine ⟨l.mergeSort fun r s => decide (r.1 ≤ s.1), List.mergeSort_perm _ _, ?_⟩
 have := List.pairwise_mergeSort (le := fun r s : Run => decide (r.1 ≤ s.1)) (fun a b c h1 h2 => by simp at *; omega) (fun a b => by simp; omega) l
 exact this.imp fun h => by simpa using h
theorem nrm_length (l : List Run) : (nrm l).length ≤ l.length := by
 obtain ⟨m, hp, hr⟩ := exists_sorted (tells l)
 have hm : ∀ r ∈ m, mayR r = true := fun r h => (List.mem_filter.1 (hp.mem_iff.1 h)).2
 rw [← joined_norm hp hr]
 refine Nat.le_trans (joinL_spec hm hr).2.2 ?_
 rw [hp.length_eq]
 exact List.length_filter_le _ _
/-! What two lists have in common. -/
def Sep (l : List Run) : Prop := l.Pairwise fun r s => r.2 + 1 < s.1
def okR (r : Run) : Prop := mayR r = true ∨ r.1 = r.2 + 1
def both (x y : Run) : Run := (max x.1 y.1, min x.2 y.2)
def com : List Run → List Run → List Run
 | [], _ => []
 | _ :: _, [] => []
 | x :: a, y :: b => (if mayR (both x y) = true then [both x y] else []) ++ (if x.2 < y.2 then com a (y :: b) else com (x :: a) b)
 termination_by a b => a.length + b.length
theorem com_nil (b : List Run) : com [] b = [] := by rw [com]
theorem com_nil' (a : List Run) : com a [] = [] := by cases a <;> rw [com]
theorem com_cons (x y : Run) (a b : List Run) : com (x :: a) (y :: b) = (if mayR (both x y) = true then [both x y] else []) ++ (if x.2 < y.2 then com a (y :: b) else com (x :: a) b) := by rw [com]
theorem com_mem : ∀ (N : Nat) (a b : List Run), a.length + b.length ≤ N → ∀ s ∈ com a b, mayR s = true ∧ ∃ x ∈ a, ∃ y ∈ b, s = both x y
 | N, [], b, _, s, hs => by rw [com_nil] at hs; cases hs
 | N, x :: a, [], _, s, hs => by rw [com_nil'] at hs; cases hs
 | 0, x :: a, y :: b, h, s, hs => by simp at h
 | N + 1, x :: a, y :: b, h, s, hs => by
   rw [com_cons] at hs
   simp only [List.length_cons] at h
   rcases List.mem_append.1 hs with hs | hs
   · split at hs
     · rename_i hm
       obtain rfl := List.mem_singleton.1 hs
       exact ⟨hm, x, by simp, y, by simp, rfl⟩
     · cases hs
   · split at hs
     · obtain ⟨h1, u, hu, v, hv, e⟩ := com_mem N a (y :: b) (by simp only [List.length_cons]; omega) s hs
       exact ⟨h1, u, by simp [hu], v, hv, e⟩
     · obtain ⟨h1, u, hu, v, hv, e⟩ := com_mem N (x :: a) b (by simp only [List.length_cons]; omega) s hs
       exact ⟨h1, u, hu, v, by simp [hv], e⟩
theorem tst_both {x y : Run} (hx : okR x) (hy : okR y) (n : Nat) : tst (both x y) n = (tst x n && tst y n) := by
 rw [Bool.eq_iff_iff, Bool.and_eq_true, tst_iff, tst_iff, tst_iff, may_iff, may_iff, may_iff]
 unfold both
 simp only
 rcases hx with hx | hx
 · have m1 := (may_iff x).1 hx
   rcases hy with hy | hy
   · have m2 := (may_iff y).1 hy
     omega
   · omega
 · omega
theorem far' {r : Run} {l : List Run} (h : ∀ s ∈ l, r.2 + 1 < s.1) {n : Nat} (hn : has l n = true) : r.2 + 1 < n := by
 obtain ⟨s, hs, ht⟩ := (has_iff l n).1 hn
 have := h s hs
 have := ((tst_iff s n).1 ht).2.1
 omega
theorem com_spec : ∀ (N : Nat) (a b : List Run), a.length + b.length ≤ N → Sep a → Sep b → (∀ r ∈ a, okR r) → (∀ r ∈ b, okR r) →
   InOrder (com a b) ∧ (∀ n, has (com a b) n = (has a n && has b n)) ∧ (com a b).length ≤ a.length + b.length
 | N, [], b, _, _, _, _, _ => by rw [com_nil]; exact ⟨order_nil, fun n => by rw [has_nil]; rfl, by simp⟩
 | N, x :: a, [], _, _, _, _, _ => by rw [com_nil']; exact ⟨order_nil, fun n => by rw [has_nil, Bool.and_false], by simp⟩
 | 0, x :: a, y :: b, h, _, _, _, _ => by simp at h
 | N + 1, x :: a, y :: b, h, sa, sb, oa, ob => by
   have ox := oa x (by simp)
   have oy := ob y (by simp)
   have fa := (List.pairwise_cons.1 sa).1
   have fb := (List.pairwise_cons.1 sb).1
   have hl : (x :: a).length = a.length + 1 := rfl
   have hl' : (y :: b).length = b.length + 1 := rfl
   rw [com_cons]
   by_cases hlt : x.2 < y.2
   · rw [if_pos hlt]
     obtain ⟨h1, h2, h3⟩ := com_spec N a (y :: b) (by omega) (List.pairwise_cons.1 sa).2 sb (fun r hr => oa r (by simp [hr])) ob
     have hx : ∀ n, (tst x n && has b n) = false := fun n => by
       by_cases hb : has b n = true
       · have := far' fb hb
         have : tst x n = false := by
           by_cases ht : tst x n = true
           · have := ((tst_iff x n).1 ht).2.2; omega
           · simpa using ht
         rw [this]; rfl
       · simp [hb]
     have hh : ∀ n, (has (x :: a) n && has (y :: b) n) = ((tst x n && tst y n) || has (com a (y :: b)) n) := fun n => by
       rw [h2 n, has_cons, has_cons]
       have := hx n
       revert this
       cases tst x n <;> cases tst y n <;> cases has a n <;> cases has b n <;> decide
     split
     · rename_i hm
       refine ⟨⟨fun r hr => ?_, ?_⟩, fun n => ?_, by simp; omega⟩
       · rcases List.mem_append.1 hr with hr | hr
         · obtain rfl := List.mem_singleton.1 hr; exact hm
         · exact h1.1 r hr
       · rw [List.singleton_append, List.pairwise_cons]
         refine ⟨fun s hs => ?_, h1.2⟩
         obtain ⟨_, u, hu, v, hv, rfl⟩ := com_mem N a (y :: b) (by omega) s hs
         have := fa u hu
         show min x.2 y.2 + 1 < max u.1 v.1
         omega
       · rw [hh n, has_append, has_cons, has_nil, Bool.or_false, tst_both ox oy]
     · rename_i hm
       refine ⟨h1, fun n => ?_, by simp; omega⟩
       rw [List.nil_append, hh n, ← tst_both ox oy]
       have : tst (both x y) n = false := by unfold tst; simp [hm]
       rw [this, Bool.false_or]
   · rw [if_neg hlt]
     obtain ⟨h1, h2, h3⟩ := com_spec N (x :: a) b (by omega) sa (List.pairwise_cons.1 sb).2 oa (fun r hr => ob r (by simp [hr]))
     have hx : ∀ n, (tst y n && has a n) = false := fun n => by
       by_cases ha : has a n = true
       · have := far' fa ha
         have : tst y n = false := by
           by_cases ht : tst y n = true
           · have := ((tst_iff y n).1 ht).2.2; omega
           · simpa using ht
         rw [this]; rfl
       · simp [ha]
     have hh : ∀ n, (has (x :: a) n && has (y :: b) n) = ((tst x n && tst y n) || has (com (x :: a) b) n) := fun n => by
       rw [h2 n, has_cons, has_cons]
       have := hx n
       revert this
       cases tst x n <;> cases tst y n <;> cases has a n <;> cases has b n <;> decide
     split
     · rename_i hm
       refine ⟨⟨fun r hr => ?_, ?_⟩, fun n => ?_, by simp; omega⟩
       · rcases List.mem_append.1 hr with hr | hr
         · obtain rfl := List.mem_singleton.1 hr; exact hm
         · exact h1.1 r hr
       · rw [List.singleton_append, List.pairwise_cons]
         refine ⟨fun s hs => ?_, h1.2⟩
         obtain ⟨_, u, hu, v, hv, rfl⟩ := com_mem N (x :: a) b (by omega) s hs
         have := fb v hv
         show min x.2 y.2 + 1 < max u.1 v.1
         omega
       · rw [hh n, has_append, has_cons, has_nil, Bool.or_false, tst_both ox oy]
     · rename_i hm
       refine ⟨h1, fun n => ?_, by simp; omega⟩
       rw [List.nil_append, hh n, ← tst_both ox oy]
       have : tst (both x y) n = false := by unfold tst; simp [hm]
       rw [this, Bool.false_or]
/-! All numbers but those of a list that is in order. -/
def gapS : Nat → List Run → List Run
 | nx, [] => [(nx, 281474976710655)]
 | nx, r :: l => (nx, r.1 - 1) :: gapS (r.2 + 1) l
theorem gap_spec : ∀ (l : List Run) (nx : Nat), InOrder l → (∀ r ∈ l, nx ≤ r.1) → 1 ≤ nx → nx ≤ 281474976710656 →
   Sep (gapS nx l) ∧ (∀ r ∈ gapS nx l, okR r ∧ nx ≤ r.1) ∧ (∀ n, has (gapS nx l) n = (decide (nx ≤ n) && decide (n ≤ 281474976710655) && !has l n)) ∧ (gapS nx l).length = l.length + 1
 | [], nx, _, _, h1, h2 => by
   refine ⟨by simp [gapS, Sep], fun r hr => ?_, fun n => ?_, rfl⟩
   · obtain rfl := List.mem_singleton.1 hr
     refine ⟨?_, Nat.le_refl _⟩
     by_cases h : nx ≤ 281474976710655
     · exact .inl ((may_iff _).2 ⟨h1, h, Nat.le_refl _⟩)
     · exact .inr (by show nx = 281474976710655 + 1; omega)
   · rw [gapS, has_cons, has_nil, Bool.or_false, Bool.eq_iff_iff, tst_iff, may_iff]
     simp
     omega
 | r :: l, nx, ho, hb, h1, h2 => by
   obtain ⟨t1, t2, t3⟩ := order_tail ho
   have m := (may_iff r).1 t2
   have hr := hb r (by simp)
   obtain ⟨s1, s2, s3, s4⟩ := gap_spec l (r.2 + 1) t1 (fun s hs => by have := t3 s hs; omega) (by omega) (by omega)
   refine ⟨?_, fun s hs => ?_, fun n => ?_, by simp [gapS, s4]⟩
   · unfold Sep
     rw [gapS, List.pairwise_cons]
     refine ⟨fun s hs => ?_, s1⟩
     have := (s2 s hs).2
     show r.1 - 1 + 1 < s.1
     omega
   · rw [gapS] at hs
     rcases List.mem_cons.1 hs with rfl | hs
     · refine ⟨?_, Nat.le_refl _⟩
       by_cases h : nx < r.1
       · exact .inl ((may_iff _).2 ⟨h1, by show nx ≤ r.1 - 1; omega, by show r.1 - 1 ≤ _; omega⟩)
       · exact .inr (by show nx = r.1 - 1 + 1; omega)
     · have := s2 s hs
       exact ⟨this.1, by omega⟩
   · have hl : has l n = true → r.2 + 1 < n := fun h => far t3 h
     rw [gapS, has_cons, has_cons, s3 n, Bool.eq_iff_iff]
     simp only [Bool.or_eq_true, Bool.and_eq_true, tst_iff, may_iff, decide_eq_true_eq, Bool.not_eq_true', Bool.or_eq_false_iff]
     have ht : tst r n = false ↔ ¬ (r.1 ≤ n ∧ n ≤ r.2) := by
       rw [← Bool.not_eq_true, tst_iff]
       exact ⟨fun h h' => h ⟨t2, h'.1, h'.2⟩, fun h h' => h ⟨h'.2.1, h'.2.2⟩⟩
     rw [ht]
     constructor
     · rintro (⟨_, a1, a2⟩ | ⟨⟨a1, a2⟩, a3⟩)
       · refine ⟨⟨a1, by omega⟩, by omega, ?_⟩
         by_cases h : has l n = true
         · have := hl h; omega
         · simpa using h
       · exact ⟨⟨by omega, a2⟩, by omega, a3⟩
     · rintro ⟨⟨a1, a2⟩, a3, a4⟩
       by_cases h : n < r.1
       · exact .inl ⟨⟨h1, by omega, by omega⟩, a1, by omega⟩
       · exact .inr ⟨⟨by omega, a2⟩, a4⟩
theorem ok_order {l : List Run} (h : InOrder l) : ∀ r ∈ l, okR r := fun r hr => .inl (h.1 r hr)
theorem has_bound {l : List Run} {n : Nat} (h : has l n = true) : 1 ≤ n ∧ n ≤ 281474976710655 := by
 obtain ⟨r, _, ht⟩ := (has_iff l n).1 h
 obtain ⟨a, b, c⟩ := (tst_iff r n).1 ht
 have := (may_iff r).1 a
 omega
theorem join_comes (a b : List Run) : nrm (a ++ b) = setL a b 0 := by
 obtain ⟨h1, h2⟩ := set_spec a b 0
 exact (nrm_uniq h1 fun n => by rw [h2 n, inB_zero, has_append]).symm
theorem meet_comes (a b : List Run) : com (nrm a) (nrm b) = setL a b 1 := by
 obtain ⟨h1, h2⟩ := set_spec a b 1
 have ha := nrm_spec a
 have hb := nrm_spec b
 obtain ⟨c1, c2, _⟩ := com_spec _ (nrm a) (nrm b) (Nat.le_refl _) ha.1.2 hb.1.2 (ok_order ha.1) (ok_order hb.1)
 exact uniq c1 h1 fun n => by rw [c2 n, h2 n, ha.2 n, hb.2 n]; rfl
theorem gap_nrm (b : List Run) : Sep (gapS 1 (nrm b)) ∧ (∀ r ∈ gapS 1 (nrm b), okR r) ∧ (∀ n, has (gapS 1 (nrm b)) n = (decide (1 ≤ n) && decide (n ≤ 281474976710655) && !has b n)) ∧ (gapS 1 (nrm b)).length = (nrm b).length + 1 := by
 have hb := nrm_spec b
 obtain ⟨g1, g2, g3, g4⟩ := gap_spec (nrm b) 1 hb.1 (fun r hr => ((may_iff r).1 (hb.1.1 r hr)).1) (by omega) (by omega)
 exact ⟨g1, fun r hr => (g2 r hr).1, fun n => by rw [g3 n, hb.2 n], g4⟩
theorem minus_comes (a b : List Run) : com (nrm a) (gapS 1 (nrm b)) = setL a b 2 := by
 obtain ⟨h1, h2⟩ := set_spec a b 2
 have ha := nrm_spec a
 obtain ⟨g1, g2, g3, _⟩ := gap_nrm b
 obtain ⟨c1, c2, _⟩ := com_spec _ (nrm a) (gapS 1 (nrm b)) (Nat.le_refl _) ha.1.2 g1 (ok_order ha.1) g2
 refine uniq c1 h1 fun n => ?_
 rw [c2 n, h2 n, ha.2 n, g3 n]
 show _ = (has a n && !has b n)
 by_cases h : has a n = true
 · have := has_bound h
   simp [h, this]
 · simp [h]
theorem set_length1 (a b : List Run) : (setL a b 1).length ≤ a.length + b.length := by
 have ha := nrm_spec a
 have hb := nrm_spec b
 rw [← meet_comes]
 have := (com_spec _ (nrm a) (nrm b) (Nat.le_refl _) ha.1.2 hb.1.2 (ok_order ha.1) (ok_order hb.1)).2.2
 have := nrm_length a
 have := nrm_length b
 omega
theorem set_length2 (a b : List Run) : (setL a b 2).length ≤ a.length + b.length + 1 := by
 have ha := nrm_spec a
 obtain ⟨g1, g2, _, g4⟩ := gap_nrm b
 rw [← minus_comes]
 have := (com_spec _ (nrm a) (gapS 1 (nrm b)) (Nat.le_refl _) ha.1.2 g1 (ok_order ha.1) g2).2.2
 have := nrm_length a
 have := nrm_length b
 omega
theorem set_length0 (a b : List Run) : (setL a b 0).length ≤ a.length + b.length := by
 rw [← join_comes, ← List.length_append]
 exact nrm_length _
end Go.Proofs.YtgaegfddobpomaaGreat.Ru
