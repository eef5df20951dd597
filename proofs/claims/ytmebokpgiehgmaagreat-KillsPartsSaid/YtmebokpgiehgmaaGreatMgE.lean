/- Words and contracts that the proofs of this seat stand on, part 5 of 22. -/
import Derived.Test.YtmebokpgiehgmaaGreatMgD
import Derived.Test.YtmebokpgiehgmaaGreatMgC

/- Plain arithmetic for layer runs, going on: how many numbers a list in order tells, the first one that it lacks, the last one, and lists of some numbers. No program is walked here. -/
namespace Go.Proofs.YtmebokpgiehgmaaGreat.Ru
set_option linter.unusedVariables false
set_option maxRecDepth 4000

/-- how many numbers below N are so. -/
def cnt (f : Nat → Bool) : Nat → Nat
  | 0 => 0
  | n + 1 => cnt f n + (bif f n then 1 else 0)
theorem cnt_congr {f g : Nat → Bool} (h : ∀ n, f n = g n) (N : Nat) : cnt f N = cnt g N := by
  induction N with
  | zero => rfl
  | succ n ih => simp only [cnt, ih, h]
theorem cnt_or_and (f g : Nat → Bool) (N : Nat) : cnt (fun n => f n || g n) N + cnt (fun n => f n && g n) N = cnt f N + cnt g N := by
  induction N with
  | zero => rfl
  | succ n ih =>
    simp only [cnt]
    cases f n <;> cases g n <;> simp <;> omega
theorem cnt_none {f : Nat → Bool} (h : ∀ n, f n = false) (N : Nat) : cnt f N = 0 := by
  induction N with
  | zero => rfl
  | succ n ih => simp [cnt, ih, h]
theorem cnt_le {f g : Nat → Bool} (h : ∀ n, f n = true → g n = true) (N : Nat) : cnt f N ≤ cnt g N := by
  induction N with
  | zero => exact Nat.le_refl _
  | succ n ih =>
    simp only [cnt]
    have := h n
    cases hf : f n <;> cases hg : g n <;> simp [hf, hg] at this ⊢ <;> omega
theorem cnt_stretch (lo hi : Nat) (N : Nat) : cnt (fun n => decide (lo ≤ n) && decide (n ≤ hi)) N = min N (hi + 1) - min N lo := by
  induction N with
  | zero => simp [cnt]
  | succ n ih =>
    simp only [cnt, ih]
    by_cases h1 : lo ≤ n <;> by_cases h2 : n ≤ hi <;> simp [h1, h2] <;> omega
/-- how many numbers a list in order tells. -/
def sizeR : List Run → Nat
  | [] => 0
  | r :: l => (r.2 - r.1 + 1) + sizeR l
theorem size_cnt {l : List Run} (h : InOrder l) {N : Nat} (hN : ∀ r ∈ l, r.2 < N) : cnt (has l) N = sizeR l := by
  induction l with
  | nil => exact cnt_none (fun n => rfl) N
  | cons r l ih =>
    obtain ⟨h', hm, hf⟩ := order_tail h
    have hr := (may_iff r).1 hm
    have hrN := hN r List.mem_cons_self
    have e1 : cnt (tst r) N = r.2 - r.1 + 1 := by
      have : ∀ n, tst r n = (decide (r.1 ≤ n) && decide (n ≤ r.2)) := fun n => by unfold tst; rw [hm, Bool.true_and]
      rw [cnt_congr this, cnt_stretch]
      omega
    have e2 := ih h' (fun s hs => hN s (List.mem_cons_of_mem _ hs))
    have e3 := cnt_or_and (tst r) (has l) N
    have e4 : cnt (fun n => tst r n && has l n) N = 0 := cnt_none (fun n => by
      cases ht : tst r n with
      | false => rfl
      | true =>
        cases hl : has l n with
        | false => rfl
        | true =>
          have := far hf hl
          have := ((tst_iff r n).1 ht).2.2
          omega) N
    have e5 : cnt (has (r :: l)) N = cnt (fun n => tst r n || has l n) N := cnt_congr (fun n => has_cons r l n) N
    show _ = (r.2 - r.1 + 1) + sizeR l
    omega
theorem length_size {l : List Run} (h : InOrder l) : l.length ≤ sizeR l := by
  induction l with
  | nil => exact Nat.le_refl _
  | cons r l ih =>
    have := ih (order_tail h).1
    show l.length + 1 ≤ (r.2 - r.1 + 1) + sizeR l
    omega
theorem size_le {l : List Run} (h : InOrder l) : sizeR l ≤ 281474976710656 := by
  have h1 := size_cnt h (N := 281474976710656) (fun r hr => by have := (may_iff r).1 (h.1 r hr); omega)
  have h2 : ∀ (f : Nat → Bool) (N : Nat), cnt f N ≤ N := fun f N => by
    induction N with
    | zero => exact Nat.le_refl _
    | succ n ih => simp only [cnt]; cases f n <;> simp <;> omega
  have := h2 (has l) 281474976710656
  omega

/-- the first number that a list in order lacks. -/
def firstR : List Run → Nat
  | [] => 1
  | r :: _ => if r.1 = 1 then r.2 + 1 else 1
theorem first_spec {l : List Run} (h : InOrder l) : 1 ≤ firstR l ∧ has l (firstR l) = false ∧ ∀ n, 1 ≤ n → n < firstR l → has l n = true := by
  cases l with
  | nil => exact ⟨Nat.le_refl _, rfl, fun n h1 h2 => by have : n < 1 := h2; omega⟩
  | cons r l =>
    obtain ⟨h', hm, hf⟩ := order_tail h
    have hr := (may_iff r).1 hm
    have off : ∀ n, n ≤ r.2 + 1 → has l n = false := fun n hn => by
      cases hl : has l n with
      | false => rfl
      | true => have := far hf hl; omega
    by_cases e : r.1 = 1
    · have e1 : firstR (r :: l) = r.2 + 1 := if_pos e
      rw [e1]
      refine ⟨by omega, ?_, fun n h1 h2 => ?_⟩
      · rw [has_cons, off _ (Nat.le_refl _), Bool.or_false]
        cases ht : tst r (r.2 + 1) with
        | false => rfl
        | true => have := ((tst_iff r _).1 ht).2.2; omega
      · rw [has_cons, (tst_iff r n).2 ⟨hm, by omega, by omega⟩]; rfl
    · have e1 : firstR (r :: l) = 1 := if_neg e
      rw [e1]
      refine ⟨Nat.le_refl _, ?_, fun n h1 h2 => by omega⟩
      rw [has_cons, off _ (by omega), Bool.or_false]
      cases ht : tst r 1 with
      | false => rfl
      | true => have := ((tst_iff r _).1 ht).2.1; omega
/-- the last number that a list in order tells. -/
def lastR (l : List Run) : Nat :=
  match l.getLast? with
  | some r => r.2
  | none => 0
theorem last_snoc (l : List Run) (r : Run) : lastR (l ++ [r]) = r.2 := by
  unfold lastR
  rw [List.getLast?_append]
  rfl
theorem last_spec {l : List Run} (h : InOrder l) : (∀ n, has l n = true → n ≤ lastR l) ∧ (lastR l = 0 ∧ l = [] ∨ has l (lastR l) = true) := by
  rcases List.eq_nil_or_concat l with rfl | ⟨o, r, rfl⟩
  · exact ⟨fun n hn => (by cases hn), .inl ⟨rfl, rfl⟩⟩
  · rw [List.concat_eq_append] at *
    obtain ⟨ho, hm, hf⟩ := order_init h
    have hr := (may_iff r).1 hm
    rw [last_snoc]
    refine ⟨fun n hn => ?_, .inr ?_⟩
    · rw [has_append, has_cons, has_nil, Bool.or_false, Bool.or_eq_true] at hn
      rcases hn with hn | hn
      · obtain ⟨s, hs, ht⟩ := (has_iff o n).1 hn
        have h1 := hf s hs
        have h2 := ((tst_iff s n).1 ht).2.2
        omega
      · exact ((tst_iff r n).1 hn).2.2
    · rw [has_append, has_cons, has_nil, Bool.or_false, (tst_iff r r.2).2 ⟨hm, by omega, by omega⟩, Bool.or_true]

/-- a list of one number. -/
theorem has_one (n m : Nat) : has [(n, n)] m = (mayR (n, n) && decide (m = n)) := by
  rw [has_cons, has_nil, Bool.or_false]
  unfold tst
  congr 1
  rw [Bool.eq_iff_iff, Bool.and_eq_true, decide_eq_true_iff, decide_eq_true_iff, decide_eq_true_iff]
  constructor
  · rintro ⟨h1, h2⟩; exact Nat.le_antisymm h2 h1
  · rintro rfl; exact ⟨Nat.le_refl _, Nat.le_refl _⟩
/-- some numbers. -/
def ofL (l : List Nat) : List Run := l.foldl (fun o n => setL o [(n, n)] 0) []
theorem ofL_take {l : List Nat} {k n : Nat} (h : l[k]? = some n) : ofL (l.take (k + 1)) = setL (ofL (l.take k)) [(n, n)] 0 := by
  unfold ofL
  rw [List.take_add_one, h]
  simp
theorem inB_zero (x y : Bool) : inB 0 x y = (x || y) := rfl
theorem ofL_spec (l : List Nat) : InOrder (ofL l) ∧ ∀ m, has (ofL l) m = l.any fun n => mayR (n, n) && decide (m = n) := by
  suffices hs : ∀ (l : List Nat) (o : List Run), InOrder o → InOrder (l.foldl (fun o n => setL o [(n, n)] 0) o) ∧ ∀ m, has (l.foldl (fun o n => setL o [(n, n)] 0) o) m = (has o m || l.any fun n => mayR (n, n) && decide (m = n)) by
    have := hs l [] ⟨fun r hr => (by cases hr), List.Pairwise.nil⟩
    exact ⟨this.1, fun m => by rw [show ofL l = l.foldl (fun o n => setL o [(n, n)] 0) [] from rfl, this.2 m, has_nil, Bool.false_or]⟩
  intro l
  induction l with
  | nil => intro o ho; exact ⟨ho, fun m => by simp⟩
  | cons n l ih =>
    intro o ho
    obtain ⟨s1, s2⟩ := set_spec o [(n, n)] 0
    obtain ⟨h1, h2⟩ := ih _ s1
    refine ⟨h1, fun m => ?_⟩
    rw [List.foldl_cons, h2 m, s2 m, inB_zero, has_one, List.any_cons, Bool.or_assoc]
theorem ofL_length (l : List Nat) : (ofL l).length ≤ l.length := by
  obtain ⟨h1, h2⟩ := ofL_spec l
  have h3 := length_size h1
  have h4 := size_cnt h1 (N := 281474976710656) (fun r hr => by have := (may_iff r).1 (h1.1 r hr); omega)
  have key : ∀ (l : List Nat) (N : Nat), cnt (fun m => l.any fun n => mayR (n, n) && decide (m = n)) N ≤ l.length := by
    intro l N
    induction l with
    | nil => exact Nat.le_of_eq (cnt_none (fun m => rfl) N)
    | cons n l ih =>
      have e := cnt_or_and (fun m => mayR (n, n) && decide (m = n)) (fun m => l.any fun n => mayR (n, n) && decide (m = n)) N
      have e1 : cnt (fun m => mayR (n, n) && decide (m = n)) N ≤ 1 := by
        have a1 := cnt_le (f := fun m => mayR (n, n) && decide (m = n)) (g := fun m => decide (n ≤ m) && decide (m ≤ n)) (fun m hm => by
          rw [Bool.and_eq_true, decide_eq_true_iff] at hm
          rw [hm.2]; simp) N
        rw [cnt_stretch] at a1
        omega
      have e2 : cnt (fun m => (n :: l).any fun n => mayR (n, n) && decide (m = n)) N = cnt (fun m => (mayR (n, n) && decide (m = n)) || (l.any fun n => mayR (n, n) && decide (m = n))) N := cnt_congr (fun m => List.any_cons) N
      rw [e2, List.length_cons]
      omega
  have h5 := key l 281474976710656
  rw [← cnt_congr h2] at h5
  omega
end Go.Proofs.YtmebokpgiehgmaaGreat.Ru

/- Plain arithmetic for layer runs: what the program's 'joined', 'common' and 'gaps' come to, as sets of numbers. No program is walked here. -/
namespace Go.Proofs.YtmebokpgiehgmaaGreat.Ru
set_option linter.unusedVariables false
set_option maxRecDepth 4000

/-- the list in order of the same numbers, as the document's answer has it. -/
def nrm (l : List Run) : List Run := setL l [] 0
theorem nrm_spec (l : List Run) : InOrder (nrm l) ∧ ∀ n, has (nrm l) n = has l n := by
  obtain ⟨h1, h2⟩ := set_spec l [] 0
  exact ⟨h1, fun n => by rw [show nrm l = setL l [] 0 from rfl, h2 n, inB_zero, has_nil, Bool.or_false]⟩
theorem nrm_uniq {l m : List Run} (h : InOrder m) (hs : ∀ n, has m n = has l n) : m = nrm l := uniq h (nrm_spec l).1 fun n => by rw [hs n, (nrm_spec l).2 n]

/-! Runs that rise, joined. -/
def joinS (o : List Run) (r : Run) : List Run :=
  match o.getLast? with
  | none => o ++ [r]
  | some s => if s.2 + 1 < r.1 then o ++ [r] else o.dropLast ++ [(s.1, max s.2 r.2)]
def joinL (l : List Run) : List Run := l.foldl joinS []
theorem joinS_nil (r : Run) : joinS [] r = [r] := rfl
theorem joinS_far {o : List Run} {s r : Run} (h : s.2 + 1 < r.1) : joinS (o ++ [s]) r = o ++ [s] ++ [r] := by unfold joinS; simp [h]
theorem joinS_near {o : List Run} {s r : Run} (h : ¬ s.2 + 1 < r.1) : joinS (o ++ [s]) r = o ++ [(s.1, max s.2 r.2)] := by unfold joinS; simp [h]
theorem joinL_take {l : List Run} {k : Nat} {r : Run} (h : l[k]? = some r) : joinL (l.take (k + 1)) = joinS (joinL (l.take k)) r := by
  unfold joinL
  rw [List.take_add_one, h]
  simp
theorem snoc_cases (o : List Run) : o = [] ∨ ∃ o' s, o = o' ++ [s] := by
  rcases List.eq_nil_or_concat o with h | ⟨o', s, h⟩
  · exact .inl h
  · exact .inr ⟨o', s, by simpa using h⟩
theorem joinS_spec {o : List Run} {r : Run} (ho : InOrder o) (hr : mayR r = true) (hb : ∀ s ∈ o, s.1 ≤ r.1) :
    InOrder (joinS o r) ∧ (∀ n, has (joinS o r) n = (has o n || tst r n)) ∧ (∀ s ∈ joinS o r, s.1 ≤ r.1) ∧ (joinS o r).length ≤ o.length + 1 := by
  rcases snoc_cases o with rfl | ⟨o', s, rfl⟩
  · rw [joinS_nil]
    refine ⟨⟨fun s hs => by obtain rfl := List.mem_singleton.1 hs; exact hr, by simp⟩, fun n => by rw [has_cons, has_nil]; simp, fun s hs => by obtain rfl := List.mem_singleton.1 hs; exact Nat.le_refl _, by simp⟩
  · obtain ⟨h1, h2, h3⟩ := order_init ho
    have hs := hb s (by simp)
    have m1 := (may_iff s).1 h2
    have m2 := (may_iff r).1 hr
    by_cases hf : s.2 + 1 < r.1
    · rw [joinS_far hf]
      refine ⟨order_snoc ho hr fun t ht => ?_, fun n => by rw [has_append (o' ++ [s]) [r], has_cons r [], has_nil, Bool.or_false], fun t ht => ?_, by simp⟩
      · rcases List.mem_append.1 ht with ht | ht
        · have := h3 t ht
          omega
        · obtain rfl := List.mem_singleton.1 ht
          exact hf
      · rcases List.mem_append.1 ht with ht | ht
        · exact hb t ht
        · obtain rfl := List.mem_singleton.1 ht
          exact Nat.le_refl _
    · rw [joinS_near hf]
      have hm : mayR (s.1, max s.2 r.2) = true := (may_iff _).2 ⟨m1.1, by show s.1 ≤ max s.2 r.2; omega, by show max s.2 r.2 ≤ _; omega⟩
      have ht : ∀ n, tst (s.1, max s.2 r.2) n = (tst s n || tst r n) := fun n => by
        rw [Bool.eq_iff_iff, Bool.or_eq_true, tst_iff, tst_iff, tst_iff]
        constructor
        · rintro ⟨_, a1, a2⟩
          replace a1 : s.1 ≤ n := a1
          replace a2 : n ≤ max s.2 r.2 := a2
          by_cases hn : n ≤ s.2
          · exact .inl ⟨h2, a1, hn⟩
          · exact .inr ⟨hr, by omega, by omega⟩
        · rintro (⟨_, a1, a2⟩ | ⟨_, a1, a2⟩)
          · exact ⟨hm, a1, by show n ≤ max s.2 r.2; omega⟩
          · exact ⟨hm, by show s.1 ≤ n; omega, by show n ≤ max s.2 r.2; omega⟩
      refine ⟨order_snoc h1 hm h3, fun n => ?_, fun t ht => ?_, by simp⟩
      · rw [has_append, has_append, has_cons, has_cons, has_nil, ht n]
        simp [Bool.or_assoc]
      · rcases List.mem_append.1 ht with ht | ht
        · exact hb t (by simp [ht])
        · obtain rfl := List.mem_singleton.1 ht
          exact hs
def Rise (l : List Run) : Prop := l.Pairwise fun r s => r.1 ≤ s.1
theorem joinL_go : ∀ (l o : List Run), InOrder o → (∀ r ∈ l, mayR r = true) → Rise l → (∀ s ∈ o, ∀ r ∈ l, s.1 ≤ r.1) →
    InOrder (l.foldl joinS o) ∧ (∀ n, has (l.foldl joinS o) n = (has o n || has l n)) ∧ (l.foldl joinS o).length ≤ o.length + l.length
  | [], o, ho, _, _, _ => ⟨ho, fun n => by rw [has_nil, Bool.or_false]; rfl, by simp⟩
  | r :: l, o, ho, hm, hr, hb => by
    obtain ⟨s1, s2, s3, s4⟩ := joinS_spec (r := r) ho (hm r (by simp)) (fun s hs => hb s hs r (by simp))
    have hr' := List.pairwise_cons.1 hr
    obtain ⟨t1, t2, t3⟩ := joinL_go l (joinS o r) s1 (fun x hx => hm x (by simp [hx])) hr'.2 (fun s hs x hx => Nat.le_trans (s3 s hs) (hr'.1 x hx))
    refine ⟨t1, fun n => ?_, ?_⟩
    · show has (l.foldl joinS (joinS o r)) n = _
      rw [t2 n, s2 n, has_cons, Bool.or_assoc]
    · show (l.foldl joinS (joinS o r)).length ≤ _
      rw [List.length_cons]
      omega
theorem order_nil : InOrder [] := ⟨fun r hr => (by cases hr), List.Pairwise.nil⟩
theorem joinL_spec {l : List Run} (hm : ∀ r ∈ l, mayR r = true) (hr : Rise l) : InOrder (joinL l) ∧ (∀ n, has (joinL l) n = has l n) ∧ (joinL l).length ≤ l.length := by
  obtain ⟨h1, h2, h3⟩ := joinL_go l [] order_nil hm hr (fun s hs => by cases hs)
  exact ⟨h1, fun n => by rw [show joinL l = l.foldl joinS [] from rfl, h2 n, has_nil, Bool.false_or], by simpa [joinL] using h3⟩
/-- what a round of 'joined' finds: the runs done so far are in order, and no more than rounds. -/
theorem joinL_upto {l : List Run} (hm : ∀ r ∈ l, mayR r = true) (hr : Rise l) (k : Nat) : InOrder (joinL (l.take k)) ∧ (joinL (l.take k)).length ≤ k := by
  obtain ⟨h1, _, h3⟩ := joinL_spec (l := l.take k) (fun r h => hm r (List.mem_of_mem_take h)) (List.Pairwise.sublist (List.take_sublist _ _) hr)
  exact ⟨h1, Nat.le_trans h3 (by simp; omega)⟩

/-- the runs that tell something. -/
def tells (l : List Run) : List Run := l.filter mayR
theorem has_tells (l : List Run) (n : Nat) : has (tells l) n = has l n := by
  induction l with
  | nil => rfl
  | cons r l ih =>
    unfold tells at ih ⊢
    rw [has_cons, List.filter_cons]
    by_cases h : mayR r = true
    · rw [if_pos h, has_cons, ih]
    · rw [if_neg h, ih]
      have : tst r n = false := by unfold tst; simp [h]
      rw [this, Bool.false_or]
theorem has_perm {l m : List Run} (h : l.Perm m) (n : Nat) : has l n = has m n := by
  rw [Bool.eq_iff_iff, has_iff, has_iff]
  exact ⟨fun ⟨r, h1, h2⟩ => ⟨r, h.mem_iff.1 h1, h2⟩, fun ⟨r, h1, h2⟩ => ⟨r, h.mem_iff.2 h1, h2⟩⟩
/-- WHAT Norm COMES TO: sorted and joined, it is the document's list. -/
theorem joined_norm {l m : List Run} (hp : m.Perm (tells l)) (hr : Rise m) : joinL m = nrm l := by
  have hm : ∀ r ∈ m, mayR r = true := fun r h => (List.mem_filter.1 (hp.mem_iff.1 h)).2
  obtain ⟨h1, h2, _⟩ := joinL_spec hm hr
  exact nrm_uniq h1 fun n => by rw [h2 n, has_perm hp n, has_tells]
theorem exists_sorted (l : List Run) : ∃ m : List Run, m.Perm l ∧ Rise m := by
  refine ⟨l.mergeSort fun r s => decide (r.1 ≤ s.1), List.mergeSort_perm _ _, ?_⟩
  have := List.pairwise_mergeSort (le := fun r s : Run => decide (r.1 ≤ s.1)) (fun a b c h1 h2 => by simp at *; omega) (fun a b => by simp; omega) l
  exact this.imp fun h => by simpa using h
theorem nrm_length (l : List Run) : (nrm l).length ≤ l.length := by
  obtain ⟨m, hp, hr⟩ := exists_sorted (tells l)
  have hm : ∀ r ∈ m, mayR r = true := fun r h => (List.mem_filter.1 (hp.mem_iff.1 h)).2
  rw [← joined_norm hp hr]
  refine Nat.le_trans (joinL_spec hm hr).2.2 ?_
  rw [hp.length_eq]
  exact List.length_filter_le _ _

/-! What two lists have in common. -/
def Sep (l : List Run) : Prop := l.Pairwise fun r s => r.2 + 1 < s.1
def okR (r : Run) : Prop := mayR r = true ∨ r.1 = r.2 + 1
def both (x y : Run) : Run := (max x.1 y.1, min x.2 y.2)
def com : List Run → List Run → List Run
  | [], _ => []
  | _ :: _, [] => []
  | x :: a, y :: b => (if mayR (both x y) = true then [both x y] else []) ++ (if x.2 < y.2 then com a (y :: b) else com (x :: a) b)
  termination_by a b => a.length + b.length
theorem com_nil (b : List Run) : com [] b = [] := by rw [com]
theorem com_nil' (a : List Run) : com a [] = [] := by cases a <;> rw [com]
theorem com_cons (x y : Run) (a b : List Run) : com (x :: a) (y :: b) = (if mayR (both x y) = true then [both x y] else []) ++ (if x.2 < y.2 then com a (y :: b) else com (x :: a) b) := by rw [com]
theorem com_mem : ∀ (N : Nat) (a b : List Run), a.length + b.length ≤ N → ∀ s ∈ com a b, mayR s = true ∧ ∃ x ∈ a, ∃ y ∈ b, s = both x y
  | N, [], b, _, s, hs => by rw [com_nil] at hs; cases hs
  | N, x :: a, [], _, s, hs => by rw [com_nil'] at hs; cases hs
  | 0, x :: a, y :: b, h, s, hs => by simp at h
  | N + 1, x :: a, y :: b, h, s, hs => by
    rw [com_cons] at hs
    simp only [List.length_cons] at h
    rcases List.mem_append.1 hs with hs | hs
    · split at hs
      · rename_i hm
        obtain rfl := List.mem_singleton.1 hs
        exact ⟨hm, x, by simp, y, by simp, rfl⟩
      · cases hs
    · split at hs
      · obtain ⟨h1, u, hu, v, hv, e⟩ := com_mem N a (y :: b) (by simp only [List.length_cons]; omega) s hs
        exact ⟨h1, u, by simp [hu], v, hv, e⟩
      · obtain ⟨h1, u, hu, v, hv, e⟩ := com_mem N (x :: a) b (by simp only [List.length_cons]; omega) s hs
        exact ⟨h1, u, hu, v, by simp [hv], e⟩
theorem tst_both {x y : Run} (hx : okR x) (hy : okR y) (n : Nat) : tst (both x y) n = (tst x n && tst y n) := by
  rw [Bool.eq_iff_iff, Bool.and_eq_true, tst_iff, tst_iff, tst_iff, may_iff, may_iff, may_iff]
  unfold both
  simp only
  rcases hx with hx | hx
  · have m1 := (may_iff x).1 hx
    rcases hy with hy | hy
    · have m2 := (may_iff y).1 hy
      omega
    · omega
  · omega
theorem far' {r : Run} {l : List Run} (h : ∀ s ∈ l, r.2 + 1 < s.1) {n : Nat} (hn : has l n = true) : r.2 + 1 < n := by
  obtain ⟨s, hs, ht⟩ := (has_iff l n).1 hn
  have := h s hs
  have := ((tst_iff s n).1 ht).2.1
  omega
theorem com_spec : ∀ (N : Nat) (a b : List Run), a.length + b.length ≤ N → Sep a → Sep b → (∀ r ∈ a, okR r) → (∀ r ∈ b, okR r) →
    InOrder (com a b) ∧ (∀ n, has (com a b) n = (has a n && has b n)) ∧ (com a b).length ≤ a.length + b.length
  | N, [], b, _, _, _, _, _ => by rw [com_nil]; exact ⟨order_nil, fun n => by rw [has_nil]; rfl, by simp⟩
  | N, x :: a, [], _, _, _, _, _ => by rw [com_nil']; exact ⟨order_nil, fun n => by rw [has_nil, Bool.and_false], by simp⟩
  | 0, x :: a, y :: b, h, _, _, _, _ => by simp at h
  | N + 1, x :: a, y :: b, h, sa, sb, oa, ob => by
    have ox := oa x (by simp)
    have oy := ob y (by simp)
    have fa := (List.pairwise_cons.1 sa).1
    have fb := (List.pairwise_cons.1 sb).1
    have hl : (x :: a).length = a.length + 1 := rfl
    have hl' : (y :: b).length = b.length + 1 := rfl
    rw [com_cons]
    by_cases hlt : x.2 < y.2
    · rw [if_pos hlt]
      obtain ⟨h1, h2, h3⟩ := com_spec N a (y :: b) (by omega) (List.pairwise_cons.1 sa).2 sb (fun r hr => oa r (by simp [hr])) ob
      have hx : ∀ n, (tst x n && has b n) = false := fun n => by
        by_cases hb : has b n = true
        · have := far' fb hb
          have : tst x n = false := by
            by_cases ht : tst x n = true
            · have := ((tst_iff x n).1 ht).2.2; omega
            · simpa using ht
          rw [this]; rfl
        · simp [hb]
      have hh : ∀ n, (has (x :: a) n && has (y :: b) n) = ((tst x n && tst y n) || has (com a (y :: b)) n) := fun n => by
        rw [h2 n, has_cons, has_cons]
        have := hx n
        revert this
        cases tst x n <;> cases tst y n <;> cases has a n <;> cases has b n <;> decide
      split
      · rename_i hm
        refine ⟨⟨fun r hr => ?_, ?_⟩, fun n => ?_, by simp; omega⟩
        · rcases List.mem_append.1 hr with hr | hr
          · obtain rfl := List.mem_singleton.1 hr; exact hm
          · exact h1.1 r hr
        · rw [List.singleton_append, List.pairwise_cons]
          refine ⟨fun s hs => ?_, h1.2⟩
          obtain ⟨_, u, hu, v, hv, rfl⟩ := com_mem N a (y :: b) (by omega) s hs
          have := fa u hu
          show min x.2 y.2 + 1 < max u.1 v.1
          omega
        · rw [hh n, has_append, has_cons, has_nil, Bool.or_false, tst_both ox oy]
      · rename_i hm
        refine ⟨h1, fun n => ?_, by simp; omega⟩
        rw [List.nil_append, hh n, ← tst_both ox oy]
        have : tst (both x y) n = false := by unfold tst; simp [hm]
        rw [this, Bool.false_or]
    · rw [if_neg hlt]
      obtain ⟨h1, h2, h3⟩ := com_spec N (x :: a) b (by omega) sa (List.pairwise_cons.1 sb).2 oa (fun r hr => ob r (by simp [hr]))
      have hx : ∀ n, (tst y n && has a n) = false := fun n => by
        by_cases ha : has a n = true
        · have := far' fa ha
          have : tst y n = false := by
            by_cases ht : tst y n = true
            · have := ((tst_iff y n).1 ht).2.2; omega
            · simpa using ht
          rw [this]; rfl
        · simp [ha]
      have hh : ∀ n, (has (x :: a) n && has (y :: b) n) = ((tst x n && tst y n) || has (com (x :: a) b) n) := fun n => by
        rw [h2 n, has_cons, has_cons]
        have := hx n
        revert this
        cases tst x n <;> cases tst y n <;> cases has a n <;> cases has b n <;> decide
      split
      · rename_i hm
        refine ⟨⟨fun r hr => ?_, ?_⟩, fun n => ?_, by simp; omega⟩
        · rcases List.mem_append.1 hr with hr | hr
          · obtain rfl := List.mem_singleton.1 hr; exact hm
          · exact h1.1 r hr
        · rw [List.singleton_append, List.pairwise_cons]
          refine ⟨fun s hs => ?_, h1.2⟩
          obtain ⟨_, u, hu, v, hv, rfl⟩ := com_mem N (x :: a) b (by omega) s hs
          have := fb v hv
          show min x.2 y.2 + 1 < max u.1 v.1
          omega
        · rw [hh n, has_append, has_cons, has_nil, Bool.or_false, tst_both ox oy]
      · rename_i hm
        refine ⟨h1, fun n => ?_, by simp; omega⟩
        rw [List.nil_append, hh n, ← tst_both ox oy]
        have : tst (both x y) n = false := by unfold tst; simp [hm]
        rw [this, Bool.false_or]

/-! All numbers but those of a list that is in order. -/
def gapS : Nat → List Run → List Run
  | nx, [] => [(nx, 281474976710655)]
  | nx, r :: l => (nx, r.1 - 1) :: gapS (r.2 + 1) l
theorem gap_spec : ∀ (l : List Run) (nx : Nat), InOrder l → (∀ r ∈ l, nx ≤ r.1) → 1 ≤ nx → nx ≤ 281474976710656 →
    Sep (gapS nx l) ∧ (∀ r ∈ gapS nx l, okR r ∧ nx ≤ r.1) ∧ (∀ n, has (gapS nx l) n = (decide (nx ≤ n) && decide (n ≤ 281474976710655) && !has l n)) ∧ (gapS nx l).length = l.length + 1
  | [], nx, _, _, h1, h2 => by
    refine ⟨by simp [gapS, Sep], fun r hr => ?_, fun n => ?_, rfl⟩
    · obtain rfl := List.mem_singleton.1 hr
      refine ⟨?_, Nat.le_refl _⟩
      by_cases h : nx ≤ 281474976710655
      · exact .inl ((may_iff _).2 ⟨h1, h, Nat.le_refl _⟩)
      · exact .inr (by show nx = 281474976710655 + 1; omega)
    · rw [gapS, has_cons, has_nil, Bool.or_false, Bool.eq_iff_iff, tst_iff, may_iff]
      simp
      omega
  | r :: l, nx, ho, hb, h1, h2 => by
    obtain ⟨t1, t2, t3⟩ := order_tail ho
    have m := (may_iff r).1 t2
    have hr := hb r (by simp)
    obtain ⟨s1, s2, s3, s4⟩ := gap_spec l (r.2 + 1) t1 (fun s hs => by have := t3 s hs; omega) (by omega) (by omega)
    refine ⟨?_, fun s hs => ?_, fun n => ?_, by simp [gapS, s4]⟩
    · unfold Sep
      rw [gapS, List.pairwise_cons]
      refine ⟨fun s hs => ?_, s1⟩
      have := (s2 s hs).2
      show r.1 - 1 + 1 < s.1
      omega
    · rw [gapS] at hs
      rcases List.mem_cons.1 hs with rfl | hs
      · refine ⟨?_, Nat.le_refl _⟩
        by_cases h : nx < r.1
        · exact .inl ((may_iff _).2 ⟨h1, by show nx ≤ r.1 - 1; omega, by show r.1 - 1 ≤ _; omega⟩)
        · exact .inr (by show nx = r.1 - 1 + 1; omega)
      · have := s2 s hs
        exact ⟨this.1, by omega⟩
    · have hl : has l n = true → r.2 + 1 < n := fun h => far t3 h
      rw [gapS, has_cons, has_cons, s3 n, Bool.eq_iff_iff]
      simp only [Bool.or_eq_true, Bool.and_eq_true, tst_iff, may_iff, decide_eq_true_eq, Bool.not_eq_true', Bool.or_eq_false_iff]
      have ht : tst r n = false ↔ ¬ (r.1 ≤ n ∧ n ≤ r.2) := by
        rw [← Bool.not_eq_true, tst_iff]
        exact ⟨fun h h' => h ⟨t2, h'.1, h'.2⟩, fun h h' => h ⟨h'.2.1, h'.2.2⟩⟩
      rw [ht]
      constructor
      · rintro (⟨_, a1, a2⟩ | ⟨⟨a1, a2⟩, a3⟩)
        · refine ⟨⟨a1, by omega⟩, by omega, ?_⟩
          by_cases h : has l n = true
          · have := hl h; omega
          · simpa using h
        · exact ⟨⟨by omega, a2⟩, by omega, a3⟩
      · rintro ⟨⟨a1, a2⟩, a3, a4⟩
        by_cases h : n < r.1
        · exact .inl ⟨⟨h1, by omega, by omega⟩, a1, by omega⟩
        · exact .inr ⟨⟨by omega, a2⟩, a4⟩

/-! What the program's answers come to. -/
theorem sep_order {l : List Run} (h : InOrder l) : Sep l := h.2
theorem ok_order {l : List Run} (h : InOrder l) : ∀ r ∈ l, okR r := fun r hr => .inl (h.1 r hr)
theorem has_bound {l : List Run} {n : Nat} (h : has l n = true) : 1 ≤ n ∧ n ≤ 281474976710655 := by
  obtain ⟨r, _, ht⟩ := (has_iff l n).1 h
  obtain ⟨a, b, c⟩ := (tst_iff r n).1 ht
  have := (may_iff r).1 a
  omega
theorem join_comes (a b : List Run) : nrm (a ++ b) = setL a b 0 := by
  obtain ⟨h1, h2⟩ := set_spec a b 0
  exact (nrm_uniq h1 fun n => by rw [h2 n, inB_zero, has_append]).symm
theorem meet_comes (a b : List Run) : com (nrm a) (nrm b) = setL a b 1 := by
  obtain ⟨h1, h2⟩ := set_spec a b 1
  have ha := nrm_spec a
  have hb := nrm_spec b
  obtain ⟨c1, c2, _⟩ := com_spec _ (nrm a) (nrm b) (Nat.le_refl _) ha.1.2 hb.1.2 (ok_order ha.1) (ok_order hb.1)
  exact uniq c1 h1 fun n => by rw [c2 n, h2 n, ha.2 n, hb.2 n]; rfl
theorem gap_nrm (b : List Run) : Sep (gapS 1 (nrm b)) ∧ (∀ r ∈ gapS 1 (nrm b), okR r) ∧ (∀ n, has (gapS 1 (nrm b)) n = (decide (1 ≤ n) && decide (n ≤ 281474976710655) && !has b n)) ∧ (gapS 1 (nrm b)).length = (nrm b).length + 1 := by
  have hb := nrm_spec b
  obtain ⟨g1, g2, g3, g4⟩ := gap_spec (nrm b) 1 hb.1 (fun r hr => ((may_iff r).1 (hb.1.1 r hr)).1) (by omega) (by omega)
  exact ⟨g1, fun r hr => (g2 r hr).1, fun n => by rw [g3 n, hb.2 n], g4⟩
theorem minus_comes (a b : List Run) : com (nrm a) (gapS 1 (nrm b)) = setL a b 2 := by
  obtain ⟨h1, h2⟩ := set_spec a b 2
  have ha := nrm_spec a
  obtain ⟨g1, g2, g3, _⟩ := gap_nrm b
  obtain ⟨c1, c2, _⟩ := com_spec _ (nrm a) (gapS 1 (nrm b)) (Nat.le_refl _) ha.1.2 g1 (ok_order ha.1) g2
  refine uniq c1 h1 fun n => ?_
  rw [c2 n, h2 n, ha.2 n, g3 n]
  show _ = (has a n && !has b n)
  by_cases h : has a n = true
  · have := has_bound h
    simp [h, this]
  · simp [h]
theorem set_length1 (a b : List Run) : (setL a b 1).length ≤ a.length + b.length := by
  have ha := nrm_spec a
  have hb := nrm_spec b
  rw [← meet_comes]
  have := (com_spec _ (nrm a) (nrm b) (Nat.le_refl _) ha.1.2 hb.1.2 (ok_order ha.1) (ok_order hb.1)).2.2
  have := nrm_length a
  have := nrm_length b
  omega
theorem set_length2 (a b : List Run) : (setL a b 2).length ≤ a.length + b.length + 1 := by
  have ha := nrm_spec a
  obtain ⟨g1, g2, _, g4⟩ := gap_nrm b
  rw [← minus_comes]
  have := (com_spec _ (nrm a) (gapS 1 (nrm b)) (Nat.le_refl _) ha.1.2 g1 (ok_order ha.1) g2).2.2
  have := nrm_length a
  have := nrm_length b
  omega
theorem set_length0 (a b : List Run) : (setL a b 0).length ≤ a.length + b.length := by
  rw [← join_comes, ← List.length_append]
  exact nrm_length _
theorem of_comes (l : List Nat) : nrm (l.map fun n => (n, n)) = ofL l := by
  obtain ⟨h1, h2⟩ := ofL_spec l
  refine (nrm_uniq h1 fun n => ?_).symm
  rw [h2 n]
  unfold has
  rw [List.any_map]
  congr 1
  funext m
  rw [Bool.eq_iff_iff]
  simp
  intro _
  omega
theorem good_comes (l : List Run) : InOrder l ↔ l = nrm l := ⟨fun h => nrm_uniq h fun _ => rfl, fun h => by rw [h]; exact (nrm_spec l).1⟩
end Go.Proofs.YtmebokpgiehgmaaGreat.Ru

/- Plain arithmetic for RunsLaws: sets are sets. No program is walked here. -/
namespace Go.Proofs.YtmebokpgiehgmaaGreat.Ru
set_option linter.unusedVariables false
set_option maxRecDepth 4000

theorem has0 (a b : List Run) (n : Nat) : has (setL a b 0) n = (has a n || has b n) := (set_spec a b 0).2 n
theorem has1 (a b : List Run) (n : Nat) : has (setL a b 1) n = (has a n && has b n) := (set_spec a b 1).2 n
theorem has2 (a b : List Run) (n : Nat) : has (setL a b 2) n = (has a n && !has b n) := (set_spec a b 2).2 n
theorem join_turn (a b : List Run) : setL b a 0 = setL a b 0 := uniq (set_spec b a 0).1 (set_spec a b 0).1 fun n => by rw [has0, has0, Bool.or_comm]
theorem meet_turn (a b : List Run) : setL b a 1 = setL a b 1 := uniq (set_spec b a 1).1 (set_spec a b 1).1 fun n => by rw [has1, has1, Bool.and_comm]
theorem both_parts (a b : List Run) : nrm (setL (setL a b 2) (setL a b 1) 0) = nrm a := uniq (nrm_spec _).1 (nrm_spec _).1 fun n => by
  rw [(nrm_spec _).2, (nrm_spec _).2, has0, has1, has2]
  cases has a n <;> cases has b n <;> rfl
theorem empty_of {l : List Run} (h : InOrder l) (hn : ∀ n, has l n = false) : l = [] := uniq h order_nil fun n => by rw [hn n]; rfl
theorem apart_parts (a b : List Run) : (setL (setL a b 2) b 1).length = 0 := by
  rw [empty_of (set_spec _ _ 1).1 fun n => by rw [has1, has2]; cases has a n <;> cases has b n <;> rfl]
  rfl
theorem within_meet (a b : List Run) : (setL (setL a b 1) a 2).length = 0 := by
  rw [empty_of (set_spec _ _ 2).1 fun n => by rw [has2, has1]; cases has a n <;> cases has b n <;> rfl]
  rfl
theorem within_join (a b : List Run) : (setL a (setL a b 0) 2).length = 0 := by
  rw [empty_of (set_spec _ _ 2).1 fun n => by rw [has2, has0]; cases has a n <;> cases has b n <;> rfl]
  rfl
theorem set_good (a b : List Run) (how : Int) : decide (setL a b how = nrm (setL a b how)) = true := decide_eq_true ((good_comes _).1 (set_spec a b how).1)
theorem sizes (a b : List Run) : sizeR (nrm (setL a b 0)) + sizeR (nrm (setL a b 1)) = sizeR (nrm a) + sizeR (nrm b) := by
  have top : ∀ l : List Run, ∀ r ∈ nrm l, r.2 < 281474976710656 := fun l r hr => by
    have := (may_iff r).1 ((nrm_spec l).1.1 r hr)
    omega
  rw [← size_cnt (nrm_spec _).1 (top _), ← size_cnt (nrm_spec _).1 (top _), ← size_cnt (nrm_spec a).1 (top a), ← size_cnt (nrm_spec b).1 (top b)]
  have h := cnt_or_and (has a) (has b) 281474976710656
  rw [cnt_congr (f := has (nrm (setL a b 0))) (g := fun n => has a n || has b n) (fun n => by rw [(nrm_spec _).2, has0]),
    cnt_congr (f := has (nrm (setL a b 1))) (g := fun n => has a n && has b n) (fun n => by rw [(nrm_spec _).2, has1]),
    cnt_congr (f := has (nrm a)) (g := has a) (fun n => (nrm_spec _).2 n), cnt_congr (f := has (nrm b)) (g := has b) (fun n => (nrm_spec _).2 n)]
  exact h
end Go.Proofs.YtmebokpgiehgmaaGreat.Ru

/- What ctx knows by the name VOrd lies in dot's DSort. -/
namespace Go.Proofs.YtmebokpgiehgmaaGreat.Dt
end Go.Proofs.YtmebokpgiehgmaaGreat.Dt

/- Vectors as what they tell: plain arithmetic. What a vector tells of a device, the vector in order that tells a given thing, and the laws of joining and meeting. No program is named here. -/
namespace Go.Proofs.YtmebokpgiehgmaaGreat.Dt
set_option linter.unusedVariables false

/-- what a vector tells of a device: the greatest number of its dots that may be. -/
def stepV (d : Nat) (n : Nat) (x : Dot) : Nat := if x.1 = d ∧ mayD x = true ∧ n < x.2 then x.2 else n
def ofV (v : List Dot) (d : Nat) : Nat := v.foldl (stepV d) 0
theorem step_max (d n : Nat) (x : Dot) : stepV d n x = if x.1 = d ∧ mayD x = true then max n x.2 else n := by
  unfold stepV
  by_cases h1 : x.1 = d ∧ mayD x = true
  · by_cases h2 : n < x.2
    · rw [if_pos ⟨h1.1, h1.2, h2⟩, if_pos h1]; omega
    · rw [if_neg (fun h => h2 h.2.2), if_pos h1]; omega
  · rw [if_neg (fun h => h1 ⟨h.1, h.2.1⟩), if_neg h1]
theorem of_from (v : List Dot) (d n : Nat) : v.foldl (stepV d) n = max n (ofV v d) := by
  unfold ofV
  induction v generalizing n with
  | nil => simp
  | cons x v ih =>
    rw [List.foldl_cons, List.foldl_cons, ih, ih (stepV d 0 x), step_max, step_max]
    split <;> omega
theorem of_nil (d : Nat) : ofV [] d = 0 := rfl
theorem of_cons (x : Dot) (v : List Dot) (d : Nat) : ofV (x :: v) d = max (if x.1 = d ∧ mayD x = true then x.2 else 0) (ofV v d) := by
  rw [show ofV (x :: v) d = v.foldl (stepV d) (stepV d 0 x) from rfl, of_from, step_max]
  split <;> omega
theorem of_append (v m : List Dot) (d : Nat) : ofV (v ++ m) d = max (ofV v d) (ofV m d) := by
  rw [show ofV (v ++ m) d = (v ++ m).foldl (stepV d) 0 from rfl, List.foldl_append, of_from]; rfl
theorem of_one (x : Dot) (d : Nat) : ofV [x] d = if x.1 = d ∧ mayD x = true then x.2 else 0 := by rw [of_cons, of_nil]; omega
/-- what is told is a dot's number; of nothing nought is told. -/
theorem of_in (v : List Dot) (d : Nat) (h : 0 < ofV v d) : (d, ofV v d) ∈ v ∧ mayD (d, ofV v d) = true := by
  induction v with
  | nil => rw [of_nil] at h; omega
  | cons x v ih =>
    rw [of_cons] at h ⊢
    by_cases h1 : x.1 = d ∧ mayD x = true
    · rw [if_pos h1] at h ⊢
      rcases Nat.le_total x.2 (ofV v d) with h2 | h2
      · rw [Nat.max_eq_right h2] at h ⊢
        exact ⟨List.mem_cons_of_mem _ (ih h).1, (ih h).2⟩
      · rw [Nat.max_eq_left h2] at h ⊢
        have e : ((d, x.2) : Dot) = x := by rw [← h1.1]
        rw [e]
        exact ⟨List.mem_cons_self .., h1.2⟩
    · rw [if_neg h1] at h ⊢
      rw [Nat.zero_max] at h ⊢
      exact ⟨List.mem_cons_of_mem _ (ih h).1, (ih h).2⟩
theorem of_most (v : List Dot) (x : Dot) (hx : x ∈ v) (hm : mayD x = true) : x.2 ≤ ofV v x.1 := by
  induction v with
  | nil => cases hx
  | cons y v ih =>
    rw [of_cons]
    rcases List.mem_cons.1 hx with rfl | hx
    · rw [if_pos ⟨rfl, hm⟩]; omega
    · have := ih hx; omega
theorem of_lt (v : List Dot) (d : Nat) : ofV v d < 281474976710656 := by
  rcases Nat.eq_zero_or_pos (ofV v d) with h | h
  · omega
  · exact ((may_iff _).1 (of_in v d h).2).2.2
theorem of_zero (v : List Dot) : ofV v 0 = 0 := by
  rcases Nat.eq_zero_or_pos (ofV v 0) with h | h
  · exact h
  · have := ((may_iff _).1 (of_in v 0 h).2).1
    exact absurd this (by simp)
theorem of_far (v : List Dot) (hv : Fit v) (d : Nat) (hd : 65536 ≤ d) : ofV v d = 0 := by
  rcases Nat.eq_zero_or_pos (ofV v d) with h | h
  · exact h
  · have := (hv _ (of_in v d h).1).1
    exact absurd this (by simp only; omega)

/-- what may be told: nothing of device 0, nor of devices beyond; numbers that may be. -/
def Tells (f : Nat → Nat) : Prop := f 0 = 0 ∧ (∀ d, 65536 ≤ d → f d = 0) ∧ ∀ d, f d < 281474976710656
theorem tells_of {v : List Dot} (hv : Fit v) : Tells (ofV v) := ⟨of_zero v, of_far v hv, of_lt v⟩
theorem tells_max {f g : Nat → Nat} (hf : Tells f) (hg : Tells g) : Tells (fun d => max (f d) (g d)) :=
  ⟨by show max (f 0) (g 0) = 0; rw [hf.1, hg.1]; rfl, fun d hd => by show max (f d) (g d) = 0; rw [hf.2.1 d hd, hg.2.1 d hd]; rfl, fun d => by have := hf.2.2 d; have := hg.2.2 d; show max (f d) (g d) < _; omega⟩
theorem tells_min {f g : Nat → Nat} (hf : Tells f) (hg : Tells g) : Tells (fun d => min (f d) (g d)) :=
  ⟨by show min (f 0) (g 0) = 0; rw [hf.1, hg.1]; rfl, fun d hd => by show min (f d) (g d) = 0; rw [hf.2.1 d hd, hg.2.1 d hd]; rfl, fun d => by have := hf.2.2 d; have := hg.2.2 d; show min (f d) (g d) < _; omega⟩

/-- how many devices there are. -/
@[irreducible] def topV : Nat := 65536
theorem top_eq : topV = 65536 := by unfold topV; rfl
/-- one dot of a device, if it tells something of it. -/
def oneV (f : Nat → Nat) (d : Nat) : Option Dot := if 0 < f d then some (d, f d) else none
theorem one_some {f : Nat → Nat} {d : Nat} {x : Dot} (h : oneV f d = some x) : x = (d, f d) ∧ 0 < f d := by
  unfold oneV at h
  split at h
  · exact ⟨(Option.some.inj h).symm, by assumption⟩
  · cases h
/-- the vector in order that tells this. -/
def listV (f : Nat → Nat) : List Dot := (List.range topV).filterMap (oneV f)
theorem list_mem {f : Nat → Nat} (hf : Tells f) (x : Dot) : x ∈ listV f ↔ 0 < f x.1 ∧ x.2 = f x.1 := by
  unfold listV
  rw [List.mem_filterMap]
  constructor
  · rintro ⟨d, _, h⟩
    obtain ⟨rfl, h2⟩ := one_some h
    exact ⟨h2, rfl⟩
  · rintro ⟨h1, h2⟩
    refine ⟨x.1, ?_, ?_⟩
    · rw [List.mem_range, top_eq]
      rcases Nat.lt_or_ge x.1 65536 with h | h
      · exact h
      · rw [hf.2.1 _ h] at h1; omega
    · unfold oneV
      rw [if_pos h1, ← h2]
theorem range_up (n : Nat) : (List.range n).Pairwise (fun a b => a < b) := List.pairwise_lt_range
theorem list_up (f : Nat → Nat) (l : List Nat) (h : l.Pairwise (fun a b => a < b)) : (l.filterMap (oneV f)).Pairwise (fun a b => a.1 < b.1) := by
  induction l with
  | nil => exact List.Pairwise.nil
  | cons d l ih =>
    obtain ⟨h1, h2⟩ := List.pairwise_cons.1 h
    rw [List.filterMap_cons]
    split
    · exact ih h2
    · rename_i x hx
      rw [List.pairwise_cons]
      refine ⟨fun y hy => ?_, ih h2⟩
      obtain ⟨e, he, h3⟩ := List.mem_filterMap.1 hy
      obtain ⟨rfl, _⟩ := one_some hx
      obtain ⟨rfl, _⟩ := one_some h3
      exact h1 e he
theorem list_rise (f : Nat → Nat) : (listV f).Pairwise (fun a b => a.1 < b.1) := list_up f _ (range_up _)
theorem list_may {f : Nat → Nat} (hf : Tells f) {x : Dot} (hx : x ∈ listV f) : mayD x = true := by
  obtain ⟨h1, h2⟩ := (list_mem hf x).1 hx
  rw [may_iff]
  refine ⟨?_, by omega, by rw [h2]; exact hf.2.2 _⟩
  rcases Nat.eq_zero_or_pos x.1 with h | h
  · rw [h, hf.1] at h1; omega
  · exact h
theorem list_fit {f : Nat → Nat} (hf : Tells f) : Fit (listV f) := by
  intro r hr
  obtain ⟨h1, h2⟩ := (list_mem hf r).1 hr
  have h3 := hf.2.2 r.1
  refine ⟨?_, by omega⟩
  rcases Nat.lt_or_ge r.1 65536 with h | h
  · exact h
  · rw [hf.2.1 _ h] at h1; omega
theorem list_length (f : Nat → Nat) : (listV f).length ≤ 65536 := by
  have := List.length_filterMap_le (oneV f) (List.range topV)
  rw [List.length_range] at this
  exact Nat.le_trans this (Nat.le_of_eq top_eq)
/-- the vector that tells f tells f. -/
theorem of_list {f : Nat → Nat} (hf : Tells f) (d : Nat) : ofV (listV f) d = f d := by
  rcases Nat.eq_zero_or_pos (ofV (listV f) d) with h | h
  · rcases Nat.eq_zero_or_pos (f d) with h1 | h1
    · omega
    · have h2 : (d, f d) ∈ listV f := (list_mem hf _).2 ⟨h1, rfl⟩
      have h3 := of_most _ _ h2 (list_may hf h2)
      simp only at h3
      omega
  · exact ((list_mem hf _).1 (of_in _ _ h).1).2
theorem of_list' {f : Nat → Nat} (hf : Tells f) : ofV (listV f) = f := funext (of_list hf)

/-! The document's words. -/
def normV (v : List Dot) : List Dot := listV (ofV v)
def joinV (a b : List Dot) : List Dot := listV (fun d => max (ofV a d) (ofV b d))
def meetV (a b : List Dot) : List Dot := listV (fun d => min (ofV a d) (ofV b d))
def putV (v : List Dot) (x : Dot) : List Dot := joinV v [x]
def hasV (v : List Dot) (x : Dot) : Bool := mayD x && decide (x.2 ≤ ofV v x.1)
/-- does the first one tell of no device more? -/
def mostV (a b : List Dot) : Bool := (List.range topV).all (fun d => decide (ofV a d ≤ ofV b d))
def orderV (a b : List Dot) : Int := if mostV a b = true ∧ mostV b a = true then 0 else if mostV a b = true then -1 else if mostV b a = true then 1 else 2
def lackV (a b : List Dot) : Nat := ((List.range topV).map (fun d => ofV b d - ofV a d)).sum
theorem most_iff {a b : List Dot} (ha : Fit a) : mostV a b = true ↔ ∀ d, ofV a d ≤ ofV b d := by
  unfold mostV
  rw [List.all_eq_true]
  constructor
  · intro h d
    rcases Nat.lt_or_ge d 65536 with h1 | h1
    · exact of_decide_eq_true (h d (List.mem_range.2 (by rw [top_eq]; exact h1)))
    · rw [of_far a ha d h1]; exact Nat.zero_le _
  · exact fun h d _ => decide_eq_true (h d)
theorem tells_join {a b : List Dot} (ha : Fit a) (hb : Fit b) : Tells (fun d => max (ofV a d) (ofV b d)) := tells_max (tells_of ha) (tells_of hb)
theorem tells_meet {a b : List Dot} (ha : Fit a) (hb : Fit b) : Tells (fun d => min (ofV a d) (ofV b d)) := tells_min (tells_of ha) (tells_of hb)
theorem of_norm {v : List Dot} (hv : Fit v) : ofV (normV v) = ofV v := of_list' (tells_of hv)
theorem of_join {a b : List Dot} (ha : Fit a) (hb : Fit b) : ofV (joinV a b) = fun d => max (ofV a d) (ofV b d) := of_list' (tells_join ha hb)
theorem of_meet {a b : List Dot} (ha : Fit a) (hb : Fit b) : ofV (meetV a b) = fun d => min (ofV a d) (ofV b d) := of_list' (tells_meet ha hb)
theorem fit_norm {v : List Dot} (hv : Fit v) : Fit (normV v) := list_fit (tells_of hv)
theorem fit_join {a b : List Dot} (ha : Fit a) (hb : Fit b) : Fit (joinV a b) := list_fit (tells_join ha hb)
theorem fit_meet {a b : List Dot} (ha : Fit a) (hb : Fit b) : Fit (meetV a b) := list_fit (tells_meet ha hb)
theorem fit_one {x : Dot} (h1 : x.1 < 65536) (h2 : x.2 < 18446744073709551616) : Fit [x] := fun r hr => by rw [List.mem_singleton.1 hr]; exact ⟨h1, h2⟩
theorem of_put {v : List Dot} {x : Dot} (hv : Fit v) (hx : Fit [x]) : ofV (putV v x) = fun d => max (ofV v d) (if x.1 = d ∧ mayD x = true then x.2 else 0) := by
  unfold putV
  rw [of_join hv hx]
  funext d
  rw [of_one]
/-- of a dot that may not be nothing is told. -/
theorem put_bad {v : List Dot} {x : Dot} (h : mayD x = false) : putV v x = normV v := by
  unfold putV joinV normV
  congr 1
  funext d
  rw [of_one, if_neg (fun h' => by rw [h] at h'; exact absurd h'.2 (by simp))]
  exact Nat.max_zero _

/-! The laws. -/
theorem has_join {a b : List Dot} (ha : Fit a) (hb : Fit b) (x : Dot) : hasV (joinV a b) x = (hasV a x || hasV b x) := by
  unfold hasV
  rw [of_join ha hb]
  cases mayD x with
  | false => rfl
  | true =>
    simp only [Bool.true_and]
    by_cases h1 : x.2 ≤ ofV a x.1 <;> by_cases h2 : x.2 ≤ ofV b x.1 <;> simp [h1, h2] <;> omega
theorem has_meet {a b : List Dot} (ha : Fit a) (hb : Fit b) (x : Dot) : hasV (meetV a b) x = (hasV a x && hasV b x) := by
  unfold hasV
  rw [of_meet ha hb]
  cases mayD x with
  | false => rfl
  | true =>
    simp only [Bool.true_and]
    by_cases h1 : x.2 ≤ ofV a x.1 <;> by_cases h2 : x.2 ≤ ofV b x.1 <;> simp [h1, h2] <;> omega
theorem sum_zero (l : List Nat) (f : Nat → Nat) : (l.map f).sum = 0 ↔ ∀ d ∈ l, f d = 0 := by
  induction l with
  | nil => simp
  | cons d l ih => rw [List.map_cons, List.sum_cons, Nat.add_eq_zero_iff, ih]; simp
theorem sum_most (l : List Nat) (f : Nat → Nat) (m : Nat) (h : ∀ d, f d ≤ m) : (l.map f).sum ≤ l.length * m := by
  induction l with
  | nil => simp
  | cons d l ih =>
    have := h d
    rw [List.map_cons, List.sum_cons, List.length_cons, Nat.add_mul]
    omega
theorem lack_zero {a b : List Dot} (hb : Fit b) : lackV a b = 0 ↔ mostV b a = true := by
  unfold lackV
  rw [sum_zero, most_iff hb]
  constructor
  · intro h d
    rcases Nat.lt_or_ge d 65536 with h1 | h1
    · have := h d (List.mem_range.2 (by rw [top_eq]; exact h1)); omega
    · rw [of_far b hb d h1]; exact Nat.zero_le _
  · intro h d _
    have := h d
    omega
theorem lack_lt (a b : List Dot) : lackV a b < 18446744073709551616 := by
  unfold lackV
  have h0 : (List.range topV).map (fun d => ofV b d - ofV a d) = (ofV b 0 - ofV a 0) :: (List.range 65535).map (fun d => ofV b (d + 1) - ofV a (d + 1)) := by
    rw [show topV = 65535 + 1 from top_eq, List.range_succ_eq_map, List.map_cons, List.map_map]; rfl
  rw [h0, List.sum_cons, of_zero, of_zero]
  have := sum_most (List.range 65535) (fun d => ofV b (d + 1) - ofV a (d + 1)) 281474976710655 (fun d => by have := of_lt b (d + 1); omega)
  rw [List.length_range] at this
  omega
theorem order_low {a b : List Dot} : (orderV a b = 0 ∨ orderV a b = -1) ↔ mostV a b = true := by
  unfold orderV
  cases mostV a b <;> cases mostV b a <;> simp
theorem order_high {a b : List Dot} : (orderV a b = 0 ∨ orderV a b = 1) ↔ mostV b a = true := by
  unfold orderV
  cases mostV a b <;> cases mostV b a <;> simp
theorem most_put {a : List Dot} {x : Dot} (ha : Fit a) (hx : Fit [x]) : mostV a (putV a x) = true := by
  rw [most_iff ha, of_put ha hx]
  intro d
  exact Nat.le_max_left _ _
theorem has_put {a : List Dot} {x : Dot} (ha : Fit a) (hx : Fit [x]) : hasV (putV a x) x = mayD x := by
  unfold hasV
  rw [of_put ha hx]
  cases h : mayD x with
  | false => rfl
  | true => simp; omega
theorem join_comm (a b : List Dot) : joinV a b = joinV b a := by
  unfold joinV
  congr 1
  funext d
  exact Nat.max_comm _ _
theorem join_assoc {a b c : List Dot} (ha : Fit a) (hb : Fit b) (hc : Fit c) : joinV (joinV a b) c = joinV a (joinV b c) := by
  show listV (fun d => max (ofV (joinV a b) d) (ofV c d)) = listV (fun d => max (ofV a d) (ofV (joinV b c) d))
  rw [of_join ha hb, of_join hb hc]
  congr 1
  funext d
  exact Nat.max_assoc _ _ _
theorem meet_assoc {a b c : List Dot} (ha : Fit a) (hb : Fit b) (hc : Fit c) : meetV (meetV a b) c = meetV a (meetV b c) := by
  show listV (fun d => min (ofV (meetV a b) d) (ofV c d)) = listV (fun d => min (ofV a d) (ofV (meetV b c) d))
  rw [of_meet ha hb, of_meet hb hc]
  congr 1
  funext d
  exact Nat.min_assoc _ _ _
theorem join_self (a : List Dot) : joinV a a = normV a := by
  unfold joinV normV
  congr 1
  funext d
  exact Nat.max_self _
theorem meet_join {a b : List Dot} (ha : Fit a) (hb : Fit b) : meetV a (joinV a b) = normV a := by
  rw [meetV, of_join ha hb, normV]
  congr 1
  funext d
  simp only
  omega
theorem join_meet {a b : List Dot} (ha : Fit a) (hb : Fit b) : joinV a (meetV a b) = normV a := by
  rw [joinV, of_meet ha hb, normV]
  congr 1
  funext d
  simp only
  omega
theorem norm_norm {a : List Dot} (ha : Fit a) : normV (normV a) = normV a := by
  rw [normV, of_norm ha]; rfl
theorem order_norm {a : List Dot} (ha : Fit a) : orderV a (normV a) = 0 := by
  have h1 : mostV a (normV a) = true := (most_iff ha).2 (fun d => by rw [of_norm ha]; exact Nat.le_refl _)
  have h2 : mostV (normV a) a = true := (most_iff (fit_norm ha)).2 (fun d => by rw [of_norm ha]; exact Nat.le_refl _)
  unfold orderV
  rw [if_pos ⟨h1, h2⟩]
/-- in order: the vector that tells what it tells. -/
def goodV (v : List Dot) : Bool := decide (v = normV v)
theorem good_norm {a : List Dot} (ha : Fit a) : goodV (normV a) = true := decide_eq_true (norm_norm ha).symm
/-- a list that rises by device, of dots that may be, is in order. -/
theorem good_rise {v : List Dot} (hv : Fit v) : goodV v = true ↔ v.Pairwise (fun a b => a.1 < b.1) ∧ ∀ x ∈ v, mayD x = true := by
  unfold goodV
  rw [decide_eq_true_iff]
  constructor
  · intro h
    rw [h]
    exact ⟨list_rise _, fun x hx => list_may (tells_of hv) hx⟩
  · rintro ⟨h1, h2⟩
    have key : ∀ (l m : List Dot), l.Pairwise (fun a b => a.1 < b.1) → m.Pairwise (fun a b => a.1 < b.1) → (∀ x, x ∈ l ↔ x ∈ m) → l = m := by
      intro l
      induction l with
      | nil =>
        intro m _ _ h
        cases m with
        | nil => rfl
        | cons b m => exact absurd ((h b).2 (List.mem_cons_self ..)) (by simp)
      | cons a l ih =>
        intro m hl hm h
        cases m with
        | nil => exact absurd ((h a).1 (List.mem_cons_self ..)) (by simp)
        | cons b m =>
          obtain ⟨hl1, hl2⟩ := List.pairwise_cons.1 hl
          obtain ⟨hm1, hm2⟩ := List.pairwise_cons.1 hm
          have hab : a = b := by
            rcases List.mem_cons.1 ((h a).1 (List.mem_cons_self ..)) with h1 | h1
            · exact h1
            · rcases List.mem_cons.1 ((h b).2 (List.mem_cons_self ..)) with h2 | h2
              · exact h2.symm
              · have h3 := hm1 a h1
                have h4 := hl1 b h2
                omega
          subst hab
          congr 1
          refine ih m hl2 hm2 fun x => ⟨fun hx => ?_, fun hx => ?_⟩
          · rcases List.mem_cons.1 ((h x).1 (List.mem_cons_of_mem _ hx)) with h1 | h1
            · have := hl1 x hx; rw [h1] at this; omega
            · exact h1
          · rcases List.mem_cons.1 ((h x).2 (List.mem_cons_of_mem _ hx)) with h1 | h1
            · have := hm1 x hx; rw [h1] at this; omega
            · exact h1
    refine key v (normV v) h1 (list_rise _) fun x => ?_
    unfold normV
    rw [list_mem (tells_of hv)]
    constructor
    · intro hx
      have hm := h2 x hx
      have h3 := of_most v x hx hm
      have h4 := (may_iff x).1 hm
      refine ⟨by omega, ?_⟩
      have h5 := (of_in v x.1 (by omega)).1
      -- one dot of a device
      have : (x.1, ofV v x.1) = x := by
        have hp : ∀ (l : List Dot), l.Pairwise (fun a b => a.1 < b.1) → ∀ a ∈ l, ∀ b ∈ l, a.1 = b.1 → a = b := by
          intro l hl a ha b hb hab
          induction l with
          | nil => cases ha
          | cons c l ih =>
            obtain ⟨g1, g2⟩ := List.pairwise_cons.1 hl
            rcases List.mem_cons.1 ha with e1 | ha1 <;> rcases List.mem_cons.1 hb with e2 | hb1
            · rw [e1, e2]
            · have := g1 b hb1; rw [← e1] at this; omega
            · have := g1 a ha1; rw [← e2] at this; omega
            · exact ih g2 ha1 hb1
        exact hp v h1 _ h5 x hx rfl
      have h6 := congrArg Prod.snd this
      exact h6.symm
    · rintro ⟨g1, g2⟩
      have h5 := (of_in v x.1 g1).1
      rw [← g2] at h5
      exact h5
end Go.Proofs.YtmebokpgiehgmaaGreat.Dt
