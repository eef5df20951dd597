/- The document's order of events: each list that Sort answers rises, is its own order, and has of each dot the first event alone. Plain: no program is walked. -/
import Derived.Test.YtbaiiidkffafmaaESort
namespace Go.Proofs.Ytbaiiidkffafmaa.Ev
open Go.ChangeShapes Go.WideShapes Go.ChangeAt Go.RowKit
set_option linter.unusedVariables false

theorem ahead_iff (a b : Dt.Dot) : Dt.aheadD a b = true ↔ a.1 < b.1 ∨ (a.1 = b.1 ∧ a.2 < b.2) := decide_eq_true_iff
theorem ahead_trans {a b c : Dt.Dot} (h1 : Dt.aheadD a b = true) (h2 : Dt.aheadD b c = true) : Dt.aheadD a c = true := by
  rw [ahead_iff] at *
  omega
theorem ahead_total {a b : Dt.Dot} (h : ¬ Dt.aheadD a b = true) (hn : b ≠ a) : Dt.aheadD b a = true := by
  rw [ahead_iff] at *
  have h3 : ¬ (b.1 = a.1 ∧ b.2 = a.2) := fun h => hn (Prod.ext h.1 h.2)
  omega
theorem ahead_not {a b : Dt.Dot} (h : Dt.aheadD a b = true) : ¬ Dt.aheadD b a = true := by
  rw [ahead_iff] at *
  omega
theorem ahead_ne {a b : Dt.Dot} (h : Dt.aheadD a b = true) : a ≠ b := by
  rw [ahead_iff] at h
  intro e
  subst e
  omega
theorem take_all {α : Type} (f : α → Bool) (l : List α) (h : ∀ x ∈ l, f x = true) : l.takeWhile f = l := by
  induction l with
  | nil => rfl
  | cons x l ih => rw [List.takeWhile_cons, h x (List.mem_cons_self ..), if_pos rfl, ih (fun y hy => h y (List.mem_cons_of_mem _ hy))]
theorem drop_all {α : Type} (f : α → Bool) (l : List α) (h : ∀ x ∈ l, f x = true) : l.dropWhile f = [] := by
  induction l with
  | nil => rfl
  | cons x l ih => rw [List.dropWhile_cons, h x (List.mem_cons_self ..), if_pos rfl, ih (fun y hy => h y (List.mem_cons_of_mem _ hy))]
/-- does the new event stand ahead of one? -/
def aft (e : Evt) (x : Evt) : Bool := Dt.aheadD e.dot x.dot
def nft (e : Evt) (x : Evt) : Bool := !aft e x
theorem step_true (e x : Evt) (acc : List Evt) : stepE e (true, acc) x = (true, acc ++ [x]) := by
  unfold stepE
  rw [if_neg (fun h => by cases h.2)]
theorem fold_true (e : Evt) (m acc : List Evt) : m.foldl (stepE e) (true, acc) = (true, acc ++ m) := by
  induction m generalizing acc with
  | nil => simp
  | cons x m ih => rw [List.foldl_cons, step_true, ih, List.append_assoc]; rfl
theorem fold_false (e : Evt) (m acc : List Evt) : m.foldl (stepE e) (false, acc) = if m.any (aft e) = true then (true, acc ++ (m.takeWhile (nft e) ++ e :: m.dropWhile (nft e))) else (false, acc ++ m) := by
  induction m generalizing acc with
  | nil => simp
  | cons x m ih =>
    rw [List.foldl_cons]
    cases hx : aft e x with
    | true =>
      have h1 : stepE e (false, acc) x = (true, acc ++ [e, x]) := by unfold stepE; rw [if_pos ⟨hx, rfl⟩]
      have h2 : nft e x = false := by unfold nft; rw [hx]; rfl
      rw [h1, fold_true, if_pos (by simp [hx])]
      simp [h2]
    | false =>
      have h1 : stepE e (false, acc) x = (false, acc ++ [x]) := by unfold stepE; rw [if_neg (fun h => by have := h.1; unfold aft at hx; rw [hx] at this; cases this)]
      have h2 : nft e x = true := by unfold nft; rw [hx]; rfl
      rw [h1, ih]
      by_cases hm : m.any (aft e) = true
      · rw [if_pos hm, if_pos (by simp [hm, hx])]
        simp [h2]
      · rw [if_neg hm, if_neg (by simp only [List.any_cons, hx, Bool.false_or]; exact hm)]
        simp
/-- an event more, where none has its dot. -/
theorem put_new {l : List Evt} {e : Evt} (h : ∀ x ∈ l, x.dot ≠ e.dot) : putE l e = l.takeWhile (nft e) ++ e :: l.dropWhile (nft e) := by
  have h1 : stE l e l.length = if l.any (aft e) = true then (true, [] ++ (l.takeWhile (nft e) ++ e :: l.dropWhile (nft e))) else (false, [] ++ l) := by
    unfold stE
    rw [List.take_of_length_le (Nat.le_refl _), fold_false]
  unfold putE
  rw [if_neg (fun ⟨x, hx, hd⟩ => h x hx hd), h1]
  by_cases ha : l.any (aft e) = true
  · rw [if_pos ha, if_pos rfl]; rfl
  · rw [if_neg ha, if_neg (by simp)]
    have h2 : ∀ x ∈ l, nft e x = true := fun x hx => by
      unfold nft
      cases hf : aft e x with
      | false => rfl
      | true => exact absurd (List.any_eq_true.2 ⟨x, hx, hf⟩) ha
    have h3 := take_all (nft e) l h2
    have h4 := drop_all (nft e) l h2
    rw [h3, h4]; rfl
/-- events that rise. -/
def OrdE (l : List Evt) : Prop := l.Pairwise fun a b => Dt.aheadD a.dot b.dot = true
theorem put_ord {l : List Evt} (e : Evt) (h : OrdE l) : OrdE (putE l e) := by
  by_cases hd : ∃ x ∈ l, x.dot = e.dot
  · unfold putE
    rw [if_pos hd]
    exact h
  · have hn : ∀ x ∈ l, x.dot ≠ e.dot := fun x hx hxd => hd ⟨x, hx, hxd⟩
    rw [put_new hn]
    have hl := List.takeWhile_append_dropWhile (p := nft e) (l := l)
    have h2 : OrdE (l.takeWhile (nft e) ++ l.dropWhile (nft e)) := by rw [hl]; exact h
    unfold OrdE at h2 ⊢
    rw [List.pairwise_append] at h2 ⊢
    obtain ⟨p1, p2, p3⟩ := h2
    have hb : ∀ b ∈ l.dropWhile (nft e), Dt.aheadD e.dot b.dot = true := by
      intro b hb
      cases hdw : l.dropWhile (nft e) with
      | nil => rw [hdw] at hb; cases hb
      | cons b0 r =>
        have h0 : nft e b0 = false := by
          have := List.head_dropWhile_not (nft e) (l := l) (by rw [hdw]; simp)
          simpa [hdw] using this
        have h1 : Dt.aheadD e.dot b0.dot = true := by unfold nft aft at h0; simpa using h0
        rw [hdw] at hb p2
        rcases List.mem_cons.1 hb with rfl | hb
        · exact h1
        · exact ahead_trans h1 ((List.pairwise_cons.1 p2).1 b hb)
    have ha : ∀ a ∈ l.takeWhile (nft e), Dt.aheadD a.dot e.dot = true := by
      intro a ha
      have h0 : nft e a = true := (List.all_eq_true.1 List.all_takeWhile) a ha
      have h1 : ¬ Dt.aheadD e.dot a.dot = true := by unfold nft aft at h0; simpa using h0
      exact ahead_total h1 (hn a ((List.takeWhile_sublist _).mem ha))
    refine ⟨p1, List.pairwise_cons.2 ⟨hb, p2⟩, fun a ha2 b hb2 => ?_⟩
    rcases List.mem_cons.1 hb2 with rfl | hb2
    · exact ha a ha2
    · exact p3 a ha2 b hb2
theorem sort_ord (l : List Evt) : OrdE (sortE l) := by
  have h : ∀ (m acc : List Evt), OrdE acc → OrdE (m.foldl putE acc) := by
    intro m
    induction m with
    | nil => intro acc h; exact h
    | cons x m ih => intro acc h; exact ih _ (put_ord x h)
  exact h l [] List.Pairwise.nil
theorem put_last {l : List Evt} {e : Evt} (h : ∀ x ∈ l, Dt.aheadD x.dot e.dot = true) : putE l e = l ++ [e] := by
  rw [put_new (fun x hx => ahead_ne (h x hx))]
  have h2 : ∀ x ∈ l, nft e x = true := fun x hx => by
    unfold nft aft
    cases hf : Dt.aheadD e.dot x.dot with
    | false => rfl
    | true => exact absurd hf (ahead_not (h x hx))
  rw [take_all (nft e) l h2, drop_all (nft e) l h2]
/-- what rises is its own order. -/
theorem sort_same {l : List Evt} (h : OrdE l) : sortE l = l := by
  have hk : ∀ k, k ≤ l.length → sortE (l.take k) = l.take k := by
    intro k
    induction k with
    | zero => intro _; rfl
    | succ k ih =>
      intro hk
      have hx := List.getElem?_eq_getElem (show k < l.length by omega)
      rw [sort_next hx, ih (by omega), take_one hx]
      refine put_last (fun x hx2 => ?_)
      obtain ⟨j, hj, rfl⟩ := List.getElem_of_mem hx2
      rw [List.getElem_take]
      rw [List.length_take] at hj
      exact List.pairwise_iff_getElem.1 h j k (by omega) (by omega) (by omega)
  have := hk l.length (Nat.le_refl _)
  rwa [List.take_of_length_le (Nat.le_refl _)] at this
theorem sort_twice (l : List Evt) : sortE (sortE l) = sortE l := sort_same (sort_ord l)
/-- neighbours in the order. -/
theorem sort_cmp {l : List Evt} {k : Nat} {a b : Evt} (ha : (sortE l)[k]? = some a) (hb : (sortE l)[k + 1]? = some b) : Dt.aheadD a.dot b.dot = true := by
  obtain ⟨h1, rfl⟩ := List.getElem?_eq_some_iff.1 ha
  obtain ⟨h2, rfl⟩ := List.getElem?_eq_some_iff.1 hb
  exact List.pairwise_iff_getElem.1 (sort_ord l) k (k + 1) h1 h2 (Nat.lt_succ_self _)
theorem put_mem {l : List Evt} {e : Evt} (x : Evt) : x ∈ putE l e ↔ x ∈ l ∨ ((∀ y ∈ l, y.dot ≠ e.dot) ∧ x = e) := by
  by_cases hd : ∃ y ∈ l, y.dot = e.dot
  · obtain ⟨y, hy, hye⟩ := hd
    have h1 : putE l e = l := by unfold putE; rw [if_pos ⟨y, hy, hye⟩]
    rw [h1]
    exact ⟨.inl, fun h => h.resolve_right (fun h2 => h2.1 y hy hye)⟩
  · have hn : ∀ y ∈ l, y.dot ≠ e.dot := fun y hy h => hd ⟨y, hy, h⟩
    rw [put_new hn, List.mem_append, List.mem_cons]
    have hl := List.takeWhile_append_dropWhile (p := nft e) (l := l)
    constructor
    · rintro (h | h | h)
      · exact .inl (by rw [← hl]; exact List.mem_append_left _ h)
      · exact .inr ⟨hn, h⟩
      · exact .inl (by rw [← hl]; exact List.mem_append_right _ h)
    · rintro (h | ⟨_, h⟩)
      · rw [← hl, List.mem_append] at h
        rcases h with h | h
        · exact .inl h
        · exact .inr (.inr h)
      · exact .inr (.inl h)
/-- each dot that was met is there. -/
theorem dot_there (l : List Evt) (k : Nat) : ∀ (i : Nat) (y : Evt), i < k → l[i]? = some y → ∃ z ∈ sortE (l.take k), z.dot = y.dot := by
  induction k with
  | zero => intro i y hi; omega
  | succ k ih =>
    intro i y hi hy
    rcases Nat.lt_or_ge k l.length with hk | hk
    · have hx := List.getElem?_eq_getElem hk
      rw [sort_next hx]
      rcases Nat.lt_succ_iff_lt_or_eq.1 hi with h | rfl
      · obtain ⟨z, hz, hd⟩ := ih i y h hy
        exact ⟨z, (put_mem z).2 (.inl hz), hd⟩
      · rw [hx] at hy
        cases hy
        by_cases hd : ∃ z ∈ sortE (l.take i), z.dot = l[i].dot
        · obtain ⟨z, hz, hzd⟩ := hd
          exact ⟨z, (put_mem z).2 (.inl hz), hzd⟩
        · exact ⟨l[i], (put_mem _).2 (.inr ⟨fun z hz h => hd ⟨z, hz, h⟩, rfl⟩), rfl⟩
    · have h1 : i < k := by have := (List.getElem?_eq_some_iff.1 hy).1; omega
      have e : l.take (k + 1) = l.take k := by rw [List.take_of_length_le (by omega), List.take_of_length_le hk]
      rw [e]
      exact ih i y h1 hy
/-- the first one with its dot. -/
def FirstE (l : List Evt) (x : Evt) : Prop := ∃ j : Nat, l[j]? = some x ∧ ∀ (i : Nat) (y : Evt), i < j → l[i]? = some y → y.dot ≠ x.dot
theorem sort_first (l : List Evt) (k : Nat) (x : Evt) : x ∈ sortE (l.take k) ↔ ∃ j : Nat, j < k ∧ l[j]? = some x ∧ ∀ (i : Nat) (y : Evt), i < j → l[i]? = some y → y.dot ≠ x.dot := by
  induction k with
  | zero => exact ⟨fun h => (by cases h), fun ⟨j, hj, _⟩ => by omega⟩
  | succ k ih =>
    rcases Nat.lt_or_ge k l.length with hk | hk
    · have hx := List.getElem?_eq_getElem hk
      rw [sort_next hx, put_mem, ih]
      constructor
      · rintro (⟨j, hj, h1, h2⟩ | ⟨h1, rfl⟩)
        · exact ⟨j, by omega, h1, h2⟩
        · refine ⟨k, Nat.lt_succ_self k, hx, fun i y hi hy hd => ?_⟩
          obtain ⟨z, hz, hzd⟩ := dot_there l k i y hi hy
          exact h1 z hz (hzd.trans hd)
      · rintro ⟨j, hj, h1, h2⟩
        rcases Nat.lt_succ_iff_lt_or_eq.1 hj with h | rfl
        · exact .inl ⟨j, h, h1, h2⟩
        · rw [hx] at h1
          cases h1
          refine .inr ⟨fun y hy hd => ?_, rfl⟩
          have hy2 : ∃ i : Nat, i < j ∧ l[i]? = some y := by
            have hm : ∀ (m : Nat) (y : Evt), y ∈ sortE (l.take m) → ∃ i : Nat, i < m ∧ l[i]? = some y := by
              intro m
              induction m with
              | zero => intro y h; cases h
              | succ m ihm =>
                intro y h
                rcases Nat.lt_or_ge m l.length with hm | hm
                · rw [sort_next (List.getElem?_eq_getElem hm), put_mem] at h
                  rcases h with h | ⟨_, rfl⟩
                  · obtain ⟨i, hi, h3⟩ := ihm y h
                    exact ⟨i, by omega, h3⟩
                  · exact ⟨m, Nat.lt_succ_self m, List.getElem?_eq_getElem hm⟩
                · have e : l.take (m + 1) = l.take m := by rw [List.take_of_length_le (by omega), List.take_of_length_le hm]
                  rw [e] at h
                  obtain ⟨i, hi, h3⟩ := ihm y h
                  exact ⟨i, by omega, h3⟩
            exact hm j y hy
          obtain ⟨i, hi, h3⟩ := hy2
          exact h2 i y hi h3 hd
    · have e : l.take (k + 1) = l.take k := by rw [List.take_of_length_le (by omega), List.take_of_length_le hk]
      rw [e, ih]
      exact ⟨fun ⟨j, hj, h⟩ => ⟨j, by omega, h⟩, fun ⟨j, hj, h1, h2⟩ => ⟨j, by have := (List.getElem?_eq_some_iff.1 h1).1; omega, h1, h2⟩⟩
theorem sort_mem (l : List Evt) (x : Evt) : x ∈ sortE l ↔ FirstE l x := by
  have h := sort_first l l.length x
  rw [List.take_of_length_le (Nat.le_refl _)] at h
  rw [h]
  exact ⟨fun ⟨j, _, h1, h2⟩ => ⟨j, h1, h2⟩, fun ⟨j, h1, h2⟩ => ⟨j, (List.getElem?_eq_some_iff.1 h1).1, h1, h2⟩⟩
/-- two lists that rise and have the same events are the same. -/
theorem ord_uniq {l m : List Evt} (hl : OrdE l) (hm : OrdE m) (h : ∀ x, x ∈ l ↔ x ∈ m) : l = m := by
  induction l generalizing m with
  | nil =>
    cases m with
    | nil => rfl
    | cons y m => exact absurd ((h y).2 (List.mem_cons_self ..)) (by simp)
  | cons x l ih =>
    cases m with
    | nil => exact absurd ((h x).1 (List.mem_cons_self ..)) (by simp)
    | cons y m =>
      obtain ⟨a1, a2⟩ := List.pairwise_cons.1 hl
      obtain ⟨b1, b2⟩ := List.pairwise_cons.1 hm
      have hxy : x = y := by
        rcases List.mem_cons.1 ((h x).1 (List.mem_cons_self ..)) with e | e
        · exact e
        · rcases List.mem_cons.1 ((h y).2 (List.mem_cons_self ..)) with e2 | e2
          · exact e2.symm
          · exact absurd (b1 x e) (ahead_not (a1 y e2))
      subst hxy
      rw [ih a2 b2 (fun z => ?_)]
      constructor
      · intro hz
        rcases List.mem_cons.1 ((h z).1 (List.mem_cons_of_mem _ hz)) with e | e
        · subst e
          exact absurd rfl (ahead_ne (a1 z hz))
        · exact e
      · intro hz
        rcases List.mem_cons.1 ((h z).2 (List.mem_cons_of_mem _ hz)) with e | e
        · subst e
          exact absurd rfl (ahead_ne (b1 z hz))
        · exact e
theorem sort_uniq {l m : List Evt} (hm : OrdE m) (h : ∀ x, x ∈ m ↔ FirstE l x) : m = sortE l := ord_uniq hm (sort_ord l) (fun x => by rw [h, sort_mem])
end Go.Proofs.Ytbaiiidkffafmaa.Ev
