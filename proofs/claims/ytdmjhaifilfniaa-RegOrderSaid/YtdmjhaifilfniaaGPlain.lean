/- Values of a field: the winner, all texts, the line that is shown. Plain: nothing is asked of a program. -/
import Derived.Test.YtdmjhaifilfniaaKLines
import Derived.Sort.Walk0
import Derived.Sort.LotA
namespace Go.Proofs.Ytdmjhaifilfniaa.Rg
open Go.ChangeShapes Go.WideShapes Go.ChangeAt Go.RowKit
set_option linter.unusedVariables false

/-- a text stands ahead of another one, byte by byte. -/
def ltT (a b : ByteArray) : Bool := Op.bytesLess a.toList b.toList
theorem toList_inj {a b : ByteArray} (h : a.toList = b.toList) : a = b := by
  have h2 := Kd.eq_texts a b
  rw [h] at h2
  simpa using h2
theorem ltT_str (a b : ByteArray) : ltT a b = Go.Sort.ltStr a.toList b.toList := Go.Proofs.bytesLess_eq _ _
theorem ltT_irr (a : ByteArray) : ltT a a = false := by rw [ltT_str]; exact Go.Sort.swo_ltStr.irrefl _
theorem ltT_trans {a b c : ByteArray} (h1 : ltT a b = true) (h2 : ltT b c = true) : ltT a c = true := by
  rw [ltT_str] at *
  exact Go.Sort.swo_ltStr.trans _ _ _ h1 h2
theorem ltT_ne {a b : ByteArray} (h : ltT a b = true) : a ≠ b := fun e => by rw [e, ltT_irr] at h; cases h
theorem ltT_not {a b : ByteArray} (h : ltT a b = true) : ltT b a = false := by
  cases h2 : ltT b a with
  | false => rfl
  | true => have := ltT_trans h h2; rw [ltT_irr] at this; cases this
theorem less_total : ∀ x y : List UInt8, Op.bytesLess x y = false → x ≠ y → Op.bytesLess y x = true
  | [], [], _, hn => absurd rfl hn
  | [], _ :: _, h, _ => by simp [Op.bytesLess] at h
  | _ :: _, [], _, _ => by simp [Op.bytesLess]
  | a :: x, b :: y, h, hn => by
    simp only [Op.bytesLess, Bool.or_eq_false_iff, Bool.and_eq_false_iff, decide_eq_false_iff_not] at h
    simp only [Op.bytesLess, Bool.or_eq_true, Bool.and_eq_true, decide_eq_true_eq, beq_iff_eq]
    obtain ⟨h1, h2⟩ := h
    by_cases hab : a = b
    · subst hab
      right
      refine ⟨rfl, less_total x y ?_ (fun e => hn (by rw [e]))⟩
      rcases h2 with h2 | h2
      · simp at h2
      · exact h2
    · left
      have h3 : ¬ a.toNat < b.toNat := h1
      have h4 : a.toNat ≠ b.toNat := fun e => hab (UInt8.toNat_inj.1 e)
      show b.toNat < a.toNat
      omega
theorem ltT_total {a b : ByteArray} (h : ltT a b = false) (hn : a ≠ b) : ltT b a = true := less_total _ _ h (fun e => hn (toList_inj e))
/-- texts in order, each once. -/
def OrdT (l : List ByteArray) : Prop := l.Pairwise (fun a b => ltT a b = true)
/-- a text behind another one, as a program asks it. -/
def gtT (a b : ByteArray) : Bool := !(Op.bytesLess a.toList b.toList || a.toList == b.toList)
theorem gtT_eq (a b : ByteArray) : gtT a b = ltT b a := by
  unfold gtT
  rw [Kd.eq_texts]
  cases h : ltT b a with
  | true =>
    have h1 : Op.bytesLess a.toList b.toList = false := ltT_not h
    have h2 : a ≠ b := (ltT_ne h).symm
    rw [h1, decide_eq_false h2]; rfl
  | false =>
    by_cases hab : a = b
    · rw [decide_eq_true hab]; simp
    · have h1 : Op.bytesLess a.toList b.toList = true := ltT_total h (fun e => hab e.symm)
      rw [h1]; rfl
/-- a text more, in its place, each once. -/
def putT (l : List ByteArray) (s : ByteArray) : List ByteArray := l.filter (fun x => ltT x s) ++ [s] ++ l.filter (fun x => gtT x s)
/-- all texts. -/
def textsT (l : List ByteArray) : List ByteArray := l.foldl putT []
theorem put_mem {l : List ByteArray} {s : ByteArray} (x : ByteArray) : x ∈ putT l s ↔ x ∈ l ∨ x = s := by
  unfold putT
  simp only [List.mem_append, List.mem_filter, List.mem_singleton, gtT_eq]
  constructor
  · rintro ((⟨h, _⟩ | h) | ⟨h, _⟩)
    · exact .inl h
    · exact .inr h
    · exact .inl h
  · rintro (h | h)
    · by_cases hx : x = s
      · exact .inl (.inr hx)
      · cases hl : ltT x s with
        | true => exact .inl (.inl ⟨h, rfl⟩)
        | false => exact .inr ⟨h, ltT_total hl hx⟩
    · exact .inl (.inr h)
theorem put_ord {l : List ByteArray} (s : ByteArray) (h : OrdT l) : OrdT (putT l s) := by
  unfold OrdT putT
  rw [List.pairwise_append, List.pairwise_append]
  refine ⟨⟨h.sublist List.filter_sublist, List.pairwise_singleton _ _, fun a ha b hb => ?_⟩, h.sublist List.filter_sublist, fun a ha b hb => ?_⟩
  · rw [List.mem_singleton] at hb
    subst hb
    exact (List.mem_filter.1 ha).2
  · have hb2 := (List.mem_filter.1 hb).2
    rw [gtT_eq] at hb2
    rcases List.mem_append.1 ha with ha | ha
    · exact ltT_trans (List.mem_filter.1 ha).2 hb2
    · rw [List.mem_singleton] at ha
      subst ha
      exact hb2
theorem texts_from (l m : List ByteArray) (h : OrdT m) : OrdT (l.foldl putT m) ∧ ∀ x, x ∈ l.foldl putT m ↔ x ∈ m ∨ x ∈ l := by
  induction l generalizing m with
  | nil => exact ⟨h, fun x => by simp⟩
  | cons s l ih =>
    obtain ⟨h1, h2⟩ := ih (putT m s) (put_ord s h)
    refine ⟨h1, fun x => ?_⟩
    rw [List.foldl_cons, h2, put_mem, List.mem_cons, or_assoc]
theorem texts_ord (l : List ByteArray) : OrdT (textsT l) := (texts_from l [] List.Pairwise.nil).1
theorem texts_mem (l : List ByteArray) (x : ByteArray) : x ∈ textsT l ↔ x ∈ l := by rw [show textsT l = l.foldl putT [] from rfl, (texts_from l [] List.Pairwise.nil).2]; simp
theorem ord_uniq : ∀ {l m : List ByteArray}, OrdT l → OrdT m → (∀ x, x ∈ l ↔ x ∈ m) → l = m
  | [], [], _, _, _ => rfl
  | [], b :: m, _, _, h => by have := (h b).2 (by simp); simp at this
  | a :: l, [], _, _, h => by have := (h a).1 (by simp); simp at this
  | a :: l, b :: m, hl, hm, h => by
    obtain ⟨h1, h2⟩ := List.pairwise_cons.1 hl
    obtain ⟨h3, h4⟩ := List.pairwise_cons.1 hm
    have e : a = b := by
      rcases List.mem_cons.1 ((h a).1 (by simp)) with e | e
      · exact e
      · rcases List.mem_cons.1 ((h b).2 (by simp)) with e2 | e2
        · exact e2.symm
        · have q1 := h1 b e2
          have q2 := h3 a e
          rw [ltT_not q1] at q2; cases q2
    subst e
    congr 1
    refine ord_uniq h2 h4 (fun x => ⟨fun hx => ?_, fun hx => ?_⟩)
    · rcases List.mem_cons.1 ((h x).1 (List.mem_cons_of_mem _ hx)) with e | e
      · have := h1 x hx; rw [e, ltT_irr] at this; cases this
      · exact e
    · rcases List.mem_cons.1 ((h x).2 (List.mem_cons_of_mem _ hx)) with e | e
      · have := h3 x hx; rw [e, ltT_irr] at this; cases this
      · exact e
theorem texts_same {l m : List ByteArray} (h : ∀ x, x ∈ l ↔ x ∈ m) : textsT l = textsT m :=
  ord_uniq (texts_ord l) (texts_ord m) (fun x => by rw [texts_mem, texts_mem, h])
theorem texts_next {l : List ByteArray} {k : Nat} {x : ByteArray} (h : l[k]? = some x) : textsT (l.take (k + 1)) = putT (textsT (l.take k)) x := by
  unfold textsT
  rw [List.take_add_one, h, List.foldl_append]; rfl
theorem put_long (l : List ByteArray) (s : ByteArray) (h : OrdT l) : (putT l s).length ≤ l.length + 1 := by
  have hp : ∀ m : List ByteArray, (m.filter (fun x => ltT x s)).length + (m.filter (fun x => gtT x s)).length ≤ m.length := by
    intro m
    induction m with
    | nil => simp
    | cons x m ih =>
      rw [List.filter_cons, List.filter_cons, List.length_cons]
      cases h1 : ltT x s with
      | true =>
        have h2 : gtT x s = false := by rw [gtT_eq]; exact ltT_not h1
        rw [h2]
        simp only [reduceIte, Bool.false_eq_true, List.length_cons]
        omega
      | false =>
        cases gtT x s <;> simp only [reduceIte, Bool.false_eq_true, List.length_cons] <;> omega
  have := hp l
  unfold putT
  simp only [List.length_append, List.length_cons, List.length_nil]
  omega
theorem texts_long (l : List ByteArray) : (textsT l).length ≤ l.length := by
  have h : ∀ (l m : List ByteArray), OrdT m → (l.foldl putT m).length ≤ m.length + l.length := by
    intro l
    induction l with
    | nil => intro m _; simp
    | cons s l ih =>
      intro m hm
      have h1 := ih (putT m s) (put_ord s hm)
      have h2 := put_long m s hm
      rw [List.foldl_cons, List.length_cons]
      omega
  have := h l [] List.Pairwise.nil
  simpa [textsT] using this

/-- a value: its dot, and its text. -/
abbrev Vl := Dt.Dot × ByteArray
/-- does a value win against another one? -/
def winB (a b : Vl) : Bool := decide (b.1.2 < a.1.2) || decide (a.1.2 = b.1.2) && decide (b.1.1 < a.1.1)
def winStep (w x : Vl) : Vl := if winB x w = true then x else w
/-- the winner, beginning with w. -/
def winF (w : Vl) (l : List Vl) : Vl := l.foldl winStep w
/-- the winner; of no values an empty one. -/
def winV (l : List Vl) : Vl := match l with | [] => ((0, 0), ⟨#[]⟩) | w :: l => winF w l
theorem win_iff (a b : Vl) : winB a b = true ↔ b.1.2 < a.1.2 ∨ (a.1.2 = b.1.2 ∧ b.1.1 < a.1.1) := by
  unfold winB
  simp
theorem win_from : ∀ (l : List Vl) (w : Vl), (winF w l = w ∨ winF w l ∈ l) ∧ (∀ x, x = w ∨ x ∈ l → winB x (winF w l) = false)
  | [], w => ⟨.inl rfl, fun x hx => by
      rcases hx with rfl | hx
      · show winB x x = false
        cases h : winB x x with
        | false => rfl
        | true => have := (win_iff x x).1 h; omega
      · cases hx⟩
  | y :: l, w => by
    have ih := win_from l (winStep w y)
    have e : winF w (y :: l) = winF (winStep w y) l := rfl
    rw [e]
    have hs : winStep w y = w ∧ winB y w = false ∨ winStep w y = y ∧ winB y w = true := by
      unfold winStep
      cases h : winB y w with
      | true => right; simp
      | false => left; simp
    have hle : ∀ x, x = w ∨ x = y → winB x (winF (winStep w y) l) = false := by
      intro x hx
      have h0 := ih.2 (winStep w y) (.inl rfl)
      cases h : winB x (winF (winStep w y) l) with
      | false => rfl
      | true =>
        have h1 := (win_iff _ _).1 h
        have h2 : ¬ ((winF (winStep w y) l).1.2 < (winStep w y).1.2 ∨ ((winStep w y).1.2 = (winF (winStep w y) l).1.2 ∧ (winF (winStep w y) l).1.1 < (winStep w y).1.1)) := fun hh => by rw [(win_iff _ _).2 hh] at h0; cases h0
        generalize winF (winStep w y) l = z at h1 h2
        rcases hs with ⟨q, hq⟩ | ⟨q, hq⟩
        · have h3 : ¬ (w.1.2 < y.1.2 ∨ (y.1.2 = w.1.2 ∧ w.1.1 < y.1.1)) := fun hh => by rw [(win_iff _ _).2 hh] at hq; cases hq
          rw [q] at h2
          rcases hx with rfl | rfl <;> omega
        · have h3 := (win_iff _ _).1 hq
          rw [q] at h2
          rcases hx with rfl | rfl <;> omega
    refine ⟨?_, fun x hx => ?_⟩
    · rcases ih.1 with h | h
      · rcases hs with ⟨q, _⟩ | ⟨q, _⟩
        · left; rw [h, q]
        · right; rw [h, q]; simp
      · right; exact List.mem_cons_of_mem _ h
    · rcases hx with hx | hx
      · exact hle x (.inl hx)
      · rcases List.mem_cons.1 hx with hx | hx
        · exact hle x (.inr hx)
        · exact ih.2 x (.inr hx)
theorem win_mem {l : List Vl} (h : l ≠ []) : winV l ∈ l := by
  cases l with
  | nil => exact absurd rfl h
  | cons w l =>
    rcases (win_from l w).1 with e | e
    · show winF w l ∈ _
      rw [e]; simp
    · exact List.mem_cons_of_mem _ e
theorem win_best {l : List Vl} {x : Vl} (h : x ∈ l) : winB x (winV l) = false := by
  cases l with
  | nil => cases h
  | cons w l => exact (win_from l w).2 x (List.mem_cons.1 h)
/-- of values with unlike dots the winner hangs on no order. -/
theorem win_same {l m : List Vl} (h : ∀ x, x ∈ l ↔ x ∈ m) (hd : ∀ x y, x ∈ l → y ∈ l → x.1 = y.1 → x = y) : winV l = winV m := by
  by_cases h0 : l = []
  · subst h0
    have : m = [] := List.eq_nil_iff_forall_not_mem.2 (fun x hx => by have := (h x).2 hx; cases this)
    rw [this]
  · have hm0 : m ≠ [] := fun e => h0 (List.eq_nil_iff_forall_not_mem.2 (fun x hx => by have := (h x).1 hx; rw [e] at this; cases this))
    have h1 := win_mem h0
    have h2 := (h _).2 (win_mem hm0)
    have h3 := win_best h2
    have h4 := win_best ((h _).1 h1)
    refine hd _ _ h1 h2 ?_
    have q3 : ¬ ((winV l).1.2 < (winV m).1.2 ∨ ((winV m).1.2 = (winV l).1.2 ∧ (winV l).1.1 < (winV m).1.1)) := fun hh => by rw [(win_iff _ _).2 hh] at h3; cases h3
    have q4 : ¬ ((winV m).1.2 < (winV l).1.2 ∨ ((winV l).1.2 = (winV m).1.2 ∧ (winV m).1.1 < (winV l).1.1)) := fun hh => by rw [(win_iff _ _).2 hh] at h4; cases h4
    exact Prod.ext (by omega) (by omega)
/-- all other texts. -/
noncomputable def otherT (s : ByteArray) (l : List ByteArray) : List ByteArray := by
  classical exact l.filter (fun x => decide (x ≠ s))
/-- the line that is shown. -/
noncomputable def showV (f : Nat) (l : List Vl) : Kd.Ln := match l with | [] => (0, ⟨#[]⟩, []) | _ => (f, (winV l).2, otherT (winV l).2 (textsT (l.map Prod.snd)))
theorem show_same {f : Nat} {l m : List Vl} (h : ∀ x, x ∈ l ↔ x ∈ m) (hd : ∀ x y, x ∈ l → y ∈ l → x.1 = y.1 → x = y) : showV f l = showV f m := by
  have hw := win_same h hd
  have ht : textsT (l.map Prod.snd) = textsT (m.map Prod.snd) := texts_same (fun x => by
    simp only [List.mem_map]
    exact ⟨fun ⟨a, ha, e⟩ => ⟨a, (h a).1 ha, e⟩, fun ⟨a, ha, e⟩ => ⟨a, (h a).2 ha, e⟩⟩)
  cases l with
  | nil =>
    have : m = [] := List.eq_nil_iff_forall_not_mem.2 (fun x hx => by have := (h x).2 hx; cases this)
    rw [this]
  | cons a l =>
    cases m with
    | nil => have := (h a).1 (by simp); cases this
    | cons b m =>
      show (f, (winV (a :: l)).2, otherT (winV (a :: l)).2 (textsT ((a :: l).map Prod.snd))) = _
      rw [hw, ht]
      rfl
theorem other_mem {s x : ByteArray} {l : List ByteArray} : x ∈ otherT s l ↔ x ∈ l ∧ x ≠ s := by
  unfold otherT
  simp
theorem other_ord {s : ByteArray} {l : List ByteArray} (h : OrdT l) : OrdT (otherT s l) := h.sublist List.filter_sublist
/-- how many there are. -/
theorem other_len {s : ByteArray} {l : List ByteArray} (h : OrdT l) (hs : s ∈ l) : (otherT s l).length + 1 = l.length := by
  induction l with
  | nil => cases hs
  | cons x l ih =>
    obtain ⟨h1, h2⟩ := List.pairwise_cons.1 h
    by_cases hx : x = s
    · subst hx
      have e : otherT x l = l := by
        unfold otherT
        rw [List.filter_eq_self]
        intro y hy
        simpa using (ltT_ne (h1 y hy)).symm
      have e2 : otherT x (x :: l) = otherT x l := by unfold otherT; simp
      rw [e2, e, List.length_cons]
    · have hs2 : s ∈ l := by
        rcases List.mem_cons.1 hs with e | e
        · exact absurd e.symm hx
        · exact e
      have e2 : otherT s (x :: l) = x :: otherT s l := by unfold otherT; simp [hx]
      rw [e2, List.length_cons, List.length_cons]
      have := ih h2 hs2
      omega
theorem texts_nil {l : List ByteArray} : textsT l = [] ↔ l = [] := by
  constructor
  · intro h
    refine List.eq_nil_iff_forall_not_mem.2 (fun x hx => ?_)
    have := (texts_mem l x).2 hx
    rw [h] at this
    cases this
  · rintro rfl; rfl
end Go.Proofs.Ytdmjhaifilfniaa.Rg
