/- Plain words for the claims of layer field: what a text, its quotes and what is unquoted are, as lists of bytes. No program is named; no condition. -/
import Derived.Test.YtdmjhaifilfniaaProg
namespace Go.Proofs.Ytdmjhaifilfniaa.Fd
set_option linter.unusedVariables false

/-- has a byte another one ahead of it within quotes? -/
def spc (c : UInt8) : Bool := decide (c = 34 ∨ c = 92)
/-- may a byte stand in a value? -/
def okB (c : UInt8) : Bool := decide (32 ≤ c.toNat ∧ c.toNat ≤ 126)
/-- may a text be a value? -/
def textB (l : List UInt8) : Bool := l.all okB && decide (l.length ≤ 60)
/-- what stands between the quotes. -/
def escB : List UInt8 → List UInt8
  | [] => []
  | c :: l => if spc c = true then 92 :: c :: escB l else c :: escB l
def quoB (l : List UInt8) : List UInt8 := 34 :: (escB l ++ [34])
theorem spc_of {c : UInt8} (h : c = 34 ∨ c = 92) : spc c = true := decide_eq_true h
theorem spc_not {c : UInt8} (h : ¬ (c = 34 ∨ c = 92)) : spc c = false := decide_eq_false h
theorem spc_iff {c : UInt8} : spc c = true ↔ c = 34 ∨ c = 92 := decide_eq_true_iff
theorem esc_snoc (l : List UInt8) (c : UInt8) : escB (l ++ [c]) = escB l ++ (if spc c = true then [92, c] else [c]) := by
  induction l with
  | nil => simp only [List.nil_append, escB]
  | cons d l ih => simp only [List.cons_append, escB, ih]; split <;> rfl
theorem esc_length (l : List UInt8) : (escB l).length ≤ 2 * l.length := by
  induction l with
  | nil => simp [escB]
  | cons d l ih => simp only [escB]; split <;> simp <;> omega

/-- a text that was read so far, ahead of what comes. -/
def pre (o : List UInt8) (x : Option (List UInt8 × List UInt8)) : Option (List UInt8 × List UInt8) := x.map fun p => (o ++ p.1, p.2)
theorem pre_nil (x : Option (List UInt8 × List UInt8)) : pre [] x = x := by cases x <;> rfl
theorem pre_pre (o m : List UInt8) (x : Option (List UInt8 × List UInt8)) : pre o (pre m x) = pre (o ++ m) x := by
  cases x with
  | none => rfl
  | some p => simp [pre]
theorem pre_none (o : List UInt8) : pre o none = none := rfl
theorem pre_some (o t r : List UInt8) : pre o (some (t, r)) = some (o ++ t, r) := rfl
/-- what is read behind the opening quote; has the byte before it another one to come? -/
def insB : Bool → List UInt8 → Option (List UInt8 × List UInt8)
  | _, [] => none
  | true, c :: l => if spc c = true then pre [c] (insB false l) else none
  | false, c :: l => if c = 34 then some ([], l) else if c = 92 then insB true l else pre [c] (insB false l)
theorem ins_end (b : Bool) : insB b [] = none := by cases b <;> rfl
theorem ins_quote (l : List UInt8) : insB false (34 :: l) = some ([], l) := rfl
theorem ins_escape (l : List UInt8) : insB false (92 :: l) = insB true l := rfl
theorem ins_plain {c : UInt8} (h : spc c = false) (l : List UInt8) : insB false (c :: l) = pre [c] (insB false l) := by
  have h1 := of_decide_eq_false h
  simp only [insB]
  rw [if_neg (fun e => h1 (.inl e)), if_neg (fun e => h1 (.inr e))]
theorem ins_spc {c : UInt8} (h : spc c = true) (l : List UInt8) : insB true (c :: l) = pre [c] (insB false l) := by
  simp only [insB]; rw [if_pos h]
theorem ins_bad {c : UInt8} (h : spc c = false) (l : List UInt8) : insB true (c :: l) = none := by
  simp only [insB]; rw [if_neg (by simp [h])]

theorem ins_esc (l r : List UInt8) : insB false (escB l ++ 34 :: r) = some (l, r) := by
  induction l with
  | nil => rfl
  | cons c l ih =>
    simp only [escB]
    split
    · rename_i h
      simp only [List.cons_append]
      rw [ins_escape, ins_spc h, ih]
      rfl
    · rename_i h
      simp only [List.cons_append]
      rw [ins_plain (by simpa using h), ih]
      rfl
theorem ins_back (b : Bool) (l t r : List UInt8) (h : insB b l = some (t, r)) : (if b = true then [92] else []) ++ l = escB t ++ 34 :: r := by
  induction l generalizing b t with
  | nil => rw [ins_end] at h; cases h
  | cons c l ih =>
    have key : ∀ {t : List UInt8}, pre [c] (insB false l) = some (t, r) → ∃ t', t = c :: t' ∧ l = escB t' ++ 34 :: r := by
      intro t hp
      cases hi : insB false l with
      | none => rw [hi] at hp; cases hp
      | some p =>
        obtain ⟨t', r'⟩ := p
        rw [hi, pre_some] at hp
        have h1 := Option.some.inj hp
        obtain ⟨h2, h3⟩ := Prod.mk.inj h1
        subst h3
        exact ⟨t', h2.symm, by simpa using ih false t' hi⟩
    cases b with
    | true =>
      cases hs : spc c with
      | false => rw [ins_bad hs] at h; cases h
      | true =>
        rw [ins_spc hs] at h
        obtain ⟨t', rfl, hl⟩ := key h
        simp only [escB, hs, if_true]
        rw [hl]
        rfl
    | false =>
      by_cases h1 : c = 34
      · subst h1
        rw [ins_quote] at h
        obtain ⟨h2, h3⟩ := Prod.mk.inj (Option.some.inj h)
        subst h2 h3
        rfl
      · by_cases h2 : c = 92
        · subst h2
          rw [ins_escape] at h
          have := ih true t h
          simpa using this
        · have hs : spc c = false := spc_not (by rintro (h | h) <;> contradiction)
          rw [ins_plain hs] at h
          obtain ⟨t', rfl, hl⟩ := key h
          simp only [escB, hs]
          rw [hl]
          rfl

/-- what the document's Unquote says. -/
def keepT (x : Option (List UInt8 × List UInt8)) : Option (List UInt8 × List UInt8) :=
  match x with
  | some p => if textB p.1 = true then some p else none
  | none => none
def unqB (l : List UInt8) : Option (List UInt8 × List UInt8) :=
  match l with
  | [] => none
  | c :: l => if c = 34 then keepT (insB false l) else none
theorem keep_some {t r : List UInt8} (h : textB t = true) : keepT (some (t, r)) = some (t, r) := if_pos h
theorem keep_not {t r : List UInt8} (h : textB t = false) : keepT (some (t, r)) = none := if_neg (by simp [h])
theorem unq_one (l : List UInt8) : unqB (34 :: l) = keepT (insB false l) := rfl
theorem unq_other {c : UInt8} (h : ¬ c = 34) (l : List UInt8) : unqB (c :: l) = none := if_neg h
theorem unq_quo {l : List UInt8} (h : textB l = true) (r : List UInt8) : unqB (quoB l ++ r) = some (l, r) := by
  have : quoB l ++ r = 34 :: (escB l ++ 34 :: r) := by simp [quoB]
  rw [this, unq_one, ins_esc, keep_some h]
theorem unq_bad {l : List UInt8} (h : textB l = false) (r : List UInt8) : unqB (quoB l ++ r) = none := by
  have : quoB l ++ r = 34 :: (escB l ++ 34 :: r) := by simp [quoB]
  rw [this, unq_one, ins_esc, keep_not h]
theorem unq_back {l t r : List UInt8} (h : unqB l = some (t, r)) : quoB t ++ r = l ∧ textB t = true := by
  cases l with
  | nil => cases h
  | cons c l =>
    by_cases h1 : c = 34
    · subst h1
      rw [unq_one] at h
      cases hi : insB false l with
      | none => rw [hi] at h; cases h
      | some p =>
        obtain ⟨t', r'⟩ := p
        rw [hi] at h
        cases ht : textB t' with
        | false => rw [keep_not ht] at h; cases h
        | true =>
          rw [keep_some ht] at h
          obtain ⟨h2, h3⟩ := Prod.mk.inj (Option.some.inj h)
          subst h2 h3
          have h4 := ins_back false l _ _ hi
          refine ⟨?_, ht⟩
          simp at h4
          rw [h4]
          simp [quoB]
    · rw [unq_other h1] at h; cases h
/-- what is read is too long to be a value. -/
theorem keep_long {x : Option (List UInt8 × List UInt8)} (h : ∀ t r, x = some (t, r) → 60 < t.length) : keepT x = none := by
  cases x with
  | none => rfl
  | some p =>
    obtain ⟨t, r⟩ := p
    exact keep_not (by unfold textB; rw [decide_eq_false (by have := h t r rfl; omega), Bool.and_false])
theorem pre_long {o : List UInt8} {x : Option (List UInt8 × List UInt8)} (h : 60 < o.length) : ∀ t r, pre o x = some (t, r) → 60 < t.length := by
  intro t r hp
  cases x with
  | none => cases hp
  | some p =>
    obtain ⟨t', r'⟩ := p
    rw [pre_some] at hp
    obtain ⟨h2, h3⟩ := Prod.mk.inj (Option.some.inj hp)
    subst h2
    simp; omega
theorem pre_long2 {o l : List UInt8} (h : 60 ≤ o.length) : ∀ t r, pre o (insB true l) = some (t, r) → 60 < t.length := by
  intro t r hp
  cases l with
  | nil => cases hp
  | cons c l =>
    cases hs : spc c with
    | false => rw [ins_bad hs] at hp; cases hp
    | true =>
      rw [ins_spc hs, pre_pre] at hp
      exact pre_long (by simp; omega) t r hp

/-- the text, and what is behind it. -/
def tx (x : Option (List UInt8 × List UInt8)) : List UInt8 := match x with | some p => p.1 | none => []
def rs (x : Option (List UInt8 × List UInt8)) : List UInt8 := match x with | some p => p.2 | none => []

/-- a string of bytes. -/
def ba (l : List UInt8) : ByteArray := ⟨l.toArray⟩
theorem ba_size (l : List UInt8) : (ba l).size = l.length := by simp [ba, ByteArray.size]
theorem ba_add (l m : List UInt8) : ba l ++ ba m = ba (l ++ m) := by
  apply ByteArray.ext
  simp [ba]
theorem ba_list (s : ByteArray) : ba s.data.toList = s := by
  apply ByteArray.ext
  simp [ba]
theorem list_ba (l : List UInt8) : (ba l).data.toList = l := by simp [ba]
theorem ba_of {s : ByteArray} {l : List UInt8} (h : s.data.toList = l) : s = ba l := by rw [← h, ba_list]
theorem list_size (s : ByteArray) : s.data.toList.length = s.size := by simp
theorem toList_rest (s : ByteArray) (k : Nat) : (s.extract k s.size).data.toList = s.data.toList.drop k := by
  simp
  exact List.take_of_length_le (by simp)
theorem toList_one (s : ByteArray) (k : Nat) (h : k < s.size) : (s.extract k (k + 1)).data.toList = [s[k]] := by
  have h' : k < s.data.toList.length := by simpa using h
  have : (s.extract k (k + 1)).data.toList = (s.data.toList.drop k).take 1 := by simp [List.take_drop]
  rw [this, List.drop_eq_getElem_cons h']
  rfl
theorem drop_at (s : ByteArray) (k : Nat) (h : k < s.size) : s.data.toList.drop k = s[k] :: s.data.toList.drop (k + 1) := by
  have h' : k < s.data.toList.length := by simpa using h
  rw [List.drop_eq_getElem_cons h']
  rfl
theorem take_snoc (s : ByteArray) (k : Nat) (h : k < s.size) : s.data.toList.take (k + 1) = s.data.toList.take k ++ [s[k]] := by
  rw [List.take_succ_eq_append_getElem (by simpa using h)]; rfl
theorem text_part {l : List UInt8} {k : Nat} {c : UInt8} (hc : l[k]? = some c) (hn : okB c = false) : textB l = false := by
  have : l.all okB = false := by
    rw [List.all_eq_false]
    exact ⟨c, List.mem_of_getElem? hc, by simp [hn]⟩
  unfold textB; rw [this, Bool.false_and]
theorem at_byte (s : ByteArray) (k : Nat) (h : k < s.size) : s.data.toList[k]? = some s[k] := by
  have h' : k < s.data.toList.length := by simpa using h
  rw [List.getElem?_eq_getElem h']; rfl

/-- a field's name. -/
def nameB (f : Nat) : List UInt8 :=
  if f = 1 then [110, 97, 109, 101] else if f = 2 then [112, 104, 111, 110, 101] else if f = 3 then [109, 97, 105, 108] else if f = 4 then [116, 111, 119, 110] else if f = 5 then [110, 111, 116, 101] else []
/-- may a number be a field's? -/
def goodB (f : Nat) : Bool := decide (1 ≤ f ∧ f ≤ 5)
/-- the field with a name. -/
def ofB (l : List UInt8) : Nat × Bool := if l = nameB 1 then (1, true) else if l = nameB 2 then (2, true) else if l = nameB 3 then (3, true) else if l = nameB 4 then (4, true) else if l = nameB 5 then (5, true) else (0, false)
theorem of_name (f : Nat) : ofB (nameB f) = if goodB f = true then (f, true) else (0, false) := by
  by_cases h : 1 ≤ f ∧ f ≤ 5
  · have : f = 1 ∨ f = 2 ∨ f = 3 ∨ f = 4 ∨ f = 5 := by omega
    rcases this with rfl | rfl | rfl | rfl | rfl <;> decide
  · have e : nameB f = [] := by
      unfold nameB
      rw [if_neg (by omega), if_neg (by omega), if_neg (by omega), if_neg (by omega), if_neg (by omega)]
    have g : goodB f = false := decide_eq_false h
    rw [e, g, if_neg (by decide)]
    decide
end Go.Proofs.Ytdmjhaifilfniaa.Fd
