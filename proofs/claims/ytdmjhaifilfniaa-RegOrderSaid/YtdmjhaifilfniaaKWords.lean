/- Words for the claims of layer card: cards, lines and texts as they tell, and slices of texts and of lines in memory. -/
import Derived.Test.YtdmjhaifilfniaaFText
import Derived.Test.YtdmjhaifilfniaaDOne
namespace Go.Proofs.Ytdmjhaifilfniaa.Kd
open Go.ChangeShapes Go.WideShapes Go.ChangeAt Go.RowKit
set_option linter.unusedVariables false

theorem add_add (a : Addr) (m n : Nat) : (a.add m).add n = a.add (m + n) := Dt.add_add a m n
theorem block_add (a : Addr) (n : Nat) : (a.add n).block = a.block := Dt.block_add a n

/-- a line: its field, its text, and what else stands there. -/
abbrev Ln := Nat × ByteArray × List ByteArray
/-- may a text stand in memory? -/
def Short (s : ByteArray) : Prop := s.size ≤ 140737488355328

/-- texts as cells. -/
def tv (l : List ByteArray) : List Value := l.map Value.string
theorem tv_length (l : List ByteArray) : (tv l).length = l.length := by unfold tv; simp
theorem tv_get (l : List ByteArray) (j : Nat) : (tv l)[j]? = l[j]?.map Value.string := by unfold tv; simp
/-- a slice of the address A that holds these texts, below block B. -/
structure TextsAt (w : World) (B : Nat) (A : Option Addr) (l : List ByteArray) (n c : Nat) : Prop where
  len : l.length = n
  nil : A = none → n = 0 ∧ c = 0
  cap : n ≤ c
  max : c ≤ 9223372036854775807
  wide : n ≤ 8796093022208
  fit : ∀ s ∈ l, Short s
  cells : Dt.Lies w B A (tv l)
theorem TextsAt.below {w W : World} {B : Nat} {A : Option Addr} {l : List ByteArray} {n c : Nat} (h : TextsAt w B A l n c) (hb : Below B w W) : TextsAt W B A l n c := ⟨h.len, h.nil, h.cap, h.max, h.wide, h.fit, h.cells.below hb⟩
theorem TextsAt.more {w : World} {B B' : Nat} {A : Option Addr} {l : List ByteArray} {n c : Nat} (h : TextsAt w B A l n c) (hB : B ≤ B') : TextsAt w B' A l n c := ⟨h.len, h.nil, h.cap, h.max, h.wide, h.fit, h.cells.more hB⟩
theorem TextsAt.none_ (w : World) (B : Nat) : TextsAt w B none [] 0 0 := ⟨rfl, fun _ => ⟨rfl, rfl⟩, Nat.le_refl _, by decide, by decide, fun s hs => (by cases hs), Dt.Lies.none_ _ _ _⟩
/-- the text at a place. -/
theorem TextsAt.at_ {w : World} {B : Nat} {A : Option Addr} {l : List ByteArray} {n c : Nat} (h : TextsAt w B A l n c) {k : Nat} (hk : k < n) :
    ∃ (ad : Addr) (s : ByteArray), A = some ad ∧ ad.block < B ∧ l[k]? = some s ∧ Short s ∧ w.cell? (ad.add k) = some (.string s) := by
  have hkl : k < l.length := by rw [h.len]; exact hk
  obtain ⟨ad, e, hB, hc⟩ := h.cells (by rw [tv_length]; omega)
  have hg := List.getElem?_eq_getElem hkl
  exact ⟨ad, l[k], e, hB, hg, h.fit _ (List.getElem_mem hkl), hc k _ (by rw [tv_get, hg]; rfl)⟩

/-- a line as it stands in memory: its field, its text, and where what else stands there lies. -/
structure LV where
  fld : Nat
  txt : ByteArray
  adr : Option Addr
  len : Nat
  cap : Nat
def lv (ps : List LV) : List Value := ps.flatMap fun p => [.int .u8 (p.fld : Int), .string p.txt, .slice p.adr p.len p.cap]
theorem lv_nil : lv [] = [] := rfl
theorem lv_append (l m : List LV) : lv (l ++ m) = lv l ++ lv m := by unfold lv; rw [List.flatMap_append]
theorem lv_length (l : List LV) : (lv l).length = l.length * 3 := by
  induction l with
  | nil => rfl
  | cons r l ih => simp only [lv, List.flatMap_cons, List.length_append, List.length_cons, List.length_nil] at ih ⊢; omega
theorem lv_get {l : List LV} {k : Nat} {r : LV} (h : l[k]? = some r) : (lv l)[k * 3]? = some (.int .u8 (r.fld : Int)) ∧ (lv l)[k * 3 + 1]? = some (.string r.txt) ∧ (lv l)[k * 3 + 2]? = some (.slice r.adr r.len r.cap) := by
  induction l generalizing k with
  | nil => simp at h
  | cons x l ih =>
    cases k with
    | zero => obtain rfl : x = r := by simpa using h
              exact ⟨rfl, rfl, rfl⟩
    | succ k =>
      have h2 := ih (k := k) (by simpa using h)
      have e : lv (x :: l) = .int .u8 (x.fld : Int) :: .string x.txt :: .slice x.adr x.len x.cap :: lv l := rfl
      have e1 : (k + 1) * 3 = k * 3 + 3 := by omega
      rw [e, e1]
      exact ⟨by simpa using h2.1, by simpa using h2.2.1, by simpa using h2.2.2⟩
theorem lv_one (l : List LV) : ∀ u ∈ lv l, u.oneCell' = true := by
  intro u hu
  obtain ⟨r, _, h⟩ := List.mem_flatMap.1 hu
  simp only [List.mem_cons, List.not_mem_nil, or_false] at h
  rcases h with rfl | rfl | rfl <;> rfl
/-- this line in memory is that line. -/
structure LineIs (w : World) (B : Nat) (p : LV) (x : Ln) : Prop where
  fld : p.fld = x.1
  fit : x.1 < 256
  txt : p.txt = x.2.1
  short : Short x.2.1
  more : TextsAt w B p.adr x.2.2 p.len p.cap
theorem LineIs.below {w W : World} {B : Nat} {p : LV} {x : Ln} (h : LineIs w B p x) (hb : Below B w W) : LineIs W B p x := ⟨h.fld, h.fit, h.txt, h.short, h.more.below hb⟩
theorem LineIs.more_ {w : World} {B B' : Nat} {p : LV} {x : Ln} (h : LineIs w B p x) (hB : B ≤ B') : LineIs w B' p x := ⟨h.fld, h.fit, h.txt, h.short, h.more.more hB⟩
/-- lines in memory, one for each line. -/
def Match (w : World) (B : Nat) (ps : List LV) (c : List Ln) : Prop := ps.length = c.length ∧ ∀ (k : Nat) (p : LV) (x : Ln), ps[k]? = some p → c[k]? = some x → LineIs w B p x
theorem Match.below {w W : World} {B : Nat} {ps : List LV} {c : List Ln} (h : Match w B ps c) (hb : Below B w W) : Match W B ps c := ⟨h.1, fun k p x hp hx => (h.2 k p x hp hx).below hb⟩
theorem Match.more_ {w : World} {B B' : Nat} {ps : List LV} {c : List Ln} (h : Match w B ps c) (hB : B ≤ B') : Match w B' ps c := ⟨h.1, fun k p x hp hx => (h.2 k p x hp hx).more_ hB⟩
theorem Match.nil_ (w : World) (B : Nat) : Match w B [] [] := ⟨rfl, fun k p x hp => by simp at hp⟩
theorem Match.snoc {w : World} {B : Nat} {ps : List LV} {c : List Ln} {p : LV} {x : Ln} (h : Match w B ps c) (hp : LineIs w B p x) : Match w B (ps ++ [p]) (c ++ [x]) := by
  refine ⟨by simp [h.1], fun k q y hq hy => ?_⟩
  rcases Nat.lt_or_ge k ps.length with hk | hk
  · rw [List.getElem?_append_left hk] at hq
    rw [List.getElem?_append_left (by rw [← h.1]; exact hk)] at hy
    exact h.2 k q y hq hy
  · rw [List.getElem?_append_right hk] at hq
    rw [List.getElem?_append_right (by rw [← h.1]; exact hk)] at hy
    have hk2 : k - ps.length = 0 := by
      rcases Nat.eq_zero_or_pos (k - ps.length) with h0 | h0
      · exact h0
      · rw [List.getElem?_eq_none (by simp; omega)] at hq; cases hq
    rw [hk2] at hq
    rw [← h.1, hk2] at hy
    simp at hq hy
    subst hq hy
    exact hp
/-- a slice of the address A that holds these lines, all of it below block B. -/
structure LinesAt (w : World) (B : Nat) (A : Option Addr) (c : List Ln) (n cp : Nat) : Prop where
  len : c.length = n
  nil : A = none → n = 0 ∧ cp = 0
  cap : n ≤ cp
  max : cp ≤ 9223372036854775807
  wide : n ≤ 4398046511104
  lines : ∃ ps, Dt.Lies w B A (lv ps) ∧ Match w B ps c
theorem LinesAt.below {w W : World} {B : Nat} {A : Option Addr} {c : List Ln} {n cp : Nat} (h : LinesAt w B A c n cp) (hb : Below B w W) : LinesAt W B A c n cp := by
  obtain ⟨ps, h1, h2⟩ := h.lines
  exact ⟨h.len, h.nil, h.cap, h.max, h.wide, ps, h1.below hb, h2.below hb⟩
theorem LinesAt.more {w : World} {B B' : Nat} {A : Option Addr} {c : List Ln} {n cp : Nat} (h : LinesAt w B A c n cp) (hB : B ≤ B') : LinesAt w B' A c n cp := by
  obtain ⟨ps, h1, h2⟩ := h.lines
  exact ⟨h.len, h.nil, h.cap, h.max, h.wide, ps, h1.more hB, h2.more_ hB⟩
theorem LinesAt.none_ (w : World) (B : Nat) : LinesAt w B none [] 0 0 := ⟨rfl, fun _ => ⟨rfl, rfl⟩, Nat.le_refl _, by decide, by decide, [], Dt.Lies.none_ _ _ _, Match.nil_ _ _⟩
/-- what stands at a place. -/
theorem LinesAt.cells {w : World} {B : Nat} {A : Option Addr} {c : List Ln} {n cp : Nat} (h : LinesAt w B A c n cp) {k : Nat} (hk : k < n) :
    ∃ (ad : Addr) (p : LV) (x : Ln), A = some ad ∧ ad.block < B ∧ c[k]? = some x ∧ LineIs w B p x ∧
      w.cell? (ad.add (k * 3)) = some (.int .u8 (x.1 : Int)) ∧ w.cell? (ad.add (k * 3 + 1)) = some (.string x.2.1) ∧ w.cell? (ad.add (k * 3 + 2)) = some (.slice p.adr p.len p.cap) := by
  obtain ⟨ps, h1, h2⟩ := h.lines
  have hkc : k < c.length := by rw [h.len]; exact hk
  have hkp : k < ps.length := by rw [h2.1]; exact hkc
  have hx := List.getElem?_eq_getElem hkc
  have hp := List.getElem?_eq_getElem hkp
  have hpi := h2.2 k _ _ hp hx
  obtain ⟨ad, e, hB, hc⟩ := h1 (by rw [lv_length]; omega)
  obtain ⟨g1, g2, g3⟩ := lv_get hp
  refine ⟨ad, ps[k], c[k], e, hB, hx, hpi, ?_, ?_, hc _ _ g3⟩
  · rw [← hpi.fld]; exact hc _ _ g1
  · rw [← hpi.txt]; exact hc _ _ g2
end Go.Proofs.Ytdmjhaifilfniaa.Kd
