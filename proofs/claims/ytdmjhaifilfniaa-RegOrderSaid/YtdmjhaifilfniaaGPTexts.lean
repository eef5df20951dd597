/- The contract of the program's Texts of layer reg: a new list of one's own. -/
import Derived.Test.YtdmjhaifilfniaaGPSorted
import Derived.Test.YtdmjhaifilfniaaGPWin
import Derived.Test.YtdmjhaifilfniaaGShelf
import Derived.Laws.MakeOwn
import Derived.Sort.OwnSorted
import Derived.Sort.Grow
import Derived.Lib.OwnBridge
namespace Go.Proofs.Ytdmjhaifilfniaa.Rg
open Go.ChangeShapes Go.WideShapes Go.ChangeAt Go.RowKit
set_option linter.unusedVariables false

/-- cells of one block that may be written. -/
structure Row (w : World) (g : Nat) (vs : List Value) : Prop where
  lt : g < w.heap.size
  cell : ∀ (j : Nat) (u : Value), vs[j]? = some u → w.cell? ⟨g, j, none⟩ = some u
  free : ∀ j, w.frozen? ⟨g, j, none⟩ = false
theorem Row.below {w W : World} {g B : Nat} {vs : List Value} (h : Row w g vs) (hg : g < B) (hb : Below B w W) (hs : w.heap.size ≤ W.heap.size) : Row W g vs :=
  ⟨Nat.lt_of_lt_of_le h.lt hs, fun j u hu => (hb.cell (p := ⟨g, j, none⟩) hg).trans (h.cell j u hu), fun j => (hb.frozen (p := ⟨g, j, none⟩) hg).trans (h.free j)⟩
theorem Row.set {w : World} {g : Nat} {vs : List Value} (h : Row w g vs) {j : Nat} (hj : j < vs.length) (u : Value) : Row (w.setCell ⟨g, j, none⟩ u) g (vs.set j u) := by
  refine ⟨by rw [size_set]; exact h.lt, fun i x hx => ?_, fun i => (World.frozen?_setCell _ _ _ _).trans (h.free i)⟩
  rw [List.getElem?_set] at hx
  by_cases hij : j = i
  · subst hij
    rw [if_pos rfl, if_pos hj] at hx
    obtain rfl := Option.some.inj hx
    exact World.cell?_setCell_same _ _ _ (h.cell j _ (List.getElem?_eq_getElem hj))
  · rw [if_neg hij] at hx
    exact (World.cell?_setCell_other _ _ _ _ (fun e => hij (by cases e; rfl))).trans (h.cell i x hx)
theorem Row.new (w : World) (Z : Array Value) (t : TypeId) : Row (w.alloc (.cells Z t)) w.heap.size Z.toList :=
  ⟨by rw [alloc_size]; omega, fun j u hu => by rw [World.cell?_alloc_new]; simpa using hu, fun j => World.frozen?_alloc_new _ _ _ _⟩
theorem make_texts (w : World) (n : Nat) (hn : n ≤ 1099511627776) :
    ∃ Z : Array Value, Z.size = n ∧ (Instr.makeSlice 33 (.int .i64 (n : Int)) (.int .i64 (n : Int))).run Try.prog w = .ok (.slice (some ⟨w.heap.size, 0, none⟩) n n) (w.alloc (.cells Z 9)) := by
  obtain ⟨i0, hi0, hz0, hz1, hz2⟩ := info_parts str_info
  have h := run_make (P := Try.prog) w 33 9 i0 _ Try.underlying33 hi0 hz0 .i64 .i64 (n : Int) (n : Int) (by omega) (Int.le_refl _) (by rw [hz2]; omega) (by omega)
  rw [Int.toNat_natCast, hz1, Nat.mul_one] at h
  exact ⟨_, size_madeCells _ _, h⟩
theorem set_at (a : List Value) (r0 u : Value) (rest : List Value) (j : Nat) (h : a.length = j) : (a ++ r0 :: rest).set j u = a ++ u :: rest := by
  subst h; simp
/-- between two rounds: the texts that were copied, and room for the others. -/
structure CopyT (w : World) (T : List ByteArray) (n k : Nat) (wr : World) (rest : List Value) : Prop where
  row : Row wr w.heap.size (Kd.tv (T.take k) ++ rest)
  room : rest.length = n - k
  bel : Below w.heap.size w wr
theorem CopyT.start (w : World) (T : List ByteArray) {n : Nat} {Z : Array Value} {t : TypeId} (hZ : Z.size = n) : CopyT w T n 0 (w.alloc (.cells Z t)) Z.toList := by
  refine ⟨?_, by rw [Array.length_toList, hZ, Nat.sub_zero], below_new _ _⟩
  exact Row.new w Z t
theorem tv_take {T : List ByteArray} {n k : Nat} (hT : T.length = n) (hk : k ≤ n) : (Kd.tv (T.take k)).length = k := by rw [Kd.tv_length, List.length_take, hT]; omega
theorem CopyT.next {w wr V : World} {T : List ByteArray} {n k : Nat} {rest : List Value} (h : CopyT w T n k wr rest) (hT : T.length = n) (hk : k < n) (hV : Below wr.heap.size wr V) {s : ByteArray} (hs : T[k]? = some s) :
    ∃ rest', CopyT w T n (k + 1) (V.setCell ⟨w.heap.size, k, none⟩ (.string s)) rest' := by
  have hr := h.row.below h.row.lt hV hV.size
  have hroom := h.room
  match rest, hroom, hr with
  | [], hroom, _ => simp at hroom; omega
  | r0 :: rest', hroom, hr =>
    refine ⟨rest', ?_, by simp at hroom; omega, (h.bel.trans (hV.mono h.bel.size)).setCell (Nat.le_refl _) _⟩
    have hl := tv_take hT (Nat.le_of_lt hk)
    have h1 := hr.set (j := k) (by rw [List.length_append, hl]; simp) (.string s)
    rw [set_at _ _ _ _ _ hl] at h1
    have e : Kd.tv (T.take (k + 1)) ++ rest' = Kd.tv (T.take k) ++ .string s :: rest' := by
      rw [List.take_add_one, hs, tv_append]
      simp [Kd.tv]
    rw [e]
    exact h1
theorem CopyT.cell {w wr V : World} {T : List ByteArray} {n k : Nat} {rest : List Value} (h : CopyT w T n k wr rest) (hT : T.length = n) (hk : k < n) (hV : Below wr.heap.size wr V) :
    (∃ v, V.cell? ⟨w.heap.size, k, none⟩ = some v) ∧ V.frozen? ⟨w.heap.size, k, none⟩ = false := by
  have hr := h.row.below h.row.lt hV hV.size
  have hl : k < (Kd.tv (T.take k) ++ rest).length := by rw [List.length_append, tv_take hT (Nat.le_of_lt hk), h.room]; omega
  exact ⟨⟨_, hr.cell k _ (List.getElem?_eq_getElem hl)⟩, hr.free k⟩
/-- texts in a block, as the library's sort has them. -/
abbrev HoldsT (w : World) (g : Nat) (zs : List (List UInt8)) : Prop := Go.Sort.Holds encStr w g 0 zs.toArray
theorem holds_row {w : World} {g : Nat} {l : List ByteArray} (h : Row w g (Kd.tv l)) : HoldsT w g (l.map bl) := fun j hj => by
  have hj2 : j < l.length := by simpa using hj
  rw [Nat.zero_add, getElem!_pos _ j hj]
  refine ⟨?_, h.free j⟩
  simp only [List.getElem_toArray, List.getElem_map]
  rw [enc_bl]
  exact h.cell j _ (by rw [Kd.tv_get, List.getElem?_eq_getElem hj2]; rfl)
/-- a new list of texts of one's own comes out, with room for n. -/
def OwnTexts (w : World) (l : List ByteArray) (n : Nat) (e : Ending) (w' : World) : Prop :=
  ∃ (g : Nat) (rest : List (List UInt8)), w.heap.size ≤ g ∧ g < w'.heap.size ∧ l.length ≤ n ∧ (l.map bl ++ rest).length = n ∧ e = .returned (.slice (some ⟨g, 0, none⟩) l.length n) ∧ HoldsT w' g (l.map bl ++ rest) ∧ Below w.heap.size w w'
theorem lies_holds {w : World} {g : Nat} {l : List ByteArray} {rest : List (List UInt8)} (hg : g < w.heap.size) (h : HoldsT w g (l.map bl ++ rest)) : Dt.Lies w w.heap.size (some ⟨g, 0, none⟩) (Kd.tv l) := fun _ => by
  refine ⟨_, rfl, hg, fun j u hu => ?_⟩
  rw [Dt.zero_add]
  have hj : j < l.length := by
    have := (List.getElem?_eq_some_iff.1 hu).1
    rwa [Kd.tv_length] at this
  have hj2 : j < (l.map bl ++ rest).toArray.size := by simp; omega
  have h1 := (h j hj2).1
  rw [Nat.zero_add, getElem!_pos _ j hj2] at h1
  simp only [List.getElem_toArray] at h1
  rw [List.getElem_append_left (by simpa using hj), List.getElem_map, enc_bl] at h1
  rw [Kd.tv_get, List.getElem?_eq_getElem hj] at hu
  obtain rfl := Option.some.inj hu
  exact h1
theorem own_out {w w' : World} {l : List ByteArray} {n : Nat} {e : Ending} (h : OwnTexts w l n e w') (hf : ∀ s ∈ l, Kd.Short s) (hn : n ≤ 1099511627776) : TextOut w l e w' := by
  obtain ⟨g, rest, h1, h2, h3, h4, rfl, h5, h6⟩ := h
  exact ⟨some ⟨g, 0, none⟩, l.length, n, rfl, ⟨rfl, (fun e => by cases e), h3, by omega, by omega, hf, lies_holds h2 h5⟩, h6⟩
end Go.Proofs.Ytdmjhaifilfniaa.Rg
