/- What the walk of layer event's law EventOwn stands on: stores into a list of one's own, and what lies apart of it. -/
import Derived.Test.YtbaiiidkffafmaaESide
namespace Go.Proofs.Ytbaiiidkffafmaa.Ev
open Go.ChangeShapes Go.WideShapes Go.ChangeAt Go.RowKit
set_option linter.unusedVariables false

/-- all but block g is as it was. -/
structure Apart (g : Nat) (w W : World) : Prop where
  os : W.os = w.os
  tape : W.tape = w.tape
  output : W.output = w.output
  size : W.heap.size = w.heap.size
  block : ∀ k, k ≠ g → W.heap[k]? = w.heap[k]?
theorem Apart.refl (g : Nat) (w : World) : Apart g w w := ⟨rfl, rfl, rfl, rfl, fun _ _ => rfl⟩
theorem Apart.drewN {g : Nat} {w W : World} (h : Apart g w W) (m : Nat) : Apart g w (W.drewN m) := ⟨h.os, h.tape, h.output, h.size, h.block⟩
theorem Apart.setCell {g : Nat} {w W : World} (h : Apart g w W) {a : Addr} (ha : a.block = g) (v : Value) : Apart g w (W.setCell a v) :=
  ⟨h.os, h.tape, h.output, (World.size_setCell _ _ _).trans h.size, fun k hk => (Below.heap_setCell W a v k (by rw [ha]; exact hk)).trans (h.block k hk)⟩
theorem Apart.below {g B : Nat} {w W : World} (h : Apart g w W) (hB : B ≤ g) : Below B w W := ⟨h.os, h.tape, h.output, by rw [h.size]; exact Nat.le_refl _, fun k hk => h.block k (by omega)⟩
theorem Apart.cell {g : Nat} {w W : World} (h : Apart g w W) {a : Addr} (ha : a.block ≠ g) : W.cell? a = w.cell? a := World.cell?_of_block (w := w) (h.block _ ha)
theorem Apart.frozen {g : Nat} {w W : World} (h : Apart g w W) {a : Addr} (ha : a.block ≠ g) : W.frozen? a = w.frozen? a := World.frozen?_of_block (w := w) (h.block _ ha)
theorem CellsAt.apart {g : Nat} {w W : World} {a : Addr} {p : EV} (h : CellsAt w a p) (hb : Apart g w W) (ha : a.block ≠ g) : CellsAt W a p :=
  ⟨(hb.cell ha).trans h.c0, (hb.cell (a := ⟨a.block, a.off + 1, none⟩) ha).trans h.c1, (hb.cell (a := ⟨a.block, a.off + 2, none⟩) ha).trans h.c2, (hb.cell (a := ⟨a.block, a.off + 3, none⟩) ha).trans h.c3, (hb.cell (a := ⟨a.block, a.off + 4, none⟩) ha).trans h.c4, (hb.cell (a := ⟨a.block, a.off + 5, none⟩) ha).trans h.c5, (hb.cell (a := ⟨a.block, a.off + 6, none⟩) ha).trans h.c6⟩
/-- a list's block is not g. -/
def Off (g : Nat) (A : Option Addr) (n : Nat) : Prop := ∀ ad : Addr, A = some ad → 0 < n → ad.block ≠ g
theorem DotsAt.apart {g B : Nat} {w W : World} {A : Option Addr} {l : List Dt.Dot} {n c : Nat} (h : DotsAt w B A l n c) (hb : Apart g w W) (ha : Off g A n) : DotsAt W B A l n c := by
  refine ⟨h.len, h.nil, h.cap, h.max, h.wide, h.dots.1, fun hl => ?_⟩
  obtain ⟨ad, e, hB, hc⟩ := h.dots.2 hl
  have h0 : 0 < n := by rw [Dt.dv_length, h.len] at hl; omega
  exact ⟨ad, e, hB, fun j u hu => (hb.cell (by rw [block_add]; exact ha ad e h0)).trans (hc j u hu)⟩
theorem Free.apart {g B : Nat} {w W : World} {A : Option Addr} {n : Nat} (h : Free w B A n) (hb : Apart g w W) (ha : Off g A n) : Free W B A n := fun j hj => by
  obtain ⟨ad, e, h1, h2, h3⟩ := h j hj
  exact ⟨ad, e, h1, (hb.frozen (by rw [block_add]; exact ha ad e (by omega))).trans h2, (hb.frozen (by rw [block_add]; exact ha ad e (by omega))).trans h3⟩
theorem Free.kept {B : Nat} {w W : World} {A : Option Addr} {l : List Dt.Dot} {n c : Nat} (h : Free w B A n) (hd : DotsAt w w.heap.size A l n c) (hb : Below w.heap.size w W) : Free W B A n := fun j hj => by
  obtain ⟨ad, e, h1, h2, h3⟩ := h j hj
  obtain ⟨ad', e', hB, _⟩ := hd.dots.2 (by rw [Dt.dv_length, hd.len]; omega)
  obtain rfl : ad = ad' := by rw [e] at e'; exact Option.some.inj e'
  exact ⟨ad, e, h1, (hb.frozen (by rw [block_add]; exact hB)).trans h2, (hb.frozen (by rw [block_add]; exact hB)).trans h3⟩

theorem lies_cells {W : World} {B : Nat} {ad : Addr} {m : List Dt.Dot} (hb : ad.block < B) (h : ∀ (k : Nat) (x : Dt.Dot), m[k]? = some x → W.cell? (ad.add (k * 2)) = some (.int .u16 (x.1 : Int)) ∧ W.cell? (ad.add (k * 2 + 1)) = some (.int .u64 (x.2 : Int))) : Dt.Lies W B (some ad) (Dt.dv m) := fun _ => by
  refine ⟨ad, rfl, hb, fun j u hu => ?_⟩
  have hj := (List.getElem?_eq_some_iff.1 hu).1
  rw [Dt.dv_length] at hj
  have hd : j / 2 < m.length := by omega
  have hg := List.getElem?_eq_getElem hd
  obtain ⟨g1, g2⟩ := Dt.dv_get hg
  obtain ⟨c1, c2⟩ := h _ _ hg
  rcases Nat.mod_two_eq_zero_or_one j with h0 | h0
  · have e : j = j / 2 * 2 := by omega
    rw [← e] at g1 c1
    rw [g1] at hu
    cases hu
    exact c1
  · have e : j = j / 2 * 2 + 1 := by omega
    rw [← e] at g2 c2
    rw [g2] at hu
    cases hu
    exact c2
theorem DotsAt.get {w : World} {B n c : Nat} {ad : Addr} {m : List Dt.Dot} (h : DotsAt w B (some ad) m n c) {k : Nat} {x : Dt.Dot} (hx : m[k]? = some x) :
    ad.block < B ∧ x.1 < 65536 ∧ x.2 < 18446744073709551616 ∧ w.cell? (ad.add (k * 2)) = some (.int .u16 (x.1 : Int)) ∧ w.cell? (ad.add (k * 2 + 1)) = some (.int .u64 (x.2 : Int)) := by
  have hk := (List.getElem?_eq_some_iff.1 hx).1
  obtain ⟨ad1, e1, hB, _⟩ := h.dots.2 (by rw [Dt.dv_length]; omega)
  obtain ⟨ad2, lo, hi, e2, hl, h1, h2, c1, c2⟩ := h.dots.at_ hk
  cases e1
  cases e2
  rw [hx] at hl
  cases hl
  exact ⟨hB, h1, h2, c1, c2⟩
theorem add_off (a : Addr) (n : Nat) : (a.add n).off = a.off + n := by
  unfold Addr.add
  split
  · subst_vars; rfl
  · rfl
theorem add_ne {a : Addr} {m n : Nat} (h : m ≠ n) : a.add m ≠ a.add n := fun e => by
  have := congrArg Addr.off e
  rw [add_off, add_off] at this
  omega
/-- a dot's number is another. -/
theorem DotsAt.num {w : World} {B n c k : Nat} {ad : Addr} {m : List Dt.Dot} {x : Dt.Dot} {z : Nat} (h : DotsAt w B (some ad) m n c) (hx : m[k]? = some x) (hz : z < 18446744073709551616) :
    DotsAt (w.setCell (ad.add (k * 2 + 1)) (.int .u64 (z : Int))) B (some ad) (m.set k (x.1, z)) n c := by
  obtain ⟨hB, h1, h2, d1, d2⟩ := h.get hx
  have hk := (List.getElem?_eq_some_iff.1 hx).1
  refine ⟨by rw [List.length_set]; exact h.len, h.nil, h.cap, h.max, h.wide, fun y hy => ?_, lies_cells hB fun i y hi => ?_⟩
  · rcases List.mem_or_eq_of_mem_set hy with hy | rfl
    · exact h.dots.1 y hy
    · exact ⟨h1, hz⟩
  · rw [List.getElem?_set] at hi
    by_cases e : k = i
    · subst e
      rw [if_pos rfl, if_pos hk] at hi
      cases hi
      exact ⟨(World.cell?_setCell_other _ _ _ _ (add_ne (by omega))).trans d1, World.cell?_setCell_same _ _ _ d2⟩
    · rw [if_neg e] at hi
      obtain ⟨_, _, _, e1, e2⟩ := h.get hi
      exact ⟨(World.cell?_setCell_other _ _ _ _ (add_ne (by omega))).trans e1, (World.cell?_setCell_other _ _ _ _ (add_ne (by omega))).trans e2⟩
/-- a dot's device is another. -/
theorem DotsAt.dev {w : World} {B n c k : Nat} {ad : Addr} {m : List Dt.Dot} {x : Dt.Dot} {z : Nat} (h : DotsAt w B (some ad) m n c) (hx : m[k]? = some x) (hz : z < 65536) :
    DotsAt (w.setCell (ad.add (k * 2)) (.int .u16 (z : Int))) B (some ad) (m.set k (z, x.2)) n c := by
  obtain ⟨hB, h1, h2, d1, d2⟩ := h.get hx
  have hk := (List.getElem?_eq_some_iff.1 hx).1
  refine ⟨by rw [List.length_set]; exact h.len, h.nil, h.cap, h.max, h.wide, fun y hy => ?_, lies_cells hB fun i y hi => ?_⟩
  · rcases List.mem_or_eq_of_mem_set hy with hy | rfl
    · exact h.dots.1 y hy
    · exact ⟨hz, h2⟩
  · rw [List.getElem?_set] at hi
    by_cases e : k = i
    · subst e
      rw [if_pos rfl, if_pos hk] at hi
      cases hi
      exact ⟨World.cell?_setCell_same _ _ _ d1, (World.cell?_setCell_other _ _ _ _ (add_ne (by omega))).trans d2⟩
    · rw [if_neg e] at hi
      obtain ⟨_, _, _, e1, e2⟩ := h.get hi
      exact ⟨(World.cell?_setCell_other _ _ _ _ (add_ne (by omega))).trans e1, (World.cell?_setCell_other _ _ _ _ (add_ne (by omega))).trans e2⟩
theorem Free.set {w : World} {B n : Nat} {A : Option Addr} (h : Free w B A n) (a : Addr) (v : Value) : Free (w.setCell a v) B A n := fun j hj => by
  obtain ⟨ad, e, h1, h2, h3⟩ := h j hj
  exact ⟨ad, e, h1, by rw [World.frozen?_setCell]; exact h2, by rw [World.frozen?_setCell]; exact h3⟩
theorem sort_one (x : Evt) : sortE [x] = [x] := by
  unfold sortE
  simp [putE, stE]
theorem out_new (w : World) : (w.alloc (.cells #[] 25)).ownsRow w.heap.size 25 2 (.slice (some ⟨w.heap.size, 0, none⟩) 0 0) 0 (Dt.dv []) := World.ownsRow_lit w #[] 0 (Nat.le_refl _) (by simp [maxLen]) rfl
/-- a copy of a list of dots, by an append to a new one. -/
theorem wpList_out {ops : Array Oper} {rest : List Oper} {o : Oper} {a : Act} {Q : Exit → Act → World → Prop} (hgd : o.guard = none) (s x : Operand) (ho : o.op = .call { callee := .builtin .append, args := #[s, x], argTypes := #[26, 26] }) (hty : o.type = 26)
    (w : World) (B g : Nat) (A : Option Addr) (m : List Dt.Dot) (n c : Nat) (hs : a.eval s = .slice (some ⟨g, 0, none⟩) 0 0) (hx : a.eval x = .slice A n c) (hw : w.ownsRow B 25 2 (.slice (some ⟨g, 0, none⟩) 0 0) 0 (Dt.dv [])) (hd : DotsAt w w.heap.size A m n c) (hB : B ≤ w.heap.size)
    (hK : ∀ A' c' w', w'.ownsRow B 25 2 (.slice A' n c') n (Dt.dv m) → w.grownBy w' (some g) → wpList Try.prog ops Q rest (a.put o.dst (.slice A' n c')) w') : wpList Try.prog ops Q (o :: rest) a w := by
  refine Dt.wpList_any hgd s x ho hty w B 0 _ [] A m n c hs hx hw hd.nil hd.dots.2 hd.len (by have := hd.wide; omega) hB fun A' c' w' h1 h2 => ?_
  rw [Nat.zero_add] at h1 ⊢
  exact hK A' c' w' h1 h2
/-- the copy that the law keeps. -/
theorem own_was {w w1 : World} {p : EV} {x : Evt} {A1 : Option Addr} {c1 : Nat} (hp : EventIs w w.heap.size p x)
    (ho : w1.ownsRow (w.heap.size + 1 + 1) 25 2 (.slice A1 p.len c1) p.len (Dt.dv x.kills)) (hg : (((w.alloc p.box).alloc p.box).alloc (.cells #[] 25)).grownBy w1 (some (w.heap.size + 1 + 1))) :
    w1.frozen? ⟨w.heap.size + 1, 6, none⟩ = false ∧ w1.cell? ⟨w.heap.size + 1, 6, none⟩ = some (.slice p.adr p.len p.cap) ∧ CellsAt (w1.setCell ⟨w.heap.size + 1, 6, none⟩ (.slice A1 p.len c1)) ⟨w.heap.size, 0, none⟩ p ∧
      CellsAt (w1.setCell ⟨w.heap.size + 1, 6, none⟩ (.slice A1 p.len c1)) ⟨w.heap.size + 1, 0, none⟩ ⟨p.dev, p.num, p.kind, p.cid, p.fld, p.txt, A1, p.len, c1⟩ ∧ EventIs (w1.setCell ⟨w.heap.size + 1, 6, none⟩ (.slice A1 p.len c1)) (w1.setCell ⟨w.heap.size + 1, 6, none⟩ (.slice A1 p.len c1)).heap.size ⟨p.dev, p.num, p.kind, p.cid, p.fld, p.txt, A1, p.len, c1⟩ x ∧
      Below w.heap.size w (w1.setCell ⟨w.heap.size + 1, 6, none⟩ (.slice A1 p.len c1)) := by
  have hb : Below (w.heap.size + 1 + 1) (((w.alloc p.box).alloc p.box).alloc (.cells #[] 25)) w1 := (Below.refl _ _).grown hg (by simp) (fun k e => by cases e; exact Nat.le_refl _)
  have h1 : Below (w.heap.size + 1) (w.alloc p.box) w1 := (by have h := below_new2 (w.alloc p.box) p.box (.cells #[] 25); rw [alloc_size] at h; exact h.trans (hb.mono (by omega)))
  have h2 : Below (w.heap.size + 1 + 1) ((w.alloc p.box).alloc p.box) w1 := (by have h := below_new ((w.alloc p.box).alloc p.box) (.cells #[] 25); rw [alloc_size, alloc_size] at h; exact h.trans hb)
  have e1 := box_new w p w1 h1
  have e2 := box_new (w.alloc p.box) p w1 (by rw [alloc_size]; exact h2)
  rw [alloc_size] at e2
  have h3 : Below w.heap.size w w1 := (below_new w p.box).trans (h1.mono (by omega))
  have h4 : Below w.heap.size w (w1.setCell ⟨w.heap.size + 1, 6, none⟩ (.slice A1 p.len c1)) := h3.setCell (by show _ ≤ w.heap.size + 1; omega) _
  have h5 := ownsRow_setCell_below ho (a := ⟨w.heap.size + 1, 6, none⟩) (by show w.heap.size + 1 < _; omega) (.slice A1 p.len c1)
  obtain ⟨k1, k2, k3⟩ := Dt.own_len h5
  obtain ⟨a0, a1, a2, a3, a4, a5, a6⟩ := e2.all
  have ot : ∀ {k : Nat} {v : Value}, k ≠ 6 → w1.cell? ⟨w.heap.size + 1, k, none⟩ = some v → (w1.setCell ⟨w.heap.size + 1, 6, none⟩ (.slice A1 p.len c1)).cell? ⟨w.heap.size + 1, k, none⟩ = some v := fun {k v} hk h => (World.cell?_setCell_other _ _ _ _ (fun e => hk (by cases e; rfl))).trans h
  refine ⟨?_, a6, e1.apart ((Apart.refl (w.heap.size + 1) w1).setCell rfl _) (by show w.heap.size ≠ _; omega), ⟨ot (k := 0) (by decide) a0, ?_, ?_, ?_, ?_, ?_, ?_⟩, ⟨hp.dev, hp.num, hp.kind, hp.cid, hp.fld, hp.txt, hp.fits, ⟨hp.kills.len, k3, k1, k2, hp.kills.wide, Dt.dots_own h5 hp.kills.dots.1⟩⟩, h4⟩
  · rw [h2.frozen (by show w.heap.size + 1 < _; omega)]
    first | (simp [go_sem]; done) | (simp [World.frozen?, World.alloc_eq]; done) | (rw [frozen?_alloc_cells, frozen?_alloc_cells]; simp [World.frozen?])
  · exact ot (k := 1) (by decide) a1
  · exact ot (k := 2) (by decide) a2
  · exact ot (k := 3) (by decide) a3
  · exact ot (k := 4) (by decide) a4
  · exact ot (k := 5) (by decide) a5
  · exact World.cell?_setCell_same _ _ _ a6
/-- a list of one's own lies in one block. -/
theorem own_block {w : World} {B n c V : Nat} {A : Option Addr} {l : List Dt.Dot} (hd : DotsAt w w.heap.size A l n c) (hf : Free w B A n) (hV : w.heap.size ≤ V) (hB : B ≤ V) :
    ∃ g, (∀ ad : Addr, A = some ad → 0 < n → ad.block = g) ∧ B ≤ g ∧ ((g < w.heap.size ∧ 0 < n) ∨ g = V) := by
  by_cases h0 : 0 < n
  · obtain ⟨ad, e, h1, _, _⟩ := hf 0 h0
    obtain ⟨ad', e', hB', _⟩ := hd.dots.2 (by rw [Dt.dv_length, hd.len]; omega)
    rw [e] at e'
    cases e'
    exact ⟨ad.block, fun b hb _ => by rw [e] at hb; cases hb; rfl, h1, .inl ⟨hB', h0⟩⟩
  · exact ⟨V, fun _ _ h => absurd h h0, hB, .inr rfl⟩
theorem off_below {w : World} {g B n c : Nat} {A : Option Addr} {l : List Dt.Dot} (hd : DotsAt w B A l n c) (hB : B ≤ g) : Off g A n := fun ad e h0 => by
  obtain ⟨ad', e', hB', _⟩ := hd.dots.2 (by rw [Dt.dv_length, hd.len]; omega)
  rw [e] at e'
  cases e'
  omega
theorem off_above {w : World} {g B n : Nat} {A : Option Addr} (hf : Free w B A n) (hB : g < B) : Off g A n := fun ad e h0 => by
  obtain ⟨ad', e', h1, _, _⟩ := hf 0 h0
  rw [e] at e'
  cases e'
  omega
theorem Free.less {w : World} {B B' n : Nat} {A : Option Addr} (h : Free w B A n) (hB : B' ≤ B) : Free w B' A n := fun j hj => by
  obtain ⟨ad, e, h1, h2, h3⟩ := h j hj
  exact ⟨ad, e, Nat.le_trans hB h1, h2, h3⟩
/-- what holds at each round's head of a loop that turns a list of dots of one's own. -/
def TurnL (g : Nat) (w0 : World) (A : Option Addr) (n c : Nat) (i : Value) (W : World) : Prop :=
  ∃ (k : Nat) (m : List Dt.Dot), k ≤ n ∧ i = .int .i64 (k : Int) ∧ Apart g w0 W ∧ DotsAt W w0.heap.size A m n c ∧ Free W 0 A n
theorem turn_start {g n c B : Nat} {w0 : World} {A : Option Addr} {m : List Dt.Dot} (hd : DotsAt w0 w0.heap.size A m n c) (hf : Free w0 B A n) : TurnL g w0 A n c (.int .i64 0) w0 :=
  ⟨0, m, Nat.zero_le _, rfl, Apart.refl _ _, hd, hf.less (Nat.zero_le _)⟩
theorem turn_num {g n c k z : Nat} {w0 wr : World} {ad : Addr} {m : List Dt.Dot} {y : Dt.Dot} (hk : k < n) (hg : ad.block = g) (h : Apart g w0 wr) (hd : DotsAt wr w0.heap.size (some ad) m n c) (hf : Free wr 0 (some ad) n) (hy : m[k]? = some y) (hz : z < 18446744073709551616) :
    TurnL g w0 (some ad) n c (.int .i64 ((k : Int) + 1)) (wr.setCell ⟨(ad.add (k * 2)).block, (ad.add (k * 2)).off + 1, none⟩ (.int .u64 (z : Int))) :=
  ⟨k + 1, m.set k (y.1, z), hk, by go_num, h.setCell (a := ⟨(ad.add (k * 2)).block, (ad.add (k * 2)).off + 1, none⟩) ((block_add ad (k * 2)).trans hg) _, by rw [add_eq _ _ _ (by decide)]; exact hd.num hy hz, hf.set _ _⟩
theorem turn_dev {g n c k z : Nat} {w0 wr : World} {ad : Addr} {m : List Dt.Dot} {y : Dt.Dot} (hk : k < n) (hg : ad.block = g) (h : Apart g w0 wr) (hd : DotsAt wr w0.heap.size (some ad) m n c) (hf : Free wr 0 (some ad) n) (hy : m[k]? = some y) (hz : z < 65536) :
    TurnL g w0 (some ad) n c (.int .i64 ((k : Int) + 1)) (wr.setCell (ad.add (k * 2)) (.int .u16 (z : Int))) :=
  ⟨k + 1, m.set k (z, y.2), hk, by go_num, h.setCell ((block_add _ _).trans hg) _, hd.dev hy hz, hf.set _ _⟩
/-- what a round reads and where it stores. -/
theorem turn_at {n c k : Nat} {B : Nat} {wr : World} {A : Option Addr} {m : List Dt.Dot} (hk : k < n) (hd : DotsAt wr B A m n c) (hf : Free wr 0 A n) :
    ∃ (ad : Addr) (y1 y2 : Nat), A = some ad ∧ m[k]? = some (y1, y2) ∧ y1 < 65536 ∧ y2 < 18446744073709551616 ∧ wr.cell? (ad.add (k * 2)) = some (.int .u16 (y1 : Int)) ∧ wr.cell? ⟨(ad.add (k * 2)).block, (ad.add (k * 2)).off + 1, none⟩ = some (.int .u64 (y2 : Int)) ∧
      wr.frozen? (ad.add (k * 2)) = false ∧ wr.frozen? ⟨(ad.add (k * 2)).block, (ad.add (k * 2)).off + 1, none⟩ = false := by
  obtain ⟨ad, rfl, _, f1, f2⟩ := hf k hk
  have hkm : k < m.length := by rw [hd.len]; exact hk
  have hy := List.getElem?_eq_getElem hkm
  obtain ⟨_, h1, h2, c1, c2⟩ := hd.get hy
  refine ⟨ad, m[k].1, m[k].2, rfl, hy, h1, h2, c1, ?_, f1, ?_⟩
  · rw [add_eq _ _ _ (by decide)]; exact c2
  · rw [add_eq _ _ _ (by decide)]; exact f2
end Go.Proofs.Ytbaiiidkffafmaa.Ev
