/- CardSame: what stands in memory between the stores into a copy. No condition. -/
import Derived.Test.YtlndhooiapomlaaKTellsW
import Derived.Test.YtlndhooiapomlaaKPCop2
namespace Go.Proofs.Ytlndhooiapomlaa.Kd
open Go.ChangeShapes Go.WideShapes Go.ChangeAt Go.RowKit
set_option linter.unusedVariables false

theorem add_inj {a : Addr} {m n : Nat} (h : a.add m = a.add n) : m = n := by
  unfold Addr.add at h
  by_cases h1 : m = 0
  · by_cases h2 : n = 0
    · omega
    · rw [if_pos h1, if_neg h2] at h
      have := congrArg Addr.off h
      simp at this
      omega
  · by_cases h2 : n = 0
    · rw [if_neg h1, if_pos h2] at h
      have := congrArg Addr.off h
      simp at this
      omega
    · rw [if_neg h1, if_neg h2] at h
      have := congrArg Addr.off h
      simp at this
      omega
theorem has_set {w : World} {a q : Addr} {v : Value} (h : w.cell? a = some v) (u : Value) : ∃ v', (w.setCell q u).cell? a = some v' := by
  by_cases e : q = a
  · subst e
    exact ⟨u, World.cell?_setCell_same _ _ _ h⟩
  · exact ⟨v, (World.cell?_setCell_other _ _ _ _ e).trans h⟩

/-- two cards' boxes. -/
def Boxes (w : World) (b7 b8 : Nat) (qc qd : CV) : Prop := (w.cell? ⟨b7, 0, none⟩ = some (.int .u64 (qc.cid : Int)) ∧ w.cell? ⟨b7, 1, none⟩ = some (.slice qc.adr qc.len qc.cap)) ∧ w.cell? ⟨b8, 0, none⟩ = some (.int .u64 (qd.cid : Int)) ∧ w.cell? ⟨b8, 1, none⟩ = some (.slice qd.adr qd.len qd.cap)
theorem Boxes.set {w : World} {b7 b8 l h : Nat} {qc qd : CV} (hb : Boxes w b7 b8 qc qd) (o7 : b7 < l ∨ h ≤ b7) (o8 : b8 < l ∨ h ≤ b8) {q : Addr} (hq : l ≤ q.block ∧ q.block < h) (u : Value) : Boxes (w.setCell q u) b7 b8 qc qd := by
  have n7 : q.block ≠ b7 := by omega
  have n8 : q.block ≠ b8 := by omega
  exact ⟨⟨(World.cell?_setCell_far _ _ _ _ n7).trans hb.1.1, (World.cell?_setCell_far _ _ _ _ n7).trans hb.1.2⟩, (World.cell?_setCell_far _ _ _ _ n8).trans hb.2.1, (World.cell?_setCell_far _ _ _ _ n8).trans hb.2.2⟩

/-- lines, and their texts, that may be written: they lie in blocks from l on, below h. -/
def DFree (w : World) (l h : Nat) (A : Option Addr) (n : Nat) : Prop :=
  ∀ k, k < n → ∃ (ad : Addr) (p : LV), A = some ad ∧ (l ≤ ad.block ∧ ad.block < h) ∧ w.frozen? (ad.add (k * 3 + 1)) = false ∧ w.cell? (ad.add (k * 3 + 2)) = some (.slice p.adr p.len p.cap) ∧ p.len ≤ 8796093022208 ∧
    ∀ j, j < p.len → ∃ (a2 : Addr) (u : Value), p.adr = some a2 ∧ (l ≤ a2.block ∧ a2.block < h) ∧ a2.block ≠ ad.block ∧ w.frozen? (a2.add j) = false ∧ w.cell? (a2.add j) = some u
/-- from the i-th line on the texts are as they may be. -/
def DTexts (w : World) (A : Option Addr) (n i : Nat) : Prop := ∀ k, i ≤ k → k < n → ∃ (ad : Addr) (s : ByteArray), A = some ad ∧ w.cell? (ad.add (k * 3 + 1)) = some (.string s) ∧ Short s
theorem DFree.of {w : World} {l h : Nat} {q : CV} {x : Crd} (hc : CardIs w h q x) (hf : FreeLines w l q.adr q.len) : DFree w l h q.adr q.len := by
  intro k hk
  obtain ⟨ad, p, e, hB, hfz, hcell, hfr, hne⟩ := hf k hk
  obtain ⟨ad', p', y, e', hB', hy, hp, _, _, hcell'⟩ := hc.lines.cells hk
  rw [e] at e'
  obtain rfl := Option.some.inj e'
  rw [hcell] at hcell'
  obtain ⟨e1, e2, e3⟩ := Value.slice.inj (Option.some.inj hcell')
  refine ⟨ad, p, e, ⟨hB, hB'⟩, hfz, hcell, by rw [e2]; exact hp.more.wide, fun j hj => ?_⟩
  obtain ⟨a2, ea, hb2, hf2⟩ := hfr j hj
  obtain ⟨a3, s, ea3, hb3, _, _, hc3⟩ := hp.more.at_ (k := j) (by rw [← e2]; exact hj)
  rw [← e1, ea] at ea3
  obtain rfl := Option.some.inj ea3
  exact ⟨a2, _, ea, ⟨hb2, hb3⟩, hne a2 ea (by omega), hf2, hc3⟩
theorem DTexts.of {w : World} {h : Nat} {q : CV} {x : Crd} (hc : CardIs w h q x) : DTexts w q.adr q.len 0 := by
  intro k _ hk
  obtain ⟨ad, p, y, e, _, _, hp, _, c2, _⟩ := hc.lines.cells hk
  exact ⟨ad, y.2.1, e, c2, hp.short⟩
theorem DFree.set_text {w : World} {l h n : Nat} {ad : Addr} (hd : DFree w l h (some ad) n) (k : Nat) (u : Value) : DFree (w.setCell (ad.add (k * 3 + 1)) u) l h (some ad) n := by
  intro k' hk'
  obtain ⟨ad', p, e, hB, hfz, hcell, hlen, ht⟩ := hd k' hk'
  obtain rfl := Option.some.inj e
  refine ⟨ad, p, rfl, hB, (World.frozen?_setCell _ _ _ _).trans hfz, (World.cell?_setCell_other _ _ _ _ (fun e => by have := add_inj e; omega)).trans hcell, hlen, fun j hj => ?_⟩
  obtain ⟨a2, v, ea, hb, hne, hf, hc⟩ := ht j hj
  exact ⟨a2, v, ea, hb, hne, (World.frozen?_setCell _ _ _ _).trans hf, (World.cell?_setCell_far _ _ _ _ (by rw [block_add, block_add]; exact fun e => hne e.symm)).trans hc⟩
theorem DFree.set_more {w : World} {l h n : Nat} {ad a2 : Addr} (hd : DFree w l h (some ad) n) (hne : a2.block ≠ ad.block) (j : Nat) (u : Value) : DFree (w.setCell (a2.add j) u) l h (some ad) n := by
  intro k' hk'
  obtain ⟨ad', p, e, hB, hfz, hcell, hlen, ht⟩ := hd k' hk'
  obtain rfl := Option.some.inj e
  refine ⟨ad, p, rfl, hB, (World.frozen?_setCell _ _ _ _).trans hfz, (World.cell?_setCell_far _ _ _ _ (by rw [block_add, block_add]; exact hne)).trans hcell, hlen, fun j' hj' => ?_⟩
  obtain ⟨a3, v, ea, hb, hne3, hf, hc⟩ := ht j' hj'
  obtain ⟨v', hv'⟩ := has_set (q := a2.add j) hc u
  exact ⟨a3, v', ea, hb, hne3, (World.frozen?_setCell _ _ _ _).trans hf, hv'⟩
theorem DTexts.set_text {w : World} {n k : Nat} {ad : Addr} (hd : DTexts w (some ad) n k) (u : Value) : DTexts (w.setCell (ad.add (k * 3 + 1)) u) (some ad) n (k + 1) := by
  intro k' hk hn
  obtain ⟨ad', s, e, hc, hs⟩ := hd k' (by omega) hn
  obtain rfl := Option.some.inj e
  exact ⟨ad, s, rfl, (World.cell?_setCell_other _ _ _ _ (fun e => by have := add_inj e; omega)).trans hc, hs⟩
theorem DTexts.set_more {w : World} {n i : Nat} {ad a2 : Addr} (hd : DTexts w (some ad) n i) (hne : a2.block ≠ ad.block) (j : Nat) (u : Value) : DTexts (w.setCell (a2.add j) u) (some ad) n i := by
  intro k' hk hn
  obtain ⟨ad', s, e, hc, hs⟩ := hd k' hk hn
  obtain rfl := Option.some.inj e
  exact ⟨ad, s, rfl, (World.cell?_setCell_far _ _ _ _ (by rw [block_add, block_add]; exact hne)).trans hc, hs⟩

/-- between the stores: the first copy stands, the second one may be written, from the i-th line on it is as it was. -/
structure LInv (wc : World) (h1 l h b7 b8 : Nat) (qc qd : CV) (x : Crd) (i : Nat) (wr : World) : Prop where
  base : wc.heap.size ≤ h1
  mid : h1 ≤ l
  top : h ≤ wr.heap.size
  lim : h1 ≤ wr.heap.size
  o7 : b7 < l ∨ h ≤ b7
  o8 : b8 < l ∨ h ≤ b8
  box : Boxes wr b7 b8 qc qd
  c : CardIs wr h1 qc x
  len : qd.len ≤ 4398046511104
  free : DFree wr l h qd.adr qd.len
  texts : DTexts wr qd.adr qd.len i
  bel : Below wc.heap.size wc wr
theorem LInv.drew {wc wr : World} {h1 l h b7 b8 i : Nat} {qc qd : CV} {x : Crd} (H : LInv wc h1 l h b7 b8 qc qd x i wr) : LInv wc h1 l h b7 b8 qc qd x i wr.drew :=
  ⟨H.base, H.mid, H.top, H.lim, H.o7, H.o8, H.box, H.c.below (Below.refl _ _).drew, H.len, H.free, H.texts, H.bel.drew⟩
theorem LInv.set_text {wc wr : World} {h1 l h b7 b8 k : Nat} {qc qd : CV} {x : Crd} (H : LInv wc h1 l h b7 b8 qc qd x k wr) {ad : Addr} (e : qd.adr = some ad) (hB : l ≤ ad.block ∧ ad.block < h) (u : Value) : LInv wc h1 l h b7 b8 qc qd x (k + 1) (wr.setCell (ad.add (k * 3 + 1)) u) := by
  have hq : l ≤ (ad.add (k * 3 + 1)).block ∧ (ad.add (k * 3 + 1)).block < h := by rw [block_add]; exact hB
  have hm := H.mid
  have hb := H.base
  exact ⟨H.base, H.mid, by rw [size_set]; exact H.top, by rw [size_set]; exact H.lim, H.o7, H.o8, H.box.set H.o7 H.o8 hq u, H.c.below ((Below.refl h1 wr).setCell (Nat.le_trans hm hq.1) u), H.len, by rw [e]; exact DFree.set_text (by rw [← e]; exact H.free) k u, by rw [e]; exact DTexts.set_text (by rw [← e]; exact H.texts) u, H.bel.setCell (by omega) u⟩
theorem LInv.set_more {wc wr : World} {h1 l h b7 b8 i : Nat} {qc qd : CV} {x : Crd} (H : LInv wc h1 l h b7 b8 qc qd x i wr) {ad a2 : Addr} (e : qd.adr = some ad) (hB : l ≤ a2.block ∧ a2.block < h) (hne : a2.block ≠ ad.block) (j : Nat) (u : Value) : LInv wc h1 l h b7 b8 qc qd x i (wr.setCell (a2.add j) u) := by
  have hq : l ≤ (a2.add j).block ∧ (a2.add j).block < h := by rw [block_add]; exact hB
  have hm := H.mid
  have hb := H.base
  exact ⟨H.base, H.mid, by rw [size_set]; exact H.top, by rw [size_set]; exact H.lim, H.o7, H.o8, H.box.set H.o7 H.o8 hq u, H.c.below ((Below.refl h1 wr).setCell (Nat.le_trans hm hq.1) u), H.len, by rw [e]; exact DFree.set_more (by rw [← e]; exact H.free) hne j u, by rw [e]; exact DTexts.set_more (by rw [← e]; exact H.texts) hne j u, H.bel.setCell (by omega) u⟩

/-- what stands in a cell stays there. -/
theorem stays {W V : World} {a : Addr} {v : Value} (hb : Below W.heap.size W V) (h : W.cell? a = some v) : V.cell? a = some v := (hb.cell (World.block_lt_of_cell? W _ h)).trans h
/-- texts that may be written: they lie in blocks from l on, below h. -/
def MFree (w : World) (l h : Nat) (A : Option Addr) (n : Nat) : Prop := ∀ j, j < n → ∃ (a2 : Addr) (u : Value), A = some a2 ∧ (l ≤ a2.block ∧ a2.block < h) ∧ w.frozen? (a2.add j) = false ∧ w.cell? (a2.add j) = some u
theorem MFree.of {w : World} {l h : Nat} {A : Option Addr} {t : List ByteArray} {n c : Nat} (ht : TextsAt w h A t n c) (hf : Free w l A n) : MFree w l h A n := by
  intro j hj
  obtain ⟨a2, e, hb, hz⟩ := hf j hj
  obtain ⟨a3, s, e3, hb3, _, _, hc⟩ := ht.at_ hj
  rw [e] at e3
  obtain rfl := Option.some.inj e3
  exact ⟨a2, _, e, ⟨hb, hb3⟩, hz, hc⟩
theorem MFree.set {w : World} {l h : Nat} {A : Option Addr} {n : Nat} (hm : MFree w l h A n) (q : Addr) (u : Value) : MFree (w.setCell q u) l h A n := by
  intro j hj
  obtain ⟨a2, v, e, hb, hz, hc⟩ := hm j hj
  obtain ⟨v', hv'⟩ := has_set (q := q) hc u
  exact ⟨a2, v', e, hb, (World.frozen?_setCell _ _ _ _).trans hz, hv'⟩
theorem MFree.kept {w W : World} {l h : Nat} {A : Option Addr} {n : Nat} (hm : MFree w l h A n) (hb : Below w.heap.size w W) : MFree W l h A n := by
  intro j hj
  obtain ⟨a2, v, e, hB, hz, hc⟩ := hm j hj
  exact ⟨a2, v, e, hB, (hb.frozen (World.block_lt_of_cell? w _ hc)).trans hz, stays hb hc⟩
/-- a line's box. -/
def LBox (w : World) (b : Nat) (p : LV) : Prop := w.cell? ⟨b, 0, none⟩ = some (.int .u8 (p.fld : Int)) ∧ w.cell? ⟨b, 1, none⟩ = some (.string p.txt) ∧ w.cell? ⟨b, 2, none⟩ = some (.slice p.adr p.len p.cap)
theorem LBox.new (w : World) (p : LV) : LBox (w.alloc (.cells #[.int .u8 (p.fld : Int), .string p.txt, .slice p.adr p.len p.cap] 28)) w.heap.size p := boxl w _ _ _ _ _ (Below.refl _ _)
theorem LBox.kept {w W : World} {b : Nat} {p : LV} (h : LBox w b p) (hb : Below w.heap.size w W) : LBox W b p := ⟨stays hb h.1, stays hb h.2.1, stays hb h.2.2⟩
theorem LBox.far {w : World} {b : Nat} {p : LV} (h : LBox w b p) {q : Addr} (hq : q.block ≠ b) (u : Value) : LBox (w.setCell q u) b p :=
  ⟨(World.cell?_setCell_far _ _ _ _ hq).trans h.1, (World.cell?_setCell_far _ _ _ _ hq).trans h.2.1, (World.cell?_setCell_far _ _ _ _ hq).trans h.2.2⟩
/-- while the copied line's texts are written. -/
structure XInv (w0 : World) (b : Nat) (p : LV) (wr : World) : Prop where
  box : LBox wr b p
  free : MFree wr w0.heap.size b p.adr p.len
  bel : Below w0.heap.size w0 wr
theorem XInv.set {w0 wr : World} {b j : Nat} {p : LV} (H : XInv w0 b p wr) {a2 : Addr} (hb : w0.heap.size ≤ a2.block ∧ a2.block < b) (u : Value) : XInv w0 b p (wr.setCell (a2.add j) u) :=
  ⟨H.box.far (by rw [block_add]; omega) u, H.free.set _ u, H.bel.setCell (by rw [block_add]; exact hb.1) u⟩

/-- between the two copies and the stores into their boxes. -/
structure Pre (wc : World) (l1 h1 l h : Nat) (qc qd : CV) (x : Crd) (wr : World) : Prop where
  base : wc.heap.size ≤ l1
  low : l1 ≤ h1
  mid : h1 ≤ l
  ord : l ≤ h
  top : h ≤ wr.heap.size
  c : CardIs wr h1 qc x
  cf : FreeLines wr l1 qc.adr qc.len
  d : CardIs wr h qd x
  df : FreeLines wr l qd.adr qd.len
  bel : Below wc.heap.size wc wr
theorem FreeLines.keep {w W : World} {l h : Nat} {q : CV} {x : Crd} (hc : CardIs w h q x) (hf : FreeLines w l q.adr q.len) (hcell : ∀ a : Addr, l ≤ a.block → a.block < h → W.cell? a = w.cell? a) (hfz : ∀ a : Addr, l ≤ a.block → a.block < h → W.frozen? a = w.frozen? a) : FreeLines W l q.adr q.len := by
  intro k hk
  obtain ⟨ad, p, e, hB, hz, hcl, hfr, hne⟩ := hf k hk
  obtain ⟨ad', p', y, e', hB', hy, hp, _, _, hcell'⟩ := hc.lines.cells hk
  rw [e] at e'
  obtain rfl := Option.some.inj e'
  have hcl2 := hcl
  rw [hcell'] at hcl2
  obtain ⟨e1, e2, e3⟩ := Value.slice.inj (Option.some.inj hcl2)
  refine ⟨ad, p, e, hB, (hfz _ (by rw [block_add]; exact hB) (by rw [block_add]; exact hB')).trans hz, (hcell _ (by rw [block_add]; exact hB) (by rw [block_add]; exact hB')).trans hcl, fun j hj => ?_, hne⟩
  obtain ⟨a2, ea, hb2, hf2⟩ := hfr j hj
  have hb3 := hp.more.lt a2 (by rw [e1]; exact ea) (by rw [e2]; omega)
  exact ⟨a2, ea, hb2, (hfz _ (by rw [block_add]; exact hb2) (by rw [block_add]; exact hb3)).trans hf2⟩
theorem CardIs.keep {w W : World} {l h : Nat} {q : CV} {x : Crd} (hc : CardIs w h q x) (hf : FreeLines w l q.adr q.len) (hcell : ∀ a : Addr, l ≤ a.block → a.block < h → W.cell? a = w.cell? a) : CardIs W h q x := by
  refine ⟨hc.cid, hc.fit, hc.lines.len, hc.lines.nil, hc.lines.cap, hc.lines.max, hc.lines.wide, ?_⟩
  obtain ⟨ps, h1, h2⟩ := hc.lines.lines
  have hpl : ps.length = q.len := by rw [h2.1, hc.lines.len]
  refine ⟨ps, fun h0 => ?_, h2.1, fun k p y hp hy => ?_⟩
  · obtain ⟨ad, e, hb, hcl⟩ := h1 h0
    rw [lv_length] at h0
    obtain ⟨ad2, _, e2, hB2, _⟩ := hf 0 (by omega)
    rw [e] at e2
    obtain rfl := Option.some.inj e2
    exact ⟨ad, e, hb, fun j u hu => (hcell _ (by rw [block_add]; exact hB2) (by rw [block_add]; exact hb)).trans (hcl j u hu)⟩
  · have hi := h2.2 k p y hp hy
    refine ⟨hi.fld, hi.fit, hi.txt, hi.short, hi.more.len, hi.more.nil, hi.more.cap, hi.more.max, hi.more.wide, hi.more.fit, fun h0 => ?_⟩
    obtain ⟨a2, e, hb, hcl⟩ := hi.more.cells h0
    have hkl : k < ps.length := (List.getElem?_eq_some_iff.1 hp).1
    obtain ⟨ad, p2, e2, hB2, _, hcl2, hfr, _⟩ := hf k (by omega)
    obtain ⟨ad3, e3, hb3, hcl3⟩ := h1 (by rw [lv_length]; omega)
    rw [e2] at e3
    obtain rfl := Option.some.inj e3
    have h5 := hcl3 _ _ (lv_get hp).2.2
    rw [hcl2] at h5
    obtain ⟨f1, f2, f3⟩ := Value.slice.inj (Option.some.inj h5)
    rw [tv_length, hi.more.len] at h0
    obtain ⟨a4, e4, hb4, _⟩ := hfr 0 (by rw [f2]; exact h0)
    rw [f1, e] at e4
    obtain rfl := Option.some.inj e4
    exact ⟨a2, e, hb, fun j u hu => (hcell _ (by rw [block_add]; exact hb4) (by rw [block_add]; exact hb)).trans (hcl j u hu)⟩
theorem Pre.alloc {wc wr : World} {l1 h1 l h : Nat} {qc qd : CV} {x : Crd} (H : Pre wc l1 h1 l h qc qd x wr) (o : Obj) : Pre wc l1 h1 l h qc qd x (wr.alloc o) := by
  have ht := H.top
  have hm := H.mid
  have ho := H.ord
  have hb := below_new wr o
  have hcell : ∀ a : Addr, a.block < wr.heap.size → (wr.alloc o).cell? a = wr.cell? a := fun a ha => hb.cell ha
  have hfz : ∀ a : Addr, a.block < wr.heap.size → (wr.alloc o).frozen? a = wr.frozen? a := fun a ha => hb.frozen ha
  exact ⟨H.base, H.low, H.mid, H.ord, by rw [alloc_size]; omega, H.c.keep H.cf (fun a _ h2 => hcell a (by omega)), FreeLines.keep H.c H.cf (fun a _ h2 => hcell a (by omega)) (fun a _ h2 => hfz a (by omega)), H.d.keep H.df (fun a _ h2 => hcell a (by omega)), FreeLines.keep H.d H.df (fun a _ h2 => hcell a (by omega)) (fun a _ h2 => hfz a (by omega)), H.bel.alloc H.bel.size o⟩
theorem Pre.set {wc wr : World} {l1 h1 l h : Nat} {qc qd : CV} {x : Crd} (H : Pre wc l1 h1 l h qc qd x wr) {q : Addr} (h0 : wc.heap.size ≤ q.block) (o1 : q.block < l1 ∨ h1 ≤ q.block) (o2 : q.block < l ∨ h ≤ q.block) (u : Value) : Pre wc l1 h1 l h qc qd x (wr.setCell q u) :=
  ⟨H.base, H.low, H.mid, H.ord, by rw [size_set]; exact H.top, H.c.keep H.cf (fun a h1 h2 => World.cell?_setCell_far _ _ _ _ (by omega)), FreeLines.keep H.c H.cf (fun a h1 h2 => World.cell?_setCell_far _ _ _ _ (by omega)) (fun a _ _ => World.frozen?_setCell _ _ _ _), H.d.keep H.df (fun a h1 h2 => World.cell?_setCell_far _ _ _ _ (by omega)), FreeLines.keep H.d H.df (fun a h1 h2 => World.cell?_setCell_far _ _ _ _ (by omega)) (fun a _ _ => World.frozen?_setCell _ _ _ _), H.bel.setCell h0 u⟩
theorem Pre.inv {wc wr : World} {l1 h1 l h b7 b8 : Nat} {qc qd : CV} {x : Crd} (H : Pre wc l1 h1 l h qc qd x wr) (o7 : b7 < l ∨ h ≤ b7) (o8 : b8 < l ∨ h ≤ b8) (hb : Boxes wr b7 b8 qc qd) : LInv wc h1 l h b7 b8 qc qd x 0 wr :=
  ⟨Nat.le_trans H.base H.low, H.mid, H.top, Nat.le_trans H.mid (Nat.le_trans H.ord H.top), o7, o8, hb, H.c, H.d.lines.wide, DFree.of H.d H.df, DTexts.of H.d, H.bel⟩
/-- a new box of a card, nothing put into it. -/
def New4 (W : World) (b : Nat) : Prop := W.cell? ⟨b, 0, none⟩ = some (.int .u64 0) ∧ W.cell? ⟨b, 1, none⟩ = some (.slice none 0 0) ∧ W.frozen? ⟨b, 0, none⟩ = false ∧ W.frozen? ⟨b, 1, none⟩ = false
theorem New4.kept {W V : World} {b : Nat} (hb : Below W.heap.size W V) (h : New4 W b) : New4 V b :=
  ⟨(hb.cell (World.block_lt_of_cell? W _ h.1)).trans h.1, (hb.cell (World.block_lt_of_cell? W _ h.2.1)).trans h.2.1, (hb.frozen (World.block_lt_of_cell? W _ h.1)).trans h.2.2.1, (hb.frozen (World.block_lt_of_cell? W _ h.2.1)).trans h.2.2.2⟩
theorem new_alloc {W : World} {b : Nat} {o : Obj} (h : New4 W b) : New4 (W.alloc o) b := h.kept (below_new W o)
theorem new_drew {W : World} {b : Nat} (h : New4 W b) : New4 W.drew b := h
theorem new_here (W : World) : New4 (W.alloc (.cells #[.int .u64 0, .slice none 0 0] 25)) W.heap.size := ⟨World.cell?_alloc_new _ _ _ _, World.cell?_alloc_new _ _ _ _, World.frozen?_alloc_new _ _ _ _, World.frozen?_alloc_new _ _ _ _⟩
theorem new_here2 (W : World) (o : Obj) : New4 ((W.alloc o).alloc (.cells #[.int .u64 0, .slice none 0 0] 25)) (W.heap.size + 1) := by have := new_here (W.alloc o); rw [alloc_size] at this; exact this
theorem New4.all {V : World} {b : Nat} (h : New4 V b) : (V.cell? ⟨b, 0, none⟩ = some (.int .u64 0) ∧ V.cell? ⟨b, 1, none⟩ = some (.slice none 0 0) ∧ V.frozen? ⟨b, 0, none⟩ = false ∧ V.frozen? ⟨b, 1, none⟩ = false) ∧
    ((∀ o, (V.alloc o).cell? ⟨b, 0, none⟩ = some (.int .u64 0)) ∧ (∀ o, (V.alloc o).cell? ⟨b, 1, none⟩ = some (.slice none 0 0)) ∧ (∀ o, (V.alloc o).frozen? ⟨b, 0, none⟩ = false) ∧ (∀ o, (V.alloc o).frozen? ⟨b, 1, none⟩ = false)) ∧
    ¬ b = V.heap.size ∧ ¬ V.heap.size = b ∧ ¬ b = V.heap.size + 1 ∧ ¬ V.heap.size + 1 = b := by
  have hlt : b < V.heap.size := World.block_lt_of_cell? V _ h.1
  exact ⟨h, ⟨fun o => (new_alloc (o := o) h).1, fun o => (new_alloc (o := o) h).2.1, fun o => (new_alloc (o := o) h).2.2.1, fun o => (new_alloc (o := o) h).2.2.2⟩, by omega, by omega, by omega, by omega⟩
theorem far_of {a b c : Nat} (h : a + 1 < b) (h2 : b ≤ c) : ¬ c = a ∧ ¬ a = c ∧ ¬ c + 1 = a ∧ ¬ a = c + 1 := by omega
theorem new_here_d (W : World) : New4 (W.drew.alloc (.cells #[.int .u64 0, .slice none 0 0] 25)) W.heap.size := new_here W.drew
theorem new_here2_d (W : World) (o : Obj) : New4 ((W.drew.alloc o).alloc (.cells #[.int .u64 0, .slice none 0 0] 25)) (W.heap.size + 1) := new_here2 W.drew o
theorem drew_size (w : World) : w.drew.heap.size = w.heap.size := rfl
abbrev CV.box (q : CV) : Obj := .cells #[.int .u64 (q.cid : Int), .slice q.adr q.len q.cap] 25
theorem boxes_two (E : World) (qc qd : CV) : Boxes ((E.alloc qc.box).alloc qd.box) E.heap.size (E.heap.size + 1) qc qd := by
  have h1 := box_two E (.int .u64 (qc.cid : Int)) (.slice qc.adr qc.len qc.cap) 25 ((E.alloc qc.box).alloc qd.box) (by have := below_new (E.alloc qc.box) qd.box; rw [alloc_size] at this; exact this)
  have h2 := box_two (E.alloc qc.box) (.int .u64 (qd.cid : Int)) (.slice qd.adr qd.len qd.cap) 25 _ (Below.refl _ _)
  rw [alloc_size] at h2
  exact ⟨h1, h2⟩
theorem boxes_two' (E : World) (qc qd : CV) : Boxes ((E.alloc qd.box).alloc qc.box) (E.heap.size + 1) E.heap.size qc qd := by
  have h := boxes_two E qd qc
  exact ⟨h.2, h.1⟩
theorem put_box {E : World} {b : Nat} {q : CV} (h : New4 E b) : ((E.setCell ⟨b, 0, none⟩ (.int .u64 (q.cid : Int))).setCell ⟨b, 1, none⟩ (.slice q.adr q.len q.cap)).cell? ⟨b, 0, none⟩ = some (.int .u64 (q.cid : Int)) ∧ ((E.setCell ⟨b, 0, none⟩ (.int .u64 (q.cid : Int))).setCell ⟨b, 1, none⟩ (.slice q.adr q.len q.cap)).cell? ⟨b, 1, none⟩ = some (.slice q.adr q.len q.cap) := by
  constructor
  · rw [World.cell?_setCell_other _ _ _ _ (fun e => by cases e)]
    exact World.cell?_setCell_same _ _ _ h.1
  · exact World.cell?_setCell_same _ _ _ ((World.cell?_setCell_other _ _ _ _ (fun e => by cases e)).trans h.2.1)
theorem New4.far {E : World} {b : Nat} (h : New4 E b) {q : Addr} (hq : q.block ≠ b) (u : Value) : New4 (E.setCell q u) b :=
  ⟨(World.cell?_setCell_far _ _ _ _ hq).trans h.1, (World.cell?_setCell_far _ _ _ _ hq).trans h.2.1, (World.frozen?_setCell _ _ _ _).trans h.2.2.1, (World.frozen?_setCell _ _ _ _).trans h.2.2.2⟩
theorem boxes_set {E : World} {b7 b8 : Nat} (qc qd : CV) (n7 : New4 E b7) (n8 : New4 E b8) (hne : ¬ b7 = b8) : Boxes ((((E.setCell ⟨b7, 0, none⟩ (.int .u64 (qc.cid : Int))).setCell ⟨b7, 1, none⟩ (.slice qc.adr qc.len qc.cap)).setCell ⟨b8, 0, none⟩ (.int .u64 (qd.cid : Int))).setCell ⟨b8, 1, none⟩ (.slice qd.adr qd.len qd.cap)) b7 b8 qc qd := by
  have h7 := put_box (q := qc) n7
  have h8 := put_box (q := qd) ((n8.far (q := ⟨b7, 0, none⟩) hne (.int .u64 (qc.cid : Int))).far (q := ⟨b7, 1, none⟩) hne (.slice qc.adr qc.len qc.cap))
  have hn : ¬ b8 = b7 := fun e => hne e.symm
  exact ⟨⟨(World.cell?_setCell_far _ ⟨b8, 1, none⟩ _ _ hn).trans ((World.cell?_setCell_far _ ⟨b8, 0, none⟩ _ _ hn).trans h7.1), (World.cell?_setCell_far _ ⟨b8, 1, none⟩ _ _ hn).trans ((World.cell?_setCell_far _ ⟨b8, 0, none⟩ _ _ hn).trans h7.2)⟩, h8⟩
theorem boxes_mix {E : World} {b8 : Nat} (qc qd : CV) (n8 : New4 E b8) : Boxes (((E.alloc qc.box).setCell ⟨b8, 0, none⟩ (.int .u64 (qd.cid : Int))).setCell ⟨b8, 1, none⟩ (.slice qd.adr qd.len qd.cap)) E.heap.size b8 qc qd := by
  have hlt : b8 < E.heap.size := World.block_lt_of_cell? E _ n8.1
  have hn : ¬ b8 = E.heap.size := by omega
  have h7 := box_two E (.int .u64 (qc.cid : Int)) (.slice qc.adr qc.len qc.cap) 25 _ (Below.refl _ _)
  exact ⟨⟨(World.cell?_setCell_far _ ⟨b8, 1, none⟩ _ _ hn).trans ((World.cell?_setCell_far _ ⟨b8, 0, none⟩ _ _ hn).trans h7.1), (World.cell?_setCell_far _ ⟨b8, 1, none⟩ _ _ hn).trans ((World.cell?_setCell_far _ ⟨b8, 0, none⟩ _ _ hn).trans h7.2)⟩, put_box (new_alloc n8)⟩
theorem pre_start {wc W1 V1 W2 V2 : World} {pc pd : CV} {x : Crd} (h01 : wc.heap.size ≤ W1.heap.size) (bw1 : Below W1.heap.size W1 V1) (hVW : Below V1.heap.size V1 W2) (bw2 : Below W2.heap.size W2 V2) (hq1 : CardIs V1 V1.heap.size pc x) (hf1 : FreeLines V1 W1.heap.size pc.adr pc.len) (hq2 : CardIs V2 V2.heap.size pd x) (hf2 : FreeLines V2 W2.heap.size pd.adr pd.len) (bv2 : Below wc.heap.size wc V2) :
    ∃ L1 H1 L H : Nat, Pre wc L1 H1 L H pc pd x V2 ∧ L1 = W1.heap.size ∧ H1 = V1.heap.size ∧ L = W2.heap.size ∧ H = V2.heap.size := by
  have hb : Below V1.heap.size V1 V2 := hVW.trans (bw2.mono hVW.size)
  exact ⟨_, _, _, _, ⟨h01, bw1.size, hVW.size, bw2.size, Nat.le_refl _, hq1.below hb, FreeLines.keep hq1 hf1 (fun a _ h => hb.cell h) (fun a _ h => hb.frozen h), hq2, hf2, bv2⟩, rfl, rfl, rfl, rfl⟩
end Go.Proofs.Ytlndhooiapomlaa.Kd
