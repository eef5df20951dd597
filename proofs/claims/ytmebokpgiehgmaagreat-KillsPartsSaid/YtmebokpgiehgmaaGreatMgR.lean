/- Words and contracts that the proofs of this seat stand on, part 18 of 22. -/
import Derived.Test.YtmebokpgiehgmaaGreatMgQ
import Derived.Test.YtmebokpgiehgmaaGreatMgG
import Derived.Test.YtmebokpgiehgmaaGreatMgI

/- The contract of the program's Copy of layer event. For every event. -/
namespace Go.Proofs.YtmebokpgiehgmaaGreat.Ev
open Go.ChangeShapes Go.WideShapes Go.ChangeAt Go.RowKit
set_option linter.unusedVariables false
set_option maxRecDepth 4000

/-- an event's empty box. -/
abbrev zeroE : EV := ⟨0, 0, 0, 0, 0, ⟨#[]⟩, none, 0, 0⟩
theorem own_free {w : World} {B n c : Nat} {A : Option Addr} {xs : List Value} (h : w.ownsRow B 28 2 (.slice A n c) n xs) : Free w B A n := fun j hj => by
  rcases h.2 with ⟨h', _⟩ | ⟨g, cap, cur, h', hb, _⟩
  · cases h'; omega
  · cases h'
    refine ⟨_, rfl, hb, ?_, ?_⟩
    · rw [Dt.zero_add]; exact h.frozenAt _
    · rw [Dt.zero_add]; exact h.frozenAt _
/-- an event's empty box, as a walk lays it. -/
theorem zero_box : zeroE.box = .cells #[.int .u16 0, .int .u64 0, .int .u8 0, .int .u64 0, .int .u8 0, .string ⟨#[]⟩, .slice none 0 0] 30 := rfl
/-- all cells of a block that was laid may be written, in every world that keeps them. -/
theorem free_new (w : World) (cs : Array Value) (T : TypeId) (V : World) (hb : Below (w.heap.size + 1) (w.alloc (.cells cs T)) V) (k : Nat) : V.frozen? ⟨w.heap.size, k, none⟩ = false := (hb.frozen (p := ⟨w.heap.size, k, none⟩) (Nat.lt_succ_self _)).trans (World.frozen?_alloc_new _ _ _ _)
theorem own_dotsAt {w : World} {B n c : Nat} {A : Option Addr} {l : List Dt.Dot} (h : w.ownsRow B 28 2 (.slice A n c) n (Dt.dv l)) (hl : l.length = n) (hf : Dt.Fit l) (hw : n ≤ 8796093022208) : DotsAt w w.heap.size A l n c := by
  obtain ⟨h1, h2, h3⟩ := Dt.own_len h
  exact ⟨hl, h3, h1, h2, hw, Dt.dots_own h hf⟩
set_option maxHeartbeats 4000000 in
theorem pcopy_any (w : World) (p : EV) (x : Evt) (h : EventIs w w.heap.size p x) : Calls Tryz.prog 25 #[p.val] w (OwnPost w x) := by
  have HE := Lib.hid h
  have HB := Lib.hid (below_new2 w p.box zeroE.box)
  have CC := Dt.pclone_any ((w.alloc p.box).alloc zeroE.box) p.adr x.kills p.len p.cap h.kills.len h.kills.nil ((h.up HB.out).kills.dots) h.kills.wide
  have hb1 := box_new w p
  have hb2 := box_new (w.alloc p.box) zeroE
  have hf1 : ∀ V, Below (w.heap.size + 1) (w.alloc p.box) V → ∀ k, V.frozen? ⟨w.heap.size, k, none⟩ = false := fun V hV k => free_new w _ _ V hV k
  have hf2 : ∀ V, Below ((w.alloc p.box).heap.size + 1) ((w.alloc p.box).alloc zeroE.box) V → ∀ k, V.frozen? ⟨(w.alloc p.box).heap.size, k, none⟩ = false := fun V hV k => free_new (w.alloc p.box) _ _ V hV k
  rw [alloc_size] at hb2 hf2
  have hs2 : ((w.alloc p.box).alloc zeroE.box).heap.size = w.heap.size + 1 + 1 := by rw [alloc_size, alloc_size]
  have hl := h.kills.len
  have hh : Below (w.heap.size + 1) (w.alloc p.box) ((w.alloc p.box).alloc zeroE.box) := by have h := below_new (w.alloc p.box) zeroE.box; rw [alloc_size] at h; exact h
  rw [zero_box] at HB CC hb2 hs2 hh hf2
  obtain ⟨p1, p2, p3, p4, p5, p6, pA, pn, pc⟩ := p
  simp only [EV.val]
  simp only [EV.box] at HB CC hb1 hb2 hs2 hh hf1 hf2
  have HB1 := Lib.hid hb1
  have HB2 := Lib.hid hb2
  have HF1 := Lib.hid hf1
  have HF2 := Lib.hid hf2
  have HS2 := Lib.hid hs2
  have HL := Lib.hid hl
  have HH := Lib.hid hh
  obtain ⟨a0, a1, a2, a3, a4, a5, a6⟩ := (hb1 _ hh).all
  clear h hb1 hb2 hf1 hf2 hs2 hl hh
  go_enter Tryz.func25, Tryz.ntmps25
  go_wp2_with fail
  refine CC.mono ?_
  rintro e w2 ⟨A, n, c, rfl, hn, ho, hb⟩
  rw [HL.out] at hn
  subst hn
  have hb1' := HH.out.trans (hb.mono (by rw [HS2.out]; omega))
  obtain ⟨c0, c1, c2, c3, c4, c5, c6⟩ := (HB1.out w2 hb1').all
  have f6 := HF1.out w2 hb1' 6
  have hbz : Below (w.heap.size + 1 + 1) ((w.alloc (.cells #[.int .u16 (p1 : Int), .int .u64 (p2 : Int), .int .u8 (p3 : Int), .int .u64 (p4 : Int), .int .u8 (p5 : Int), .string p6, .slice pA pn pc] 30)).alloc (.cells #[.int .u16 0, .int .u64 0, .int .u8 0, .int .u64 0, .int .u8 0, .string ⟨#[]⟩, .slice none 0 0] 30)) w2 := by have h := hb; rw [HS2.out] at h; exact h
  obtain ⟨d0, d1, d2, d3, d4, d5, d6⟩ := (HB2.out w2 hbz).all
  have g0 := HF2.out w2 hbz 0
  have g1 := HF2.out w2 hbz 1
  have g2 := HF2.out w2 hbz 2
  have g3 := HF2.out w2 hbz 3
  have g4 := HF2.out w2 hbz 4
  have g5 := HF2.out w2 hbz 5
  have g6 := HF2.out w2 hbz 6
  have HO := Lib.hid ho
  have HBW := Lib.hid (HB.out.trans (hb.mono HB.out.size))
  clear ho hb hb1' hbz CC HB1 HB2 HF1 HF2 HH a0 a1 a2 a3 a4 a5 a6
  go_wp2
  refine bodyPost_ret (v := .agg #[.int .u16 (p1 : Int), .int .u64 (p2 : Int), .int .u8 (p3 : Int), .int .u64 (p4 : Int), .int .u8 (p5 : Int), .string p6, .slice A pn c]) ?_ rfl ?_
  · simp [results, Tryz.f25, go_sem, d0, d1, d2, d3, d4, d5, d6]
  · have hd := own_dotsAt HO.out HL.out HE.out.kills.dots.1 HE.out.kills.wide
    have hfr := own_free HO.out
    rw [HS2.out] at hfr
    have ap1 := Apart.setCell (Apart.refl w.heap.size w2) (a := ⟨w.heap.size, 6, none⟩) rfl (.slice A pn c)
    have ap2 := ((((((Apart.refl (w.heap.size + 1) (w2.setCell ⟨w.heap.size, 6, none⟩ (.slice A pn c))).setCell (a := ⟨w.heap.size + 1, 0, none⟩) rfl (.int .u16 (p1 : Int))).setCell (a := ⟨w.heap.size + 1, 1, none⟩) rfl (.int .u64 (p2 : Int))).setCell (a := ⟨w.heap.size + 1, 2, none⟩) rfl (.int .u8 (p3 : Int))).setCell (a := ⟨w.heap.size + 1, 3, none⟩) rfl (.int .u64 (p4 : Int))).setCell (a := ⟨w.heap.size + 1, 4, none⟩) rfl (.int .u8 (p5 : Int))).setCell (a := ⟨w.heap.size + 1, 5, none⟩) rfl (.string p6)
    have ap3 := ap2.setCell (a := ⟨w.heap.size + 1, 6, none⟩) rfl (.slice A pn c)
    have o1 : Off w.heap.size A pn := off_above hfr (by omega)
    have o2 : Off (w.heap.size + 1) A pn := off_above hfr (by omega)
    refine ⟨⟨p1, p2, p3, p4, p5, p6, A, pn, c⟩, rfl, ⟨HE.out.dev, HE.out.num, HE.out.kind, HE.out.cid, HE.out.fld, HE.out.txt, HE.out.fits, ((hd.apart ap1 o1).apart ap3 o2).more (by rw [ap3.size, ap1.size]; exact Nat.le_refl _)⟩, ((hfr.apart ap1 o1).apart ap3 o2).less (by omega), ?_⟩
    exact (((((((HBW.out.setCell (by simp) _).setCell (by simp) _).setCell (by simp) _).setCell (by simp) _).setCell (by simp) _).setCell (by simp) _).setCell (by simp) _).setCell (by simp) _
end Go.Proofs.YtmebokpgiehgmaaGreat.Ev

/- Words for the program's Sort of layer event: a row of events of one's own, each put in its place by a copy. -/
namespace Go.Proofs.YtmebokpgiehgmaaGreat.Ev
open Go.ChangeShapes Go.WideShapes Go.ChangeAt Go.RowKit
set_option linter.unusedVariables false
set_option maxRecDepth 4000

/-- events in one block that may be written. -/
structure RowE (w : World) (g : Nat) (ps : List EV) : Prop where
  lt : g < w.heap.size
  cell : ∀ k p, ps[k]? = some p → CellsAt w ⟨g, k * 7, none⟩ p
  free : ∀ k p, ps[k]? = some p → ∀ j, j < 7 → w.frozen? ⟨g, k * 7 + j, none⟩ = false
theorem RowE.below {w W : World} {g : Nat} {ps : List EV} (h : RowE w g ps) (hb : Below w.heap.size w W) : RowE W g ps :=
  ⟨Nat.lt_of_lt_of_le h.lt hb.size, fun k p hp => (h.cell k p hp).kept hb, fun k p hp j hj => (hb.frozen (p := ⟨g, k * 7 + j, none⟩) h.lt).trans (h.free k p hp j hj)⟩
/-- an event's cells, stored. -/
def putAt (w : World) (g o : Nat) (q : EV) : World := w.setCells g o q.cells
theorem putAt_eq (w : World) (g o : Nat) (q : EV) : putAt w g o q = ((((((w.setCell ⟨g, o, none⟩ (.int .u16 (q.dev : Int))).setCell ⟨g, o + 1, none⟩ (.int .u64 (q.num : Int))).setCell ⟨g, o + 2, none⟩ (.int .u8 (q.kind : Int))).setCell ⟨g, o + 3, none⟩ (.int .u64 (q.cid : Int))).setCell ⟨g, o + 4, none⟩ (.int .u8 (q.fld : Int))).setCell ⟨g, o + 5, none⟩ (.string q.txt)).setCell ⟨g, o + 6, none⟩ (.slice q.adr q.len q.cap) := rfl
theorem putAt_size (w : World) (g o : Nat) (q : EV) : (putAt w g o q).heap.size = w.heap.size := Sort.size_setCells _ _ _ _
theorem cells_of {w : World} {g o : Nat} {q : EV} (h : ∀ j (hj : j < q.cells.length), w.cell? ⟨g, o + j, none⟩ = some q.cells[j]) : CellsAt w ⟨g, o, none⟩ q :=
  ⟨h 0 (show 0 < 7 by decide), h 1 (show 1 < 7 by decide), h 2 (show 2 < 7 by decide), h 3 (show 3 < 7 by decide), h 4 (show 4 < 7 by decide), h 5 (show 5 < 7 by decide), h 6 (show 6 < 7 by decide)⟩
theorem cells_in {w : World} {g o : Nat} {q : EV} (h : CellsAt w ⟨g, o, none⟩ q) : ∀ j, j < 7 → (w.cell? ⟨g, o + j, none⟩).isSome = true := by
  intro j hj
  have h7 : j = 0 ∨ j = 1 ∨ j = 2 ∨ j = 3 ∨ j = 4 ∨ j = 5 ∨ j = 6 := by omega
  rcases h7 with rfl | rfl | rfl | rfl | rfl | rfl | rfl
  · have := h.c0; rw [show o + 0 = o from rfl, this]; rfl
  · rw [h.c1]; rfl
  · rw [h.c2]; rfl
  · rw [h.c3]; rfl
  · rw [h.c4]; rfl
  · rw [h.c5]; rfl
  · rw [h.c6]; rfl
theorem RowE.put {w : World} {g k : Nat} {ps : List EV} (h : RowE w g ps) (hk : k < ps.length) (q : EV) : RowE (putAt w g (k * 7) q) g (ps.set k q) := by
  have ho := h.cell k _ (List.getElem?_eq_getElem hk)
  refine ⟨by rw [putAt_size]; exact h.lt, fun i p hp => ?_, fun i p hp j hj => ?_⟩
  · rw [List.getElem?_set] at hp
    by_cases hik : k = i
    · subst hik
      rw [if_pos rfl, if_pos hk] at hp
      cases hp
      exact cells_of (fun j hj => World.cell?_setCells_in g q.cells (k * 7) w (fun j hj => cells_in ho j hj) j hj)
    · rw [if_neg hik] at hp
      have hc := h.cell i p hp
      have e : ∀ j, j < 7 → (putAt w g (k * 7) q).cell? ⟨g, i * 7 + j, none⟩ = w.cell? ⟨g, i * 7 + j, none⟩ := fun j hj =>
        World.cell?_setCells_out g q.cells (k * 7) w _ (fun _ _ => by simp only [List.length_cons, List.length_nil]; omega)
      exact ⟨(e 0 (by omega)).trans hc.c0, (e 1 (by omega)).trans hc.c1, (e 2 (by omega)).trans hc.c2, (e 3 (by omega)).trans hc.c3, (e 4 (by omega)).trans hc.c4, (e 5 (by omega)).trans hc.c5, (e 6 (by omega)).trans hc.c6⟩
  · have hi : i < ps.length := by have := (List.getElem?_eq_some_iff.1 hp).1; simpa using this
    exact (World.frozen?_setCells _ _ _ _ _).trans (h.free i _ (List.getElem?_eq_getElem hi) j hj)
theorem apart_put (w : World) (g o : Nat) (q : EV) : Apart g w (putAt w g o q) := by
  rw [putAt_eq]
  exact (((((((Apart.refl g w).setCell rfl _).setCell rfl _).setCell rfl _).setCell rfl _).setCell rfl _).setCell rfl _).setCell rfl _
/-- so far the first k events are copies; all others are as they were. -/
structure Copied (w : World) (g m : Nat) (l : List Evt) (k : Nat) (ps : List EV) (W : World) : Prop where
  len : ps.length = m
  row : RowE W g ps
  bel : Below w.heap.size w W
  new : ∀ j p x, j < k → ps[j]? = some p → l[j]? = some x → EventIs W W.heap.size p x ∧ Free W w.heap.size p.adr p.len ∧ Off g p.adr p.len
  old : ∀ j p x, k ≤ j → ps[j]? = some p → l[j]? = some x → EventIs w w.heap.size p x
theorem Copied.next {w W w2 : World} {g m k : Nat} {l : List Evt} {ps : List EV} {q : EV} {x : Evt} (h : Copied w g m l k ps W) (hg : w.heap.size ≤ g) (hk : k < m) (hx : l[k]? = some x) (hq : EventIs w2 w2.heap.size q x) (hf : Free w2 W.heap.size q.adr q.len) (hb : Below W.heap.size W w2) :
    Copied w g m l (k + 1) (ps.set k q) (putAt w2 g (k * 7) q) := by
  have hap := apart_put w2 g (k * 7) q
  have hsz : w2.heap.size ≤ (putAt w2 g (k * 7) q).heap.size := by rw [putAt_size]; exact Nat.le_refl _
  have hW := h.bel.trans (hb.mono h.bel.size)
  have keep : ∀ {p : EV} {y : Evt}, EventIs w2 w2.heap.size p y → Off g p.adr p.len → EventIs (putAt w2 g (k * 7) q) (putAt w2 g (k * 7) q).heap.size p y := fun hp ho =>
    ⟨hp.dev, hp.num, hp.kind, hp.cid, hp.fld, hp.txt, hp.fits, (hp.kills.apart hap ho).more hsz⟩
  refine ⟨by rw [List.length_set]; exact h.len, (h.row.below hb).put (by rw [h.len]; exact hk) q, hW.trans (hap.below hg |>.mono (Nat.le_refl _)), fun j p y hj hp hy => ?_, fun j p y hj hp hy => ?_⟩
  · rw [List.getElem?_set] at hp
    by_cases hjk : k = j
    · subst hjk
      rw [if_pos rfl, if_pos (by rw [h.len]; exact hk)] at hp
      cases hp
      rw [hx] at hy
      cases hy
      have ho : Off g q.adr q.len := off_above hf h.row.lt
      exact ⟨keep hq ho, (hf.apart hap ho).less h.bel.size, ho⟩
    · rw [if_neg hjk] at hp
      obtain ⟨h1, h2, h3⟩ := h.new j p y (by omega) hp hy
      exact ⟨keep (h1.up hb) h3, (h2.kept h1.kills hb).apart hap h3, h3⟩
  · rw [List.getElem?_set, if_neg (by omega)] at hp
    exact h.old j p y (by omega) hp hy
/-- all are copies: a list of one's own. -/
theorem Copied.done {w W : World} {g m cap : Nat} {l : List Evt} {ps : List EV} (h : Copied w g m l m ps W) (hg : w.heap.size ≤ g) (hl : l.length = m) (hc : m ≤ cap) (hcap : cap ≤ 9223372036854775807) (hw : m ≤ 2199023255552) : OwnsPost w l (.returned (.slice (some ⟨g, 0, none⟩) m cap)) W := by
  refine ⟨_, m, cap, rfl, ⟨hl, (fun e => by cases e), hc, hcap, hw, ps, fun h0 => ⟨_, rfl, h.row.lt, fun j u hu => ?_⟩, ⟨by rw [h.len, hl], fun k p x hp hx => (h.new k p x (by have := (List.getElem?_eq_some_iff.1 hp).1; rw [h.len] at this; exact this) hp hx).1⟩⟩, fun k hk => ?_, h.bel⟩
  · rw [Dt.zero_add]
    have hj : j < ps.length * 7 := by have := (List.getElem?_eq_some_iff.1 hu).1; rwa [ev_length] at this
    have hk : j / 7 < ps.length := by omega
    have hp := List.getElem?_eq_getElem hk
    have hcs := h.row.cell _ _ hp
    have hv := ev_get hp (j % 7) (by omega)
    rw [show j / 7 * 7 + j % 7 = j by omega, hu] at hv
    have h7 : j % 7 = 0 ∨ j % 7 = 1 ∨ j % 7 = 2 ∨ j % 7 = 3 ∨ j % 7 = 4 ∨ j % 7 = 5 ∨ j % 7 = 6 := by omega
    rcases h7 with e | e | e | e | e | e | e
    · rw [e] at hv; cases hv; have := hcs.c0; rwa [show j / 7 * 7 = j by omega] at this
    · rw [e] at hv; cases hv; have := hcs.c1; rwa [show j / 7 * 7 + 1 = j by omega] at this
    · rw [e] at hv; cases hv; have := hcs.c2; rwa [show j / 7 * 7 + 2 = j by omega] at this
    · rw [e] at hv; cases hv; have := hcs.c3; rwa [show j / 7 * 7 + 3 = j by omega] at this
    · rw [e] at hv; cases hv; have := hcs.c4; rwa [show j / 7 * 7 + 4 = j by omega] at this
    · rw [e] at hv; cases hv; have := hcs.c5; rwa [show j / 7 * 7 + 5 = j by omega] at this
    · rw [e] at hv; cases hv; have := hcs.c6; rwa [show j / 7 * 7 + 6 = j by omega] at this
  · have hkp : k < ps.length := by rw [h.len]; exact hk
    have hkl : k < l.length := by rw [hl]; exact hk
    have hp := List.getElem?_eq_getElem hkp
    obtain ⟨h1, h2, h3⟩ := h.new k _ _ hk hp (List.getElem?_eq_getElem hkl)
    refine ⟨_, ps[k], rfl, hg, ?_, h2, h3⟩
    rw [Dt.zero_add]
    exact (h.row.cell k _ hp).c6

/-- events in memory beside what they tell. -/
theorem zip_of {w : World} {B : Nat} : ∀ (ps : List EV) (l : List Evt), Match w B ps l → ∃ Z : List PE, Z.map PE.fst = ps ∧ Z.map PE.snd = l
  | [], [], _ => ⟨[], rfl, rfl⟩
  | [], _ :: _, h => by have := h.1; simp at this
  | _ :: _, [], h => by have := h.1; simp at this
  | p :: ps, x :: l, h => by
    obtain ⟨Z, h1, h2⟩ := zip_of ps l ⟨by have := h.1; simpa using this, fun k q y hq hy => h.2 (k + 1) q y (by simpa using hq) (by simpa using hy)⟩
    exact ⟨⟨p, x, (is_dot (h.2 0 p x rfl rfl)).symm⟩ :: Z, by simp [h1], by simp [h2]⟩
/-- an event's cells, as a sort reads them. -/
def encE (a : PE) : List Value := a.1.cells
theorem flat_ev (Z : List PE) (j : Nat) (hj : j < Z.length * 7) : (ev (Z.map PE.fst))[j]? = some (Sort.flatK encE 7 Z.toArray)[j]! := by
  rw [Sort.get_flatK _ _ _ _ (by simpa using hj)]
  have hk : j / 7 < Z.length := by omega
  have hg : (Z.map PE.fst)[j / 7]? = some (Z[j / 7]).1 := by simp [hk]
  have g := ev_get hg (j % 7) (by omega)
  rw [show j / 7 * 7 + j % 7 = j by omega] at g
  have e : Z.toArray[j / 7]! = Z[j / 7] := by rw [getElem!_pos _ _ (by simpa using hk)]; simp
  rw [g, e]
  have hlt : j % 7 < (encE Z[j / 7]).length := by show j % 7 < 7; omega
  rw [getElem!_pos (encE (Z[j / 7])) (j % 7) hlt]
  exact List.getElem?_eq_getElem hlt
/-- a row of one's own, as a sort sees it. -/
theorem own_holds {w : World} {B g n cap : Nat} {Z : List PE} (hn : Z.length = n) (h : w.ownsRow B 30 7 (.slice (some ⟨g, 0, none⟩) n cap) n (ev (Z.map PE.fst))) (h0 : 0 < n ∨ g < w.heap.size) : Sort.HoldsK encE 7 w g 0 Z.toArray ∧ g < w.heap.size := by
  subst hn
  rcases h.2 with ⟨h', _⟩ | ⟨g', cap', cur, e, hB, hheap, hle, hmx, hsz, htk⟩
  · cases h'
  · cases e
    have hlt : g < w.heap.size := (Array.getElem?_eq_some_iff.1 hheap).1
    refine ⟨fun j hj => ?_, hlt⟩
    have hj' : j < Z.length * 7 := by simpa using hj
    refine ⟨?_, by simp [World.frozen?, hheap]⟩
    have hcell : cur[j]? = (ev (Z.map PE.fst))[j]? := by
      rw [← htk, List.getElem?_take, if_pos hj']
      simp
    rw [Nat.zero_add, show id (Sort.flatK encE 7 Z.toArray)[j]! = (Sort.flatK encE 7 Z.toArray)[j]! from rfl, ← flat_ev Z j hj', ← hcell]
    simp [World.cell?, hheap]
/-- all that lies below a sorted row's block is as it was. -/
theorem swk_below {α : Type} [Inhabited α] {enc : α → List Value} {k g off B : Nat} {d : Array α} {w W : World} (h : SWK enc k w g off d W) (hg : B ≤ g) (hB : B ≤ w.heap.size) : Below B w W := by
  obtain ⟨n, os, rfl⟩ := h
  refine ⟨rfl, rfl, rfl, ?_, fun j hj => ?_⟩
  · show w.heap.size ≤ ((w.heap.modify g _) ++ os).size
    simp
  · show ((w.heap.modify g _) ++ os)[j]? = _
    rw [Array.getElem?_append_left (by simp; omega), Array.getElem?_modify, if_neg (by omega)]
/-- the row behind a sort. -/
theorem swk_row {g m : Nat} {d d0 : Array PE} {w W : World} (h : SWK encE 7 w g 0 d W) (h0 : Sort.HoldsK encE 7 w g 0 d0) (hs : d.size = d0.size) (hg : g < w.heap.size) (hm : m ≤ d.size) : RowE W g ((St.seg (St.row d) 0 m).map PE.fst) := by
  have hH := h.holds hg h0 hs
  have hget : ∀ k p, ((St.seg (St.row d) 0 m).map PE.fst)[k]? = some p → k < d.size ∧ d[k]!.1 = p := fun k p hp => by
    have hk := (List.getElem?_eq_some_iff.1 hp).1
    simp [St.seg] at hk
    simp [St.seg, hk] at hp
    exact ⟨by omega, hp⟩
  refine ⟨h.lt hg, fun k p hp => ?_, fun k p hp j hj => ?_⟩
  · obtain ⟨hk, rfl⟩ := hget k p hp
    refine cells_of (fun j hj => ?_)
    have := (hH.cell hk (c := j) hj).1
    rw [Nat.zero_add] at this
    rw [this, getElem!_pos (encE d[k]!) j (show j < (encE d[k]!).length from hj)]
    rfl
  · obtain ⟨hk, rfl⟩ := hget k p hp
    have := (hH.cell hk (c := j) hj).2
    rwa [Nat.zero_add] at this
end Go.Proofs.YtmebokpgiehgmaaGreat.Ev

/- The contracts of slices.IndexFunc, ContainsFunc and DeleteFunc at events, with whatever function that tells of an event. For every list that lies (IndexFunc, ContainsFunc), and every list of one's own (DeleteFunc). -/
namespace Go.Proofs.YtmebokpgiehgmaaGreat.Kl
open Go.ChangeShapes Go.WideShapes Go.ChangeAt Go.RowKit
set_option linter.unusedVariables false
set_option maxRecDepth 4000

/-- what is asked of a function that tells of the events of a list: in whatever world in which all but the list's block is as it was. -/
def TellsE {α : Type} (fe : α → Ev.EV) (g : Nat) (cb : Array Value) (p : α → Bool) (Z : List α) (w : World) (row : Option Nat) : Prop :=
  ∀ (W : World) (z : α), z ∈ Z → w.grownBy W row → Calls Tryz.prog g (#[(fe z).val] ++ cb) W fun e w' => e = .returned (.bool (p z)) ∧ Below W.heap.size W w'
theorem grown_bel {w W : World} (h : Below w.heap.size w W) (row : Option Nat) : w.grownBy W row := ⟨h.os, h.tape, h.output, h.size, fun k hk _ => h.block k hk⟩
theorem bel_grownN {w W : World} (h : w.grownBy W none) : Below w.heap.size w W := ⟨h.os, h.tape, h.output, h.size, fun k hk => h.block k hk (by simp)⟩
theorem TellsE.less {α : Type} {fe : α → Ev.EV} {g : Nat} {cb : Array Value} {p : α → Bool} {Z : List α} {w : World} {row : Option Nat} (h : TellsE fe g cb p Z w row) : TellsE fe g cb p Z w none := fun W q hq hg => h W q hq (grown_bel (bel_grownN hg) row)
/-- what lies at a place. -/
theorem lies_cells {w : World} {B : Nat} {A : Option Addr} {ps : List Ev.EV} (h : Dt.Lies w B A (Ev.ev ps)) {k : Nat} {p : Ev.EV} (hp : ps[k]? = some p) : ∃ ad : Addr, A = some ad ∧ ad.block < B ∧ Ev.CellsAt w (ad.add (k * 7)) p := by
  have hk := (List.getElem?_eq_some_iff.1 hp).1
  obtain ⟨ad, e, hB, hc⟩ := h (by rw [Ev.ev_length]; omega)
  have g := fun j hj => Ev.ev_get hp j hj
  refine ⟨ad, e, hB, ⟨hc _ _ (g 0 (by omega)), ?_, ?_, ?_, ?_, ?_, ?_⟩⟩
  · rw [Ev.add_eq _ _ _ (by omega)]; exact hc _ _ (g 1 (by omega))
  · rw [Ev.add_eq _ _ _ (by omega)]; exact hc _ _ (g 2 (by omega))
  · rw [Ev.add_eq _ _ _ (by omega)]; exact hc _ _ (g 3 (by omega))
  · rw [Ev.add_eq _ _ _ (by omega)]; exact hc _ _ (g 4 (by omega))
  · rw [Ev.add_eq _ _ _ (by omega)]; exact hc _ _ (g 5 (by omega))
  · rw [Ev.add_eq _ _ _ (by omega)]; exact hc _ _ (g 6 (by omega))
/-- the first event that the function takes, or none. -/
def FirstAt {α : Type} (p : α → Bool) (Z : List α) (e : Ending) : Prop :=
  (e = .returned (.int .i64 (-1)) ∧ ∀ z ∈ Z, p z = false) ∨ ∃ (i : Nat) (z : α), Z[i]? = some z ∧ e = .returned (.int .i64 (i : Int)) ∧ p z = true ∧ ∀ z ∈ Z.take i, p z = false
theorem none_next {α : Type} {p : α → Bool} {Z : List α} {k : Nat} {z : α} (h : ∀ z ∈ Z.take k, p z = false) (hz : Z[k]? = some z) (hp : p z = false) : ∀ z ∈ Z.take (k + 1), p z = false := fun r hr => by
  rw [Ev.take_one hz] at hr
  rcases List.mem_append.1 hr with hr | hr
  · exact h r hr
  · rw [List.mem_singleton.1 hr]; exact hp

set_option maxHeartbeats 4000000 in
theorem pindexE {α : Type} (fe : α → Ev.EV) (w : World) (A : Option Addr) (Z : List α) (n c : Nat) (hn : Z.length = n) (hl : Dt.Lies w w.heap.size A (Ev.ev (Z.map fe))) (h62 : n ≤ 8796093022208) (g : Nat) (cb : Array Value) (p : α → Bool)
    (eg : ∀ args w, (callFunc g args).run Tryz.prog w = .ok (.enter g args) w) (hp : TellsE fe g cb p Z w none) :
    Calls Tryz.prog 51 #[.slice A n c, .func (.func g) #[] cb] w fun e w' => FirstAt p Z e ∧ Below w.heap.size w w' := by
  have HL := Lib.hid hl
  have HP := Lib.hid hp
  have HN := Lib.hid hn
  clear hl hp hn
  go_enter Tryz.func51, Tryz.ntmps51
  go_wp2
  go_loopw [5, 8] (fun _ vi wr => ∃ k : Nat, k ≤ n ∧ vi = .int .i64 (k : Int) ∧ (∀ z ∈ Z.take k, p z = false) ∧ Below w.heap.size w wr) (fun _ vi _ => n - (intOf vi).toNat)
  case atStart => exact ⟨0, Nat.zero_le _, rfl, by simp, Below.refl _ _⟩
  case round =>
    obtain ⟨k, hk, rfl, hno, hw⟩ := hrel
    have HNO := Lib.hid hno
    have HW := Lib.hid hw
    clear hno hw
    by_cases hlt : k < n
    · obtain ⟨z, hz⟩ : ∃ z, Z[k]? = some z := ⟨_, List.getElem?_eq_getElem (by rw [HN.out]; exact hlt)⟩
      obtain ⟨ad, rfl, hB, hc⟩ := lies_cells HL.out (show (Z.map fe)[k]? = some (fe z) by rw [List.getElem?_map, hz]; rfl)
      have hcall := HP.out wr z (List.mem_of_getElem? hz) (grown_bel HW.out none)
      obtain ⟨e0, e1, e2, e3, e4, e5, e6⟩ := hc.kept HW.out
      have HQ := Lib.hid hz
      clear hz hc
      simp only [Ev.EV.val] at hcall
      generalize fe z = q at *
      cases hb : p z with
      | true =>
        rw [hb] at hcall
        have HB := Lib.hid hb
        clear hb
        go_wp2_with (go_at_fn g; refine hcall.mono ?_; rintro e w' ⟨rfl, hb'⟩)
        go_ret
        exact ⟨.inr ⟨k, z, HQ.out, rfl, HB.out, HNO.out⟩, HW.out.trans (hb'.mono HW.out.size)⟩
      | false =>
        rw [hb] at hcall
        have HNN := Lib.hid (none_next HNO.out HQ.out hb)
        clear hb
        go_wp2_with (go_at_fn g; refine hcall.mono ?_; rintro e w' ⟨rfl, hb'⟩)
        go_roundw
        case rel => exact ⟨k + 1, by omega, by go_num, HNN.out, HW.out.trans (hb'.mono HW.out.size)⟩
        case measure => simp [intOf]; omega
    · obtain rfl : k = n := by omega
      have HA : Hid (∀ z ∈ Z, p z = false) := Lib.hid (by
        have h := HNO.out
        rwa [List.take_of_length_le (by rw [HN.out]; exact Nat.le_refl _)] at h)
      go_wp2
      go_ret
      exact ⟨.inl ⟨rfl, HA.out⟩, HW.out⟩

/-! DeleteFunc: a row of one's own. -/
instance : Inhabited Ev.EV := ⟨⟨0, 0, 0, 0, 0, ⟨#[]⟩, none, 0, 0⟩⟩
theorem row_cells {w : World} {g0 : Nat} {ps : List Ev.EV} (h : Ev.RowE w g0 ps) : Sort.HoldsK Ev.EV.cells 7 w g0 0 ps.toArray := fun j hj => by
  have hj' : j < ps.length * 7 := by simpa using hj
  have hk : j / 7 < ps.length := by omega
  have hp : ps[j / 7]? = some ps[j / 7] := List.getElem?_eq_getElem hk
  have e : ps.toArray[j / 7]! = ps[j / 7] := by rw [getElem!_pos _ _ (by simpa using hk)]; simp
  have hf := h.free _ _ hp (j % 7) (by omega)
  have hc := h.cell _ _ hp
  have ej : j / 7 * 7 + j % 7 = j := by omega
  rw [ej] at hf
  refine ⟨?_, by rw [Nat.zero_add]; exact hf⟩
  rw [Nat.zero_add, show id (Sort.flatK Ev.EV.cells 7 ps.toArray)[j]! = (Sort.flatK Ev.EV.cells 7 ps.toArray)[j]! from rfl, Sort.get_flatK _ _ _ _ (by simpa using hj'), e]
  have h7 : j % 7 = 0 ∨ j % 7 = 1 ∨ j % 7 = 2 ∨ j % 7 = 3 ∨ j % 7 = 4 ∨ j % 7 = 5 ∨ j % 7 = 6 := by omega
  rcases h7 with h7 | h7 | h7 | h7 | h7 | h7 | h7
  · rw [h7]; have := hc.c0; rwa [show j / 7 * 7 = j by omega] at this
  · rw [h7]; have := hc.c1; rwa [show j / 7 * 7 + 1 = j by omega] at this
  · rw [h7]; have := hc.c2; rwa [show j / 7 * 7 + 2 = j by omega] at this
  · rw [h7]; have := hc.c3; rwa [show j / 7 * 7 + 3 = j by omega] at this
  · rw [h7]; have := hc.c4; rwa [show j / 7 * 7 + 4 = j by omega] at this
  · rw [h7]; have := hc.c5; rwa [show j / 7 * 7 + 5 = j by omega] at this
  · rw [h7]; have := hc.c6; rwa [show j / 7 * 7 + 6 = j by omega] at this
theorem set_grown {w W : World} {g0 : Nat} (h : w.grownBy W (some g0)) (o : Nat) (v : Value) : w.grownBy (W.setCell ⟨g0, o, none⟩ v) (some g0) :=
  ⟨h.os, h.tape, h.output, by rw [World.size_setCell]; exact h.size, fun k hk hne => (Below.heap_setCell W ⟨g0, o, none⟩ v k (fun e => hne (by rw [e]))).trans (h.block k hk hne)⟩
theorem sets_grown {w : World} {g0 : Nat} : ∀ (vs : List Value) (o : Nat) (W : World), w.grownBy W (some g0) → w.grownBy (W.setCells g0 o vs) (some g0)
  | [], _, _, h => h
  | v :: r, o, W, h => by
    rw [World.setCells]
    exact sets_grown r (o + 1) _ (set_grown h o v)
theorem put_grown {w W : World} {g0 : Nat} (h : w.grownBy W (some g0)) (o : Nat) (q : Ev.EV) : w.grownBy (Ev.putAt W g0 o q) (some g0) := sets_grown _ _ _ h
theorem row_lies {w : World} {g0 : Nat} {ps : List Ev.EV} (h : Ev.RowE w g0 ps) : Dt.Lies w w.heap.size (some ⟨g0, 0, none⟩) (Ev.ev ps) := fun h0 => ⟨_, rfl, h.lt, fun j u hu => by
    rw [Dt.zero_add]
    have hj : j < ps.length * 7 := by have := (List.getElem?_eq_some_iff.1 hu).1; rwa [Ev.ev_length] at this
    have hk : j / 7 < ps.length := by omega
    have hp := List.getElem?_eq_getElem hk
    have hcs := h.cell _ _ hp
    have hv := Ev.ev_get hp (j % 7) (by omega)
    rw [show j / 7 * 7 + j % 7 = j by omega, hu] at hv
    have h7 : j % 7 = 0 ∨ j % 7 = 1 ∨ j % 7 = 2 ∨ j % 7 = 3 ∨ j % 7 = 4 ∨ j % 7 = 5 ∨ j % 7 = 6 := by omega
    rcases h7 with e | e | e | e | e | e | e
    · rw [e] at hv; cases hv; have := hcs.c0; rwa [show j / 7 * 7 = j by omega] at this
    · rw [e] at hv; cases hv; have := hcs.c1; rwa [show j / 7 * 7 + 1 = j by omega] at this
    · rw [e] at hv; cases hv; have := hcs.c2; rwa [show j / 7 * 7 + 2 = j by omega] at this
    · rw [e] at hv; cases hv; have := hcs.c3; rwa [show j / 7 * 7 + 3 = j by omega] at this
    · rw [e] at hv; cases hv; have := hcs.c4; rwa [show j / 7 * 7 + 4 = j by omega] at this
    · rw [e] at hv; cases hv; have := hcs.c5; rwa [show j / 7 * 7 + 5 = j by omega] at this
    · rw [e] at hv; cases hv; have := hcs.c6; rwa [show j / 7 * 7 + 6 = j by omega] at this⟩
/-- the empty event. -/
theorem zero_val (w : World) : (zeroValue 30).run Tryz.prog w = .ok (Value.agg (Ev.EV.cells ⟨0, 0, 0, 0, 0, ⟨#[]⟩, none, 0, 0⟩).toArray) w := Tryz.zeroValue30 w
/-- the rest of a row, cleared. -/
theorem clear_row {w : World} {g0 : Nat} {ps : List Ev.EV} (h : Ev.RowE w g0 ps) (i : Nat) (hi : i < ps.length) (c : Nat) :
    ∃ W, (∀ ty, (Builtin.clear_ #[33] ty #[.slice (some ⟨g0, i * 7, none⟩) (ps.length - i) c]).run Tryz.prog w = .ok (.tuple #[]) W) ∧ Ev.RowE W g0 (ps.take i) ∧ w.grownBy W (some g0) := by
  have hH := row_cells h
  have R : RowK Ev.EV.cells 7 w g0 0 ps.toArray := ⟨fun _ => rfl, fun x v hv => Ev.ev_one [x] v (by simpa [Ev.ev] using hv), hH, h.lt⟩
  have hcl := fun ty => St.swk_clr (SWK.start hH) R rfl (P := Tryz.prog) (t := 33) (e := 30) Tryz.underlying33 ⟨0, 0, 0, 0, 0, ⟨#[]⟩, none, 0, 0⟩ zero_val i (by simpa using hi) c ty
  simp only [Nat.zero_add, List.size_toArray] at hcl
  refine ⟨_, hcl, ⟨?_, fun k p hp => ?_, fun k p hp j hj => ?_⟩, sets_grown _ _ _ (World.grownBy.refl _ _)⟩
  · rw [Sort.size_setCells]; exact h.lt
  · have hk : k < i := by have := (List.getElem?_eq_some_iff.1 hp).1; simp at this; omega
    rw [List.getElem?_take, if_pos hk] at hp
    have hc := h.cell k p hp
    have e : ∀ j, j < 7 → (w.setCells g0 (i * 7) (Builtin.zeroCells (Ev.EV.cells ⟨0, 0, 0, 0, 0, ⟨#[]⟩, none, 0, 0⟩).toArray (ps.length - i)).toList).cell? ⟨g0, k * 7 + j, none⟩ = w.cell? ⟨g0, k * 7 + j, none⟩ := fun j hj =>
      World.cell?_setCells_out g0 _ (i * 7) w _ (fun _ h2 => by simp only at h2 ⊢; omega)
    exact ⟨(e 0 (by omega)).trans hc.c0, (e 1 (by omega)).trans hc.c1, (e 2 (by omega)).trans hc.c2, (e 3 (by omega)).trans hc.c3, (e 4 (by omega)).trans hc.c4, (e 5 (by omega)).trans hc.c5, (e 6 (by omega)).trans hc.c6⟩
  · have hk : k < i := by have := (List.getElem?_eq_some_iff.1 hp).1; simp at this; omega
    rw [List.getElem?_take, if_pos hk] at hp
    exact (World.frozen?_setCells _ _ _ _ _).trans (h.free k p hp j hj)
theorem kept_next {p : Ev.EV → Bool} {ps ds : List Ev.EV} {i j : Nat} {q : Ev.EV} (hi : ds.take i = (ps.take j).filter (fun q => !p q)) (hil : i < ds.length) (hq : ps[j]? = some q) (hp : p q = false) : (ds.set i q).take (i + 1) = (ps.take (j + 1)).filter (fun q => !p q) := by
  rw [Ev.take_one hq, List.filter_append, ← hi, Ev.take_one (x := q) (by rw [List.getElem?_set, if_pos rfl, if_pos hil]), List.take_set_of_le (Nat.le_refl _)]
  simp [hp]
theorem skipped_next {p : Ev.EV → Bool} {ps ds : List Ev.EV} {i j : Nat} {q : Ev.EV} (hi : ds.take i = (ps.take j).filter (fun q => !p q)) (hq : ps[j]? = some q) (hp : p q = true) : ds.take i = (ps.take (j + 1)).filter (fun q => !p q) := by
  rw [Ev.take_one hq, List.filter_append, ← hi]
  simp [hp]
theorem kept_all {p : Ev.EV → Bool} {ps : List Ev.EV} (h : ∀ q ∈ ps, p q = false) : ps.filter (fun q => !p q) = ps := List.filter_eq_self.2 (fun q hq => by rw [h q hq]; rfl)
/-- what DeleteFunc leaves. -/
def DelTo (p : Ev.EV → Bool) (ps : List Ev.EV) (w : World) (g0 c : Nat) (e : Ending) (w' : World) : Prop :=
  ∃ m, (ps.filter fun q => !p q).length = m ∧ e = .returned (.slice (some ⟨g0, 0, none⟩) m c) ∧ Ev.RowE w' g0 (ps.filter fun q => !p q) ∧ w.grownBy w' (some g0)

set_option maxHeartbeats 8000000 in
theorem pdelF (w : World) (g0 : Nat) (ps : List Ev.EV) (n c : Nat) (hn : ps.length = n) (hr : Ev.RowE w g0 ps) (hcap : n ≤ c) (h62 : n ≤ 8796093022208) (hc63 : c ≤ 9223372036854775807) (g : Nat) (cb : Array Value) (p : Ev.EV → Bool)
    (eg : ∀ args w, (callFunc g args).run Tryz.prog w = .ok (.enter g args) w) (hp : TellsE id g cb p ps w (some g0)) :
    Calls Tryz.prog 27 #[.slice (some ⟨g0, 0, none⟩) n c, .func (.func g) #[] cb] w (DelTo p ps w g0 c) := by
  have CI := pindexE id w (some ⟨g0, 0, none⟩) ps n c hn (by rw [List.map_id]; exact row_lies hr) h62 g cb p eg hp.less
  have HR := Lib.hid hr
  have HP := Lib.hid hp
  have HN := Lib.hid hn
  clear hr hp hn
  go_enter Tryz.func27, Tryz.ntmps27
  go_wp2_with fail
  refine CI.mono ?_
  rintro e w1 ⟨h1, hb1⟩
  have HB1 := Lib.hid hb1
  clear CI hb1
  rcases h1 with ⟨rfl, hno⟩ | ⟨i0, q0, hi0, rfl, hq0, hno⟩
  · have HE := Lib.hid (kept_all hno)
    clear hno
    go_wp2
    go_ret
    exact ⟨n, by rw [HE.out]; exact HN.out, rfl, by rw [HE.out]; exact HR.out.below HB1.out, grown_bel HB1.out _⟩
  · have hin : i0 < n := by have := (List.getElem?_eq_some_iff.1 hi0).1; rw [← HN.out]; exact this
    have HS : Hid (ps.take i0 = (ps.take (i0 + 1)).filter (fun q => !p q)) := Lib.hid (skipped_next (by rw [kept_all hno]) hi0 hq0)
    have hne : ((i0 : Int) == -1) = false := beq_eq_false_iff_ne.2 (by omega)
    clear hno hi0 hq0
    go_wp2
    go_loopw [5, 6] (fun vi vj wr => ∃ (i j : Nat) (ds : List Ev.EV), vi = .int .i64 (i : Int) ∧ vj = .int .i64 (j : Int) ∧ i < j ∧ j ≤ n ∧ ds.length = n ∧ Ev.RowE wr g0 ds ∧ ds.take i = (ps.take j).filter (fun q => !p q) ∧ ds.drop j = ps.drop j ∧ w.grownBy wr (some g0)) (fun _ vj _ => n - (intOf vj).toNat)
    case atStart => exact ⟨i0, i0 + 1, ps, rfl, by go_num, by omega, by omega, HN.out, HR.out.below HB1.out, HS.out, rfl, grown_bel HB1.out _⟩
    case round =>
      obtain ⟨i, j, ds, rfl, rfl, hij, hj, hds, hrow, htk, hdr, hg⟩ := hrel
      have HDS := Lib.hid hds
      have HROW := Lib.hid hrow
      have HTK := Lib.hid htk
      have HDR := Lib.hid hdr
      have HG := Lib.hid hg
      clear hds hrow htk hdr hg
      by_cases hlt : j < n
      · obtain ⟨q, hq⟩ : ∃ q, ps[j]? = some q := ⟨_, List.getElem?_eq_getElem (by rw [HN.out]; exact hlt)⟩
        have hqd : ds[j]? = some q := by
          have h1 : (ds.drop j)[0]? = (ps.drop j)[0]? := by rw [HDR.out]
          simpa [hq] using h1
        have HQ := Lib.hid hq
        have HDN : Hid (ds.drop (j + 1) = ps.drop (j + 1)) := Lib.hid (by rw [← List.drop_drop, ← List.drop_drop, HDR.out])
        obtain ⟨c0, c1, c2, c3, c4, c5, c6⟩ := HROW.out.cell j q hqd
        have HBX := Lib.hid (fun V (hV : Below (wr.heap.size + 1) (wr.alloc q.box) V) => (Ev.box_new wr q V hV).all)
        have HGB : Hid (w.grownBy (wr.alloc q.box) (some g0)) := Lib.hid (HG.out.trans (World.grownBy_alloc _ _ _))
        have HRB : Hid (Ev.RowE (wr.alloc q.box) g0 ds) := Lib.hid (HROW.out.below (Ev.below_new _ _))
        have hcall := HP.out (wr.alloc q.box) q (List.mem_of_getElem? hq) HGB.out
        have hsz : (wr.alloc q.box).heap.size = wr.heap.size + 1 := Ev.alloc_size _ _
        have HSZ := Lib.hid hsz
        obtain ⟨x0, x1, x2, x3, x4, x5, x6⟩ := HBX.out _ (by rw [← hsz]; exact Below.refl _ _)
        clear hq hqd hsz
        simp only [Ev.EV.val, id_eq] at hcall
        cases hb : p q with
        | true =>
          rw [hb] at hcall
          have HNX := Lib.hid (skipped_next HTK.out HQ.out hb)
          clear hb
          go_wp2_with (go_at_fn g; refine hcall.mono ?_; rintro e w' ⟨rfl, hb'⟩)
          go_roundw
          case rel => exact ⟨i, j + 1, ds, rfl, by go_num, by omega, by omega, HDS.out, HRB.out.below hb', HNX.out, HDN.out, HGB.out.trans (grown_bel hb' _)⟩
          case measure => simp [intOf]; omega
        | false =>
          rw [hb] at hcall
          have hil : i < ds.length := by rw [HDS.out]; omega
          have HNX := Lib.hid (kept_next HTK.out hil HQ.out hb)
          have HIL := Lib.hid hil
          have HDN2 : Hid ((ds.set i q).drop (j + 1) = ps.drop (j + 1)) := Lib.hid (by rw [List.drop_set_of_lt (by omega)]; exact HDN.out)
          have HOLD := Lib.hid (fun (V : World) (hV : Below (wr.alloc q.box).heap.size (wr.alloc q.box) V) => HRB.out.below hV)
          clear hb hil
          go_wp2_with (go_at_fn g; refine hcall.mono ?_; rintro e w' ⟨rfl, hb'⟩
                       have hrw := HOLD.out _ hb'
                       have HPUT := Lib.hid (hrw.put HIL.out q)
                       have HGP := Lib.hid (put_grown (HGB.out.trans (grown_bel hb' _)) (i * 7) q)
                       have hd := hrw.cell i _ (List.getElem?_eq_getElem HIL.out)
                       have hf := hrw.free i _ (List.getElem?_eq_getElem HIL.out)
                       have f0 := hf 0 (by omega)
                       have f1 := hf 1 (by omega)
                       have f2 := hf 2 (by omega)
                       have f3 := hf 3 (by omega)
                       have f4 := hf 4 (by omega)
                       have f5 := hf 5 (by omega)
                       have f6 := hf 6 (by omega)
                       simp only [Nat.add_zero] at f0
                       obtain ⟨d0, d1, d2, d3, d4, d5, d6⟩ := hd
                       simp only at d0 d1 d2 d3 d4 d5 d6
                       obtain ⟨y0, y1, y2, y3, y4, y5, y6⟩ := HBX.out w' (by rw [← HSZ.out]; exact hb')
                       rw [Ev.putAt_eq] at HPUT HGP
                       clear hf hrw c0 c1 c2 c3 c4 c5 c6 x0 x1 x2 x3 x4 x5 x6)
          go_roundw
          case rel => exact ⟨i + 1, j + 1, ds.set i q, by go_num, by go_num, by omega, by omega, by rw [List.length_set]; exact HDS.out, HPUT.out, HNX.out, HDN2.out, HGP.out⟩
          case measure => simp [intOf]; omega
      · obtain rfl : j = n := by omega
        have hid : i < ds.length := by rw [HDS.out]; exact hij
        obtain ⟨W, hcl, hrW, hgW⟩ := clear_row HROW.out i hid (c - i)
        rw [HDS.out] at hcl
        have HTA : Hid (ds.take i = ps.filter (fun q => !p q)) := Lib.hid (by
          have h := HTK.out
          rwa [List.take_of_length_le (l := ps) (by rw [HN.out]; exact Nat.le_refl _)] at h)
        rw [HTA.out] at hrW
        have HRW := Lib.hid hrW
        have HGW := Lib.hid (HG.out.trans hgW)
        have HLN : Hid ((ps.filter (fun q => !p q)).length = i) := Lib.hid (by rw [← HTA.out, List.length_take]; omega)
        have z2 : i < c := by omega
        clear hrW hgW hid
        go_wp2
        go_ret
        exact ⟨i, HLN.out, rfl, HRW.out, HGW.out⟩
end Go.Proofs.YtmebokpgiehgmaaGreat.Kl

/- The contracts of the program's Same, All, Clashes and Kills of layer event. For every event and list of events. -/
namespace Go.Proofs.YtmebokpgiehgmaaGreat.Ev
open Go.ChangeShapes Go.WideShapes Go.ChangeAt Go.RowKit
set_option linter.unusedVariables false
set_option maxRecDepth 4000

theorem onedot_below (w : World) (p q : EV) : Calls Tryz.prog 50 #[p.val, q.val] w fun e w' => e = .returned (.bool (oneE p q)) ∧ Below w.heap.size w w' :=
  (onedot_any w p q).mono fun _ _ ⟨h1, n, os, h2⟩ => ⟨h1, by
    rw [h2]
    refine ⟨rfl, rfl, rfl, ?_, fun j hj => ?_⟩
    · show w.heap.size ≤ (w.heap ++ os).size
      simp
    · show (w.heap ++ os)[j]? = w.heap[j]?
      rw [Array.getElem?_append_left hj]⟩
end Go.Proofs.YtmebokpgiehgmaaGreat.Ev

/- The contracts of the program's isEdit and edits of layer kills, and of the functions that Edit and Live hand over. For every event, and every list of at most 2^40 events. -/
namespace Go.Proofs.YtmebokpgiehgmaaGreat.Kl
open Go.ChangeShapes Go.WideShapes Go.ChangeAt Go.RowKit
set_option linter.unusedVariables false
set_option maxRecDepth 4000

theorem pisedit (w : World) (q : Ev.EV) : Calls Tryz.prog 29 #[q.val] w fun e w' => e = .returned (.bool ((q.kind : Int) == 1)) ∧ Below w.heap.size w w' := by
  have hbx := (Ev.box_new w q _ (Below.refl _ _)).all
  have HB := Lib.hid (Ev.below_new w q.box)
  obtain ⟨p1, p2, p3, p4, p5, p6, pA, pn, pc⟩ := q
  simp only [Ev.EV.val, Ev.EV.box] at hbx HB ⊢
  obtain ⟨x0, x1, x2, x3, x4, x5, x6⟩ := hbx
  go_enter Tryz.func29, Tryz.ntmps29
  go_wp2
  go_ret
  exact ⟨rfl, HB.out⟩

set_option maxHeartbeats 4000000 in
theorem pedits (w : World) (A0 : Option Addr) (l : List Ev.Evt) (n c0 cid : Nat) (hl : Ev.EventsAt w w.heap.size A0 l n c0) (h40 : n ≤ 1099511627776) :
    Calls Tryz.prog 32 #[.slice A0 n c0, .int .u64 (cid : Int)] w fun e w' => ∃ (A : Option Addr) (m c : Nat) (ps : List Ev.EV), e = .returned (.slice A m c) ∧ ps.length = m ∧ m ≤ n ∧ Ev.Match w w.heap.size ps (l.filter (delB cid)) ∧ w'.ownsRow w.heap.size 30 7 (.slice A m c) m (Ev.ev ps) ∧ Below w.heap.size w w' := by
  have HL := Lib.hid hl
  clear hl
  go_enter Tryz.func32, Tryz.ntmps32
  go_wp2_with fail
  go_loopw [5, 10] (fun v i wr => SRel w n l (delB cid) v i wr) (fun _ i _ => n - (intOf i).toNat)
  case atStart => exact s_start _ _ _ _
  case round =>
    obtain ⟨k, m, A, c, ps, hk, rfl, rfl, hm, hma, ho, hw⟩ := hrel
    have hmk := s_long hm hma
    have HM := Lib.hid hm
    have HMA := Lib.hid hma
    have HO := Lib.hid ho
    have HW := Lib.hid hw
    clear hm hma ho hw
    by_cases hlt : k < n
    · obtain ⟨ad, q, y, rfl, hB, hly, hq, cq⟩ := HL.out.at_ hlt
      have HLY := Lib.hid hly
      have HQ := Lib.hid hq
      have HF : Hid (delB cid y = (((q.kind : Int) == 1) && ((q.cid : Int) == (cid : Int)))) := Lib.hid (by rw [eq_one, eq_u8, HQ.out.kind, HQ.out.cid]; rfl)
      obtain ⟨e0, e1, e2, e3, e4, e5, e6⟩ := cq.kept HW.out
      have HWB : Hid (Below w.heap.size w (wr.alloc q.box)) := Lib.hid (Ev.bel_alloc _ HW.out)
      have HOB := Lib.hid (HO.out.alloc q.box)
      have HBX := Lib.hid (fun V (hV : Below (wr.alloc q.box).heap.size (wr.alloc q.box) V) => (Ev.box_new wr q V (by rw [Ev.alloc_size] at hV; exact hV)).all)
      have CI := pisedit (wr.alloc q.box) q
      clear hly hq cq HO HW
      obtain ⟨x0, x1, x2, x3, x4, x5, x6⟩ := HBX.out _ (Below.refl _ _)
      simp only [Ev.EV.val, Ev.EV.box] at CI HWB HOB HBX x0 x1 x2 x3 x4 x5 x6
      cases h1 : ((q.kind : Int) == 1) with
      | false =>
        rw [h1] at CI HF
        rw [Bool.false_and] at HF
        go_wp2_with fail
        refine CI.mono ?_
        rintro e V ⟨rfl, hbV⟩
        have HV := Lib.hid (HWB.out.trans (hbV.mono HWB.out.size))
        have HOV := Lib.hid (Dt.own_kept HOB.out hbV)
        have HR := Lib.hid (s_skip (f := delB cid) hlt HLY.out HF.out HM.out HMA.out HOV.out HV.out)
        clear e0 e1 e2 e3 e4 e5 e6 x0 x1 x2 x3 x4 x5 x6 CI hbV
        go_wp2
        go_roundw
        case rel => exact HR.out
        case measure => simp [intOf]; omega
      | true =>
        rw [h1] at CI HF
        rw [Bool.true_and] at HF
        cases h2 : ((q.cid : Int) == (cid : Int)) with
        | false =>
          rw [h2] at HF
          go_wp2_with fail
          refine CI.mono ?_
          rintro e V ⟨rfl, hbV⟩
          have HV := Lib.hid (HWB.out.trans (hbV.mono HWB.out.size))
          have HOV := Lib.hid (Dt.own_kept HOB.out hbV)
          have HR := Lib.hid (s_skip (f := delB cid) hlt HLY.out HF.out HM.out HMA.out HOV.out HV.out)
          clear e0 e1 e2 e3 e4 e5 e6 x0 x1 x2 x3 x4 x5 x6 CI
          obtain ⟨x0, x1, x2, x3, x4, x5, x6⟩ := HBX.out V hbV
          clear hbV
          go_wp2
          go_roundw
          case rel => exact HR.out
          case measure => simp [intOf]; omega
        | true =>
          rw [h2] at HF
          go_wp2_with fail
          refine CI.mono ?_
          rintro e V ⟨rfl, hbV⟩
          have HV := Lib.hid (HWB.out.trans (hbV.mono HWB.out.size))
          have HOV := Lib.hid (Dt.own_kept HOB.out hbV)
          clear e0 e1 e2 e3 e4 e5 e6 x0 x1 x2 x3 x4 x5 x6 CI
          obtain ⟨x0, x1, x2, x3, x4, x5, x6⟩ := HBX.out V hbV
          have HLO : Hid (m + 1 ≤ 1649267441664) := Lib.hid (by omega)
          have HWA : Hid (Below w.heap.size w (V.alloc q.box)) := Lib.hid (Ev.bel_alloc _ HV.out)
          clear hbV
          go_wp2_with (at_builtin; refine Ev.wpList_evt rfl (.tmp 22) (.tmp 24) rfl rfl _ w.heap.size m (.slice A m c) ps (some ⟨V.heap.size, 0, none⟩) [q] 1 1 rfl rfl (HOV.out.alloc _) (fun h => by cases h) (Ev.lies_evt V q) rfl HLO.out HWA.out.size ?_; intro A3 c3 V3 ho3 hg3; have HR := Lib.hid (s_take hlt HLY.out HF.out HQ.out HM.out HMA.out ho3 (Ev.evt_grown (HOV.out.alloc _) HWA.out hg3)); clear ho3 hg3)
          go_roundw
          case rel => exact HR.out
          case measure => simp [intOf]; omega
    · obtain rfl : k = n := by omega
      have htk : l.take k = l := List.take_of_length_le (by rw [HL.out.len]; exact Nat.le_refl _)
      rw [htk] at HMA
      go_wp2
      go_ret
      exact ⟨A, m, c, ps, rfl, HM.out, hmk, HMA.out, HO.out, HW.out⟩

/-- the function that Edit hands over. -/
theorem tells_edit {w : World} {b f : Nat} {row : Option Nat} (hc : w.cell? ⟨b, 0, none⟩ = some (.int .u8 (f : Int))) (hne : some b ≠ row) (ps : List Ev.EV) :
    TellsE id 30 #[.pointer (some ⟨b, 0, none⟩)] (fun q => (q.fld : Int) != (f : Int)) ps w row := by
  intro W q _ hg
  have hb0 := Ev.below_new W q.box
  have hbx := (Ev.box_new W q _ (Below.refl _ _)).all
  have hp := Ev.stays hb0 (hg.cell hc hne)
  have HB := Lib.hid hb0
  clear hb0 hc hne hg
  obtain ⟨p1, p2, p3, p4, p5, p6, pA, pn, pc⟩ := q
  simp only [Ev.EV.val, Ev.EV.box, id_eq] at hbx hp HB ⊢
  obtain ⟨x0, x1, x2, x3, x4, x5, x6⟩ := hbx
  show Calls Tryz.prog 30 #[.agg #[.int .u16 (p1 : Int), .int .u64 (p2 : Int), .int .u8 (p3 : Int), .int .u64 (p4 : Int), .int .u8 (p5 : Int), .string p6, .slice pA pn pc], .pointer (some ⟨b, 0, none⟩)] W _
  go_enter Tryz.func30, Tryz.ntmps30
  go_wp2
  go_ret
  exact ⟨rfl, HB.out⟩

set_option maxHeartbeats 1000000 in
/-- the function that Live hands over. -/
theorem tells_live {w : World} {b mb N g0 : Nat} {s : Dt.Dot → Bool} (hc : w.cell? ⟨b, 0, none⟩ = some (.map (some mb))) (hm : MapD w mb N s) (h1 : b ≠ g0) (h2 : mb ≠ g0) (ps : List Ev.EV) (hfit : ∀ q ∈ ps, q.dev < 65536 ∧ q.num < 18446744073709551616) :
    TellsE id 28 #[.pointer (some ⟨b, 0, none⟩)] (fun q => !((q.kind : Int) == 1) || s (q.dev, q.num)) ps w (some g0) := by
  intro W q hq hg
  have hb0 := Ev.below_new W q.box
  have hp := Ev.stays hb0 (hg.cell hc (by simp [h1]))
  have HM := Lib.hid ((hm.kept hg (by simp [h2])).up hb0)
  have HB := Lib.hid hb0
  have HFT := Lib.hid (hfit q hq)
  have HP := Lib.hid hp
  have CI := pisedit (W.alloc q.box) q
  have HBX := Lib.hid (fun V (hV : Below (W.alloc q.box).heap.size (W.alloc q.box) V) => (Ev.box_new W q V (by rw [Ev.alloc_size] at hV; exact hV)).all)
  obtain ⟨x0, x1, x2, x3, x4, x5, x6⟩ := HBX.out _ (Below.refl _ _)
  clear hb0 hc h1 h2 hg hm hfit hq hp
  simp only [Ev.EV.val, Ev.EV.box, id_eq] at CI HM HB HP HBX x0 x1 x2 x3 x4 x5 x6 ⊢
  show Calls Tryz.prog 28 #[.agg #[.int .u16 (q.dev : Int), .int .u64 (q.num : Int), .int .u8 (q.kind : Int), .int .u64 (q.cid : Int), .int .u8 (q.fld : Int), .string q.txt, .slice q.adr q.len q.cap], .pointer (some ⟨b, 0, none⟩)] W _
  cases hk : ((q.kind : Int) == 1) with
  | false =>
    rw [hk] at CI
    go_enter Tryz.func28, Tryz.ntmps28
    go_wp2_with fail
    refine CI.mono ?_
    rintro e V ⟨rfl, hbV⟩
    have HV := Lib.hid (HB.out.trans (hbV.mono HB.out.size))
    clear CI hbV x0 x1 x2 x3 x4 x5 x6
    go_wp2
    go_ret
    exact ⟨rfl, HV.out⟩
  | true =>
    rw [hk] at CI
    go_enter Tryz.func28, Tryz.ntmps28
    go_wp2_with fail
    refine CI.mono ?_
    rintro e V ⟨rfl, hbV⟩
    have HV := Lib.hid (HB.out.trans (hbV.mono HB.out.size))
    have hlk := (HM.out.up hbV).look (d := (q.dev, q.num)) HFT.out
    have hp := Ev.stays hbV HP.out
    clear CI x0 x1 x2 x3 x4 x5 x6
    obtain ⟨x0, x1, x2, x3, x4, x5, x6⟩ := HBX.out V hbV
    simp only at hlk
    clear hbV
    obtain ⟨sb, hsb⟩ : ∃ sb, s (q.dev, q.num) = sb := ⟨_, rfl⟩
    rw [hsb] at hlk
    have HSB := Lib.hid hsb
    clear hsb
    go_wp2
    go_ret
    exact ⟨by rw [HSB.out]; rfl, HV.out⟩
end Go.Proofs.YtmebokpgiehgmaaGreat.Kl

/- The contract of the program's Dots of layer event. For every list of events that name at most 2^43 dots. -/
namespace Go.Proofs.YtmebokpgiehgmaaGreat.Ev
open Go.ChangeShapes Go.WideShapes Go.ChangeAt Go.RowKit
set_option linter.unusedVariables false
set_option maxRecDepth 4000

/-- the dots of events, and all that they kill, as they stand. -/
def gath (l : List Evt) : List Dt.Dot := l.flatMap fun x => x.dot :: x.kills
theorem fold_gath (l : List Evt) : ∀ acc : List Dt.Dot, (gath l).foldl Dt.putD acc = l.foldl dotsOne acc := by
  induction l with
  | nil => intro acc; rfl
  | cons x l ih =>
    intro acc
    have e : gath (x :: l) = (x.dot :: x.kills) ++ gath l := rfl
    rw [e, List.foldl_append, ih]
    rfl
theorem gath_dots (l : List Evt) : Dt.sortD (gath l) = dotsE l := fold_gath l []
theorem gath_len (l : List Evt) : (gath l).length = manyE l := by
  induction l with
  | nil => rfl
  | cons x l ih =>
    have e : gath (x :: l) = (x.dot :: x.kills) ++ gath l := rfl
    have e2 : manyE (x :: l) = (x.kills.length + 1) + manyE l := rfl
    rw [e, e2, List.length_append, ih, List.length_cons]
theorem gath_next {l : List Evt} {k : Nat} {x : Evt} (h : l[k]? = some x) : gath (l.take (k + 1)) = gath (l.take k) ++ [x.dot] ++ x.kills := by
  rw [take_one h]
  unfold gath
  rw [List.flatMap_append]
  simp
theorem gath_most (l : List Evt) (k : Nat) : (gath (l.take k)).length ≤ manyE l := by
  rw [← gath_len l]
  conv => rhs; rw [← List.take_append_drop k l]
  unfold gath
  rw [List.flatMap_append, List.length_append]
  omega
theorem gath_fit {w : World} {B : Nat} {A : Option Addr} {l : List Evt} {n c : Nat} (h : EventsAt w B A l n c) : Dt.Fit (gath l) := fun r hr => by
  obtain ⟨x, hx, hr⟩ := List.mem_flatMap.1 hr
  obtain ⟨k, hk, rfl⟩ := List.getElem_of_mem hx
  obtain ⟨_, p, y, _, _, hy, hp, _⟩ := h.at_ (k := k) (by rw [← h.len]; exact hk)
  rw [List.getElem?_eq_getElem hk] at hy
  cases hy
  rcases List.mem_cons.1 hr with rfl | hr
  · exact hp.fits.dot
  · exact hp.kills.dots.1 r hr
theorem sortD_long (l : List Dt.Dot) : ∀ acc : List Dt.Dot, (l.foldl Dt.putD acc).length ≤ acc.length + l.length := by
  induction l with
  | nil => intro acc; simp
  | cons d l ih =>
    intro acc
    have h1 := ih (Dt.putD acc d)
    have h2 := Dt.put_length acc d
    rw [List.foldl_cons, List.length_cons]
    omega

set_option maxHeartbeats 8000000 in
theorem pdotsE_any (w : World) (A0 : Option Addr) (l : List Evt) (n c0 : Nat) (hl : EventsAt w w.heap.size A0 l n c0) (h43 : manyE l ≤ 8796093022208) :
    Calls Tryz.prog 31 #[.slice A0 n c0] w (OwnDots w (dotsE l)) := by
  have HL := Lib.hid hl
  have HM := Lib.hid (fun k => gath_most l k)
  have h63 : n ≤ 2199023255552 := hl.wide
  clear hl
  go_enter Tryz.func31, Tryz.ntmps31
  go_wp2_with fail
  go_loopw [3, 8] (fun v i wr => ∃ (k m : Nat) (A : Option Addr) (c : Nat), k ≤ n ∧ i = .int .i64 (k : Int) ∧ v = .slice A m c ∧ (gath (l.take k)).length = m ∧ wr.ownsRow w.heap.size 28 2 (.slice A m c) m (Dt.dv (gath (l.take k))) ∧ Below w.heap.size w wr) (fun _ i _ => n - (intOf i).toNat)
  case atStart => exact ⟨0, 0, none, 0, Nat.zero_le _, rfl, rfl, rfl, World.ownsRow_nil _ _ _ _, Below.refl _ _⟩
  case round =>
    obtain ⟨k, m, A, c, hk, rfl, rfl, hm, ho, hw⟩ := hrel
    have HO := Lib.hid ho
    have HW := Lib.hid hw
    have HML := Lib.hid hm
    have hmm := HM.out k
    rw [hm] at hmm
    clear hm
    by_cases hlt : k < n
    · obtain ⟨ad, p, x, rfl, hB, hly, hp, cp⟩ := HL.out.at_ hlt
      have cq := fun (a : Addr) (v : Value) (h : w.cell? a = some v) => (hw.cell (World.block_lt_of_cell? w _ h)).trans h
      have hz : (k : Int) < (n : Int) := by omega
      have hmany := HM.out (k + 1)
      have hnext := gath_next hly
      rw [hnext, List.length_append, List.length_append, HML.out, List.length_singleton, hp.kills.len] at hmany
      have HD := Lib.hid (is_dot hp)
      have HNX := Lib.hid hnext
      have HA := Lib.hid (bel_alloc p.box hw)
      have HB2 := Lib.hid (bel_alloc (.cells #[.int .u16 (p.dev : Int), .int .u64 (p.num : Int)] 28) HA.out)
      have hOB : (((wr.alloc p.box).alloc (.cells #[.int .u16 (p.dev : Int), .int .u64 (p.num : Int)] 28))).ownsRow w.heap.size 28 2 (.slice A m c) m (Dt.dv (gath (l.take k))) := (ho.alloc _).alloc _
      have hne : some wr.heap.size ≠ (Value.slice A m c).ownBlock := fun e => by have := (ho.lt wr.heap.size e.symm).2; omega
      have hb6 := (box_first wr p (.cells #[.int .u16 (p.dev : Int), .int .u64 (p.num : Int)] 28)).all
      have hb7 := (box_new wr p _ (Below.refl _ _)).all
      have hbx := fun (V3 : World) (hg : (((wr.alloc p.box).alloc (.cells #[.int .u16 (p.dev : Int), .int .u64 (p.num : Int)] 28))).grownBy V3 (Value.slice A m c).ownBlock) => hg.cell hb6.2.2.2.2.2.2 hne
      have hks := fun (V3 : World) (hb : Below w.heap.size w V3) => (hp.up hb).kills
      obtain ⟨p1, p2, p3, p4, p5, p6, pA, pn, pc⟩ := p
      simp only [EV.box] at HA HB2 hOB hb6 hb7 hbx
      obtain ⟨x0, x1, x2, x3, x4, x5, x6⟩ := cp
      have x0 := cq _ _ x0
      have x1 := cq _ _ x1
      have x2 := cq _ _ x2
      have x3 := cq _ _ x3
      have x4 := cq _ _ x4
      have x5 := cq _ _ x5
      have x6 := cq _ _ x6
      obtain ⟨b0, b1, b2, b3, b4, b5, b6⟩ := hb7
      have HOB := Lib.hid hOB
      have HBX := Lib.hid hbx
      have HKS := Lib.hid hks
      have HLIE : Hid (Dt.Lies ((wr.alloc (.cells #[.int .u16 (p1 : Int), .int .u64 (p2 : Int), .int .u8 (p3 : Int), .int .u64 (p4 : Int), .int .u8 (p5 : Int), .string p6, .slice pA pn pc] 30)).alloc (.cells #[.int .u16 (p1 : Int), .int .u64 (p2 : Int)] 28)) ((wr.alloc (.cells #[.int .u16 (p1 : Int), .int .u64 (p2 : Int), .int .u8 (p3 : Int), .int .u64 (p4 : Int), .int .u8 (p5 : Int), .string p6, .slice pA pn pc] 30)).alloc (.cells #[.int .u16 (p1 : Int), .int .u64 (p2 : Int)] 28)).heap.size (some ⟨wr.heap.size + 1, 0, none⟩) (Dt.dv [(p1, p2)])) := Lib.hid (by have h := Dt.lies_one (wr.alloc (.cells #[.int .u16 (p1 : Int), .int .u64 (p2 : Int), .int .u8 (p3 : Int), .int .u64 (p4 : Int), .int .u8 (p5 : Int), .string p6, .slice pA pn pc] 30)) (p1, p2); rw [show (wr.alloc (.cells #[.int .u16 (p1 : Int), .int .u64 (p2 : Int), .int .u8 (p3 : Int), .int .u64 (p4 : Int), .int .u8 (p5 : Int), .string p6, .slice pA pn pc] 30)).heap.size = wr.heap.size + 1 from alloc_size _ _] at h; exact h)
      simp only at HD HKS hmany
      clear hly hp cq hnext hOB hb6 hbx hks hne ho hw
      go_wp2_with (first
        | (at_builtin; refine Dt.wpList_any rfl (.tmp 12) (.tmp 15) rfl rfl _ w.heap.size m (.slice A m c) (gath (l.take k)) (some ⟨wr.heap.size + 1, 0, none⟩) [(p1, p2)] 1 1 rfl rfl HOB.out (fun h => by cases h) HLIE.out rfl (by omega) HB2.out.size ?_; intro A3 c3 V3 ho3 hg3; have HO3 := Lib.hid ho3; have y6 := HBX.out V3 hg3; have HW3 := Lib.hid (Dt.any_grown HOB.out HB2.out hg3); have HK3 := Lib.hid (HKS.out V3 HW3.out); clear ho3 hg3)
        | (at_builtin; refine Dt.wpList_any rfl (.tmp 17) (.tmp 19) rfl rfl _ w.heap.size (m + 1) (.slice A3 (m + 1) c3) (gath (l.take k) ++ [(p1, p2)]) pA x.kills pn pc rfl rfl HO3.out HK3.out.nil HK3.out.dots.2 HK3.out.len (by omega) HW3.out.size ?_; intro A4 c4 V4 ho4 hg4; have HO4 := Lib.hid ho4; have HW4 := Lib.hid (Dt.any_grown HO3.out HW3.out hg4); clear ho4 hg4))
      go_roundw
      case rel => exact ⟨k + 1, m + 1 + pn, A4, c4, by omega, by go_num, rfl, by rw [HNX.out, List.length_append, List.length_append, HML.out, List.length_singleton, HK3.out.len], by rw [HNX.out, HD.out]; exact HO4.out, HW4.out⟩
      case measure => simp [intOf]; omega
    · obtain rfl : k = n := by omega
      have e : l.take k = l := List.take_of_length_le (by rw [HL.out.len]; exact Nat.le_refl _)
      rw [e] at ho
      have hlen : (gath l).length = m := by rw [← HML.out, e]
      obtain ⟨h1, h2, h3⟩ := Dt.own_len ho
      have hfit := gath_fit HL.out
      have CC := Dt.psort_any wr A (gath l) m c hlen h3 (Dt.dots_own ho hfit) (by omega)
      rw [gath_dots] at CC
      have HF : Hid (Dt.Fit (dotsE l)) := Lib.hid (by rw [← gath_dots]; have := (Dt.sort_fit (gath l) hfit (gath l).length).1; rwa [List.take_length] at this)
      have hlong := sortD_long (gath l) []
      rw [show (gath l).foldl Dt.putD [] = dotsE l from gath_dots l] at hlong
      have HLONG : Hid ((dotsE l).length ≤ 8796093022208) := Lib.hid (by simp only [List.length_nil, Nat.zero_add] at hlong; omega)
      clear ho hw e hlen h1 h2 h3 hfit hlong
      go_wp2_with fail
      refine CC.mono ?_
      rintro e w4 ⟨A4, n4, c4, rfl, hn4, ho4, hb4⟩
      have HD4 := Lib.hid (own_dotsAt ho4 hn4 HF.out (by rw [← hn4]; exact HLONG.out))
      have HF4 := Lib.hid ((own_free ho4).less HW.out.size)
      have HW4 := Lib.hid (HW.out.trans (hb4.mono HW.out.size))
      clear CC ho4 hb4
      go_wp2
      go_ret
      exact ⟨A4, n4, c4, rfl, HD4.out, HF4.out, HW4.out⟩
end Go.Proofs.YtmebokpgiehgmaaGreat.Ev
