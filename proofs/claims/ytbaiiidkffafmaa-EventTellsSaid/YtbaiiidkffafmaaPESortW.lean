/- Words for the program's Sort of layer event: a row of events of one's own, each put in its place by a copy. -/
import Derived.Test.YtbaiiidkffafmaaPECopy
namespace Go.Proofs.Ytbaiiidkffafmaa.Ev
open Go.ChangeShapes Go.WideShapes Go.ChangeAt Go.RowKit
set_option linter.unusedVariables false
set_option maxRecDepth 4000

/-- events in one block that may be written. -/
structure RowE (w : World) (g : Nat) (ps : List EV) : Prop where
  lt : g < w.heap.size
  cell : ∀ k p, ps[k]? = some p → CellsAt w ⟨g, k * 7, none⟩ p
  free : ∀ k p, ps[k]? = some p → ∀ j, j < 7 → w.frozen? ⟨g, k * 7 + j, none⟩ = false
theorem RowE.below {w W : World} {g : Nat} {ps : List EV} (h : RowE w g ps) (hb : Below w.heap.size w W) : RowE W g ps :=
  ⟨Nat.lt_of_lt_of_le h.lt hb.size, fun k p hp => (h.cell k p hp).kept hb, fun k p hp j hj => (hb.frozen (p := ⟨g, k * 7 + j, none⟩) h.lt).trans (h.free k p hp j hj)⟩
/-- an event's cells, stored. -/
def putAt (w : World) (g o : Nat) (q : EV) : World := w.setCells g o q.cells
theorem putAt_eq (w : World) (g o : Nat) (q : EV) : putAt w g o q = ((((((w.setCell ⟨g, o, none⟩ (.int .u16 (q.dev : Int))).setCell ⟨g, o + 1, none⟩ (.int .u64 (q.num : Int))).setCell ⟨g, o + 2, none⟩ (.int .u8 (q.kind : Int))).setCell ⟨g, o + 3, none⟩ (.int .u64 (q.cid : Int))).setCell ⟨g, o + 4, none⟩ (.int .u8 (q.fld : Int))).setCell ⟨g, o + 5, none⟩ (.string q.txt)).setCell ⟨g, o + 6, none⟩ (.slice q.adr q.len q.cap) := rfl
theorem putAt_size (w : World) (g o : Nat) (q : EV) : (putAt w g o q).heap.size = w.heap.size := Sort.size_setCells _ _ _ _
theorem cells_of {w : World} {g o : Nat} {q : EV} (h : ∀ j (hj : j < q.cells.length), w.cell? ⟨g, o + j, none⟩ = some q.cells[j]) : CellsAt w ⟨g, o, none⟩ q :=
  ⟨h 0 (show 0 < 7 by decide), h 1 (show 1 < 7 by decide), h 2 (show 2 < 7 by decide), h 3 (show 3 < 7 by decide), h 4 (show 4 < 7 by decide), h 5 (show 5 < 7 by decide), h 6 (show 6 < 7 by decide)⟩
theorem cells_in {w : World} {g o : Nat} {q : EV} (h : CellsAt w ⟨g, o, none⟩ q) : ∀ j, j < 7 → (w.cell? ⟨g, o + j, none⟩).isSome = true := by
  intro j hj
  have h7 : j = 0 ∨ j = 1 ∨ j = 2 ∨ j = 3 ∨ j = 4 ∨ j = 5 ∨ j = 6 := by omega
  rcases h7 with rfl | rfl | rfl | rfl | rfl | rfl | rfl
  · have := h.c0; rw [show o + 0 = o from rfl, this]; rfl
  · rw [h.c1]; rfl
  · rw [h.c2]; rfl
  · rw [h.c3]; rfl
  · rw [h.c4]; rfl
  · rw [h.c5]; rfl
  · rw [h.c6]; rfl
theorem RowE.put {w : World} {g k : Nat} {ps : List EV} (h : RowE w g ps) (hk : k < ps.length) (q : EV) : RowE (putAt w g (k * 7) q) g (ps.set k q) := by
  have ho := h.cell k _ (List.getElem?_eq_getElem hk)
  refine ⟨by rw [putAt_size]; exact h.lt, fun i p hp => ?_, fun i p hp j hj => ?_⟩
  · rw [List.getElem?_set] at hp
    by_cases hik : k = i
    · subst hik
      rw [if_pos rfl, if_pos hk] at hp
      cases hp
      exact cells_of (fun j hj => World.cell?_setCells_in g q.cells (k * 7) w (fun j hj => cells_in ho j hj) j hj)
    · rw [if_neg hik] at hp
      have hc := h.cell i p hp
      have e : ∀ j, j < 7 → (putAt w g (k * 7) q).cell? ⟨g, i * 7 + j, none⟩ = w.cell? ⟨g, i * 7 + j, none⟩ := fun j hj =>
        World.cell?_setCells_out g q.cells (k * 7) w _ (fun _ _ => by simp only [List.length_cons, List.length_nil]; omega)
      exact ⟨(e 0 (by omega)).trans hc.c0, (e 1 (by omega)).trans hc.c1, (e 2 (by omega)).trans hc.c2, (e 3 (by omega)).trans hc.c3, (e 4 (by omega)).trans hc.c4, (e 5 (by omega)).trans hc.c5, (e 6 (by omega)).trans hc.c6⟩
  · have hi : i < ps.length := by have := (List.getElem?_eq_some_iff.1 hp).1; simpa using this
    exact (World.frozen?_setCells _ _ _ _ _).trans (h.free i _ (List.getElem?_eq_getElem hi) j hj)
theorem apart_put (w : World) (g o : Nat) (q : EV) : Apart g w (putAt w g o q) := by
  rw [putAt_eq]
  exact (((((((Apart.refl g w).setCell rfl _).setCell rfl _).setCell rfl _).setCell rfl _).setCell rfl _).setCell rfl _).setCell rfl _
/-- so far the first k events are copies; all others are as they were. -/
structure Copied (w : World) (g m : Nat) (l : List Evt) (k : Nat) (ps : List EV) (W : World) : Prop where
  len : ps.length = m
  row : RowE W g ps
  bel : Below w.heap.size w W
  new : ∀ j p x, j < k → ps[j]? = some p → l[j]? = some x → EventIs W W.heap.size p x ∧ Free W w.heap.size p.adr p.len ∧ Off g p.adr p.len
  old : ∀ j p x, k ≤ j → ps[j]? = some p → l[j]? = some x → EventIs w w.heap.size p x
theorem Copied.next {w W w2 : World} {g m k : Nat} {l : List Evt} {ps : List EV} {q : EV} {x : Evt} (h : Copied w g m l k ps W) (hg : w.heap.size ≤ g) (hk : k < m) (hx : l[k]? = some x) (hq : EventIs w2 w2.heap.size q x) (hf : Free w2 W.heap.size q.adr q.len) (hb : Below W.heap.size W w2) :
    Copied w g m l (k + 1) (ps.set k q) (putAt w2 g (k * 7) q) := by
  have hap := apart_put w2 g (k * 7) q
  have hsz : w2.heap.size ≤ (putAt w2 g (k * 7) q).heap.size := by rw [putAt_size]; exact Nat.le_refl _
  have hW := h.bel.trans (hb.mono h.bel.size)
  have keep : ∀ {p : EV} {y : Evt}, EventIs w2 w2.heap.size p y → Off g p.adr p.len → EventIs (putAt w2 g (k * 7) q) (putAt w2 g (k * 7) q).heap.size p y := fun hp ho =>
    ⟨hp.dev, hp.num, hp.kind, hp.cid, hp.fld, hp.txt, hp.fits, (hp.kills.apart hap ho).more hsz⟩
  refine ⟨by rw [List.length_set]; exact h.len, (h.row.below hb).put (by rw [h.len]; exact hk) q, hW.trans (hap.below hg |>.mono (Nat.le_refl _)), fun j p y hj hp hy => ?_, fun j p y hj hp hy => ?_⟩
  · rw [List.getElem?_set] at hp
    by_cases hjk : k = j
    · subst hjk
      rw [if_pos rfl, if_pos (by rw [h.len]; exact hk)] at hp
      cases hp
      rw [hx] at hy
      cases hy
      have ho : Off g q.adr q.len := off_above hf h.row.lt
      exact ⟨keep hq ho, (hf.apart hap ho).less h.bel.size, ho⟩
    · rw [if_neg hjk] at hp
      obtain ⟨h1, h2, h3⟩ := h.new j p y (by omega) hp hy
      exact ⟨keep (h1.up hb) h3, (h2.kept h1.kills hb).apart hap h3, h3⟩
  · rw [List.getElem?_set, if_neg (by omega)] at hp
    exact h.old j p y (by omega) hp hy
/-- all are copies: a list of one's own. -/
theorem Copied.done {w W : World} {g m cap : Nat} {l : List Evt} {ps : List EV} (h : Copied w g m l m ps W) (hg : w.heap.size ≤ g) (hl : l.length = m) (hc : m ≤ cap) (hcap : cap ≤ 9223372036854775807) (hw : m ≤ 2199023255552) : OwnsPost w l (.returned (.slice (some ⟨g, 0, none⟩) m cap)) W := by
  refine ⟨_, m, cap, rfl, ⟨hl, (fun e => by cases e), hc, hcap, hw, ps, fun h0 => ⟨_, rfl, h.row.lt, fun j u hu => ?_⟩, ⟨by rw [h.len, hl], fun k p x hp hx => (h.new k p x (by have := (List.getElem?_eq_some_iff.1 hp).1; rw [h.len] at this; exact this) hp hx).1⟩⟩, fun k hk => ?_, h.bel⟩
  · rw [Dt.zero_add]
    have hj : j < ps.length * 7 := by have := (List.getElem?_eq_some_iff.1 hu).1; rwa [ev_length] at this
    have hk : j / 7 < ps.length := by omega
    have hp := List.getElem?_eq_getElem hk
    have hcs := h.row.cell _ _ hp
    have hv := ev_get hp (j % 7) (by omega)
    rw [show j / 7 * 7 + j % 7 = j by omega, hu] at hv
    have h7 : j % 7 = 0 ∨ j % 7 = 1 ∨ j % 7 = 2 ∨ j % 7 = 3 ∨ j % 7 = 4 ∨ j % 7 = 5 ∨ j % 7 = 6 := by omega
    rcases h7 with e | e | e | e | e | e | e
    · rw [e] at hv; cases hv; have := hcs.c0; rwa [show j / 7 * 7 = j by omega] at this
    · rw [e] at hv; cases hv; have := hcs.c1; rwa [show j / 7 * 7 + 1 = j by omega] at this
    · rw [e] at hv; cases hv; have := hcs.c2; rwa [show j / 7 * 7 + 2 = j by omega] at this
    · rw [e] at hv; cases hv; have := hcs.c3; rwa [show j / 7 * 7 + 3 = j by omega] at this
    · rw [e] at hv; cases hv; have := hcs.c4; rwa [show j / 7 * 7 + 4 = j by omega] at this
    · rw [e] at hv; cases hv; have := hcs.c5; rwa [show j / 7 * 7 + 5 = j by omega] at this
    · rw [e] at hv; cases hv; have := hcs.c6; rwa [show j / 7 * 7 + 6 = j by omega] at this
  · have hkp : k < ps.length := by rw [h.len]; exact hk
    have hkl : k < l.length := by rw [hl]; exact hk
    have hp := List.getElem?_eq_getElem hkp
    obtain ⟨h1, h2, h3⟩ := h.new k _ _ hk hp (List.getElem?_eq_getElem hkl)
    refine ⟨_, ps[k], rfl, hg, ?_, h2, h3⟩
    rw [Dt.zero_add]
    exact (h.row.cell k _ hp).c6

/-- events in memory beside what they tell. -/
theorem zip_of {w : World} {B : Nat} : ∀ (ps : List EV) (l : List Evt), Match w B ps l → ∃ Z : List PE, Z.map PE.fst = ps ∧ Z.map PE.snd = l
  | [], [], _ => ⟨[], rfl, rfl⟩
  | [], _ :: _, h => by have := h.1; simp at this
  | _ :: _, [], h => by have := h.1; simp at this
  | p :: ps, x :: l, h => by
    obtain ⟨Z, h1, h2⟩ := zip_of ps l ⟨by have := h.1; simpa using this, fun k q y hq hy => h.2 (k + 1) q y (by simpa using hq) (by simpa using hy)⟩
    exact ⟨⟨p, x, (is_dot (h.2 0 p x rfl rfl)).symm⟩ :: Z, by simp [h1], by simp [h2]⟩
/-- an event's cells, as a sort reads them. -/
def encE (a : PE) : List Value := a.1.cells
theorem flat_ev (Z : List PE) (j : Nat) (hj : j < Z.length * 7) : (ev (Z.map PE.fst))[j]? = some (Sort.flatK encE 7 Z.toArray)[j]! := by
  rw [Sort.get_flatK _ _ _ _ (by simpa using hj)]
  have hk : j / 7 < Z.length := by omega
  have hg : (Z.map PE.fst)[j / 7]? = some (Z[j / 7]).1 := by simp [hk]
  have g := ev_get hg (j % 7) (by omega)
  rw [show j / 7 * 7 + j % 7 = j by omega] at g
  have e : Z.toArray[j / 7]! = Z[j / 7] := by rw [getElem!_pos _ _ (by simpa using hk)]; simp
  rw [g, e]
  have hlt : j % 7 < (encE Z[j / 7]).length := by show j % 7 < 7; omega
  rw [getElem!_pos (encE (Z[j / 7])) (j % 7) hlt]
  exact List.getElem?_eq_getElem hlt
/-- a row of one's own, as a sort sees it. -/
theorem own_holds {w : World} {B g n cap : Nat} {Z : List PE} (hn : Z.length = n) (h : w.ownsRow B 28 7 (.slice (some ⟨g, 0, none⟩) n cap) n (ev (Z.map PE.fst))) (h0 : 0 < n ∨ g < w.heap.size) : Sort.HoldsK encE 7 w g 0 Z.toArray ∧ g < w.heap.size := by
  subst hn
  rcases h.2 with ⟨h', _⟩ | ⟨g', cap', cur, e, hB, hheap, hle, hmx, hsz, htk⟩
  · cases h'
  · cases e
    have hlt : g < w.heap.size := (Array.getElem?_eq_some_iff.1 hheap).1
    refine ⟨fun j hj => ?_, hlt⟩
    have hj' : j < Z.length * 7 := by simpa using hj
    refine ⟨?_, by simp [World.frozen?, hheap]⟩
    have hcell : cur[j]? = (ev (Z.map PE.fst))[j]? := by
      rw [← htk, List.getElem?_take, if_pos hj']
      simp
    rw [Nat.zero_add, show id (Sort.flatK encE 7 Z.toArray)[j]! = (Sort.flatK encE 7 Z.toArray)[j]! from rfl, ← flat_ev Z j hj', ← hcell]
    simp [World.cell?, hheap]
/-- all that lies below a sorted row's block is as it was. -/
theorem swk_below {α : Type} [Inhabited α] {enc : α → List Value} {k g off B : Nat} {d : Array α} {w W : World} (h : SWK enc k w g off d W) (hg : B ≤ g) (hB : B ≤ w.heap.size) : Below B w W := by
  obtain ⟨n, os, rfl⟩ := h
  refine ⟨rfl, rfl, rfl, ?_, fun j hj => ?_⟩
  · show w.heap.size ≤ ((w.heap.modify g _) ++ os).size
    simp
  · show ((w.heap.modify g _) ++ os)[j]? = _
    rw [Array.getElem?_append_left (by simp; omega), Array.getElem?_modify, if_neg (by omega)]
/-- the row behind a sort. -/
theorem swk_row {g m : Nat} {d d0 : Array PE} {w W : World} (h : SWK encE 7 w g 0 d W) (h0 : Sort.HoldsK encE 7 w g 0 d0) (hs : d.size = d0.size) (hg : g < w.heap.size) (hm : m ≤ d.size) : RowE W g ((St.seg (St.row d) 0 m).map PE.fst) := by
  have hH := h.holds hg h0 hs
  have hget : ∀ k p, ((St.seg (St.row d) 0 m).map PE.fst)[k]? = some p → k < d.size ∧ d[k]!.1 = p := fun k p hp => by
    have hk := (List.getElem?_eq_some_iff.1 hp).1
    simp [St.seg] at hk
    simp [St.seg, hk] at hp
    exact ⟨by omega, hp⟩
  refine ⟨h.lt hg, fun k p hp => ?_, fun k p hp j hj => ?_⟩
  · obtain ⟨hk, rfl⟩ := hget k p hp
    refine cells_of (fun j hj => ?_)
    have := (hH.cell hk (c := j) hj).1
    rw [Nat.zero_add] at this
    rw [this, getElem!_pos (encE d[k]!) j (show j < (encE d[k]!).length from hj)]
    rfl
  · obtain ⟨hk, rfl⟩ := hget k p hp
    have := (hH.cell hk (c := j) hj).2
    rwa [Nat.zero_add] at this
end Go.Proofs.Ytbaiiidkffafmaa.Ev
