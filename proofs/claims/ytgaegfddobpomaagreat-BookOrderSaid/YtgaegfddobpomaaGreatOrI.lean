/- Words and contracts that the proofs of this seat stand on, part 9 of 39. -/
import Derived.Test.YtgaegfddobpomaaGreatOrH
import Derived.Test.YtgaegfddobpomaaGreatOrE
import Derived.ShutString
import Derived.ChangeOld
import Derived.Deep.DeepHandedRow
import Derived.Deep.Matrix
import Derived.SizedLaws
import Derived.Deep.SlicePairs
import Derived.Lib.SmallJoins
import Derived.Test.YtgaegfddobpomaaGreatOrD

namespace Go.Proofs.YtgaegfddobpomaaGreat.Kl
open Go.ChangeShapes Go.WideShapes Go.ChangeAt Go.RowKit
set_option linter.unusedVariables false
set_option maxRecDepth 4000
theorem set_size (w : World) (a : Addr) (u : Value) : (w.setCell a u).heap.size = w.heap.size := by simp [World.setCell]
theorem lies_set {w : World} {A : Option Addr} {vs : List Value} {g : Nat} (h : Dt.Lies w w.heap.size A vs) (hf : 0 < vs.length → ∀ ad : Addr, A = some ad → ad.block ≠ g) (i : Nat) (u : Value) : Dt.Lies (w.setCell ⟨g, i, none⟩ u) (w.setCell ⟨g, i, none⟩ u).heap.size A vs := fun hl => by
 obtain ⟨ad, e, hb, hc⟩ := h hl
 refine ⟨ad, e, by rw [set_size]; exact hb, fun j v hv => ?_⟩
 rw [World.cell?_of_block (w := w) (Below.heap_setCell w ⟨g, i, none⟩ u (ad.add j).block (fun e2 => hf hl ad e (by rw [Dt.block_add] at e2; exact e2)))]
 exact hc j v hv
theorem dots_set {w : World} {A : Option Addr} {l : List Dt.Dot} {n c g : Nat} (h : Ev.DotsAt w w.heap.size A l n c) (hf : 0 < n → ∀ ad : Addr, A = some ad → ad.block ≠ g) (i : Nat) (u : Value) : Ev.DotsAt (w.setCell ⟨g, i, none⟩ u) (w.setCell ⟨g, i, none⟩ u).heap.size A l n c :=
 ⟨h.len, h.nil, h.cap, h.max, h.wide, h.dots.1, lies_set h.dots.2 (fun hl => hf (by rw [Dt.dv_length] at hl; have := h.len; omega)) i u⟩
structure FarE (B : Nat) (w : World) (A : Option Addr) (l : List Ev.Evt) (n c : Nat) : Prop where
 at_ : Ev.EventsAt w w.heap.size A l n c
 far : ∃ ps, Dt.Lies w w.heap.size A (Ev.ev ps) ∧ Ev.Match w w.heap.size ps l ∧ (∀ p ∈ ps, 0 < p.len → ∀ ad : Addr, p.adr = some ad → B ≤ ad.block) ∧ (0 < n → ∀ ad : Addr, A = some ad → B ≤ ad.block)
def EvFar (w : World) (l : List Ev.Evt) (e : Ending) (w' : World) : Prop := ∃ A n c, e = .returned (.slice A n c) ∧ FarE w.heap.size w' A l n c ∧ Below w.heap.size w w'
def DotsFar (w : World) (l : List Dt.Dot) (e : Ending) (w' : World) : Prop := ∃ A n c, e = .returned (.slice A n c) ∧ Ev.DotsAt w' w'.heap.size A l n c ∧ (0 < n → ∀ ad : Addr, A = some ad → w.heap.size ≤ ad.block) ∧ Below w.heap.size w w'
theorem DotsFar.post {w w' : World} {l : List Dt.Dot} {e : Ending} (h : DotsFar w l e w') : Ev.DPost w l e w' := by
 obtain ⟨A, n, c, h1, h2, _, h3⟩ := h
 exact ⟨A, n, c, h1, h2, h3⟩
end Go.Proofs.YtgaegfddobpomaaGreat.Kl

namespace Go.Proofs.YtgaegfddobpomaaGreat.Ev
open Go.ChangeShapes Go.WideShapes Go.ChangeAt Go.RowKit
set_option linter.unusedVariables false
set_option maxRecDepth 4000
end Go.Proofs.YtgaegfddobpomaaGreat.Ev
namespace Go.Proofs.YtgaegfddobpomaaGreat.Kl
open Go.ChangeShapes Go.WideShapes Go.ChangeAt Go.RowKit
end Go.Proofs.YtgaegfddobpomaaGreat.Kl

namespace Go.Proofs.YtgaegfddobpomaaGreat.Ev
open Go.ChangeShapes Go.WideShapes Go.ChangeAt Go.RowKit Go.Deep Go.Joins
set_option linter.unusedVariables false
set_option maxRecDepth 4000
theorem own : ownKnob Tryz.prog.godebug = none := by kernel_rfl
theorem laidOut : laidOutB Tryz.prog = true := by kernel_rfl
theorem cells16 : Tryz.prog.cellsOf 32 = 1 := by kernel_rfl
theorem cells64 : Tryz.prog.cellsOf 33 = 1 := by kernel_rfl
theorem cellsD : Tryz.prog.cellsOf 35 = 2 := by kernel_rfl
theorem cellsE : Tryz.prog.cellsOf 38 = 7 := by kernel_rfl
theorem bytesD : Tryz.prog.bytesOf 35 = 16 := by kernel_rfl
theorem bytesE : Tryz.prog.bytesOf 38 = 80 := by kernel_rfl
theorem wf_u64 {n : Int} (h : (Lit.int .u64 n).wf = true) : ∃ s : Nat, n = (s : Int) ∧ s < 18446744073709551616 := by
 simp [Lit.wf, IntKind.min, IntKind.max, IntKind.bits, IntKind.signed] at h
 exact ⟨n.toNat, by omega, by omega⟩
theorem wf_u16 {n : Int} (h : (Lit.int .u16 n).wf = true) : ∃ s : Nat, n = (s : Int) ∧ s < 65536 := by
 simp [Lit.wf, IntKind.min, IntKind.max, IntKind.bits, IntKind.signed] at h
 exact ⟨n.toNat, by omega, by omega⟩
theorem wf_u8 {n : Int} (h : (Lit.int .u8 n).wf = true) : ∃ s : Nat, n = (s : Int) ∧ s < 256 := by
 simp [Lit.wf, IntKind.min, IntKind.max, IntKind.bits, IntKind.signed] at h
 exact ⟨n.toNat, by omega, by omega⟩
def Held {H : Type} (t : TypeId) (d : DataW H) : Prop := ∀ n ∈ d.weights Tryz.prog t, n ≤ reachBytes
theorem weights_all {H : Type} {P : Program} {e : TypeId} {l : List (DataW H)} {d : DataW H} (h : d ∈ l) : ∀ n ∈ d.weights P e, n ∈ DataW.weightsAll P e l := by
 induction l with
 | nil => cases h
 | cons x l ih =>
   intro n hn
   simp only [DataW.weightsAll, List.mem_append]
   rcases List.mem_cons.1 h with rfl | h
   · exact Or.inl hn
   · exact Or.inr (ih h n hn)
theorem Held.elem {H : Type} {t e : TypeId} {elems spare : List (DataW H)} (h : Held t (.slice elems spare)) (hu : Tryz.prog.underlying t = some (.slice e)) {d : DataW H} (hd : d ∈ elems) : Held e d := fun n hn =>
 h n (by simp only [DataW.weights, hu, List.mem_cons, List.mem_append]; exact Or.inr (Or.inl (weights_all hd n hn)))
theorem Held.length {H : Type} {t e : TypeId} {elems spare : List (DataW H)} (h : Held t (.slice elems spare)) (hu : Tryz.prog.underlying t = some (.slice e)) : (elems.length + spare.length) * Tryz.prog.bytesOf e ≤ reachBytes :=
 h _ (by simp [DataW.weights, hu])
theorem Held.part {H : Type} {t t' : TypeId} {fs : Array Field} {parts : List (DataW H)} (h : Held t (.agg parts)) (hu : Tryz.prog.underlying t = some (.struct fs)) {j : Nat} {d : DataW H} (ht : (fs.toList.map (·.type))[j]? = some t') (hd : parts[j]? = some d) : Held t' d := fun n hn =>
 h n (by simp only [DataW.weights, hu]; exact DataW.weights_mem_each ht hd n hn)
theorem list_of {α : Type} {Q : Nat → α → Prop} (n : Nat) (h : ∀ i, i < n → ∃ t, Q i t) : ∃ L : List α, L.length = n ∧ ∀ (i : Nat) (t : α), L[i]? = some t → Q i t := by
 induction n with
 | zero => exact ⟨[], rfl, fun i t hi => by simp at hi⟩
 | succ n ih =>
   obtain ⟨L, hL, hQ⟩ := ih (fun i hi => h i (by omega))
   obtain ⟨t, ht⟩ := h n (by omega)
   refine ⟨L ++ [t], by simp [hL], fun i u hu => ?_⟩
   rcases Nat.lt_or_ge i n with hi | hi
   · rw [List.getElem?_append_left (by omega)] at hu
     exact hQ i u hu
   · rw [List.getElem?_append_right (by omega), hL] at hu
     have e : i = n := by
       rcases Nat.eq_or_lt_of_le hi with e | e
       · exact e.symm
       · rw [List.getElem?_eq_none (by simp; omega)] at hu; cases hu
     subst e
     simp at hu
     subst hu
     exact ht
theorem lies_dots {w : World} {B : Nat} {ad : Addr} (hB : ad.block < B) (L : List Dt.Dot) (h : ∀ (i : Nat) (r : Dt.Dot), L[i]? = some r → w.cell? (ad.add (i * 2)) = some (.int .u16 (r.1 : Int)) ∧ w.cell? (ad.add (i * 2 + 1)) = some (.int .u64 (r.2 : Int))) : Dt.Lies w B (some ad) (Dt.dv L) := fun _ => by
 refine ⟨ad, rfl, hB, fun j u hu => ?_⟩
 have hj : j < (Dt.dv L).length := (List.getElem?_eq_some_iff.1 hu).1
 rw [Dt.dv_length] at hj
 have hd : j / 2 < L.length := by omega
 have hg := List.getElem?_eq_getElem hd
 obtain ⟨g1, g2⟩ := Dt.dv_get hg
 obtain ⟨c1, c2⟩ := h _ _ hg
 rcases Nat.mod_two_eq_zero_or_one j with h0 | h0
 · have e : j = j / 2 * 2 := by omega
   rw [e] at hu ⊢
   rw [g1] at hu
   cases hu
   exact c1
 · have e : j = j / 2 * 2 + 1 := by omega
   generalize hz : j / 2 = z at *
   subst e
   rw [g2] at hu
   cases hu
   exact c2
theorem dots_cell {H : Type} {enc : TypeId × Value → H} {W : World} {fuel : Nat} {v : Value} {d : DataW H} {p : List MemPlace} (h : DataW.trod enc Tryz.prog W 0 (fun _ => true) true fuel 36 [v] = some (d, p)) (hz : Held 36 d) :
   ∃ (A : Option Addr) (n c : Nat) (l : List Dt.Dot), v = .slice A n c ∧ DotsAt W W.heap.size A l n c ∧ n ≤ 8796093021952 := by
 rcases open_slice_pairs Tryz.underlying36 Tryz.underlying35 cellsD rfl rfl cells16 cells64 h with ⟨hcs, _⟩ | ⟨x, n0, c0, m, f0, V0, V1, D0, D1, P0, P1, hcs, hb, hl, hm, hmm, hx, hi⟩
 · obtain rfl := (List.cons.inj hcs).1
   exact ⟨none, 0, 0, [], rfl, DotsAt.none_ _ _, by decide⟩
 · obtain rfl := (List.cons.inj hcs).1
   unfold maxLen at hm
   have hmc : m = c0 := by simpa using hmm
   obtain rfl := (Prod.mk.inj hx).1
   have hw := hz.length Tryz.underlying36
   rw [bytesD] at hw
   simp only [List.length_map, List.length_range, reachBytes] at hw
   have each : ∀ i, i < n0 → ∃ r : Dt.Dot, (r.1 < 65536 ∧ r.2 < 18446744073709551616) ∧ W.cell? (x.add (i * 2)) = some (.int .u16 (r.1 : Int)) ∧ W.cell? (x.add (i * 2 + 1)) = some (.int .u64 (r.2 : Int)) := by
     intro i hil
     obtain ⟨h0, h1, t0, t1⟩ := hi i (by omega)
     obtain ⟨z0, e0, _, w0⟩ := DataW.trod_int Tryz.underlying32 t0
     obtain ⟨z1, e1, _, w1⟩ := DataW.trod_int Tryz.underlying33 t1
     obtain ⟨s0, rfl, hs0⟩ := wf_u16 w0
     obtain ⟨s1, rfl, hs1⟩ := wf_u64 w1
     rw [(List.cons.inj e0).1] at h0
     rw [(List.cons.inj e1).1] at h1
     exact ⟨(s0, s1), ⟨hs0, hs1⟩, h0, h1⟩
   obtain ⟨L, hL, hQ⟩ := list_of n0 each
   refine ⟨some x, n0, c0, L, rfl, ⟨hL, (fun e => by cases e), hl, by omega, by omega, fun r hr => ?_, ?_⟩, by omega⟩
   · obtain ⟨i, hi', rfl⟩ := List.getElem_of_mem hr
     exact (hQ i _ (List.getElem?_eq_getElem hi')).1
   · rcases Nat.eq_zero_or_pos L.length with h0 | h0
     · rw [List.eq_nil_of_length_eq_zero h0]; exact Dt.Lies.none_ _ _ _
     · refine lies_dots ?_ L (fun i r hr => (hQ i r hr).2)
       have h1 := (hQ 0 _ (List.getElem?_eq_getElem h0)).2.1
       have h2 := World.block_lt_of_cell? W _ h1
       rwa [block_add] at h2
theorem evt_cells {H : Type} {enc : TypeId × Value → H} {W : World} {fuel : Nat} {cs : List Value} {d : DataW H} {p : List MemPlace} (h : DataW.trod enc Tryz.prog W 0 (fun _ => true) true fuel 38 cs = some (d, p)) (hz : Held 38 d) :
   ∃ (q : EV) (x : Evt), cs = q.cells ∧ EventIs W W.heap.size q x ∧ q.len ≤ 8796093021952 := by
 obtain ⟨xs, f1, _, hxy, hlen, hxl, hfd⟩ := DataW.trod_struct Tryz.underlying38 h
 rw [cellsE] at hlen
 match xs, hxl, cs, hlen with
 | [y0, y1, y2, y3, y4, y5], _, [u0, u1, u2, u3, u4, u5, u6], _ =>
   have g0 := hfd 0 _ rfl
   have g1 := hfd 1 _ rfl
   have g2 := hfd 2 _ rfl
   have g3 := hfd 3 _ rfl
   have g4 := hfd 4 _ rfl
   have g5 := hfd 5 _ rfl
   simp only [List.getElem?_cons_zero, List.getElem?_cons_succ] at g0 g1 g2 g3 g4 g5
   have hD : d = .agg ([y0, y1, y2, y3, y4, y5].map (·.1)) := congrArg Prod.fst hxy
   subst hD
   obtain ⟨zs, f2, _, hzy, _, hzl, hfz⟩ := DataW.trod_struct Tryz.underlying35 g0
   match zs, hzl with
   | [z0, z1], _ =>
     have k0 := hfz 0 _ rfl
     have k1 := hfz 1 _ rfl
     simp only [List.getElem?_cons_zero, List.getElem?_cons_succ] at k0 k1
     obtain ⟨i0, e0, _, w0⟩ := DataW.trod_int Tryz.underlying32 k0
     obtain ⟨i1, e1, _, w1⟩ := DataW.trod_int Tryz.underlying33 k1
     obtain ⟨i2, e2, _, w2⟩ := DataW.trod_int Tryz.underlying5 g1
     obtain ⟨i3, e3, _, w3⟩ := DataW.trod_int Tryz.underlying33 g2
     obtain ⟨i4, e4, _, w4⟩ := DataW.trod_int Tryz.underlying5 g3
     obtain ⟨s, e5, hs1, _⟩ := DataW.trod_string Tryz.underlying9 g4
     obtain ⟨y51, y52⟩ := y5
     have g5' : DataW.trod enc Tryz.prog W 0 (fun _ => true) true f1 36 [u6] = some (y51, y52) := g5
     obtain ⟨A, n, c, l, e6, hT, hn⟩ := dots_cell g5' (hz.part (j := 5) Tryz.underlying38 rfl rfl)
     have hst : Held 9 y4.1 := hz.part (j := 4) Tryz.underlying38 rfl rfl
     rw [hs1] at hst
     have hsl := hst s.data.toList.length (by simp [DataW.weights])
     obtain rfl := (List.cons.inj e0).1
     obtain rfl := (List.cons.inj e1).1
     obtain rfl := (List.cons.inj e2).1
     obtain rfl := (List.cons.inj e3).1
     obtain rfl := (List.cons.inj e4).1
     obtain rfl := (List.cons.inj e5).1
     subst e6
     obtain ⟨s0, rfl, hs0⟩ := wf_u16 w0
     obtain ⟨s1, rfl, hs1⟩ := wf_u64 w1
     obtain ⟨s2, rfl, hs2⟩ := wf_u8 w2
     obtain ⟨s3, rfl, hs3⟩ := wf_u64 w3
     obtain ⟨s4, rfl, hs4⟩ := wf_u8 w4
     refine ⟨⟨s0, s1, s2, s3, s4, s, A, n, c⟩, ⟨(s0, s1), s2, s3, s4, s, l⟩, rfl, ⟨rfl, rfl, rfl, rfl, rfl, rfl, ⟨⟨hs0, hs1⟩, hs2, hs3, hs4, ?_⟩, hT⟩, hn⟩
     unfold Short
     simp only [reachBytes, Array.length_toList] at hsl
     have e : s.data.size = s.size := rfl
     show s.size ≤ 140737488355328
     omega
theorem evts_of {H : Type} {enc : TypeId × Value → H} {W : World} {A : Option Addr} {n c : Nat} {d : DataW H} {p : List MemPlace} (h : DataW.Trod enc Tryz.prog W 0 (fun _ => true) true 29 (.slice A n c) d p) (hz : Held 29 d) :
   ∃ l : List Evt, EventsAt W W.heap.size A l n c := by
 obtain ⟨fuel, hf⟩ := h
 rcases open_slice Tryz.underlying29 hf with ⟨hcs, _⟩ | ⟨x, n0, c0, m, f0, D, Pl, hcs, hb, hl, hm, hmm, hx, hi⟩
 · simp [Value.cells] at hcs
   obtain ⟨rfl, rfl, rfl⟩ := hcs
   exact ⟨[], EventsAt.none_ _ _⟩
 · simp [Value.cells] at hcs
   obtain ⟨rfl, rfl, rfl⟩ := hcs
   unfold maxLen at hm
   have hmc : m = c := by simpa using hmm
   obtain rfl := (Prod.mk.inj hx).1
   have hw := hz.length Tryz.underlying29
   rw [bytesE] at hw
   simp only [List.length_map, List.length_range, reachBytes] at hw
   have each : ∀ i, i < n → ∃ r : EV × Evt, EventIs W W.heap.size r.1 r.2 ∧ ∀ j (hj : j < r.1.cells.length), W.cell? (x.add (i * 7 + j)) = some r.1.cells[j] := by
     intro i hil
     obtain ⟨cs', k1, k2⟩ := hi i (by omega)
     rw [cellsE] at k1
     obtain ⟨_, hlen, hcell⟩ := World.cells?_some k1
     have hh : Held 38 (D i) := hz.elem Tryz.underlying29 (List.mem_map.2 ⟨i, List.mem_range.2 hil, rfl⟩)
     obtain ⟨q, y, rfl, hq, _⟩ := evt_cells k2 hh
     refine ⟨(q, y), hq, fun j hj => ?_⟩
     have := hcell j hj
     rw [add_add] at this
     rw [this]
     exact List.getElem?_eq_getElem hj
   obtain ⟨L, hL, hQ⟩ := list_of n each
   refine ⟨L.map (fun r => r.2), ⟨by rw [List.length_map, hL], (fun e => by cases e), hl, by omega, by omega, L.map (fun r => r.1), fun h0 => ?_, by rw [List.length_map, List.length_map], ?_⟩⟩
   · rw [ev_length, List.length_map] at h0
     have h1 := (hQ 0 _ (List.getElem?_eq_getElem (show 0 < L.length by omega))).2 0 (show 0 < 7 by decide)
     have h2 := World.block_lt_of_cell? W _ h1
     rw [block_add] at h2
     refine ⟨x, rfl, h2, fun j u hu => ?_⟩
     have hj : j < L.length * 7 := by have := (List.getElem?_eq_some_iff.1 hu).1; rwa [ev_length, List.length_map] at this
     have hk : j / 7 < L.length := by omega
     have hg : (L.map (fun r => r.1))[j / 7]? = some (L[j / 7]).1 := by simp [hk]
     have hv := ev_get hg (j % 7) (by omega)
     rw [show j / 7 * 7 + j % 7 = j by omega, hu] at hv
     have hc := (hQ (j / 7) _ (List.getElem?_eq_getElem hk)).2 (j % 7) (show j % 7 < 7 by omega)
     rw [show j / 7 * 7 + j % 7 = j by omega] at hc
     rw [hc, ← List.getElem?_eq_getElem, ← hv]
   · intro k q y hq hy
     rw [List.getElem?_map] at hq hy
     obtain ⟨r, hr, rfl⟩ := Option.map_eq_some_iff.1 hq
     rw [hr] at hy
     cases hy
     exact (hQ k r hr).1
end Go.Proofs.YtgaegfddobpomaaGreat.Ev

namespace Go.Proofs.YtgaegfddobpomaaGreat.Ev
open Go.ChangeShapes Go.WideShapes Go.ChangeAt Go.RowKit
set_option linter.unusedVariables false
set_option maxRecDepth 4000
def RowO (w : World) (B : Nat) (A : Option Addr) (l : List Evt) (n c : Nat) : Prop := ∃ ps : List EV, ps.length = n ∧ Match w B ps l ∧ w.ownsRow B 38 7 (.slice A n c) n (ev ps)
def RowOut (w : World) (B : Nat) (l : List Evt) (e : Ending) (V : World) : Prop := ∃ A n c, e = .returned (.slice A n c) ∧ RowO V B A l n c ∧ Below w.heap.size w V
theorem RowO.len {w : World} {B n c : Nat} {A : Option Addr} {l : List Evt} (h : RowO w B A l n c) : l.length = n := by
 obtain ⟨ps, h1, h2, _⟩ := h
 rw [← h2.1]; exact h1
theorem RowO.evts {w : World} {B n c : Nat} {A : Option Addr} {l : List Evt} (h : RowO w B A l n c) (hB : B ≤ w.heap.size) (hw : n ≤ 2199023255552) : EventsAt w w.heap.size A l n c := by
 have hlen := h.len
 obtain ⟨ps, h1, h2, h3⟩ := h
 obtain ⟨k1, k2, k3⟩ := Dt.own_len h3
 exact ⟨hlen, k3, k1, k2, hw, ps, Dt.lies_any (by decide) h3, h2.more hB⟩
theorem RowO.up {w W : World} {B n c : Nat} {A : Option Addr} {l : List Evt} (h : RowO w B A l n c) (hb : Below w.heap.size w W) (hB : B ≤ w.heap.size) : RowO W B A l n c := by
 obtain ⟨ps, h1, h2, h3⟩ := h
 exact ⟨ps, h1, h2.below (hb.mono hB), Dt.own_kept h3 hb⟩
theorem RowO.at_ {w : World} {B n c : Nat} {A : Option Addr} {l : List Evt} (h : RowO w B A l n c) {k : Nat} (hk : k < n) :
   ∃ (ad : Addr) (p : EV) (x : Evt), A = some ad ∧ ad.block < w.heap.size ∧ l[k]? = some x ∧ EventIs w B p x ∧ CellsAt w (ad.add (k * 7)) p := by
 have hlen := h.len
 obtain ⟨ps, h0, h2, h3⟩ := h
 have h1 := Dt.lies_any (by decide) h3
 have hkc : k < l.length := by rw [hlen]; exact hk
 have hkp : k < ps.length := by rw [h2.1]; exact hkc
 have hx := List.getElem?_eq_getElem hkc
 have hp := List.getElem?_eq_getElem hkp
 obtain ⟨ad, e, hB, hc⟩ := h1 (by rw [ev_length]; omega)
 have g := fun j hj => ev_get hp j hj
 refine ⟨ad, ps[k], l[k], e, hB, hx, h2.2 k _ _ hp hx, ⟨hc _ _ (g 0 (by omega)), ?_, ?_, ?_, ?_, ?_, ?_⟩⟩
 · rw [add_eq _ _ _ (by omega)]; exact hc _ _ (g 1 (by omega))
 · rw [add_eq _ _ _ (by omega)]; exact hc _ _ (g 2 (by omega))
 · rw [add_eq _ _ _ (by omega)]; exact hc _ _ (g 3 (by omega))
 · rw [add_eq _ _ _ (by omega)]; exact hc _ _ (g 4 (by omega))
 · rw [add_eq _ _ _ (by omega)]; exact hc _ _ (g 5 (by omega))
 · rw [add_eq _ _ _ (by omega)]; exact hc _ _ (g 6 (by omega))
theorem RowO.none_ (w : World) (B : Nat) : RowO w B none [] 0 0 := ⟨[], rfl, Match.nil_ _ _, World.ownsRow_nil _ _ _ _⟩
theorem rowo_new {w w1 wr : World} {B : Nat} {A : Option Addr} {m c : Nat} {ps : List EV} {l : List Evt} (hB : B ≤ w.heap.size) (h1 : Below w.heap.size w w1) (hb : Below w.heap.size w wr) (hm : Match w B ps l) (hl : ps.length = m) (ho : wr.ownsRow w1.heap.size 38 7 (.slice A m c) m (ev ps)) : RowO wr B A l m c :=
 ⟨ps, hl, hm.below (hb.mono hB), Dt.own_less ho (Nat.le_trans hB h1.size)⟩
def PRelB (B : Nat) (w w1 : World) (n : Nat) (l : List Evt) (x : Evt) (v b i : Value) (wr : World) : Prop :=
 ∃ k m A c ps, k ≤ n ∧ i = .int .i64 ((k : Nat) : Int) ∧ b = .bool (stE l x k).1 ∧ v = .slice A m c ∧ ps.length = m ∧ Match w B ps (stE l x k).2 ∧ wr.ownsRow w1.heap.size 38 7 (.slice A m c) m (ev ps) ∧ NoDot l x k ∧ Below w1.heap.size w1 wr
theorem p_relB {B : Nat} {w w1 wr : World} {n k m c : Nat} {A : Option Addr} {l : List Evt} {x y : Evt} {ps : List EV} {b : Bool} {o : List Evt} (hk : k < n) (hy : l[k]? = some y) (hs : stepE x (stE l x k) y = (b, o)) (hm : ps.length = m) (hma : Match w B ps o) (ho : wr.ownsRow w1.heap.size 38 7 (.slice A m c) m (ev ps)) (hn : NoDot l x k) (hd : y.dot ≠ x.dot) (hb : Below w1.heap.size w1 wr) :
   PRelB B w w1 n l x (.slice A m c) (.bool b) (.int .i64 ((k : Int) + 1)) wr := by
 have h := st_next (e := x) hy
 rw [hs] at h
 exact ⟨k + 1, m, A, c, ps, hk, by go_num, by rw [h], rfl, hm, by rw [h]; exact hma, ho, nodot_next hn hy hd, hb⟩
set_option maxHeartbeats 8000000 in
theorem rput_own (w : World) (B : Nat) (A0 : Option Addr) (l : List Evt) (n c0 : Nat) (p : EV) (x : Evt) (hBw : B ≤ w.heap.size) (hr : RowO w B A0 l n c0) (hq : EventIs w B p x) (h40 : n ≤ 1099511627776) :
   Calls Tryz.prog 44 #[.slice A0 n c0, p.val] w (RowOut w B (putE l x)) := by
 have hl := hr.evts hBw (by omega)
 have hp := hq.more hBw
 have HRO := Lib.hid hr
 have HPB := Lib.hid hq
 have HBW := Lib.hid hBw
 have HL := Lib.hid hl
 have HP := Lib.hid hp
 have hpd := Lib.hid (is_dot hp)
 clear hl hp hr hq hBw
 simp only [EV.val]
 have HB1 := Lib.hid (below_new w p.box)
 have hbx := (box_new w p _ (Below.refl _ _)).all
 simp only [EV.box] at HB1 hbx
 go_enter Tryz.func44, Tryz.ntmps44
 go_wp2_with fail
 generalize hw1 : w.alloc (.cells #[.int .u16 (p.dev : Int), .int .u64 (p.num : Int), .int .u8 (p.kind : Int), .int .u64 (p.cid : Int), .int .u8 (p.fld : Int), .string p.txt, .slice p.adr p.len p.cap] 38) = w1 at *
 clear hw1
 have HD : Hid (∀ V, Below w1.heap.size w1 V → V.cell? ⟨w.heap.size, 0, none⟩ = some (.int .u16 (p.dev : Int)) ∧ V.cell? ⟨w.heap.size, 1, none⟩ = some (.int .u64 (p.num : Int)) ∧ V.cell? ⟨w.heap.size, 2, none⟩ = some (.int .u8 (p.kind : Int)) ∧ V.cell? ⟨w.heap.size, 3, none⟩ = some (.int .u64 (p.cid : Int)) ∧ V.cell? ⟨w.heap.size, 4, none⟩ = some (.int .u8 (p.fld : Int)) ∧ V.cell? ⟨w.heap.size, 5, none⟩ = some (.string p.txt) ∧ V.cell? ⟨w.heap.size, 6, none⟩ = some (.slice p.adr p.len p.cap)) := Lib.hid (fun V hV =>
   ⟨stays hV hbx.1, stays hV hbx.2.1, stays hV hbx.2.2.1, stays hV hbx.2.2.2.1, stays hV hbx.2.2.2.2.1, stays hV hbx.2.2.2.2.2.1, stays hV hbx.2.2.2.2.2.2⟩)
 clear hbx
 go_loopw [5, 6, 7] (fun v b i wr => PRelB B w w1 n l x v b i wr) (fun _ _ i _ => n - (intOf i).toNat)
 case atStart => exact ⟨0, 0, none, 0, [], Nat.zero_le _, rfl, rfl, rfl, rfl, Match.nil_ _ _, World.ownsRow_nil _ _ _ _, fun j y hj => absurd hj (Nat.not_lt_zero _), Below.refl _ _⟩
 case round =>
   obtain ⟨k, m, A, c, ps, hk, rfl, rfl, rfl, hm, hma, ho, hnd, hw⟩ := hrel
   have hmk : m ≤ k + 1 := by
     have h1 := st_long l x k
     rw [← hm, hma.1]
     split at h1 <;> omega
   have HM := Lib.hid hm
   have HMA := Lib.hid hma
   have HO := Lib.hid ho
   have HND := Lib.hid hnd
   have HW := Lib.hid hw
   clear hm hma ho hnd hw
   by_cases hlt : k < n
   · obtain ⟨ad, q, y, rfl, hB, hly, hq, cq⟩ := HRO.out.at_ hlt
     have HQ : Hid (∀ V, Below w1.heap.size w1 V → CellsAt V (ad.add (k * 7)) q) := Lib.hid (fun V hV => cells_later cq (HB1.out.trans (hV.mono HB1.out.size)))
     have hqd := Lib.hid (is_dot hq)
     have HQI := Lib.hid hq
     have HLY := Lib.hid hly
     clear hly hq cq
     have HC : Hid (∀ V, Below wr.heap.size wr V → (V.cell? (ad.add (k * 7)) = some (.int .u16 (q.dev : Int)) ∧ V.cell? ⟨(ad.add (k * 7)).block, (ad.add (k * 7)).off + 1, none⟩ = some (.int .u64 (q.num : Int))) ∧ V.cell? ⟨w.heap.size, 0, none⟩ = some (.int .u16 (p.dev : Int)) ∧ V.cell? ⟨w.heap.size, 1, none⟩ = some (.int .u64 (p.num : Int))) := Lib.hid (fun V hV => by
       have hb := HW.out.trans (hV.mono HW.out.size)
       have h1 := HQ.out V hb
       have h2 := HD.out V hb
       exact ⟨⟨h1.c0, h1.c1⟩, h2.1, h2.2.1⟩)
     obtain ⟨⟨d1, d2⟩, d3, d4⟩ := HC.out wr (Below.refl _ _)
     go_wp2_with fail
     go_region_held3 (fun V => (V.cell? (ad.add (k * 7)) = some (.int .u16 (q.dev : Int)) ∧ V.cell? ⟨(ad.add (k * 7)).block, (ad.add (k * 7)).off + 1, none⟩ = some (.int .u64 (q.num : Int))) ∧ V.cell? ⟨w.heap.size, 0, none⟩ = some (.int .u16 (p.dev : Int)) ∧ V.cell? ⟨w.heap.size, 1, none⟩ = some (.int .u64 (p.num : Int))) (first | exact ⟨⟨d1, d2⟩, d3, d4⟩ | assumption | exact HC.out _ (by (repeat (first | exact Below.refl _ _ | assumption | apply bel_drew)))) (first
       | (go_at_call 70; (with_reducible refine (Dt.rcmp_later wr _ (q.dev, q.num) (p.dev, p.num) ?_).mono ?_); (repeat (first | exact Below.refl _ _ | assumption | apply bel_drew)); rintro e V ⟨rfl, bv⟩; have hcV := HC.out V bv))
     all_goals
       have HV : Hid (Below w1.heap.size w1 V) := HW.out.trans (bv.mono HW.out.size)
       have HOV := Lib.hid (Dt.own_kept HO.out bv)
       have HWV := Lib.hid (HB1.out.trans (HV.out.mono HB1.out.size))
       clear bv d1 d2 d3 d4 hcV HC
       by_cases hdot : (q.dev, q.num) = (p.dev, p.num)
       · have hz : Dt.cmpD (q.dev, q.num) (p.dev, p.num) = 0 := by rw [hdot]; exact Dt.cmp_same _
         rw [hz]
         have HR := Lib.hid (put_there (e := x) HLY.out (by rw [hqd.out, hpd.out, hdot]))
         clear hdot hz
         go_wp2
         go_ret
         rw [HR.out]
         exact ⟨some ad, n, c0, rfl, HRO.out.up HWV.out HBW.out, HWV.out⟩
       · have hz := cmp_zero hdot
         have hz2 := Dt.cmp_pos (q.dev, q.num) (p.dev, p.num)
         have hyx : y.dot ≠ x.dot := by rw [hqd.out, hpd.out]; exact hdot
         generalize Dt.cmpD (q.dev, q.num) (p.dev, p.num) = z at hz hz2 ⊢
         obtain ⟨e0, e1, e2, e3, e4, e5, e6⟩ := HQ.out V HV.out
         clear hdot
         cases ha : Dt.aheadD (p.dev, p.num) (q.dev, q.num) with
         | false =>
           rw [ha] at hz2
           have HS0 : Hid (stepE x (stE l x k) y = ((stE l x k).1, (stE l x k).2 ++ [y])) := Lib.hid (by unfold stepE; rw [hqd.out, hpd.out, ha, if_neg (by simp)])
           clear ha
           generalize (stE l x k).1 = b at *
           have HS := HS0
           have HLO : Hid (m + 1 ≤ 1649267441664) := Lib.hid (by omega)
           have HWA : Hid (Below w1.heap.size w1 (V.alloc q.box)) := Lib.hid (bel_alloc _ HV.out)
           go_wp2_with (at_builtin; refine wpList_evt rfl (.tmp 36) (.tmp 41) rfl rfl _ w1.heap.size m (.slice A m c) ps (some ⟨V.heap.size, 0, none⟩) [q] 1 1 rfl rfl (HOV.out.alloc _) (fun h => by cases h) (lies_evt V q) rfl HLO.out HWA.out.size ?_; intro A3 c3 V3 ho3 hg3; have HR := Lib.hid (p_relB hlt HLY.out HS.out (by rw [List.length_append, HM.out]; rfl) (HMA.out.snoc HQI.out) ho3 HND.out hyx (evt_grown (HOV.out.alloc _) HWA.out hg3)); clear ho3 hg3)
           go_roundw
           case rel => exact HR.out
           case measure => simp [intOf]; omega
         | true =>
           rw [ha] at hz2
           cases hb : (stE l x k).1 with
           | true =>
             have HS : Hid (stepE x (stE l x k) y = (true, (stE l x k).2 ++ [y])) := Lib.hid (by unfold stepE; rw [hb, if_neg (by simp)])
             clear ha
             have HLO : Hid (m + 1 ≤ 1649267441664) := Lib.hid (by omega)
             have HWA : Hid (Below w1.heap.size w1 (V.alloc q.box)) := Lib.hid (bel_alloc _ HV.out)
             go_wp2_with (at_builtin; refine wpList_evt rfl (.tmp 36) (.tmp 41) rfl rfl _ w1.heap.size m (.slice A m c) ps (some ⟨V.heap.size, 0, none⟩) [q] 1 1 rfl rfl (HOV.out.alloc _) (fun h => by cases h) (lies_evt V q) rfl HLO.out HWA.out.size ?_; intro A3 c3 V3 ho3 hg3; have HR := Lib.hid (p_relB hlt HLY.out HS.out (by rw [List.length_append, HM.out]; rfl) (HMA.out.snoc HQI.out) ho3 HND.out hyx (evt_grown (HOV.out.alloc _) HWA.out hg3)); clear ho3 hg3)
             go_roundw
             case rel => exact HR.out
             case measure => simp [intOf]; omega
           | false =>
             have HS : Hid (stepE x (stE l x k) y = (true, (stE l x k).2 ++ [x] ++ [y])) := Lib.hid (by unfold stepE; rw [hb, hqd.out, hpd.out, ha, if_pos ⟨rfl, rfl⟩, List.append_assoc]; rfl)
             clear ha
             have HLO : Hid (m + 1 ≤ 1649267441664) := Lib.hid (by omega)
             have HWA : Hid (Below w1.heap.size w1 (V.alloc p.box)) := Lib.hid (bel_alloc _ HV.out)
             obtain ⟨p0, p1, p2, p3, p4, p5, p6⟩ := HD.out V HV.out
             go_upto_region 12 with (at_builtin; refine wpList_evt rfl (.tmp 32) (.tmp 34) rfl rfl _ w1.heap.size m (.slice A m c) ps (some ⟨V.heap.size, 0, none⟩) [p] 1 1 rfl rfl (HOV.out.alloc _) (fun h => by cases h) (lies_evt V p) rfl HLO.out HWA.out.size ?_; intro A3 c3 V3 ho3 hg3; have HO2 := Lib.hid ho3; have HW2 := Lib.hid (evt_grown (HOV.out.alloc _) HWA.out hg3); clear ho3 hg3)
             clear p0 p1 p2 p3 p4 p5 p6 e0 e1 e2 e3 e4 e5 e6
             obtain ⟨e0, e1, e2, e3, e4, e5, e6⟩ := HQ.out V3 HW2.out
             have HLO2 : Hid (m + 1 + 1 ≤ 1649267441664) := Lib.hid (by omega)
             have HWA2 : Hid (Below w1.heap.size w1 (V3.alloc q.box)) := Lib.hid (bel_alloc _ HW2.out)
             go_wp2_with (at_builtin; refine wpList_evt rfl (.tmp 36) (.tmp 41) rfl rfl _ w1.heap.size (m + 1) (.slice A3 (m + 1) c3) (ps ++ [p]) (some ⟨V3.heap.size, 0, none⟩) [q] 1 1 rfl rfl (HO2.out.alloc _) (fun h => by cases h) (lies_evt V3 q) rfl HLO2.out HWA2.out.size ?_; intro A4 c4 V4 ho3 hg3; have HR := Lib.hid (p_relB hlt HLY.out HS.out (by rw [List.length_append, List.length_append, HM.out]; rfl) ((HMA.out.snoc HPB.out).snoc HQI.out) ho3 HND.out hyx (evt_grown (HO2.out.alloc _) HWA2.out hg3)); clear ho3 hg3)
             go_roundw
             case rel => exact HR.out
             case measure => simp [intOf]; omega
   · obtain rfl : k = n := by omega
     have HR := Lib.hid (put_done HL.out.len HND.out)
     have HWE := Lib.hid (HB1.out.trans (HW.out.mono HB1.out.size))
     cases hb : (stE l x k).1 with
     | true =>
       have HE : Hid (putE l x = (stE l x k).2) := Lib.hid (by rw [HR.out, hb, if_pos rfl])
       go_wp2
       go_ret
       rw [HE.out]
       exact ⟨A, m, c, rfl, rowo_new HBW.out HB1.out HWE.out HMA.out HM.out HO.out, HWE.out⟩
     | false =>
       have HE : Hid (putE l x = (stE l x k).2 ++ [x]) := Lib.hid (by rw [HR.out, hb, if_neg (by simp)])
       have HLO : Hid (m + 1 ≤ 1649267441664) := Lib.hid (by omega)
       have HWA : Hid (Below w1.heap.size w1 (wr.alloc p.box)) := Lib.hid (bel_alloc _ HW.out)
       obtain ⟨p0, p1, p2, p3, p4, p5, p6⟩ := HD.out wr HW.out
       go_wp2_with (at_builtin; refine wpList_evt rfl (.tmp 45) (.tmp 47) rfl rfl _ w1.heap.size m (.slice A m c) ps (some ⟨wr.heap.size, 0, none⟩) [p] 1 1 rfl rfl (HO.out.alloc _) (fun h => by cases h) (lies_evt wr p) rfl HLO.out HWA.out.size ?_; intro A3 c3 V3 ho3 hg3; have HO2 := Lib.hid ho3; have HW2 := Lib.hid (evt_grown (HO.out.alloc _) HWA.out hg3); clear ho3 hg3)
       go_ret
       rw [HE.out]
       have HWE3 := HB1.out.trans (HW2.out.mono HB1.out.size)
       exact ⟨A3, m + 1, c3, rfl, rowo_new HBW.out HB1.out HWE3 (HMA.out.snoc HPB.out) (by rw [List.length_append, HM.out]; rfl) HO2.out, HWE3⟩
set_option maxHeartbeats 8000000 in
theorem rsort_own (w : World) (A0 : Option Addr) (l : List Evt) (n c0 : Nat) (hl : EventsAt w w.heap.size A0 l n c0) (h40 : n ≤ 1099511627776) :
   Calls Tryz.prog 33 #[.slice A0 n c0] w (RowOut w w.heap.size (sortE l)) := by
 have HL := Lib.hid hl
 clear hl
 go_enter Tryz.func33, Tryz.ntmps33
 go_wp2_with fail
 go_loopw [3, 4] (fun v i wr => ∃ (k m : Nat) (A : Option Addr) (c : Nat), k ≤ n ∧ i = .int .i64 (k : Int) ∧ v = .slice A m c ∧ RowO wr w.heap.size A (sortE (l.take k)) m c ∧ Below w.heap.size w wr) (fun _ i _ => n - (intOf i).toNat)
 case atStart => exact ⟨0, 0, none, 0, Nat.zero_le _, rfl, rfl, RowO.none_ _ _, Below.refl _ _⟩
 case round =>
   obtain ⟨k, m, A, c, hk, rfl, rfl, ho, hw⟩ := hrel
   have HO := Lib.hid ho
   have HW := Lib.hid hw
   clear ho hw
   by_cases hlt : k < n
   · obtain ⟨ad, q, y, rfl, hB, hly, hq, cq⟩ := (HL.out.below HW.out).at_ hlt
     have HN := Lib.hid (sort_next hly)
     have hmk := sort_long l k
     rw [HO.out.len] at hmk
     have CP := rput_own wr w.heap.size A (sortE (l.take k)) m c q y HW.out.size HO.out hq (by omega)
     simp only [EV.val] at CP
     obtain ⟨e0, e1, e2, e3, e4, e5, e6⟩ := cq
     clear hly hq
     go_wp2_with fail
     refine CP.mono ?_
     rintro e V ⟨A3, m3, c3, rfl, ho3, hb3⟩
     rw [← HN.out] at ho3
     have HO3 := Lib.hid ho3
     have HW3 := Lib.hid (HW.out.trans (hb3.mono HW.out.size))
     clear ho3 hb3 CP e0 e1 e2 e3 e4 e5 e6
     go_wp2
     go_roundw
     case rel => exact ⟨k + 1, m3, A3, c3, by omega, by go_num, rfl, HO3.out, HW3.out⟩
     case measure => simp [intOf]; omega
   · obtain rfl : k = n := by omega
     have e : Hid (l.take k = l) := Lib.hid (List.take_of_length_le (by rw [HL.out.len]; exact Nat.le_refl _))
     rw [e.out] at HO
     go_wp2
     go_ret
     exact ⟨A, m, c, rfl, HO.out, HW.out⟩
def Free (w : World) (B : Nat) (A : Option Addr) (n : Nat) : Prop := ∀ j, j < n → ∃ ad : Addr, A = some ad ∧ B ≤ ad.block ∧ w.frozen? (ad.add (j * 2)) = false ∧ w.frozen? (ad.add (j * 2 + 1)) = false
def FreeKills (w : World) (B : Nat) (A : Option Addr) (n : Nat) : Prop :=
 ∀ k, k < n → ∃ (ad : Addr) (p : EV), A = some ad ∧ B ≤ ad.block ∧ w.cell? (ad.add (k * 7 + 6)) = some (.slice p.adr p.len p.cap) ∧ Free w B p.adr p.len ∧ ∀ a2, p.adr = some a2 → 0 < p.len → a2.block ≠ ad.block
def OwnPost (w : World) (x : Evt) (e : Ending) (w' : World) : Prop := ∃ q : EV, e = .returned q.val ∧ EventIs w' w'.heap.size q x ∧ Free w' w.heap.size q.adr q.len ∧ Below w.heap.size w w'
def OwnsPost (w : World) (l : List Evt) (e : Ending) (w' : World) : Prop := ∃ A n c, e = .returned (.slice A n c) ∧ EventsAt w' w'.heap.size A l n c ∧ FreeKills w' w.heap.size A n ∧ Below w.heap.size w w'
def OwnDots (w : World) (l : List Dt.Dot) (e : Ending) (w' : World) : Prop := ∃ A n c, e = .returned (.slice A n c) ∧ DotsAt w' w'.heap.size A l n c ∧ Free w' w.heap.size A n ∧ Below w.heap.size w w'
def manyE (l : List Evt) : Nat := (l.map fun x => x.kills.length + 1).sum
structure PEvent : Prop where
 good : ∀ (w : World) (p : EV) (x : Evt), EventIs w w.heap.size p x → Calls Tryz.prog 45 #[p.val] w fun e w' => e = .returned (.bool (goodE x)) ∧ Below w.heap.size w w'
 same : ∀ (w : World) (p q : EV) (x y : Evt), EventIs w w.heap.size p x → EventIs w w.heap.size q y → Calls Tryz.prog 104 #[p.val, q.val] w fun e w' => e = .returned (.bool (decide (x = y))) ∧ Below w.heap.size w w'
 all : ∀ (w : World) (A1 A2 : Option Addr) (l1 l2 : List Evt) (n1 n2 c1 c2 : Nat), EventsAt w w.heap.size A1 l1 n1 c1 → EventsAt w w.heap.size A2 l2 n2 c2 → Calls Tryz.prog 60 #[.slice A1 n1 c1, .slice A2 n2 c2] w fun e w' => e = .returned (.bool (decide (l1 = l2))) ∧ Below w.heap.size w w'
 copy : ∀ (w : World) (p : EV) (x : Evt), EventIs w w.heap.size p x → Calls Tryz.prog 94 #[p.val] w (OwnPost w x)
 sort : ∀ (w : World) (A : Option Addr) (l : List Evt) (n c : Nat), EventsAt w w.heap.size A l n c → n ≤ 1024 → Calls Tryz.prog 63 #[.slice A n c] w (OwnsPost w (sortE l))
 dots : ∀ (w : World) (A : Option Addr) (l : List Evt) (n c : Nat), EventsAt w w.heap.size A l n c → n ≤ 1024 → manyE l ≤ 8796093022208 → Calls Tryz.prog 48 #[.slice A n c] w (OwnDots w (dotsE l))
def worksE : Evt := ⟨(2, 1), 1, 0, 0, ⟨#[]⟩, [(1, 4), (1, 9)]⟩
structure Row3 (W : World) (g : Nat) : Prop where
 c0 : W.cell? ⟨g, 0, none⟩ = some (.int .u16 1)
 c1 : W.cell? ⟨g, 1, none⟩ = some (.int .u64 4)
 c2 : W.cell? ⟨g, 2, none⟩ = some (.int .u16 1)
 c3 : W.cell? ⟨g, 3, none⟩ = some (.int .u64 9)
 c4 : W.cell? ⟨g, 4, none⟩ = some (.int .u16 2)
 c5 : W.cell? ⟨g, 5, none⟩ = some (.int .u64 1)
structure Apart (g : Nat) (w W : World) : Prop where
 os : W.os = w.os
 tape : W.tape = w.tape
 output : W.output = w.output
 size : W.heap.size = w.heap.size
 block : ∀ k, k ≠ g → W.heap[k]? = w.heap[k]?
theorem Apart.refl (g : Nat) (w : World) : Apart g w w := ⟨rfl, rfl, rfl, rfl, fun _ _ => rfl⟩
theorem Apart.setCell {g : Nat} {w W : World} (h : Apart g w W) {a : Addr} (ha : a.block = g) (v : Value) : Apart g w (W.setCell a v) :=
 ⟨h.os, h.tape, h.output, (World.size_setCell _ _ _).trans h.size, fun k hk => (Below.heap_setCell W a v k (by rw [ha]; exact hk)).trans (h.block k hk)⟩
theorem Apart.below {g B : Nat} {w W : World} (h : Apart g w W) (hB : B ≤ g) : Below B w W := ⟨h.os, h.tape, h.output, by rw [h.size]; exact Nat.le_refl _, fun k hk => h.block k (by omega)⟩
theorem Apart.cell {g : Nat} {w W : World} (h : Apart g w W) {a : Addr} (ha : a.block ≠ g) : W.cell? a = w.cell? a := World.cell?_of_block (w := w) (h.block _ ha)
theorem Apart.frozen {g : Nat} {w W : World} (h : Apart g w W) {a : Addr} (ha : a.block ≠ g) : W.frozen? a = w.frozen? a := World.frozen?_of_block (w := w) (h.block _ ha)
def Off (g : Nat) (A : Option Addr) (n : Nat) : Prop := ∀ ad : Addr, A = some ad → 0 < n → ad.block ≠ g
theorem DotsAt.apart {g B : Nat} {w W : World} {A : Option Addr} {l : List Dt.Dot} {n c : Nat} (h : DotsAt w B A l n c) (hb : Apart g w W) (ha : Off g A n) : DotsAt W B A l n c := by
 refine ⟨h.len, h.nil, h.cap, h.max, h.wide, h.dots.1, fun hl => ?_⟩
 obtain ⟨ad, e, hB, hc⟩ := h.dots.2 hl
 have h0 : 0 < n := by rw [Dt.dv_length, h.len] at hl; omega
 exact ⟨ad, e, hB, fun j u hu => (hb.cell (by rw [block_add]; exact ha ad e h0)).trans (hc j u hu)⟩
theorem Free.apart {g B : Nat} {w W : World} {A : Option Addr} {n : Nat} (h : Free w B A n) (hb : Apart g w W) (ha : Off g A n) : Free W B A n := fun j hj => by
 obtain ⟨ad, e, h1, h2, h3⟩ := h j hj
 exact ⟨ad, e, h1, (hb.frozen (by rw [block_add]; exact ha ad e (by omega))).trans h2, (hb.frozen (by rw [block_add]; exact ha ad e (by omega))).trans h3⟩
theorem Free.kept {B : Nat} {w W : World} {A : Option Addr} {l : List Dt.Dot} {n c : Nat} (h : Free w B A n) (hd : DotsAt w w.heap.size A l n c) (hb : Below w.heap.size w W) : Free W B A n := fun j hj => by
 obtain ⟨ad, e, h1, h2, h3⟩ := h j hj
 obtain ⟨ad', e', hB, _⟩ := hd.dots.2 (by rw [Dt.dv_length, hd.len]; omega)
 obtain rfl : ad = ad' := by rw [e] at e'; exact Option.some.inj e'
 exact ⟨ad, e, h1, (hb.frozen (by rw [block_add]; exact hB)).trans h2, (hb.frozen (by rw [block_add]; exact hB)).trans h3⟩
theorem off_above {w : World} {g B n : Nat} {A : Option Addr} (hf : Free w B A n) (hB : g < B) : Off g A n := fun ad e h0 => by
 obtain ⟨ad', e', h1, _, _⟩ := hf 0 h0
 rw [e] at e'
 cases e'
 omega
theorem Free.less {w : World} {B B' n : Nat} {A : Option Addr} (h : Free w B A n) (hB : B' ≤ B) : Free w B' A n := fun j hj => by
 obtain ⟨ad, e, h1, h2, h3⟩ := h j hj
 exact ⟨ad, e, Nat.le_trans hB h1, h2, h3⟩
def TurnL (g : Nat) (w0 : World) (A : Option Addr) (n c : Nat) (i : Value) (W : World) : Prop :=
 ∃ (k : Nat) (m : List Dt.Dot), k ≤ n ∧ i = .int .i64 (k : Int) ∧ Apart g w0 W ∧ DotsAt W w0.heap.size A m n c ∧ Free W 0 A n
end Go.Proofs.YtgaegfddobpomaaGreat.Ev
