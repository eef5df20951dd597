/- Words and contracts that the proofs of this seat stand on, part 4 of 14. -/
import Derived.Test.YtblgbbpbhcaodaaGreatMgC
import Derived.ShutString
import Derived.ChangeOld
import Derived.Deep.DeepHandedRow
import Derived.Deep.Matrix
import Derived.SizedLaws
import Derived.Deep.SlicePairs
import Derived.Lib.SmallJoins
import Derived.WalkKit
import Derived.Laws.BitsAllLaws
import Derived.Laws.BytesArg
import Derived.Laws.Strings
import Derived.WalkSmall
import Derived.OpenShut
import Derived.Test.YtblgbbpbhcaodaaGreatRows
import Derived.ProofKit
import Derived.Lib.Hide
import Derived.Below
import Derived.Outline
import Derived.Laws.OwnMore
import Derived.OwnWalk
import Derived.Deep.QuietTactic
import Derived.BigQuiet

/- What the frames of layer event's laws share: an event, a list of events, a dot that came in, as the walks take them. No condition. -/
namespace Go.Proofs.YtblgbbpbhcaodaaGreat.Ev
open Go.ChangeShapes Go.WideShapes Go.ChangeAt Go.RowKit Go.Deep Go.Joins
set_option linter.unusedVariables false
set_option maxRecDepth 4000

theorem own : ownKnob Tryz.prog.godebug = none := by kernel_rfl
theorem laidOut : laidOutB Tryz.prog = true := by kernel_rfl
theorem cells16 : Tryz.prog.cellsOf 36 = 1 := by kernel_rfl
theorem cells64 : Tryz.prog.cellsOf 37 = 1 := by kernel_rfl
theorem cellsD : Tryz.prog.cellsOf 39 = 2 := by kernel_rfl
theorem cellsE : Tryz.prog.cellsOf 42 = 7 := by kernel_rfl
theorem bytesD : Tryz.prog.bytesOf 39 = 16 := by kernel_rfl
theorem bytesE : Tryz.prog.bytesOf 42 = 80 := by kernel_rfl
theorem wf_u64 {n : Int} (h : (Lit.int .u64 n).wf = true) : ∃ s : Nat, n = (s : Int) ∧ s < 18446744073709551616 := by
  simp [Lit.wf, IntKind.min, IntKind.max, IntKind.bits, IntKind.signed] at h
  exact ⟨n.toNat, by omega, by omega⟩
theorem wf_u16 {n : Int} (h : (Lit.int .u16 n).wf = true) : ∃ s : Nat, n = (s : Int) ∧ s < 65536 := by
  simp [Lit.wf, IntKind.min, IntKind.max, IntKind.bits, IntKind.signed] at h
  exact ⟨n.toNat, by omega, by omega⟩
theorem wf_u8 {n : Int} (h : (Lit.int .u8 n).wf = true) : ∃ s : Nat, n = (s : Int) ∧ s < 256 := by
  simp [Lit.wf, IntKind.min, IntKind.max, IntKind.bits, IntKind.signed] at h
  exact ⟨n.toNat, by omega, by omega⟩
/-- each slice and text within weighs at most what an argument may weigh. -/
def Held {H : Type} (t : TypeId) (d : DataW H) : Prop := ∀ n ∈ d.weights Tryz.prog t, n ≤ reachBytes
theorem weights_all {H : Type} {P : Program} {e : TypeId} {l : List (DataW H)} {d : DataW H} (h : d ∈ l) : ∀ n ∈ d.weights P e, n ∈ DataW.weightsAll P e l := by
  induction l with
  | nil => cases h
  | cons x l ih =>
    intro n hn
    simp only [DataW.weightsAll, List.mem_append]
    rcases List.mem_cons.1 h with rfl | h
    · exact Or.inl hn
    · exact Or.inr (ih h n hn)
theorem Held.elem {H : Type} {t e : TypeId} {elems spare : List (DataW H)} (h : Held t (.slice elems spare)) (hu : Tryz.prog.underlying t = some (.slice e)) {d : DataW H} (hd : d ∈ elems) : Held e d := fun n hn =>
  h n (by simp only [DataW.weights, hu, List.mem_cons, List.mem_append]; exact Or.inr (Or.inl (weights_all hd n hn)))
theorem Held.length {H : Type} {t e : TypeId} {elems spare : List (DataW H)} (h : Held t (.slice elems spare)) (hu : Tryz.prog.underlying t = some (.slice e)) : (elems.length + spare.length) * Tryz.prog.bytesOf e ≤ reachBytes :=
  h _ (by simp [DataW.weights, hu])
theorem Held.part {H : Type} {t t' : TypeId} {fs : Array Field} {parts : List (DataW H)} (h : Held t (.agg parts)) (hu : Tryz.prog.underlying t = some (.struct fs)) {j : Nat} {d : DataW H} (ht : (fs.toList.map (·.type))[j]? = some t') (hd : parts[j]? = some d) : Held t' d := fun n hn =>
  h n (by simp only [DataW.weights, hu]; exact DataW.weights_mem_each ht hd n hn)
theorem list_of {α : Type} {Q : Nat → α → Prop} (n : Nat) (h : ∀ i, i < n → ∃ t, Q i t) : ∃ L : List α, L.length = n ∧ ∀ (i : Nat) (t : α), L[i]? = some t → Q i t := by
  induction n with
  | zero => exact ⟨[], rfl, fun i t hi => by simp at hi⟩
  | succ n ih =>
    obtain ⟨L, hL, hQ⟩ := ih (fun i hi => h i (by omega))
    obtain ⟨t, ht⟩ := h n (by omega)
    refine ⟨L ++ [t], by simp [hL], fun i u hu => ?_⟩
    rcases Nat.lt_or_ge i n with hi | hi
    · rw [List.getElem?_append_left (by omega)] at hu
      exact hQ i u hu
    · rw [List.getElem?_append_right (by omega), hL] at hu
      have e : i = n := by
        rcases Nat.eq_or_lt_of_le hi with e | e
        · exact e.symm
        · rw [List.getElem?_eq_none (by simp; omega)] at hu; cases hu
      subst e
      simp at hu
      subst hu
      exact ht
theorem lies_dots {w : World} {B : Nat} {ad : Addr} (hB : ad.block < B) (L : List Dt.Dot) (h : ∀ (i : Nat) (r : Dt.Dot), L[i]? = some r → w.cell? (ad.add (i * 2)) = some (.int .u16 (r.1 : Int)) ∧ w.cell? (ad.add (i * 2 + 1)) = some (.int .u64 (r.2 : Int))) : Dt.Lies w B (some ad) (Dt.dv L) := fun _ => by
  refine ⟨ad, rfl, hB, fun j u hu => ?_⟩
  have hj : j < (Dt.dv L).length := (List.getElem?_eq_some_iff.1 hu).1
  rw [Dt.dv_length] at hj
  have hd : j / 2 < L.length := by omega
  have hg := List.getElem?_eq_getElem hd
  obtain ⟨g1, g2⟩ := Dt.dv_get hg
  obtain ⟨c1, c2⟩ := h _ _ hg
  rcases Nat.mod_two_eq_zero_or_one j with h0 | h0
  · have e : j = j / 2 * 2 := by omega
    rw [e] at hu ⊢
    rw [g1] at hu
    cases hu
    exact c1
  · have e : j = j / 2 * 2 + 1 := by omega
    generalize hz : j / 2 = z at *
    subst e
    rw [g2] at hu
    cases hu
    exact c2

/-- a dot that came in; it reads as it did in every world. -/
theorem dot_of {H : Type} {enc : TypeId × Value → H} {W : World} {b0 : Nat} {v : Value} {d : DataW H} {p : List MemPlace} (hv : Value.okWide Tryz.prog W .any b0 39 v) (h : DataW.Trod enc Tryz.prog W 0 (fun _ => true) true 39 v d p) :
    ∃ r : Dt.Dot, v = .agg #[.int .u16 (r.1 : Int), .int .u64 (r.2 : Int)] ∧ r.1 < 65536 ∧ r.2 < 18446744073709551616 ∧ p = [] ∧ ∀ (W' : World) (sp : Nat → Bool), DataW.Trod enc Tryz.prog W' 0 sp true 39 v d p := by
  obtain ⟨c0, c1, y0, y1, m, rfl, rfl, rfl, hy0, hy1⟩ := open_agg2 Tryz.underlying39 (by kernel_rfl) cellsD hv h
  obtain ⟨a, e0, rfl, wa⟩ := DataW.trod_int Tryz.underlying36 hy0
  obtain ⟨b, e1, rfl, wb⟩ := DataW.trod_int Tryz.underlying37 hy1
  simp at e0 e1
  subst e0 e1
  have wa' := wa
  have wb' := wb
  obtain ⟨s, rfl, hs⟩ := wf_u16 wa
  obtain ⟨t, rfl, ht⟩ := wf_u64 wb
  exact ⟨(s, t), rfl, hs, ht, rfl, fun W' sp =>
    shut_agg2 (y0 := (.lit (.int .u16 (s : Int)), [])) (y1 := (.lit (.int .u64 (t : Int)), [])) Tryz.underlying39 (by kernel_rfl) cellsD ⟨1, by simp [DataW.trod, Tryz.underlying36, wa']⟩ ⟨1, by simp [DataW.trod, Tryz.underlying37, wb']⟩⟩
/-- dots that stand in a cell. -/
theorem dots_cell {H : Type} {enc : TypeId × Value → H} {W : World} {fuel : Nat} {v : Value} {d : DataW H} {p : List MemPlace} (h : DataW.trod enc Tryz.prog W 0 (fun _ => true) true fuel 40 [v] = some (d, p)) (hz : Held 40 d) :
    ∃ (A : Option Addr) (n c : Nat) (l : List Dt.Dot), v = .slice A n c ∧ DotsAt W W.heap.size A l n c ∧ n ≤ 8796093021952 := by
  rcases open_slice_pairs Tryz.underlying40 Tryz.underlying39 cellsD rfl rfl cells16 cells64 h with ⟨hcs, _⟩ | ⟨x, n0, c0, m, f0, V0, V1, D0, D1, P0, P1, hcs, hb, hl, hm, hmm, hx, hi⟩
  · obtain rfl := (List.cons.inj hcs).1
    exact ⟨none, 0, 0, [], rfl, DotsAt.none_ _ _, by decide⟩
  · obtain rfl := (List.cons.inj hcs).1
    unfold maxLen at hm
    have hmc : m = c0 := by simpa using hmm
    obtain rfl := (Prod.mk.inj hx).1
    have hw := hz.length Tryz.underlying40
    rw [bytesD] at hw
    simp only [List.length_map, List.length_range, reachBytes] at hw
    have each : ∀ i, i < n0 → ∃ r : Dt.Dot, (r.1 < 65536 ∧ r.2 < 18446744073709551616) ∧ W.cell? (x.add (i * 2)) = some (.int .u16 (r.1 : Int)) ∧ W.cell? (x.add (i * 2 + 1)) = some (.int .u64 (r.2 : Int)) := by
      intro i hil
      obtain ⟨h0, h1, t0, t1⟩ := hi i (by omega)
      obtain ⟨z0, e0, _, w0⟩ := DataW.trod_int Tryz.underlying36 t0
      obtain ⟨z1, e1, _, w1⟩ := DataW.trod_int Tryz.underlying37 t1
      obtain ⟨s0, rfl, hs0⟩ := wf_u16 w0
      obtain ⟨s1, rfl, hs1⟩ := wf_u64 w1
      rw [(List.cons.inj e0).1] at h0
      rw [(List.cons.inj e1).1] at h1
      exact ⟨(s0, s1), ⟨hs0, hs1⟩, h0, h1⟩
    obtain ⟨L, hL, hQ⟩ := list_of n0 each
    refine ⟨some x, n0, c0, L, rfl, ⟨hL, (fun e => by cases e), hl, by omega, by omega, fun r hr => ?_, ?_⟩, by omega⟩
    · obtain ⟨i, hi', rfl⟩ := List.getElem_of_mem hr
      exact (hQ i _ (List.getElem?_eq_getElem hi')).1
    · rcases Nat.eq_zero_or_pos L.length with h0 | h0
      · rw [List.eq_nil_of_length_eq_zero h0]; exact Dt.Lies.none_ _ _ _
      · refine lies_dots ?_ L (fun i r hr => (hQ i r hr).2)
        have h1 := (hQ 0 _ (List.getElem?_eq_getElem h0)).2.1
        have h2 := World.block_lt_of_cell? W _ h1
        rwa [block_add] at h2
/-- an event's cells. -/
theorem evt_cells {H : Type} {enc : TypeId × Value → H} {W : World} {fuel : Nat} {cs : List Value} {d : DataW H} {p : List MemPlace} (h : DataW.trod enc Tryz.prog W 0 (fun _ => true) true fuel 42 cs = some (d, p)) (hz : Held 42 d) :
    ∃ (q : EV) (x : Evt), cs = q.cells ∧ EventIs W W.heap.size q x ∧ q.len ≤ 8796093021952 := by
  obtain ⟨xs, f1, _, hxy, hlen, hxl, hfd⟩ := DataW.trod_struct Tryz.underlying42 h
  rw [cellsE] at hlen
  match xs, hxl, cs, hlen with
  | [y0, y1, y2, y3, y4, y5], _, [u0, u1, u2, u3, u4, u5, u6], _ =>
    have g0 := hfd 0 _ rfl
    have g1 := hfd 1 _ rfl
    have g2 := hfd 2 _ rfl
    have g3 := hfd 3 _ rfl
    have g4 := hfd 4 _ rfl
    have g5 := hfd 5 _ rfl
    simp only [List.getElem?_cons_zero, List.getElem?_cons_succ] at g0 g1 g2 g3 g4 g5
    have hD : d = .agg ([y0, y1, y2, y3, y4, y5].map (·.1)) := congrArg Prod.fst hxy
    subst hD
    obtain ⟨zs, f2, _, hzy, _, hzl, hfz⟩ := DataW.trod_struct Tryz.underlying39 g0
    match zs, hzl with
    | [z0, z1], _ =>
      have k0 := hfz 0 _ rfl
      have k1 := hfz 1 _ rfl
      simp only [List.getElem?_cons_zero, List.getElem?_cons_succ] at k0 k1
      obtain ⟨i0, e0, _, w0⟩ := DataW.trod_int Tryz.underlying36 k0
      obtain ⟨i1, e1, _, w1⟩ := DataW.trod_int Tryz.underlying37 k1
      obtain ⟨i2, e2, _, w2⟩ := DataW.trod_int Tryz.underlying5 g1
      obtain ⟨i3, e3, _, w3⟩ := DataW.trod_int Tryz.underlying37 g2
      obtain ⟨i4, e4, _, w4⟩ := DataW.trod_int Tryz.underlying5 g3
      obtain ⟨s, e5, hs1, _⟩ := DataW.trod_string Tryz.underlying9 g4
      obtain ⟨y51, y52⟩ := y5
      have g5' : DataW.trod enc Tryz.prog W 0 (fun _ => true) true f1 40 [u6] = some (y51, y52) := g5
      obtain ⟨A, n, c, l, e6, hT, hn⟩ := dots_cell g5' (hz.part (j := 5) Tryz.underlying42 rfl rfl)
      have hst : Held 9 y4.1 := hz.part (j := 4) Tryz.underlying42 rfl rfl
      rw [hs1] at hst
      have hsl := hst s.data.toList.length (by simp [DataW.weights])
      obtain rfl := (List.cons.inj e0).1
      obtain rfl := (List.cons.inj e1).1
      obtain rfl := (List.cons.inj e2).1
      obtain rfl := (List.cons.inj e3).1
      obtain rfl := (List.cons.inj e4).1
      obtain rfl := (List.cons.inj e5).1
      subst e6
      obtain ⟨s0, rfl, hs0⟩ := wf_u16 w0
      obtain ⟨s1, rfl, hs1⟩ := wf_u64 w1
      obtain ⟨s2, rfl, hs2⟩ := wf_u8 w2
      obtain ⟨s3, rfl, hs3⟩ := wf_u64 w3
      obtain ⟨s4, rfl, hs4⟩ := wf_u8 w4
      refine ⟨⟨s0, s1, s2, s3, s4, s, A, n, c⟩, ⟨(s0, s1), s2, s3, s4, s, l⟩, rfl, ⟨rfl, rfl, rfl, rfl, rfl, rfl, ⟨⟨hs0, hs1⟩, hs2, hs3, hs4, ?_⟩, hT⟩, hn⟩
      unfold Short
      simp only [reachBytes, Array.length_toList] at hsl
      have e : s.data.size = s.size := rfl
      show s.size ≤ 140737488355328
      omega
/-- an event that came in. -/
theorem evt_of {H : Type} {enc : TypeId × Value → H} {W : World} {b0 : Nat} {v : Value} {d : DataW H} {p : List MemPlace} (hv : Value.okWide Tryz.prog W .any b0 42 v) (h : DataW.Trod enc Tryz.prog W 0 (fun _ => true) true 42 v d p) (hz : Held 42 d) :
    ∃ (q : EV) (x : Evt), v = q.val ∧ EventIs W W.heap.size q x ∧ q.len ≤ 8796093021952 := by
  obtain ⟨cs, rfl, hsz⟩ := okWide_struct Tryz.underlying42 hv
  obtain ⟨fuel, hf⟩ := h
  obtain ⟨q, x, e, hq, hn⟩ := evt_cells hf hz
  refine ⟨q, x, ?_, hq, hn⟩
  have e2 : cs.toList = q.cells := e
  have e3 : cs = q.cells.toArray := by rw [← e2]
  rw [e3]
/-- events that came in. -/
theorem evts_of {H : Type} {enc : TypeId × Value → H} {W : World} {A : Option Addr} {n c : Nat} {d : DataW H} {p : List MemPlace} (h : DataW.Trod enc Tryz.prog W 0 (fun _ => true) true 30 (.slice A n c) d p) (hz : Held 30 d) :
    ∃ l : List Evt, EventsAt W W.heap.size A l n c := by
  obtain ⟨fuel, hf⟩ := h
  rcases open_slice Tryz.underlying30 hf with ⟨hcs, _⟩ | ⟨x, n0, c0, m, f0, D, Pl, hcs, hb, hl, hm, hmm, hx, hi⟩
  · simp [Value.cells] at hcs
    obtain ⟨rfl, rfl, rfl⟩ := hcs
    exact ⟨[], EventsAt.none_ _ _⟩
  · simp [Value.cells] at hcs
    obtain ⟨rfl, rfl, rfl⟩ := hcs
    unfold maxLen at hm
    have hmc : m = c := by simpa using hmm
    obtain rfl := (Prod.mk.inj hx).1
    have hw := hz.length Tryz.underlying30
    rw [bytesE] at hw
    simp only [List.length_map, List.length_range, reachBytes] at hw
    have each : ∀ i, i < n → ∃ r : EV × Evt, EventIs W W.heap.size r.1 r.2 ∧ ∀ j (hj : j < r.1.cells.length), W.cell? (x.add (i * 7 + j)) = some r.1.cells[j] := by
      intro i hil
      obtain ⟨cs', k1, k2⟩ := hi i (by omega)
      rw [cellsE] at k1
      obtain ⟨_, hlen, hcell⟩ := World.cells?_some k1
      have hh : Held 42 (D i) := hz.elem Tryz.underlying30 (List.mem_map.2 ⟨i, List.mem_range.2 hil, rfl⟩)
      obtain ⟨q, y, rfl, hq, _⟩ := evt_cells k2 hh
      refine ⟨(q, y), hq, fun j hj => ?_⟩
      have := hcell j hj
      rw [add_add] at this
      rw [this]
      exact List.getElem?_eq_getElem hj
    obtain ⟨L, hL, hQ⟩ := list_of n each
    refine ⟨L.map (fun r => r.2), ⟨by rw [List.length_map, hL], (fun e => by cases e), hl, by omega, by omega, L.map (fun r => r.1), fun h0 => ?_, by rw [List.length_map, List.length_map], ?_⟩⟩
    · rw [ev_length, List.length_map] at h0
      have h1 := (hQ 0 _ (List.getElem?_eq_getElem (show 0 < L.length by omega))).2 0 (show 0 < 7 by decide)
      have h2 := World.block_lt_of_cell? W _ h1
      rw [block_add] at h2
      refine ⟨x, rfl, h2, fun j u hu => ?_⟩
      have hj : j < L.length * 7 := by have := (List.getElem?_eq_some_iff.1 hu).1; rwa [ev_length, List.length_map] at this
      have hk : j / 7 < L.length := by omega
      have hg : (L.map (fun r => r.1))[j / 7]? = some (L[j / 7]).1 := by simp [hk]
      have hv := ev_get hg (j % 7) (by omega)
      rw [show j / 7 * 7 + j % 7 = j by omega, hu] at hv
      have hc := (hQ (j / 7) _ (List.getElem?_eq_getElem hk)).2 (j % 7) (show j % 7 < 7 by omega)
      rw [show j / 7 * 7 + j % 7 = j by omega] at hc
      rw [hc, ← List.getElem?_eq_getElem, ← hv]
    · intro k q y hq hy
      rw [List.getElem?_map] at hq hy
      obtain ⟨r, hr, rfl⟩ := Option.map_eq_some_iff.1 hq
      rw [hr] at hy
      cases hy
      exact (hQ k r hr).1
end Go.Proofs.YtblgbbpbhcaodaaGreat.Ev

/- Plain facts on numbers below 2^64 and their bytes that the claims of layer pack rest on: how many bytes, which ones, the number of some bytes, the order of bytes. No program is named here. -/
namespace Go.Proofs.YtblgbbpbhcaodaaGreat.Nu
open Go Go.RowKit

/-- How many bytes a number has. -/
def lenN : Nat → Nat → Nat
  | 0, _ => 0
  | f + 1, v => if v = 0 then 0 else 1 + lenN f (v / 256)
def blen (v : Nat) : Nat := lenN 8 v
/-- The lowest bytes, the highest one first. -/
def dig : Nat → Nat → List Nat
  | 0, _ => []
  | k + 1, v => v / 256 ^ k % 256 :: dig k v
/-- A number's bytes. -/
def enc (v : Nat) : List Nat := blen v :: dig (blen v) v
/-- The number of some bytes. -/
def val (l : List Nat) : Nat := l.foldl (fun a x => a * 256 + x) 0
def Small (l : List Nat) : Prop := ∀ x ∈ l, x < 256

theorem pos256 (k : Nat) : 0 < 256 ^ k := Nat.pow_pos (by decide)
theorem dig_length (k v : Nat) : (dig k v).length = k := by
  induction k with
  | zero => rfl
  | succ k ih => simp [dig, ih]
theorem dig_small (k v : Nat) : Small (dig k v) := by
  induction k with
  | zero => intro x hx; cases hx
  | succ k ih =>
    intro x hx
    rcases List.mem_cons.1 hx with rfl | hx
    · exact Nat.mod_lt _ (by decide)
    · exact ih x hx
theorem lenN_le (f v : Nat) : lenN f v ≤ f := by
  induction f generalizing v with
  | zero => exact Nat.le_refl _
  | succ f ih =>
    unfold lenN
    split
    · omega
    · have := ih (v / 256); omega
theorem blen_le (v : Nat) : blen v ≤ 8 := lenN_le 8 v
theorem lenN_zero (f : Nat) : lenN f 0 = 0 := by cases f <;> simp [lenN]
theorem blen_zero : blen 0 = 0 := lenN_zero 8
theorem lt_lenN (f v : Nat) (h : v < 256 ^ f) : v < 256 ^ lenN f v := by
  induction f generalizing v with
  | zero => simpa [lenN] using h
  | succ f ih =>
    unfold lenN
    split
    · rename_i hz; subst hz; decide
    · have h1 : v / 256 < 256 ^ f := by rw [Nat.pow_succ] at h; omega
      have := ih _ h1
      rw [Nat.add_comm, Nat.pow_succ]; omega
theorem le_lenN (f v k : Nat) (h : lenN f v = k + 1) : 256 ^ k ≤ v := by
  induction f generalizing v k with
  | zero => simp [lenN] at h
  | succ f ih =>
    unfold lenN at h
    split at h
    · omega
    · rename_i hz
      cases k with
      | zero => rw [Nat.pow_zero]; omega
      | succ k =>
        have := ih (v / 256) k (by omega)
        rw [Nat.pow_succ]; omega
theorem lt_blen {v : Nat} (h : v < 18446744073709551616) : v < 256 ^ blen v := lt_lenN 8 v (by exact h)
theorem le_blen {v k : Nat} (h : blen v = k + 1) : 256 ^ k ≤ v := le_lenN 8 v k h
theorem blen_of {v k : Nat} (hv : v < 18446744073709551616) (h0 : 256 ^ k ≤ v) (h1 : v < 256 ^ (k + 1)) : blen v = k + 1 := by
  have a := lt_blen hv
  have b : k < blen v := (Nat.pow_lt_pow_iff_right (by decide : 1 < 256)).1 (Nat.lt_of_le_of_lt h0 a)
  obtain ⟨m, hm⟩ : ∃ m, blen v = m + 1 := ⟨blen v - 1, by omega⟩
  have c := le_blen hm
  have d : m < k + 1 := (Nat.pow_lt_pow_iff_right (by decide : 1 < 256)).1 (Nat.lt_of_le_of_lt c h1)
  omega
theorem enc_length (v : Nat) : (enc v).length = 1 + blen v := by simp [enc, dig_length]; omega
theorem enc_small (v : Nat) : Small (enc v) := by
  intro x hx
  rcases List.mem_cons.1 hx with rfl | hx
  · have := blen_le v; omega
  · exact dig_small _ _ x hx

theorem dig_add (k v a : Nat) : dig k (v + a * 256 ^ k) = dig k v := by
  induction k generalizing a with
  | zero => rfl
  | succ k ih =>
    have e : v + a * 256 ^ (k + 1) = v + a * 256 * 256 ^ k := by rw [Nat.pow_succ, Nat.mul_comm (256 ^ k), ← Nat.mul_assoc]
    unfold dig
    rw [e, ih (a * 256), Nat.add_mul_div_right _ _ (pos256 k)]
    congr 1
    omega
theorem fold_val (l : List Nat) (a : Nat) : l.foldl (fun a x => a * 256 + x) a = a * 256 ^ l.length + val l := by
  induction l generalizing a with
  | nil => simp [val]
  | cons x t ih =>
    have h1 := ih (a * 256 + x)
    have h2 := ih (0 * 256 + x)
    unfold val
    rw [List.foldl_cons, List.foldl_cons, h1, h2, List.length_cons, Nat.pow_succ, Nat.add_mul, Nat.mul_assoc, Nat.mul_comm 256]
    simp
    omega
theorem val_cons (x : Nat) (t : List Nat) : val (x :: t) = x * 256 ^ t.length + val t := by
  have h := fold_val t (0 * 256 + x)
  unfold val at h ⊢
  rw [List.foldl_cons, h]
  simp
theorem val_snoc (l : List Nat) (x : Nat) : val (l ++ [x]) = val l * 256 + x := by
  unfold val; rw [List.foldl_append]; rfl
theorem val_nil : val [] = 0 := rfl
theorem val_lt {l : List Nat} (h : Small l) : val l < 256 ^ l.length := by
  induction l with
  | nil => simp [val]
  | cons x t ih =>
    have h1 := ih fun y hy => h y (List.mem_cons_of_mem _ hy)
    have h2 : x < 256 := h x List.mem_cons_self
    rw [val_cons, List.length_cons, Nat.pow_succ]
    have : x * 256 ^ t.length ≤ 255 * 256 ^ t.length := Nat.mul_le_mul_right _ (by omega)
    omega
theorem val_dig (k v : Nat) : val (dig k v) = v % 256 ^ k := by
  induction k with
  | zero => simp [dig, val, Nat.mod_one]
  | succ k ih =>
    unfold dig
    rw [val_cons, dig_length, ih, Nat.pow_succ, Nat.mod_mul, Nat.mul_comm (256 ^ k)]
    omega
theorem dig_val {l : List Nat} (h : Small l) : dig l.length (val l) = l := by
  induction l with
  | nil => rfl
  | cons x t ih =>
    have hs : Small t := fun y hy => h y (List.mem_cons_of_mem _ hy)
    have h1 := ih hs
    have h2 : x < 256 := h x List.mem_cons_self
    have h3 := val_lt hs
    rw [val_cons, List.length_cons]
    unfold dig
    rw [Nat.add_comm, dig_add, h1, Nat.add_mul_div_right _ _ (pos256 _), Nat.div_eq_of_lt h3]
    congr 1
    omega
theorem val_enc {v : Nat} (h : v < 18446744073709551616) : val (dig (blen v) v) = v := by
  rw [val_dig, Nat.mod_eq_of_lt (lt_blen h)]
/-- The highest byte is not 0. -/
theorem dig_head {v k : Nat} (h : v < 18446744073709551616) (hk : blen v = k + 1) : v / 256 ^ k % 256 ≠ 0 := by
  have h1 := le_blen hk
  have h2 := lt_blen h
  rw [hk, Nat.pow_succ] at h2
  have h3 : 1 ≤ v / 256 ^ k := (Nat.le_div_iff_mul_le (pos256 k)).2 (by omega)
  have h4 : v / 256 ^ k < 256 := (Nat.div_lt_iff_lt_mul (pos256 k)).2 (by omega)
  omega
/-- Bytes in the only form. -/
theorem enc_val {n : Nat} {t : List Nat} (hn : n ≤ 8) (ht : t.length = n) (hs : Small t) (h0 : ∀ x, t[0]? = some x → x ≠ 0) : enc (val t) = n :: t ∧ val t < 18446744073709551616 := by
  have hl := val_lt hs
  have h64 : val t < 18446744073709551616 := by
    have : 256 ^ t.length ≤ 256 ^ 8 := Nat.pow_le_pow_right (by decide) (by omega)
    exact Nat.lt_of_lt_of_le hl this
  have hb : blen (val t) = n := by
    cases t with
    | nil => subst ht; exact blen_zero
    | cons x r =>
      have hx : x ≠ 0 := h0 x rfl
      subst ht
      refine blen_of h64 ?_ hl
      rw [val_cons]
      have : 1 * 256 ^ r.length ≤ x * 256 ^ r.length := Nat.mul_le_mul_right _ (by omega)
      omega
  refine ⟨?_, h64⟩
  unfold enc
  rw [hb]
  subst ht
  rw [dig_val hs]

/-- Which of two lists of bytes stands ahead. -/
def less : List Nat → List Nat → Bool
  | _, [] => false
  | [], _ :: _ => true
  | a :: x, b :: y => decide (a < b) || (decide (a = b) && less x y)
theorem less_dig (k v w : Nat) : less (dig k v) (dig k w) = decide (v % 256 ^ k < w % 256 ^ k) := by
  induction k with
  | zero => simp [dig, less, Nat.mod_one]
  | succ k ih =>
    unfold dig less
    rw [ih, Nat.pow_succ, Nat.mod_mul, Nat.mod_mul]
    have h1 := Nat.mod_lt v (pos256 k)
    have h2 := Nat.mod_lt w (pos256 k)
    generalize v % 256 ^ k = p at *
    generalize w % 256 ^ k = q at *
    generalize v / 256 ^ k % 256 = a at *
    generalize w / 256 ^ k % 256 = b at *
    generalize 256 ^ k = m at *
    rw [Bool.eq_iff_iff]
    simp only [Bool.or_eq_true, Bool.and_eq_true, decide_eq_true_eq]
    rcases Nat.lt_trichotomy a b with h | rfl | h
    · have : m * (a + 1) ≤ m * b := Nat.mul_le_mul_left _ h
      rw [Nat.mul_succ] at this
      constructor
      · intro _; omega
      · intro _; exact .inl h
    · constructor
      · rintro (h | ⟨_, h⟩) <;> omega
      · intro h; exact .inr ⟨rfl, by omega⟩
    · have : m * (b + 1) ≤ m * a := Nat.mul_le_mul_left _ h
      rw [Nat.mul_succ] at this
      constructor
      · rintro (h | ⟨h, _⟩) <;> omega
      · intro _; omega
theorem less_enc {v w : Nat} (hv : v < 18446744073709551616) (hw : w < 18446744073709551616) : less (enc v) (enc w) = decide (v < w) := by
  have h1 := lt_blen hv
  have h2 := lt_blen hw
  unfold enc less
  rcases Nat.lt_trichotomy (blen v) (blen w) with h | h | h
  · obtain ⟨k, hk⟩ : ∃ k, blen w = k + 1 := ⟨blen w - 1, by omega⟩
    have h3 := le_blen hk
    have h4 : 256 ^ blen v ≤ 256 ^ k := Nat.pow_le_pow_right (by decide) (by omega)
    have h5 : v < w := by omega
    simp [h, h5]
  · rw [h, less_dig, Nat.mod_eq_of_lt (by rw [← h]; exact h1), Nat.mod_eq_of_lt h2]
    simp
  · obtain ⟨k, hk⟩ : ∃ k, blen v = k + 1 := ⟨blen v - 1, by omega⟩
    have h3 := le_blen hk
    have h4 : 256 ^ blen w ≤ 256 ^ k := Nat.pow_le_pow_right (by decide) (by omega)
    have h5 : ¬ v < w := by omega
    have h6 : ¬ blen v < blen w := by omega
    have h7 : ¬ blen v = blen w := by omega
    simp [h5, h6, h7]
theorem enc_inj {v w : Nat} (hv : v < 18446744073709551616) (hw : w < 18446744073709551616) : enc v = enc w ↔ v = w := by
  constructor
  · intro h
    unfold enc at h
    obtain ⟨h1, h2⟩ := List.cons.inj h
    have e1 := val_enc hv
    rw [h2, val_enc hw] at e1
    exact e1.symm
  · rintro rfl; rfl

/-- Bytes as a string. -/
def str (l : List Nat) : ByteArray := strOfNums (l.map fun x : Nat => (x : Int))
theorem str_toList (l : List Nat) : (str l).toList = l.map UInt8.ofNat := by
  rw [ByteArray.toList_eq, str, strOfNums_data, List.map_map]
  apply List.map_congr_left
  intro x _
  simp
theorem ofNat_inj {a b : Nat} (ha : a < 256) (hb : b < 256) : UInt8.ofNat a = UInt8.ofNat b ↔ a = b := by
  constructor
  · intro h
    have h2 := congrArg UInt8.toNat h
    rw [UInt8.toNat_ofNat', UInt8.toNat_ofNat'] at h2
    omega
  · rintro rfl; rfl
theorem ofNat_lt {a b : Nat} (ha : a < 256) (hb : b < 256) : UInt8.ofNat a < UInt8.ofNat b ↔ a < b := by
  rw [UInt8.lt_iff_toNat_lt, UInt8.toNat_ofNat', UInt8.toNat_ofNat']
  omega
theorem map_inj {l m : List Nat} (hl : Small l) (hm : Small m) : l.map UInt8.ofNat = m.map UInt8.ofNat ↔ l = m := by
  induction l generalizing m with
  | nil => cases m <;> simp
  | cons x t ih =>
    cases m with
    | nil => simp
    | cons y r =>
      rw [List.map_cons, List.map_cons, List.cons.injEq, List.cons.injEq, ofNat_inj (hl x List.mem_cons_self) (hm y List.mem_cons_self),
        ih (fun z hz => hl z (List.mem_cons_of_mem _ hz)) (fun z hz => hm z (List.mem_cons_of_mem _ hz))]
theorem str_eql {l m : List Nat} (hl : Small l) (hm : Small m) : ((str l).toList == (str m).toList) = decide (l = m) := by
  rw [str_toList, str_toList, Bool.eq_iff_iff, beq_iff_eq, decide_eq_true_eq]
  exact map_inj hl hm
theorem str_less {l m : List Nat} (hl : Small l) (hm : Small m) : Op.bytesLess (str l).toList (str m).toList = less l m := by
  rw [str_toList, str_toList]
  induction l generalizing m with
  | nil => cases m <;> rfl
  | cons x t ih =>
    cases m with
    | nil => rfl
    | cons y r =>
      have a := ofNat_lt (hl x List.mem_cons_self) (hm y List.mem_cons_self)
      have b := ofNat_inj (hl x List.mem_cons_self) (hm y List.mem_cons_self)
      have c := ih (m := r) (fun z hz => hl z (List.mem_cons_of_mem _ hz)) (fun z hz => hm z (List.mem_cons_of_mem _ hz))
      simp only [List.map_cons, Op.bytesLess, less, c]
      rw [Bool.eq_iff_iff]
      simp only [Bool.or_eq_true, Bool.and_eq_true, decide_eq_true_eq, beq_iff_eq, a, b]
end Go.Proofs.YtblgbbpbhcaodaaGreat.Nu

/- The contracts of layer shift's Len and Byte and of the document's answers for them, as layer num calls them: what each call returns, for every number of its parameters' types; the world stays as it was. -/
namespace Go.Proofs.YtblgbbpbhcaodaaGreat.Sh
open Go.ChangeShapes Go.WideShapes Go.ChangeAt Go.RowKit
set_option linter.unusedVariables false
set_option maxRecDepth 4000

theorem ret_int {k : IntKind} {a b : Int} (h : a = b) : Ending.returned (.int k a) = .returned (.int k b) := by rw [h]
theorem pow_pos' (k : Nat) : (0 : Int) < 2 ^ k := Int.pow_pos (by decide)
/-- A byte of a number. -/
def byt (v i : Int) : Int := if 0 ≤ i ∧ i < 8 then v / 2 ^ (i * 8).toNat % 256 else 0
/-- How many bytes. -/
def lenN : Nat → Int → Int
  | 0, _ => 0
  | f + 1, v => if v ≤ 0 then 0 else 1 + lenN f (v / 256)
def len (v : Int) : Int := lenN 8 v

theorem byte_any (v i : Int) (w : World) (h0 : 0 ≤ v) (h1 : v < 18446744073709551616) (i0 : -9223372036854775808 ≤ i) (i1 : i ≤ 9223372036854775807) :
    Calls Tryz.prog 82 #[.int .u64 v, .int .i64 i] w fun e w' => e = .returned (.int .u8 (byt v i)) ∧ w = w' := by
  by_cases h : 0 ≤ i ∧ i < 8
  · obtain ⟨a0, a1⟩ := h
    go_enter Tryz.func82, Tryz.ntmps82
    go_wp2
    go_ret
    exact ⟨ret_int (by unfold byt; rw [if_pos ⟨a0, a1⟩]), rfl⟩
  · by_cases h2 : i < 0
    · go_enter Tryz.func82, Tryz.ntmps82
      go_wp2
      go_ret
      exact ⟨ret_int (by unfold byt; rw [if_neg h]), rfl⟩
    · have h3 : 8 ≤ i := by omega
      have hd : decide (i < 8) = false := by simpa using h3
      go_enter Tryz.func82, Tryz.ntmps82
      go_wp2
      go_ret
      exact ⟨ret_int (by unfold byt; rw [if_neg h]), rfl⟩

theorem div_step (v : Int) (j : Nat) : v / 2 ^ (8 * (j + 1)) = v / 2 ^ (8 * j) / 256 := by
  rw [show 8 * (j + 1) = 8 * j + 8 from by omega, Int.pow_add, ← Int.ediv_ediv_of_nonneg (Int.le_of_lt (pow_pos' _))]
  rfl

theorem len_step (f : Nat) (x : Int) (h0 : 0 < x) (h1 : x < 2 ^ (8 * f)) : ∃ g : Nat, f = g + 1 ∧ x / 256 < 2 ^ (8 * g) ∧ lenN f x = 1 + lenN g (x / 256) := by
  cases f with
  | zero => simp at h1; omega
  | succ g =>
    refine ⟨g, rfl, ?_, ?_⟩
    · rw [show 8 * (g + 1) = 8 * g + 8 from by omega, Int.pow_add] at h1
      rw [show (2 : Int) ^ 8 = 256 from rfl] at h1
      generalize (2 : Int) ^ (8 * g) = p at *
      omega
    · rw [lenN, if_neg (by omega)]

theorem lenN_zero (f : Nat) : lenN f 0 = 0 := by cases f <;> simp [lenN]

set_option maxHeartbeats 400000 in
theorem len_any (v : Int) (w : World) (h0 : 0 ≤ v) (h1 : v < 18446744073709551616) :
    Calls Tryz.prog 81 #[.int .u64 v] w fun e w' => e = .returned (.int .i64 (len v)) ∧ w = w' := by
  have hl : ∃ L, L = len v := ⟨_, rfl⟩
  obtain ⟨L, hL⟩ := hl
  rw [← hL]
  have HL := Lib.hid hL
  clear hL
  go_enter Tryz.func81, Tryz.ntmps81
  go_wp2
  go_loop [0, 3] (fun s t => ∃ (f : Nat) (x c : Int), 0 ≤ x ∧ x < 2 ^ (8 * f) ∧ x < 18446744073709551616 ∧ 0 ≤ c ∧ c + f ≤ 8 ∧ c + lenN f x = L ∧ s = .int .u64 x ∧ t = .int .i64 c) (fun s _ => (intOf s).toNat)
  case atStart => exact ⟨8, v, 0, h0, h1, h1, by omega, by omega, by rw [HL.out]; unfold len; omega, rfl, rfl⟩
  case round =>
    obtain ⟨f, x, c, x0, x1, x2, c0, c1, hc, rfl, rfl⟩ := hrel
    have HC := Lib.hid hc
    have HX := Lib.hid x1
    clear hc x1
    by_cases hx : 0 < x
    · have hb : (x != 0) = true := by simp; omega
      go_wp2
      go_round
      case rel =>
        obtain ⟨g, rfl, g1, g2⟩ := len_step f x hx HX.out
        exact ⟨g, x / 256, c + 1, by omega, g1, by omega, by omega, by omega, by have := HC.out; omega, rfl, rfl⟩
      case measure => simp [intOf]; omega
    · obtain rfl : x = 0 := by omega
      go_wp2
      go_ret
      exact ⟨ret_int (by have := HC.out; rw [lenN_zero] at this; omega), rfl⟩

theorem lenN_nat (f v : Nat) : lenN f (v : Int) = ((Nu.lenN f v : Nat) : Int) := by
  induction f generalizing v with
  | zero => rfl
  | succ f ih =>
    unfold lenN Nu.lenN
    by_cases h : v = 0
    · subst h; simp
    · rw [if_neg (by omega), if_neg h, show (v : Int) / 256 = ((v / 256 : Nat) : Int) by omega, ih]
      omega
theorem len_nat (v : Nat) : len (v : Int) = ((Nu.blen v : Nat) : Int) := lenN_nat 8 v
theorem byt_nat (v i : Nat) (hi : i < 8) : byt (v : Int) (i : Int) = ((v / 256 ^ i % 256 : Nat) : Int) := by
  unfold byt
  rw [if_pos (by omega), show ((i : Int) * 8).toNat = 8 * i by omega]
  have e : (256 : Nat) ^ i = 2 ^ (8 * i) := by rw [Nat.pow_mul]
  rw [e]
  simp

theorem len_c (v : Nat) (w : World) (h : v < 18446744073709551616) : Calls Tryz.prog 81 #[.int .u64 (v : Int)] w fun e w' => e = .returned (.int .i64 ((Nu.blen v : Nat) : Int)) ∧ w = w' := by
  have := len_any (v : Int) w (by omega) (by omega)
  rwa [len_nat] at this
theorem byte_c (v i : Nat) (w : World) (h : v < 18446744073709551616) (hi : i < 8) : Calls Tryz.prog 82 #[.int .u64 (v : Int), .int .i64 (i : Int)] w fun e w' => e = .returned (.int .u8 ((v / 256 ^ i % 256 : Nat) : Int)) ∧ w = w' := by
  have := byte_any (v : Int) (i : Int) w (by omega) (by omega) (by omega) (by omega)
  rwa [byt_nat v i hi] at this
theorem size_c (v : Nat) (w : World) (h : v < 18446744073709551616) : Calls Tryz.prog 80 #[.int .u64 (v : Int)] w fun e w' => e = .returned (.int .i64 (1 + (Nu.blen v : Nat) : Int)) ∧ w = w' := by
  have hb := Nu.blen_le v
  go_enter Tryz.func80, Tryz.ntmps80
  go_wp2_with fail
  refine (len_c v _ h).mono ?_
  rintro e w' ⟨rfl, rfl⟩
  go_wp2
  go_ret
  exact ⟨rfl, rfl⟩
end Go.Proofs.YtblgbbpbhcaodaaGreat.Sh

/- Slices of bytes as the claims of layer num take them, and the contracts of the functions that only read them: the law's 'equal', num's 'isForm' and 'join'. For every slice of bytes; the world stays as it was. -/
namespace Go.Proofs.YtblgbbpbhcaodaaGreat.Nu
open Go.ChangeShapes Go.WideShapes Go.ChangeAt Go.RowKit
set_option linter.unusedVariables false
set_option maxRecDepth 4000

theorem ret_int {k : IntKind} {a b : Int} (h : a = b) : Ending.returned (.int k a) = .returned (.int k b) := by rw [h]
theorem ret_bool {a b : Bool} (h : a = b) : Ending.returned (.bool a) = .returned (.bool b) := by rw [h]

/-- a slice of the address A that holds these bytes, and lies below block B. -/
def Bytes (w : World) (B : Nat) (A : Option Addr) (l : List Nat) : Prop :=
  Small l ∧ (0 < l.length → ∃ ad : Addr, A = some ad ∧ ad.block < B ∧ ∀ (j x : Nat), l[j]? = some x → w.cell? (ad.add j) = some (.int .u8 (x : Int)))

theorem Bytes.at_ {w : World} {B : Nat} {A : Option Addr} {l : List Nat} (h : Bytes w B A l) {k : Nat} (hk : k < l.length) :
    ∃ (ad : Addr) (x : Nat), A = some ad ∧ x < 256 ∧ l[k]? = some x ∧ w.cell? (ad.add k) = some (.int .u8 (x : Int)) := by
  obtain ⟨ad, e, _, hc⟩ := h.2 (by omega)
  exact ⟨ad, l[k], e, h.1 _ (List.getElem_mem hk), List.getElem?_eq_getElem hk, hc k _ (List.getElem?_eq_getElem hk)⟩
theorem block_add (a : Addr) (n : Nat) : (a.add n).block = a.block := by unfold Addr.add; split <;> rfl
theorem add_add (a : Addr) (m n : Nat) : (a.add m).add n = a.add (m + n) := by
  unfold Addr.add
  by_cases h1 : m = 0
  · subst h1; simp
  · by_cases h2 : n = 0
    · subst h2; simp
    · have h3 : ¬ m + n = 0 := by omega
      simp [h1, h2, Nat.add_assoc]
theorem Bytes.below {w w' : World} {B : Nat} {A : Option Addr} {l : List Nat} (h : Bytes w B A l) (hb : Below B w w') : Bytes w' B A l :=
  ⟨h.1, fun hl => by
    obtain ⟨ad, e, hB, hc⟩ := h.2 hl
    exact ⟨ad, e, hB, fun j x hx => (hb.cell (by rw [block_add]; exact hB)).trans (hc j x hx)⟩⟩
theorem Bytes.more {w : World} {B B' : Nat} {A : Option Addr} {l : List Nat} (h : Bytes w B A l) (hB : B ≤ B') : Bytes w B' A l :=
  ⟨h.1, fun hl => by
    obtain ⟨ad, e, hb, hc⟩ := h.2 hl
    exact ⟨ad, e, by omega, hc⟩⟩
theorem Bytes.up {w W : World} {A : Option Addr} {l : List Nat} (h : Bytes w w.heap.size A l) (hb : Below w.heap.size w W) : Bytes W W.heap.size A l := (h.below hb).more hb.size
theorem Bytes.none_ (w : World) (B : Nat) (A : Option Addr) : Bytes w B A [] := ⟨fun x hx => (by cases hx), fun h => absurd h (by simp)⟩
theorem small_take {l : List Nat} (h : Small l) (k : Nat) : Small (l.take k) := fun x hx => h x (List.mem_of_mem_take hx)
theorem small_drop {l : List Nat} (h : Small l) (k : Nat) : Small (l.drop k) := fun x hx => h x (List.mem_of_mem_drop hx)
theorem small_append {l m : List Nat} (h : Small l) (k : Small m) : Small (l ++ m) := fun x hx => (List.mem_append.1 hx).elim (h x) (k x)
theorem Bytes.take {w : World} {B : Nat} {A : Option Addr} {l : List Nat} (h : Bytes w B A l) (k : Nat) : Bytes w B A (l.take k) :=
  ⟨small_take h.1 k, fun hl => by
    obtain ⟨ad, e, hb, hc⟩ := h.2 (by simp at hl; omega)
    refine ⟨ad, e, hb, fun j x hx => hc j x ?_⟩
    rw [List.getElem?_take] at hx
    split at hx
    · exact hx
    · cases hx⟩
theorem Bytes.drop {w : World} {B : Nat} {ad : Addr} {l : List Nat} (h : Bytes w B (some ad) l) (k : Nat) : Bytes w B (some (ad.add k)) (l.drop k) :=
  ⟨small_drop h.1 k, fun hl => by
    obtain ⟨ad', e, hb, hc⟩ := h.2 (by simp at hl; omega)
    obtain rfl := Option.some.inj e
    refine ⟨_, rfl, by rw [block_add]; exact hb, fun j x hx => ?_⟩
    rw [add_add]
    exact hc (k + j) x (by rwa [List.getElem?_drop] at hx)⟩
theorem Bytes.empty {w : World} {B : Nat} {A : Option Addr} {l : List Nat} (hl : l.length = 0) : Bytes w B A l := by
  obtain rfl := List.eq_nil_of_length_eq_zero hl
  exact Bytes.none_ _ _ _
theorem below_new (w : World) (o : Obj) : Below w.heap.size w (w.alloc o) := (Below.refl _ _).alloc (Nat.le_refl _) o
theorem below_drewN (B : Nat) (w : World) (n : Nat) : Below B w (w.drewN n) := ⟨rfl, rfl, rfl, Nat.le_refl _, fun _ _ => rfl⟩

/-- bytes as cells. -/
def vals (l : List Nat) : List Value := l.map fun x : Nat => Value.int .u8 (x : Int)
theorem vals_length (l : List Nat) : (vals l).length = l.length := by unfold vals; simp
theorem vals_get (l : List Nat) (j : Nat) : (vals l)[j]? = l[j]?.map fun x : Nat => Value.int .u8 (x : Int) := by unfold vals; simp
theorem vals_append (l m : List Nat) : vals (l ++ m) = vals l ++ vals m := by unfold vals; rw [List.map_append]
theorem vals_one (l : List Nat) : ∀ u ∈ vals l, u.oneCell' = true := by
  intro u hu
  obtain ⟨x, _, rfl⟩ := List.mem_map.1 hu
  rfl
theorem zero_add (g j : Nat) : (⟨g, 0, none⟩ : Addr).add j = ⟨g, j, none⟩ := by
  unfold Addr.add; split
  · rename_i hz; rw [hz]
  · simp
theorem bytes_own {w : World} {B g n cap : Nat} {m : List Nat} (h : w.ownsRow B 5 1 (.slice (some ⟨g, 0, none⟩) n cap) n (vals m)) (hs : Small m) : Bytes w w.heap.size (some ⟨g, 0, none⟩) m := by
  have hl : m.length = n := by have := h.1; rw [vals_length] at this; omega
  refine ⟨hs, fun _ => ⟨_, rfl, (h.lt g rfl).2, fun j x hj => ?_⟩⟩
  have hjl : j < m.length := (List.getElem?_eq_some_iff.1 hj).1
  rw [zero_add, h.cellAt j (by omega), vals_get, hj]; rfl
/-- bytes in a new block. -/
theorem bytes_new (w : World) (m : List Nat) (cs : Array Value) (hcs : cs = (vals m).toArray) (hs : Small m) (t : TypeId) : Bytes (w.alloc (.cells cs t)) (w.heap.size + 1) (some ⟨w.heap.size, 0, none⟩) m := by
  subst hcs
  refine ⟨hs, fun _ => ⟨_, rfl, Nat.lt_succ_self _, fun j x hj => ?_⟩⟩
  rw [zero_add, World.cell?_alloc_new]
  simp only [List.getElem?_toArray, vals_get, hj]; rfl

/-- the string of a slice of bytes. -/
theorem conv {w : World} {B : Nat} {A : Option Addr} {l : List Nat} (h : Bytes w B A l) (n c : Nat) (hn : l.length = n) : (convert 22 9 (.slice A n c)).run Tryz.prog w = .ok (.string (str l)) w := by
  subst hn
  cases A with
  | none =>
    have hl : l.length = 0 := by
      rcases Nat.eq_zero_or_pos l.length with h0 | h0
      · exact h0
      · obtain ⟨ad, e, _⟩ := h.2 h0; cases e
    obtain rfl := List.eq_nil_of_length_eq_zero hl
    exact run_convert_bytes_nil w 22 5 Tryz.underlying22 Tryz.underlying5 _ _ 9 Tryz.underlying9
  | some ad =>
    have hl : (loadCells ad l.length).run Tryz.prog w = .ok ((l.map fun x : Nat => (x : Int)).map (Value.int .u8)).toArray w := by
      have := run_loadCells_list (P := Tryz.prog) w ad ((l.map fun x : Nat => (x : Int)).map (Value.int .u8)) (fun j v hj => by
        have hjl : j < l.length := by
          have := (List.getElem?_eq_some_iff.1 hj).1
          simpa using this
        obtain ⟨ad', e, _, hc⟩ := h.2 (by omega)
        obtain rfl := Option.some.inj e
        rw [hc j l[j] (List.getElem?_eq_getElem hjl)]
        simp [List.getElem?_eq_getElem hjl] at hj
        rw [hj])
      simpa using this
    rw [run_convert_bytes_string w 22 9 5 _ _ c Tryz.underlying22 Tryz.underlying5 Tryz.underlying9, run_bytesToString w _ _ c _ hl, foldl_push_bytes]
    simp [str, strOfNums, ByteArray.empty, ByteArray.emptyWithCapacity]
    rfl

theorem equal_any (w : World) (B1 B2 : Nat) (A1 A2 : Option Addr) (l1 l2 : List Nat) (n1 n2 c1 c2 : Nat) (e1 : l1.length = n1) (e2 : l2.length = n2) (h1 : Bytes w B1 A1 l1) (h2 : Bytes w B2 A2 l2) :
    Calls Tryz.prog 18 #[.slice A1 n1 c1, .slice A2 n2 c2] w fun e w' => e = .returned (.bool (decide (l1 = l2))) ∧ w = w' := by
  have k1 := conv h1 n1 c1 e1
  have k2 := conv h2 n2 c2 e2
  have k3 := Lib.hid (str_eql h1.1 h2.1)
  clear h1 h2 e1 e2
  go_enter Tryz.func18, Tryz.ntmps18
  go_wp2
  go_ret
  exact ⟨ret_bool k3.out, rfl⟩

/-- may a number's bytes begin so? -/
def form (n : Nat) (r : List Nat) : Bool := decide (n ≤ 8 ∧ (n = 0 ∨ r[0]? ≠ some 0))

theorem isForm_any (w : World) (B : Nat) (A : Option Addr) (r : List Nat) (n m c : Nat) (hm : r.length = m) (hn : n < 256) (hb : Bytes w B A r) (hl : r.length ≤ 9223372036854775807) :
    Calls Tryz.prog 76 #[.int .i64 (n : Int), .slice A m c] w fun e w' => e = .returned (.bool (form n r)) ∧ w = w' := by
  by_cases h8 : 8 < n
  · have hf : form n r = false := decide_eq_false (by omega)
    rw [hf]
    clear hf hb
    go_enter Tryz.func76, Tryz.ntmps76
    go_wp2
    go_ret
    exact ⟨rfl, rfl⟩
  · have h8' : n ≤ 8 := by omega
    by_cases h0 : n = 0
    · have hf : form n r = true := decide_eq_true ⟨h8', .inl h0⟩
      rw [hf]
      subst h0
      clear hf hb h8 h8'
      go_enter Tryz.func76, Tryz.ntmps76
      go_wp2
      go_ret
      exact ⟨rfl, rfl⟩
    · have hz : ((n : Int) == 0) = false := by rw [beq_eq_false_iff_ne]; omega
      by_cases hr : m = 0
      · subst hr
        have hr0 := List.eq_nil_of_length_eq_zero hm
        have hf : form n r = true := decide_eq_true ⟨h8', .inr (by rw [hr0]; simp)⟩
        rw [hf]
        clear hf hb h8 h0 hr0
        go_enter Tryz.func76, Tryz.ntmps76
        go_wp2
        go_ret
        exact ⟨rfl, rfl⟩
      · obtain ⟨ad, x, rfl, hx, hlx, hcell⟩ := hb.at_ (k := 0) (by omega)
        have hcell0 : w.cell? ad = some (.int .u8 (x : Int)) := by simpa [Addr.add] using hcell
        have hmz : ((m : Int) == 0) = false := by rw [beq_eq_false_iff_ne]; omega
        have hm0 : (0 : Int) < (m : Int) := by omega
        by_cases hx0 : x = 0
        · subst hx0
          have hf : form n r = false := decide_eq_false (by rw [hlx]; simp; omega)
          rw [hf]
          clear hf hb h8 h0 hr hlx
          go_enter Tryz.func76, Tryz.ntmps76
          go_wp2
          go_ret
          exact ⟨rfl, rfl⟩
        · have hf : form n r = true := decide_eq_true ⟨h8', .inr (by rw [hlx]; simpa using hx0)⟩
          have hxz : ((x : Int) != 0) = true := by rw [bne_iff_ne]; omega
          rw [hf]
          clear hf hb h8 h0 hr hlx hx0
          go_enter Tryz.func76, Tryz.ntmps76
          go_wp2
          go_ret
          exact ⟨rfl, rfl⟩

theorem take_snoc {l : List Nat} {k x : Nat} (h : l[k]? = some x) : l.take (k + 1) = l.take k ++ [x] := by
  rw [List.take_add_one, h]; rfl
theorem wraps_u64 (n : Int) (h₀ : 0 ≤ n) (h₁ : n < 2 ^ 64) : IntKind.u64.wrap n = n := by rw [IntKind.wrap_u64]; omega
theorem or_byte (m x : Nat) (hm : m < 72057594037927936) (hx : x < 256) : bits .or .u64 ((m : Int) * 256) (x : Int) = ((m * 256 + x : Nat) : Int) := by
  have := bits_join .u64 64 (by decide) wraps_u64 8 ((m : Int) * 256) (x : Int) (by omega) (by omega) (by omega) (by omega) (by omega) (by omega)
  rw [this]; omega

theorem join_any (w : World) (B : Nat) (A : Option Addr) (l : List Nat) (n c : Nat) (hn : l.length = n) (h8 : n ≤ 8) (hb : Bytes w B A l) :
    Calls Tryz.prog 77 #[.slice A n c] w fun e w' => e = .returned (.int .u64 ((val l : Nat) : Int)) ∧ w = w' := by
  have hB := Lib.hid hb
  have HN := Lib.hid hn
  clear hb hn
  go_enter Tryz.func77, Tryz.ntmps77
  go_wp2
  go_loop [3, 8] (fun v i => ∃ k : Nat, k ≤ n ∧ i = .int .i64 k ∧ v = .int .u64 ((val (l.take k) : Nat) : Int)) (fun _ i => n - (intOf i).toNat)
  case atStart => exact ⟨0, Nat.zero_le _, rfl, by rw [List.take_zero]; rfl⟩
  case round =>
    obtain ⟨k, hk, rfl, rfl⟩ := hrel
    by_cases hlt : k < n
    · obtain ⟨ad, x, rfl, hx, hlx, hcell⟩ := hB.out.at_ (k := k) (by rw [HN.out]; exact hlt)
      have hm : val (l.take k) < 72057594037927936 := by
        have h1 := val_lt (small_take hB.out.1 k)
        have h2 : 256 ^ (l.take k).length ≤ 256 ^ 7 := Nat.pow_le_pow_right (by decide) (by rw [List.length_take]; omega)
        exact Nat.lt_of_lt_of_le h1 h2
      have hsn := val_snoc (l.take k) x
      rw [← take_snoc hlx] at hsn
      have HS := Lib.hid hsn
      clear hsn hlx
      generalize val (l.take k) = m at *
      have hor := or_byte m x hm hx
      go_wp2
      go_round
      case rel => exact ⟨k + 1, by omega, by go_num, by rw [HS.out, Int.natCast_add, Int.natCast_mul]; rfl⟩
      case measure => simp [intOf]; omega
    · obtain rfl : k = n := by omega
      have hu := Lib.hid (show val (l.take k) = val l by rw [← HN.out, List.take_length])
      have hm : val (l.take k) < 18446744073709551616 := by
        have h1 := val_lt (small_take hB.out.1 k)
        have h2 : 256 ^ (l.take k).length ≤ 256 ^ 8 := Nat.pow_le_pow_right (by decide) (by rw [List.length_take]; omega)
        exact Nat.lt_of_lt_of_le h1 h2
      generalize val (l.take k) = m at *
      go_wp2
      go_ret
      exact ⟨ret_int (by rw [hu.out]), rfl⟩
end Go.Proofs.YtblgbbpbhcaodaaGreat.Nu

/- The contracts of num's Read and of the document's: both answer the same three numbers, at every place of every slice of bytes; nothing has changed but what was drawn. -/
namespace Go.Proofs.YtblgbbpbhcaodaaGreat.Nu
open Go.ChangeShapes Go.WideShapes Go.ChangeAt Go.RowKit
set_option linter.unusedVariables false
set_option maxRecDepth 4000

/-- an answer of three numbers; nothing is drawn, or the order of what only reads. -/
def Says (w : World) (v y f : Nat) (e : Ending) (w' : World) : Prop :=
  e = .returned (.tuple #[.int .u64 (v : Int), .int .i64 (y : Int), .int .i64 (f : Int)]) ∧ ∃ m, w' = w.drewN m

theorem read_out (w : World) (A : Option Addr) (n c : Nat) (at_ : Int) (h : at_ < 0 ∨ (n : Int) < at_) (h1 : -9223372036854775808 ≤ at_) (h2 : at_ ≤ 9223372036854775807) (hn : n ≤ 9223372036854775807) :
    Calls Tryz.prog 61 #[.slice A n c, .int .i64 at_] w (Says w 0 0 1) := by
  by_cases h0 : at_ < 0
  · clear h
    go_enter Tryz.func61, Tryz.ntmps61
    go_wp2
    go_ret3
    exact ⟨rfl, 0, rfl⟩
  · have h3 : (n : Int) < at_ := by omega
    have hd : decide ((n : Int) < at_) = true := decide_eq_true h3
    have hd0 : decide (at_ < 0) = false := decide_eq_false h0
    clear h
    go_enter Tryz.func61, Tryz.ntmps61
    go_wp2
    go_ret3
    exact ⟨rfl, 0, rfl⟩
theorem rread_out (w : World) (A : Option Addr) (n c : Nat) (at_ : Int) (h : at_ < 0 ∨ (n : Int) < at_) (h1 : -9223372036854775808 ≤ at_) (h2 : at_ ≤ 9223372036854775807) (hn : n ≤ 9223372036854775807) :
    Calls Tryz.prog 40 #[.slice A n c, .int .i64 at_] w (Says w 0 0 1) := by
  by_cases h0 : at_ < 0
  · clear h
    go_enter Tryz.func40, Tryz.ntmps40
    go_wp2
    go_ret3
    exact ⟨rfl, 0, rfl⟩
  · have h3 : (n : Int) < at_ := by omega
    have hd : decide ((n : Int) < at_) = true := decide_eq_true h3
    have hd0 : decide (at_ < 0) = false := decide_eq_false h0
    clear h
    go_enter Tryz.func40, Tryz.ntmps40
    go_wp2
    go_ret3
    exact ⟨rfl, 0, rfl⟩
theorem read_end (w : World) (A : Option Addr) (n c : Nat) (hn : n ≤ 9223372036854775807) : Calls Tryz.prog 61 #[.slice A n c, .int .i64 (n : Int)] w (Says w 0 0 2) := by
  have hd0 : decide ((n : Int) < 0) = false := decide_eq_false (by omega)
  go_enter Tryz.func61, Tryz.ntmps61
  go_wp2
  go_ret3
  exact ⟨rfl, 0, rfl⟩
theorem rread_end (w : World) (A : Option Addr) (n c : Nat) (hn : n ≤ 9223372036854775807) : Calls Tryz.prog 40 #[.slice A n c, .int .i64 (n : Int)] w (Says w 0 0 2) := by
  have hd0 : decide ((n : Int) < 0) = false := decide_eq_false (by omega)
  go_enter Tryz.func40, Tryz.ntmps40
  go_wp2
  go_ret3
  exact ⟨rfl, 0, rfl⟩

/-- what stands at a place: which answer. -/
inductive What (n : Nat) (r : List Nat) (a : Nat) : Nat → Nat → Nat → Prop
  | form (h : form n r = false) : What n r a 0 0 4
  | short (h : form n r = true) (hl : r.length < n) : What n r a 0 0 2
  | ok (h : form n r = true) (hl : n ≤ r.length) : What n r a (val (r.take n)) (a + 1 + n) 0
theorem what_is (n : Nat) (r : List Nat) (a : Nat) : ∃ v y f, What n r a v y f := by
  cases h : form n r with
  | false => exact ⟨_, _, _, .form h⟩
  | true =>
    rcases Nat.lt_or_ge r.length n with hl | hl
    · exact ⟨_, _, _, .short h hl⟩
    · exact ⟨_, _, _, .ok h hl⟩

set_option maxHeartbeats 1600000 in
theorem read_some (w : World) (ad : Addr) (l : List Nat) (n c a x v y f : Nat) (hn : l.length = n) (hnc : n ≤ c) (hc : c ≤ 9223372036854775807) (hb : Bytes w w.heap.size (some ad) l) (ha : a < n) (hx : l[a]? = some x)
    (hw : What x (l.drop (a + 1)) a v y f) : Calls Tryz.prog 61 #[.slice (some ad) n c, .int .i64 (a : Int)] w (Says w v y f) := by
  obtain ⟨ad', x', e, hx8, hlx, hcell⟩ := hb.at_ (k := a) (by omega)
  obtain rfl := Option.some.inj e
  obtain rfl : x = x' := Option.some.inj (hx.symm.trans hlx)
  have HW := Lib.hid hw
  have HB := Lib.hid hb
  have HN := Lib.hid hn
  clear hx hlx hw hb hn
  have d0 : decide ((a : Int) < 0) = false := decide_eq_false (by omega)
  have d1 : decide ((n : Int) < (a : Int)) = false := decide_eq_false (by omega)
  have d2 : ((a : Int) == (n : Int)) = false := by rw [beq_eq_false_iff_ne]; omega
  have d3 : (0 : Int) ≤ (a : Int) := by omega
  have d4 : (a : Int) < (n : Int) := by omega
  have d5 : (0 : Int) ≤ (a : Int) + 1 := by omega
  have d6 : (a : Int) + 1 ≤ (n : Int) := by omega
  have d7 : (a : Int) + 1 ≤ (c : Int) := by omega
  by_cases hca : c = a + 1
  · go_enter Tryz.func61, Tryz.ntmps61
    go_wp2_with fail
    go_quiet (fail)
    go_wp2_with fail
    clear d0 d1 d2 d3 d4 d5 d6 d7 hcell
    have HBR : Hid (Bytes (w.drewN nq) w.heap.size (some ad) (l.drop (a + 1))) := Bytes.empty (by rw [List.length_drop, HN.out]; omega)
    have HL : Hid ((l.drop (a + 1)).length = n - (a + 1)) := by
      show _ = _
      rw [List.length_drop, HN.out]
    refine (isForm_any _ w.heap.size _ (l.drop (a + 1)) x _ _ HL.out hx8 HBR.out (by rw [HL.out]; omega)).mono ?_
    rintro e w' ⟨rfl, rfl⟩
    generalize hm : n - (a + 1) = m at *
    cases HW.out with
    | form h =>
      rw [h]
      clear hm
      go_wp2
      go_ret3
      exact ⟨rfl, _, rfl⟩
    | short h hl =>
      rw [h]
      have dl : decide (m < x) = true := decide_eq_true (by rw [HL.out] at hl; omega)
      clear hm h hl
      go_wp2
      go_ret3
      exact ⟨rfl, _, rfl⟩
    | ok h hl =>
      rw [h]
      rw [HL.out] at hl
      obtain rfl : x = 0 := by omega
      obtain rfl : m = 0 := by omega
      have e4 : (a : Int) + 1 ≤ 9223372036854775807 := by omega
      clear hm h hl
      go_wp2_with fail
      refine (join_any _ w.heap.size _ [] 0 _ rfl (by omega) (Bytes.none_ _ _ _)).mono ?_
      rintro e w' ⟨rfl, rfl⟩
      go_wp2
      go_ret3
      exact ⟨by simp [val], _, rfl⟩
  · go_enter Tryz.func61, Tryz.ntmps61
    go_wp2_with fail
    go_quiet (fail)
    go_wp2_with fail
    clear d0 d1 d2 d3 d4 d5 d6 d7 hcell
    have HBR : Hid (Bytes (w.drewN nq) w.heap.size (some ⟨ad.block, ad.off + (a + 1), none⟩) (l.drop (a + 1))) := by
        have hq := (HB.out.below (below_drewN _ w nq)).drop (a + 1)
        rwa [show ad.add (a + 1) = ⟨ad.block, ad.off + (a + 1), none⟩ by unfold Addr.add; simp] at hq
    have HL : Hid ((l.drop (a + 1)).length = n - (a + 1)) := by
      show _ = _
      rw [List.length_drop, HN.out]
    refine (isForm_any _ w.heap.size _ (l.drop (a + 1)) x _ _ HL.out hx8 HBR.out (by rw [HL.out]; omega)).mono ?_
    rintro e w' ⟨rfl, rfl⟩
    generalize hm : n - (a + 1) = m at *
    cases HW.out with
    | form h =>
      rw [h]
      clear hm
      go_wp2
      go_ret3
      exact ⟨rfl, _, rfl⟩
    | short h hl =>
      rw [h]
      have dl : decide (m < x) = true := decide_eq_true (by rw [HL.out] at hl; omega)
      clear hm h hl
      go_wp2
      go_ret3
      exact ⟨rfl, _, rfl⟩
    | ok h hl =>
      rw [h]
      rw [HL.out] at hl
      have hx9 : x ≤ 8 := (of_decide_eq_true h).1
      have dl : decide (m < x) = false := decide_eq_false (by omega)
      have e1 : (0 : Int) ≤ (x : Int) := by omega
      have e2 : (x : Int) ≤ ((c - (a + 1) : Nat) : Int) := by omega
      have e3 : x ≤ c - (a + 1) := by omega
      have e4 : (a : Int) + 1 + (x : Int) ≤ 9223372036854775807 := by omega
      have HM := Lib.hid hm
      clear hm h
      go_wp2_with fail
      refine (join_any _ w.heap.size _ ((l.drop (a + 1)).take x) x _ (by rw [List.length_take, HL.out]; omega) hx9 (HBR.out.take x)).mono ?_
      rintro e w' ⟨rfl, rfl⟩
      go_wp2
      go_ret3
      exact ⟨rfl, _, rfl⟩

end Go.Proofs.YtblgbbpbhcaodaaGreat.Nu
