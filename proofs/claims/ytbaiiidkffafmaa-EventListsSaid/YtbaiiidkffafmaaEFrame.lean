/- What the frames of layer event's laws share: an event, a list of events, a dot that came in, as the walks take them. No condition. -/
import Derived.Test.YtbaiiidkffafmaaPEGood
import Derived.ShutString
import Derived.ChangeOld
import Derived.Deep.DeepHandedRow
import Derived.Deep.Matrix
import Derived.SizedLaws
import Derived.Deep.SlicePairs
import Derived.Lib.SmallJoins
namespace Go.Proofs.Ytbaiiidkffafmaa.Ev
open Go.ChangeShapes Go.WideShapes Go.ChangeAt Go.RowKit Go.Deep Go.Joins
set_option linter.unusedVariables false
set_option maxRecDepth 4000

theorem own : ownKnob Try.prog.godebug = none := by kernel_rfl
theorem laidOut : laidOutB Try.prog = true := by kernel_rfl
theorem cells16 : Try.prog.cellsOf 22 = 1 := by kernel_rfl
theorem cells64 : Try.prog.cellsOf 23 = 1 := by kernel_rfl
theorem cellsD : Try.prog.cellsOf 25 = 2 := by kernel_rfl
theorem cellsE : Try.prog.cellsOf 28 = 7 := by kernel_rfl
theorem bytesD : Try.prog.bytesOf 25 = 16 := by kernel_rfl
theorem bytesE : Try.prog.bytesOf 28 = 80 := by kernel_rfl
theorem wf_u64 {n : Int} (h : (Lit.int .u64 n).wf = true) : ∃ s : Nat, n = (s : Int) ∧ s < 18446744073709551616 := by
  simp [Lit.wf, IntKind.min, IntKind.max, IntKind.bits, IntKind.signed] at h
  exact ⟨n.toNat, by omega, by omega⟩
theorem wf_u16 {n : Int} (h : (Lit.int .u16 n).wf = true) : ∃ s : Nat, n = (s : Int) ∧ s < 65536 := by
  simp [Lit.wf, IntKind.min, IntKind.max, IntKind.bits, IntKind.signed] at h
  exact ⟨n.toNat, by omega, by omega⟩
theorem wf_u8 {n : Int} (h : (Lit.int .u8 n).wf = true) : ∃ s : Nat, n = (s : Int) ∧ s < 256 := by
  simp [Lit.wf, IntKind.min, IntKind.max, IntKind.bits, IntKind.signed] at h
  exact ⟨n.toNat, by omega, by omega⟩
/-- each slice and text within weighs at most what an argument may weigh. -/
def Held {H : Type} (t : TypeId) (d : DataW H) : Prop := ∀ n ∈ d.weights Try.prog t, n ≤ reachBytes
theorem weights_all {H : Type} {P : Program} {e : TypeId} {l : List (DataW H)} {d : DataW H} (h : d ∈ l) : ∀ n ∈ d.weights P e, n ∈ DataW.weightsAll P e l := by
  induction l with
  | nil => cases h
  | cons x l ih =>
    intro n hn
    simp only [DataW.weightsAll, List.mem_append]
    rcases List.mem_cons.1 h with rfl | h
    · exact Or.inl hn
    · exact Or.inr (ih h n hn)
theorem Held.elem {H : Type} {t e : TypeId} {elems spare : List (DataW H)} (h : Held t (.slice elems spare)) (hu : Try.prog.underlying t = some (.slice e)) {d : DataW H} (hd : d ∈ elems) : Held e d := fun n hn =>
  h n (by simp only [DataW.weights, hu, List.mem_cons, List.mem_append]; exact Or.inr (Or.inl (weights_all hd n hn)))
theorem Held.length {H : Type} {t e : TypeId} {elems spare : List (DataW H)} (h : Held t (.slice elems spare)) (hu : Try.prog.underlying t = some (.slice e)) : (elems.length + spare.length) * Try.prog.bytesOf e ≤ reachBytes :=
  h _ (by simp [DataW.weights, hu])
theorem Held.part {H : Type} {t t' : TypeId} {fs : Array Field} {parts : List (DataW H)} (h : Held t (.agg parts)) (hu : Try.prog.underlying t = some (.struct fs)) {j : Nat} {d : DataW H} (ht : (fs.toList.map (·.type))[j]? = some t') (hd : parts[j]? = some d) : Held t' d := fun n hn =>
  h n (by simp only [DataW.weights, hu]; exact DataW.weights_mem_each ht hd n hn)
theorem list_of {α : Type} {Q : Nat → α → Prop} (n : Nat) (h : ∀ i, i < n → ∃ t, Q i t) : ∃ L : List α, L.length = n ∧ ∀ (i : Nat) (t : α), L[i]? = some t → Q i t := by
  induction n with
  | zero => exact ⟨[], rfl, fun i t hi => by simp at hi⟩
  | succ n ih =>
    obtain ⟨L, hL, hQ⟩ := ih (fun i hi => h i (by omega))
    obtain ⟨t, ht⟩ := h n (by omega)
    refine ⟨L ++ [t], by simp [hL], fun i u hu => ?_⟩
    rcases Nat.lt_or_ge i n with hi | hi
    · rw [List.getElem?_append_left (by omega)] at hu
      exact hQ i u hu
    · rw [List.getElem?_append_right (by omega), hL] at hu
      have e : i = n := by
        rcases Nat.eq_or_lt_of_le hi with e | e
        · exact e.symm
        · rw [List.getElem?_eq_none (by simp; omega)] at hu; cases hu
      subst e
      simp at hu
      subst hu
      exact ht
theorem lies_dots {w : World} {B : Nat} {ad : Addr} (hB : ad.block < B) (L : List Dt.Dot) (h : ∀ (i : Nat) (r : Dt.Dot), L[i]? = some r → w.cell? (ad.add (i * 2)) = some (.int .u16 (r.1 : Int)) ∧ w.cell? (ad.add (i * 2 + 1)) = some (.int .u64 (r.2 : Int))) : Dt.Lies w B (some ad) (Dt.dv L) := fun _ => by
  refine ⟨ad, rfl, hB, fun j u hu => ?_⟩
  have hj : j < (Dt.dv L).length := (List.getElem?_eq_some_iff.1 hu).1
  rw [Dt.dv_length] at hj
  have hd : j / 2 < L.length := by omega
  have hg := List.getElem?_eq_getElem hd
  obtain ⟨g1, g2⟩ := Dt.dv_get hg
  obtain ⟨c1, c2⟩ := h _ _ hg
  rcases Nat.mod_two_eq_zero_or_one j with h0 | h0
  · have e : j = j / 2 * 2 := by omega
    rw [e] at hu ⊢
    rw [g1] at hu
    cases hu
    exact c1
  · have e : j = j / 2 * 2 + 1 := by omega
    generalize hz : j / 2 = z at *
    subst e
    rw [g2] at hu
    cases hu
    exact c2

/-- a dot that came in; it reads as it did in every world. -/
theorem dot_of {H : Type} {enc : TypeId × Value → H} {W : World} {b0 : Nat} {v : Value} {d : DataW H} {p : List MemPlace} (hv : Value.okWide Try.prog W .any b0 25 v) (h : DataW.Trod enc Try.prog W 0 (fun _ => true) true 25 v d p) :
    ∃ r : Dt.Dot, v = .agg #[.int .u16 (r.1 : Int), .int .u64 (r.2 : Int)] ∧ r.1 < 65536 ∧ r.2 < 18446744073709551616 ∧ p = [] ∧ ∀ (W' : World) (sp : Nat → Bool), DataW.Trod enc Try.prog W' 0 sp true 25 v d p := by
  obtain ⟨c0, c1, y0, y1, m, rfl, rfl, rfl, hy0, hy1⟩ := open_agg2 Try.underlying25 (by kernel_rfl) cellsD hv h
  obtain ⟨a, e0, rfl, wa⟩ := DataW.trod_int Try.underlying22 hy0
  obtain ⟨b, e1, rfl, wb⟩ := DataW.trod_int Try.underlying23 hy1
  simp at e0 e1
  subst e0 e1
  have wa' := wa
  have wb' := wb
  obtain ⟨s, rfl, hs⟩ := wf_u16 wa
  obtain ⟨t, rfl, ht⟩ := wf_u64 wb
  exact ⟨(s, t), rfl, hs, ht, rfl, fun W' sp =>
    shut_agg2 (y0 := (.lit (.int .u16 (s : Int)), [])) (y1 := (.lit (.int .u64 (t : Int)), [])) Try.underlying25 (by kernel_rfl) cellsD ⟨1, by simp [DataW.trod, Try.underlying22, wa']⟩ ⟨1, by simp [DataW.trod, Try.underlying23, wb']⟩⟩
/-- dots that stand in a cell. -/
theorem dots_cell {H : Type} {enc : TypeId × Value → H} {W : World} {fuel : Nat} {v : Value} {d : DataW H} {p : List MemPlace} (h : DataW.trod enc Try.prog W 0 (fun _ => true) true fuel 26 [v] = some (d, p)) (hz : Held 26 d) :
    ∃ (A : Option Addr) (n c : Nat) (l : List Dt.Dot), v = .slice A n c ∧ DotsAt W W.heap.size A l n c ∧ n ≤ 8796093021952 := by
  rcases open_slice_pairs Try.underlying26 Try.underlying25 cellsD rfl rfl cells16 cells64 h with ⟨hcs, _⟩ | ⟨x, n0, c0, m, f0, V0, V1, D0, D1, P0, P1, hcs, hb, hl, hm, hmm, hx, hi⟩
  · obtain rfl := (List.cons.inj hcs).1
    exact ⟨none, 0, 0, [], rfl, DotsAt.none_ _ _, by decide⟩
  · obtain rfl := (List.cons.inj hcs).1
    unfold maxLen at hm
    have hmc : m = c0 := by simpa using hmm
    obtain rfl := (Prod.mk.inj hx).1
    have hw := hz.length Try.underlying26
    rw [bytesD] at hw
    simp only [List.length_map, List.length_range, reachBytes] at hw
    have each : ∀ i, i < n0 → ∃ r : Dt.Dot, (r.1 < 65536 ∧ r.2 < 18446744073709551616) ∧ W.cell? (x.add (i * 2)) = some (.int .u16 (r.1 : Int)) ∧ W.cell? (x.add (i * 2 + 1)) = some (.int .u64 (r.2 : Int)) := by
      intro i hil
      obtain ⟨h0, h1, t0, t1⟩ := hi i (by omega)
      obtain ⟨z0, e0, _, w0⟩ := DataW.trod_int Try.underlying22 t0
      obtain ⟨z1, e1, _, w1⟩ := DataW.trod_int Try.underlying23 t1
      obtain ⟨s0, rfl, hs0⟩ := wf_u16 w0
      obtain ⟨s1, rfl, hs1⟩ := wf_u64 w1
      rw [(List.cons.inj e0).1] at h0
      rw [(List.cons.inj e1).1] at h1
      exact ⟨(s0, s1), ⟨hs0, hs1⟩, h0, h1⟩
    obtain ⟨L, hL, hQ⟩ := list_of n0 each
    refine ⟨some x, n0, c0, L, rfl, ⟨hL, (fun e => by cases e), hl, by omega, by omega, fun r hr => ?_, ?_⟩, by omega⟩
    · obtain ⟨i, hi', rfl⟩ := List.getElem_of_mem hr
      exact (hQ i _ (List.getElem?_eq_getElem hi')).1
    · rcases Nat.eq_zero_or_pos L.length with h0 | h0
      · rw [List.eq_nil_of_length_eq_zero h0]; exact Dt.Lies.none_ _ _ _
      · refine lies_dots ?_ L (fun i r hr => (hQ i r hr).2)
        have h1 := (hQ 0 _ (List.getElem?_eq_getElem h0)).2.1
        have h2 := World.block_lt_of_cell? W _ h1
        rwa [block_add] at h2
/-- an event's cells. -/
theorem evt_cells {H : Type} {enc : TypeId × Value → H} {W : World} {fuel : Nat} {cs : List Value} {d : DataW H} {p : List MemPlace} (h : DataW.trod enc Try.prog W 0 (fun _ => true) true fuel 28 cs = some (d, p)) (hz : Held 28 d) :
    ∃ (q : EV) (x : Evt), cs = q.cells ∧ EventIs W W.heap.size q x ∧ q.len ≤ 8796093021952 := by
  obtain ⟨xs, f1, _, hxy, hlen, hxl, hfd⟩ := DataW.trod_struct Try.underlying28 h
  rw [cellsE] at hlen
  match xs, hxl, cs, hlen with
  | [y0, y1, y2, y3, y4, y5], _, [u0, u1, u2, u3, u4, u5, u6], _ =>
    have g0 := hfd 0 _ rfl
    have g1 := hfd 1 _ rfl
    have g2 := hfd 2 _ rfl
    have g3 := hfd 3 _ rfl
    have g4 := hfd 4 _ rfl
    have g5 := hfd 5 _ rfl
    simp only [List.getElem?_cons_zero, List.getElem?_cons_succ] at g0 g1 g2 g3 g4 g5
    have hD : d = .agg ([y0, y1, y2, y3, y4, y5].map (·.1)) := congrArg Prod.fst hxy
    subst hD
    obtain ⟨zs, f2, _, hzy, _, hzl, hfz⟩ := DataW.trod_struct Try.underlying25 g0
    match zs, hzl with
    | [z0, z1], _ =>
      have k0 := hfz 0 _ rfl
      have k1 := hfz 1 _ rfl
      simp only [List.getElem?_cons_zero, List.getElem?_cons_succ] at k0 k1
      obtain ⟨i0, e0, _, w0⟩ := DataW.trod_int Try.underlying22 k0
      obtain ⟨i1, e1, _, w1⟩ := DataW.trod_int Try.underlying23 k1
      obtain ⟨i2, e2, _, w2⟩ := DataW.trod_int Try.underlying5 g1
      obtain ⟨i3, e3, _, w3⟩ := DataW.trod_int Try.underlying23 g2
      obtain ⟨i4, e4, _, w4⟩ := DataW.trod_int Try.underlying5 g3
      obtain ⟨s, e5, hs1, _⟩ := DataW.trod_string Try.underlying9 g4
      obtain ⟨y51, y52⟩ := y5
      have g5' : DataW.trod enc Try.prog W 0 (fun _ => true) true f1 26 [u6] = some (y51, y52) := g5
      obtain ⟨A, n, c, l, e6, hT, hn⟩ := dots_cell g5' (hz.part (j := 5) Try.underlying28 rfl rfl)
      have hst : Held 9 y4.1 := hz.part (j := 4) Try.underlying28 rfl rfl
      rw [hs1] at hst
      have hsl := hst s.data.toList.length (by simp [DataW.weights])
      obtain rfl := (List.cons.inj e0).1
      obtain rfl := (List.cons.inj e1).1
      obtain rfl := (List.cons.inj e2).1
      obtain rfl := (List.cons.inj e3).1
      obtain rfl := (List.cons.inj e4).1
      obtain rfl := (List.cons.inj e5).1
      subst e6
      obtain ⟨s0, rfl, hs0⟩ := wf_u16 w0
      obtain ⟨s1, rfl, hs1⟩ := wf_u64 w1
      obtain ⟨s2, rfl, hs2⟩ := wf_u8 w2
      obtain ⟨s3, rfl, hs3⟩ := wf_u64 w3
      obtain ⟨s4, rfl, hs4⟩ := wf_u8 w4
      refine ⟨⟨s0, s1, s2, s3, s4, s, A, n, c⟩, ⟨(s0, s1), s2, s3, s4, s, l⟩, rfl, ⟨rfl, rfl, rfl, rfl, rfl, rfl, ⟨⟨hs0, hs1⟩, hs2, hs3, hs4, ?_⟩, hT⟩, hn⟩
      unfold Short
      simp only [reachBytes, Array.length_toList] at hsl
      have e : s.data.size = s.size := rfl
      show s.size ≤ 140737488355328
      omega
/-- an event that came in. -/
theorem evt_of {H : Type} {enc : TypeId × Value → H} {W : World} {b0 : Nat} {v : Value} {d : DataW H} {p : List MemPlace} (hv : Value.okWide Try.prog W .any b0 28 v) (h : DataW.Trod enc Try.prog W 0 (fun _ => true) true 28 v d p) (hz : Held 28 d) :
    ∃ (q : EV) (x : Evt), v = q.val ∧ EventIs W W.heap.size q x ∧ q.len ≤ 8796093021952 := by
  obtain ⟨cs, rfl, hsz⟩ := okWide_struct Try.underlying28 hv
  obtain ⟨fuel, hf⟩ := h
  obtain ⟨q, x, e, hq, hn⟩ := evt_cells hf hz
  refine ⟨q, x, ?_, hq, hn⟩
  have e2 : cs.toList = q.cells := e
  have e3 : cs = q.cells.toArray := by rw [← e2]
  rw [e3]
/-- events that came in. -/
theorem evts_of {H : Type} {enc : TypeId × Value → H} {W : World} {A : Option Addr} {n c : Nat} {d : DataW H} {p : List MemPlace} (h : DataW.Trod enc Try.prog W 0 (fun _ => true) true 30 (.slice A n c) d p) (hz : Held 30 d) :
    ∃ l : List Evt, EventsAt W W.heap.size A l n c := by
  obtain ⟨fuel, hf⟩ := h
  rcases open_slice Try.underlying30 hf with ⟨hcs, _⟩ | ⟨x, n0, c0, m, f0, D, Pl, hcs, hb, hl, hm, hmm, hx, hi⟩
  · simp [Value.cells] at hcs
    obtain ⟨rfl, rfl, rfl⟩ := hcs
    exact ⟨[], EventsAt.none_ _ _⟩
  · simp [Value.cells] at hcs
    obtain ⟨rfl, rfl, rfl⟩ := hcs
    unfold maxLen at hm
    have hmc : m = c := by simpa using hmm
    obtain rfl := (Prod.mk.inj hx).1
    have hw := hz.length Try.underlying30
    rw [bytesE] at hw
    simp only [List.length_map, List.length_range, reachBytes] at hw
    have each : ∀ i, i < n → ∃ r : EV × Evt, EventIs W W.heap.size r.1 r.2 ∧ ∀ j (hj : j < r.1.cells.length), W.cell? (x.add (i * 7 + j)) = some r.1.cells[j] := by
      intro i hil
      obtain ⟨cs', k1, k2⟩ := hi i (by omega)
      rw [cellsE] at k1
      obtain ⟨_, hlen, hcell⟩ := World.cells?_some k1
      have hh : Held 28 (D i) := hz.elem Try.underlying30 (List.mem_map.2 ⟨i, List.mem_range.2 hil, rfl⟩)
      obtain ⟨q, y, rfl, hq, _⟩ := evt_cells k2 hh
      refine ⟨(q, y), hq, fun j hj => ?_⟩
      have := hcell j hj
      rw [add_add] at this
      rw [this]
      exact List.getElem?_eq_getElem hj
    obtain ⟨L, hL, hQ⟩ := list_of n each
    refine ⟨L.map (fun r => r.2), ⟨by rw [List.length_map, hL], (fun e => by cases e), hl, by omega, by omega, L.map (fun r => r.1), fun h0 => ?_, by rw [List.length_map, List.length_map], ?_⟩⟩
    · rw [ev_length, List.length_map] at h0
      have h1 := (hQ 0 _ (List.getElem?_eq_getElem (show 0 < L.length by omega))).2 0 (show 0 < 7 by decide)
      have h2 := World.block_lt_of_cell? W _ h1
      rw [block_add] at h2
      refine ⟨x, rfl, h2, fun j u hu => ?_⟩
      have hj : j < L.length * 7 := by have := (List.getElem?_eq_some_iff.1 hu).1; rwa [ev_length, List.length_map] at this
      have hk : j / 7 < L.length := by omega
      have hg : (L.map (fun r => r.1))[j / 7]? = some (L[j / 7]).1 := by simp [hk]
      have hv := ev_get hg (j % 7) (by omega)
      rw [show j / 7 * 7 + j % 7 = j by omega, hu] at hv
      have hc := (hQ (j / 7) _ (List.getElem?_eq_getElem hk)).2 (j % 7) (show j % 7 < 7 by omega)
      rw [show j / 7 * 7 + j % 7 = j by omega] at hc
      rw [hc, ← List.getElem?_eq_getElem, ← hv]
    · intro k q y hq hy
      rw [List.getElem?_map] at hq hy
      obtain ⟨r, hr, rfl⟩ := Option.map_eq_some_iff.1 hq
      rw [hr] at hy
      cases hy
      exact (hQ k r hr).1
end Go.Proofs.Ytbaiiidkffafmaa.Ev
