/- What the frames of layer card's laws share: a card that came in, as the walks take it. No condition. -/
import Derived.Test.YtlndhooiapomlaaKPLine
import Derived.ShutString
import Derived.ChangeOld
import Derived.Deep.DeepHandedRow
import Derived.Deep.Matrix
import Derived.SizedLaws
import Derived.Deep.SlicePairs
import Derived.Lib.SmallJoins
namespace Go.Proofs.Ytlndhooiapomlaa.Kd
open Go.ChangeShapes Go.WideShapes Go.ChangeAt Go.RowKit Go.Deep Go.Joins
set_option linter.unusedVariables false
set_option maxRecDepth 4000

theorem own : ownKnob Try.prog.godebug = none := by kernel_rfl
theorem laidOut : laidOutB Try.prog = true := by kernel_rfl
theorem cellsL : Try.prog.cellsOf 23 = 1 := by kernel_rfl
theorem cellsT : Try.prog.cellsOf 26 = 1 := by kernel_rfl
theorem cellsS : Try.prog.cellsOf 9 = 1 := by kernel_rfl
theorem cellsX : Try.prog.cellsOf 28 = 3 := by kernel_rfl
theorem cellsC : Try.prog.cellsOf 25 = 2 := by kernel_rfl
theorem cells64 : Try.prog.cellsOf 22 = 1 := by kernel_rfl
theorem cells8 : Try.prog.cellsOf 5 = 1 := by kernel_rfl
theorem bytesS : Try.prog.bytesOf 9 = 16 := by kernel_rfl
theorem bytesX : Try.prog.bytesOf 28 = 48 := by kernel_rfl
theorem wf_u64 {n : Int} (h : (Lit.int .u64 n).wf = true) : ∃ s : Nat, n = (s : Int) ∧ s < 18446744073709551616 := by
  simp [Lit.wf, IntKind.min, IntKind.max, IntKind.bits, IntKind.signed] at h
  exact ⟨n.toNat, by omega, by omega⟩
theorem wf_u8 {n : Int} (h : (Lit.int .u8 n).wf = true) : ∃ s : Nat, n = (s : Int) ∧ s < 256 := by
  simp [Lit.wf, IntKind.min, IntKind.max, IntKind.bits, IntKind.signed] at h
  exact ⟨n.toNat, by omega, by omega⟩
/-- each slice and text within weighs at most what an argument may weigh. -/
def Held {H : Type} (t : TypeId) (d : DataW H) : Prop := ∀ n ∈ d.weights Try.prog t, n ≤ reachBytes
theorem weights_all {H : Type} {P : Program} {e : TypeId} {l : List (DataW H)} {d : DataW H} (h : d ∈ l) : ∀ n ∈ d.weights P e, n ∈ DataW.weightsAll P e l := by
  induction l with
  | nil => cases h
  | cons x l ih =>
    intro n hn
    simp only [DataW.weightsAll, List.mem_append]
    rcases List.mem_cons.1 h with rfl | h
    · exact Or.inl hn
    · exact Or.inr (ih h n hn)
theorem Held.elem {H : Type} {t e : TypeId} {elems spare : List (DataW H)} (h : Held t (.slice elems spare)) (hu : Try.prog.underlying t = some (.slice e)) {d : DataW H} (hd : d ∈ elems) : Held e d := fun n hn =>
  h n (by simp only [DataW.weights, hu, List.mem_cons, List.mem_append]; exact Or.inr (Or.inl (weights_all hd n hn)))
theorem Held.length {H : Type} {t e : TypeId} {elems spare : List (DataW H)} (h : Held t (.slice elems spare)) (hu : Try.prog.underlying t = some (.slice e)) : (elems.length + spare.length) * Try.prog.bytesOf e ≤ reachBytes :=
  h _ (by simp [DataW.weights, hu])
theorem Held.part {H : Type} {t t' : TypeId} {fs : Array Field} {parts : List (DataW H)} (h : Held t (.agg parts)) (hu : Try.prog.underlying t = some (.struct fs)) {j : Nat} {d : DataW H} (ht : (fs.toList.map (·.type))[j]? = some t') (hd : parts[j]? = some d) : Held t' d := fun n hn =>
  h n (by simp only [DataW.weights, hu]; exact DataW.weights_mem_each ht hd n hn)
theorem list_of {α : Type} {Q : Nat → α → Prop} (n : Nat) (h : ∀ i, i < n → ∃ t, Q i t) : ∃ L : List α, L.length = n ∧ ∀ (i : Nat) (t : α), L[i]? = some t → Q i t := by
  induction n with
  | zero => exact ⟨[], rfl, fun i t hi => by simp at hi⟩
  | succ n ih =>
    obtain ⟨L, hL, hQ⟩ := ih (fun i hi => h i (by omega))
    obtain ⟨t, ht⟩ := h n (by omega)
    refine ⟨L ++ [t], by simp [hL], fun i u hu => ?_⟩
    rcases Nat.lt_or_ge i n with hi | hi
    · rw [List.getElem?_append_left (by omega)] at hu
      exact hQ i u hu
    · rw [List.getElem?_append_right (by omega), hL] at hu
      have e : i = n := by
        rcases Nat.eq_or_lt_of_le hi with e | e
        · exact e.symm
        · rw [List.getElem?_eq_none (by simp; omega)] at hu; cases hu
      subst e
      simp at hu
      subst hu
      exact ht
/-- texts that stand in a cell. -/
theorem texts_cell {H : Type} {enc : TypeId × Value → H} {W : World} {fuel : Nat} {v : Value} {d : DataW H} {p : List MemPlace} (h : DataW.trod enc Try.prog W 0 (fun _ => true) true fuel 26 [v] = some (d, p)) (hz : Held 26 d) :
    ∃ (A : Option Addr) (n c : Nat) (l : List ByteArray), v = .slice A n c ∧ TextsAt W W.heap.size A l n c := by
  rcases open_slice Try.underlying26 h with ⟨hcs, _⟩ | ⟨x, n0, c0, m, f0, D, Pl, hcs, hb, hl, hm, hmm, hx, hi⟩
  · obtain rfl := (List.cons.inj hcs).1
    exact ⟨none, 0, 0, [], rfl, TextsAt.none_ _ _⟩
  · obtain rfl := (List.cons.inj hcs).1
    unfold maxLen at hm
    have hmc : m = c0 := by simpa using hmm
    obtain rfl := (Prod.mk.inj hx).1
    have hw := hz.length Try.underlying26
    rw [bytesS] at hw
    simp only [List.length_map, List.length_range, reachBytes] at hw
    have each : ∀ i, i < n0 → ∃ s : ByteArray, Short s ∧ W.cell? (x.add i) = some (.string s) := by
      intro i hil
      obtain ⟨cs', k1, k2⟩ := hi i (by omega)
      rw [cellsS, Nat.mul_one] at k1
      obtain ⟨_, hlen, hcell⟩ := World.cells?_some k1
      obtain ⟨s, rfl, hD, _⟩ := DataW.trod_string Try.underlying9 k2
      have hh : Held 9 (D i) := hz.elem Try.underlying26 (List.mem_map.2 ⟨i, List.mem_range.2 hil, rfl⟩)
      have hd : D i = .lit (.string s.data.toList) := congrArg Prod.fst hD
      rw [hd] at hh
      have hs := hh s.data.toList.length (by simp [DataW.weights])
      have h0 := hcell 0 (by omega)
      refine ⟨s, ?_, ?_⟩
      · unfold Short
        simp only [reachBytes, Array.length_toList] at hs
        have e : s.data.size = s.size := rfl
        omega
      · simpa [Addr.add] using h0
    obtain ⟨L, hL, hQ⟩ := list_of n0 each
    refine ⟨some x, n0, c0, L, rfl, ⟨hL, (fun e => by cases e), hl, by omega, by omega, fun s hs => ?_, fun h0 => ?_⟩⟩
    · obtain ⟨i, hi', rfl⟩ := List.getElem_of_mem hs
      exact (hQ i _ (List.getElem?_eq_getElem hi')).1
    · rw [tv_length] at h0
      have h1 := World.block_lt_of_cell? W _ (hQ 0 _ (List.getElem?_eq_getElem h0)).2
      rw [block_add] at h1
      refine ⟨x, rfl, h1, fun j u hu => ?_⟩
      rw [tv_get] at hu
      obtain ⟨s, hs, rfl⟩ := Option.map_eq_some_iff.1 hu
      exact (hQ j s hs).2
/-- rows of three cells. -/
theorem lies_three {w : World} {B : Nat} {ad : Addr} (hB : ad.block < B) (L : List LV) (h : ∀ (i : Nat) (r : LV), L[i]? = some r → w.cell? (ad.add (i * 3)) = some (.int .u8 (r.fld : Int)) ∧ w.cell? (ad.add (i * 3 + 1)) = some (.string r.txt) ∧ w.cell? (ad.add (i * 3 + 2)) = some (.slice r.adr r.len r.cap)) : Dt.Lies w B (some ad) (lv L) := fun _ => by
  refine ⟨ad, rfl, hB, fun j u hu => ?_⟩
  have hj : j < (lv L).length := (List.getElem?_eq_some_iff.1 hu).1
  rw [lv_length] at hj
  have hd : j / 3 < L.length := by omega
  have hg := List.getElem?_eq_getElem hd
  obtain ⟨g1, g2, g3⟩ := lv_get hg
  obtain ⟨c1, c2, c3⟩ := h _ _ hg
  have h3 : j % 3 = 0 ∨ j % 3 = 1 ∨ j % 3 = 2 := by omega
  rcases h3 with h0 | h0 | h0
  · have e : j = j / 3 * 3 := by omega
    rw [← e] at g1 c1
    rw [g1] at hu
    cases hu
    exact c1
  · have e : j = j / 3 * 3 + 1 := by omega
    rw [← e] at g2 c2
    rw [g2] at hu
    cases hu
    exact c2
  · have e : j = j / 3 * 3 + 2 := by omega
    rw [← e] at g3 c3
    rw [g3] at hu
    cases hu
    exact c3
/-- lines that stand in a cell. -/
theorem lines_cell {H : Type} {enc : TypeId × Value → H} {W : World} {fuel : Nat} {v : Value} {d : DataW H} {p : List MemPlace} (h : DataW.trod enc Try.prog W 0 (fun _ => true) true fuel 23 [v] = some (d, p)) (hz : Held 23 d) :
    ∃ (A : Option Addr) (n c : Nat) (l : List Ln), v = .slice A n c ∧ LinesAt W W.heap.size A l n c := by
  rcases open_slice Try.underlying23 h with ⟨hcs, _⟩ | ⟨x, n0, c0, m, f0, D, Pl, hcs, hb, hl, hm, hmm, hx, hi⟩
  · obtain rfl := (List.cons.inj hcs).1
    exact ⟨none, 0, 0, [], rfl, LinesAt.none_ _ _⟩
  · obtain rfl := (List.cons.inj hcs).1
    unfold maxLen at hm
    have hmc : m = c0 := by simpa using hmm
    obtain rfl := (Prod.mk.inj hx).1
    have hw := hz.length Try.underlying23
    rw [bytesX] at hw
    simp only [List.length_map, List.length_range, reachBytes] at hw
    have each : ∀ i, i < n0 → ∃ r : LV × Ln, LineIs W W.heap.size r.1 r.2 ∧ W.cell? (x.add (i * 3)) = some (.int .u8 (r.1.fld : Int)) ∧ W.cell? (x.add (i * 3 + 1)) = some (.string r.1.txt) ∧ W.cell? (x.add (i * 3 + 2)) = some (.slice r.1.adr r.1.len r.1.cap) := by
      intro i hil
      obtain ⟨cs', k1, k2⟩ := hi i (by omega)
      rw [cellsX] at k1
      obtain ⟨_, hlen, hcell⟩ := World.cells?_some k1
      have hh : Held 28 (D i) := hz.elem Try.underlying23 (List.mem_map.2 ⟨i, List.mem_range.2 hil, rfl⟩)
      obtain ⟨xs, f1, _, hxy, _, hxl, hfd⟩ := DataW.trod_struct Try.underlying28 k2
      match xs, hxl, cs', hlen with
      | [y0, y1, y2], _, [u0, u1, u2], _ =>
        have g0 := hfd 0 _ rfl
        have g1 := hfd 1 _ rfl
        have g2 := hfd 2 _ rfl
        simp only [List.getElem?_cons_zero, List.getElem?_cons_succ] at g0 g1 g2
        have hD : D i = .agg ([y0, y1, y2].map (·.1)) := congrArg Prod.fst hxy
        rw [hD] at hh
        obtain ⟨z0, e0, _, w0⟩ := DataW.trod_int Try.underlying5 g0
        obtain ⟨s, e1, hs1, _⟩ := DataW.trod_string Try.underlying9 g1
        obtain ⟨y21, y22⟩ := y2
        have g2' : DataW.trod enc Try.prog W 0 (fun _ => true) true f1 26 (List.take (Try.prog.cellsOf 26) [u2]) = some (y21, y22) := g2
        rw [cellsT] at g2'
        obtain ⟨A, n, c, l, e3, hT⟩ := texts_cell g2' (hh.part (j := 2) Try.underlying28 rfl rfl)
        have hst : Held 9 y1.1 := hh.part (j := 1) Try.underlying28 rfl rfl
        rw [hs1] at hst
        have hsl := hst s.data.toList.length (by simp [DataW.weights])
        obtain rfl := (List.cons.inj e0).1
        obtain rfl := (List.cons.inj e1).1
        subst e3
        have h0 := hcell 0 (by omega)
        have h1 := hcell 1 (by omega)
        have h2 := hcell 2 (by omega)
        rw [Go.Deep.add_add] at h0 h1 h2
        obtain ⟨s0, rfl, hs0⟩ := wf_u8 w0
        refine ⟨(⟨s0, s, A, n, c⟩, (s0, s, l)), ⟨rfl, hs0, rfl, ?_, hT⟩, by simpa using h0, by simpa using h1, by simpa using h2⟩
        unfold Short
        simp only [reachBytes, Array.length_toList] at hsl
        have e : s.data.size = s.size := rfl
        show s.size ≤ 140737488355328
        omega
    obtain ⟨L, hL, hQ⟩ := list_of n0 each
    refine ⟨some x, n0, c0, L.map (fun r => r.2), rfl, ⟨by rw [List.length_map, hL], (fun e => by cases e), hl, by omega, by omega, L.map (fun r => r.1), ?_, by rw [List.length_map, List.length_map], ?_⟩⟩
    · rcases Nat.eq_zero_or_pos L.length with h0 | h0
      · rw [List.eq_nil_of_length_eq_zero h0]; exact Dt.Lies.none_ _ _ _
      · refine lies_three ?_ _ (fun i r hr => ?_)
        · have h2 := World.block_lt_of_cell? W _ (hQ 0 _ (List.getElem?_eq_getElem h0)).2.1
          rwa [block_add] at h2
        · rw [List.getElem?_map] at hr
          obtain ⟨q, hq, rfl⟩ := Option.map_eq_some_iff.1 hr
          exact (hQ i q hq).2
    · intro k q y hq hy
      rw [List.getElem?_map] at hq hy
      obtain ⟨r, hr, rfl⟩ := Option.map_eq_some_iff.1 hq
      rw [hr] at hy
      cases hy
      exact (hQ k r hr).1
/-- a card that came in. -/
theorem card_of {H : Type} {enc : TypeId × Value → H} {W : World} {b0 : Nat} {v : Value} {d : DataW H} {p : List MemPlace} (hv : Value.okWide Try.prog W .any b0 25 v) (h : DataW.Trod enc Try.prog W 0 (fun _ => true) true 25 v d p) (hz : Held 25 d) :
    ∃ (q : CV) (x : Crd), v = q.val ∧ CardIs W W.heap.size q x := by
  obtain ⟨c0, c1, y0, y1, m, rfl, rfl, rfl, hy0, hy1⟩ := open_agg2 Try.underlying25 (by kernel_rfl) cellsC hv h
  obtain ⟨a, e0, rfl, wa⟩ := DataW.trod_int Try.underlying22 hy0
  obtain ⟨y11, y12⟩ := y1
  obtain ⟨A, n, c, l, rfl, hL⟩ := lines_cell hy1 (hz.part (j := 1) Try.underlying25 rfl rfl)
  obtain rfl := (List.cons.inj e0).1
  obtain ⟨t, rfl, ht⟩ := wf_u64 wa
  exact ⟨⟨t, A, n, c⟩, (t, l), rfl, rfl, ht, hL⟩
end Go.Proofs.Ytlndhooiapomlaa.Kd
