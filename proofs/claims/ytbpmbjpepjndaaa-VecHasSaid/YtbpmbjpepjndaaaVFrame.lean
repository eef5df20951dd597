/- What the frames of layer vec's laws share: a dot, a vector that came in, as the walks take them. No condition. -/
import Derived.Test.YtbpmbjpepjndaaaVSide
import Derived.ShutString
import Derived.ChangeOld
import Derived.Deep.DeepHandedRow
import Derived.Deep.Matrix
import Derived.SizedLaws
import Derived.Deep.SlicePairs
import Derived.Lib.SmallJoins
namespace Go.Proofs.Ytbpmbjpepjndaaa.Dt
open Go.ChangeShapes Go.WideShapes Go.ChangeAt Go.RowKit Go.Deep Go.Joins
set_option linter.unusedVariables false

theorem own : ownKnob Try.prog.godebug = none := by kernel_rfl
theorem laidOut : laidOutB Try.prog = true := by kernel_rfl
theorem cells16 : Try.prog.cellsOf 24 = 1 := by kernel_rfl
theorem cells64 : Try.prog.cellsOf 25 = 1 := by kernel_rfl
theorem cellsD : Try.prog.cellsOf 27 = 2 := by kernel_rfl
theorem wf_u64 {n : Int} (h : (Lit.int .u64 n).wf = true) : ∃ s : Nat, n = (s : Int) ∧ s < 18446744073709551616 := by
  simp [Lit.wf, IntKind.min, IntKind.max, IntKind.bits, IntKind.signed] at h
  exact ⟨n.toNat, by omega, by omega⟩
theorem wf_u16 {n : Int} (h : (Lit.int .u16 n).wf = true) : ∃ s : Nat, n = (s : Int) ∧ s < 65536 := by
  simp [Lit.wf, IntKind.min, IntKind.max, IntKind.bits, IntKind.signed] at h
  exact ⟨n.toNat, by omega, by omega⟩
/-- a dot that came in; it reads as it did in every world. -/
theorem dot_of {H : Type} {enc : TypeId × Value → H} {W : World} {b0 : Nat} {v : Value} {d : DataW H} {p : List MemPlace} (hv : Value.okWide Try.prog W .any b0 27 v) (h : DataW.Trod enc Try.prog W 0 (fun _ => true) true 27 v d p) :
    ∃ r : Dot, v = .agg #[.int .u16 (r.1 : Int), .int .u64 (r.2 : Int)] ∧ r.1 < 65536 ∧ r.2 < 18446744073709551616 ∧ p = [] ∧ ∀ (W' : World) (sp : Nat → Bool), DataW.Trod enc Try.prog W' 0 sp true 27 v d p := by
  obtain ⟨c0, c1, y0, y1, m, rfl, rfl, rfl, hy0, hy1⟩ := open_agg2 Try.underlying27 (by kernel_rfl) cellsD hv h
  obtain ⟨a, e0, rfl, wa⟩ := DataW.trod_int Try.underlying24 hy0
  obtain ⟨b, e1, rfl, wb⟩ := DataW.trod_int Try.underlying25 hy1
  simp at e0 e1
  subst e0 e1
  have wa' := wa
  have wb' := wb
  obtain ⟨s, rfl, hs⟩ := wf_u16 wa
  obtain ⟨t, rfl, ht⟩ := wf_u64 wb
  exact ⟨(s, t), rfl, hs, ht, rfl, fun W' sp =>
    shut_agg2 (y0 := (.lit (.int .u16 (s : Int)), [])) (y1 := (.lit (.int .u64 (t : Int)), [])) Try.underlying27 (by kernel_rfl) cellsD ⟨1, by simp [DataW.trod, Try.underlying24, wa']⟩ ⟨1, by simp [DataW.trod, Try.underlying25, wb']⟩⟩
theorem list_of {α : Type} {Q : Nat → α → Prop} (n : Nat) (h : ∀ i, i < n → ∃ t, Q i t) : ∃ L : List α, L.length = n ∧ ∀ (i : Nat) (t : α), L[i]? = some t → Q i t := by
  induction n with
  | zero => exact ⟨[], rfl, fun i t hi => by simp at hi⟩
  | succ n ih =>
    obtain ⟨L, hL, hQ⟩ := ih (fun i hi => h i (by omega))
    obtain ⟨t, ht⟩ := h n (by omega)
    refine ⟨L ++ [t], by simp [hL], fun i u hu => ?_⟩
    rcases Nat.lt_or_ge i n with hi | hi
    · rw [List.getElem?_append_left (by omega)] at hu
      exact hQ i u hu
    · rw [List.getElem?_append_right (by omega), hL] at hu
      have e : i = n := by
        rcases Nat.eq_or_lt_of_le hi with e | e
        · exact e.symm
        · rw [List.getElem?_eq_none (by simp; omega)] at hu; cases hu
      subst e
      simp at hu
      subst hu
      exact ht
theorem lies_dots {w : World} {B : Nat} {ad : Addr} (hB : ad.block < B) (L : List Dot) (h : ∀ (i : Nat) (r : Dot), L[i]? = some r → w.cell? (ad.add (i * 2)) = some (.int .u16 (r.1 : Int)) ∧ w.cell? (ad.add (i * 2 + 1)) = some (.int .u64 (r.2 : Int))) : Lies w B (some ad) (dv L) := fun _ => by
  refine ⟨ad, rfl, hB, fun j u hu => ?_⟩
  have hj : j < (dv L).length := (List.getElem?_eq_some_iff.1 hu).1
  rw [dv_length] at hj
  have hd : j / 2 < L.length := by omega
  have hg := List.getElem?_eq_getElem hd
  obtain ⟨g1, g2⟩ := dv_get hg
  obtain ⟨c1, c2⟩ := h _ _ hg
  rcases Nat.mod_two_eq_zero_or_one j with h0 | h0
  · have e : j = j / 2 * 2 := by omega
    rw [e] at hu ⊢
    rw [g1] at hu
    cases hu
    exact c1
  · have e : j = j / 2 * 2 + 1 := by omega
    generalize hz : j / 2 = z at *
    subst e
    rw [g2] at hu
    cases hu
    exact c2

/-- a slice of dots that came in. -/
theorem dots_of {H : Type} {enc : TypeId × Value → H} {W : World} {a : Option Addr} {len cap : Nat} {d : DataW H} {p : List MemPlace} (h : DataW.Trod enc Try.prog W 0 (fun _ => true) true 23 (.slice a len cap) d p) :
    ∃ l : List Dot, l.length = len ∧ Dots W W.heap.size a l ∧ len ≤ cap ∧ cap ≤ 9223372036854775807 ∧ (a = none → len = 0 ∧ cap = 0) := by
  obtain ⟨fuel, hf⟩ := h
  rcases open_slice_pairs Try.underlying23 Try.underlying27 cellsD rfl rfl cells16 cells64 hf with ⟨hcs, _⟩ | ⟨x, n0, c0, m, f0, V0, V1, D0, D1, P0, P1, hcs, hb, hl, hm, hmm, hx, hi⟩
  · simp [Value.cells] at hcs
    obtain ⟨rfl, rfl, rfl⟩ := hcs
    exact ⟨[], rfl, Dots.none_ _ _ _, by omega, by omega, fun _ => ⟨rfl, rfl⟩⟩
  · simp [Value.cells] at hcs
    obtain ⟨rfl, rfl, rfl⟩ := hcs
    unfold maxLen at hm
    have hmc : m = cap := by simpa using hmm
    have each : ∀ i, i < len → ∃ r : Dot, (r.1 < 65536 ∧ r.2 < 18446744073709551616) ∧ W.cell? (x.add (i * 2)) = some (.int .u16 (r.1 : Int)) ∧ W.cell? (x.add (i * 2 + 1)) = some (.int .u64 (r.2 : Int)) := by
      intro i hil
      obtain ⟨h0, h1, t0, t1⟩ := hi i (by omega)
      obtain ⟨z0, e0, _, w0⟩ := DataW.trod_int Try.underlying24 t0
      obtain ⟨z1, e1, _, w1⟩ := DataW.trod_int Try.underlying25 t1
      obtain ⟨s0, rfl, hs0⟩ := wf_u16 w0
      obtain ⟨s1, rfl, hs1⟩ := wf_u64 w1
      rw [(List.cons.inj e0).1] at h0
      rw [(List.cons.inj e1).1] at h1
      exact ⟨(s0, s1), ⟨hs0, hs1⟩, h0, h1⟩
    obtain ⟨L, hL, hQ⟩ := list_of len each
    refine ⟨L, hL, ⟨fun r hr => ?_, ?_⟩, by omega, by omega, fun e => by cases e⟩
    · obtain ⟨i, hi', rfl⟩ := List.getElem_of_mem hr
      exact (hQ i _ (List.getElem?_eq_getElem hi')).1
    · rcases Nat.eq_zero_or_pos L.length with h0 | h0
      · rw [List.eq_nil_of_length_eq_zero h0]; exact Lies.none_ _ _ _
      · refine lies_dots ?_ L (fun i r hr => (hQ i r hr).2)
        have h1 := (hQ 0 _ (List.getElem?_eq_getElem h0)).2.1
        have h2 := World.block_lt_of_cell? W _ h1
        rwa [block_add] at h2
theorem bytesD : Try.prog.bytesOf 27 = 16 := by kernel_rfl
/-- what a vector reads as: nil, or as many dots as it is long. -/
theorem datum_of {H : Type} {enc : TypeId × Value → H} {W : World} {a : Option Addr} {len cap : Nat} {d : DataW H} {p : List MemPlace} (h : DataW.Trod enc Try.prog W 0 (fun _ => true) true 23 (.slice a len cap) d p) :
    len = 0 ∨ ∃ elems spare, d = .slice elems spare ∧ elems.length = len := by
  obtain ⟨fuel, hf⟩ := h
  rcases open_slice_pairs Try.underlying23 Try.underlying27 cellsD rfl rfl cells16 cells64 hf with ⟨hcs, _⟩ | ⟨x, n0, c0, m, f0, V0, V1, D0, D1, P0, P1, hcs, hb, hl, hm, hmm, hx, hi⟩
  · simp [Value.cells] at hcs
    exact .inl hcs.2.1
  · simp [Value.cells] at hcs
    obtain ⟨rfl, rfl, rfl⟩ := hcs
    simp only [Prod.mk.injEq] at hx
    exact .inr ⟨_, _, hx.1, by simp⟩
/-- a vector that came in, as the walks take it. -/
theorem vec_of {H : Type} {enc : TypeId × Value → H} {W : World} {a : Option Addr} {len cap j : Nat} {d : DataW H} {p : List MemPlace} {ts : List TypeId} {ds : List (DataW H)} (h : DataW.Trod enc Try.prog W 0 (fun _ => true) true 23 (.slice a len cap) d p)
    (hsz : (DataW.weightsEach Try.prog ts ds).all (· ≤ reachBytes) = true) (ht : ts[j]? = some 23) (hd : ds[j]? = some d) : ∃ l : List Dot, VecAt W a l len cap := by
  obtain ⟨l, h1, h2, h3, h4, h5⟩ := dots_of h
  refine ⟨l, h1, h5, h3, h4, h2, ?_⟩
  rcases datum_of h with h0 | ⟨elems, spare, rfl, hl⟩
  · omega
  · have := sized_slice hsz (j := j) (t := 23) (e := 27) ht hd Try.underlying23
    rw [bytesD] at this
    simp only [reachBytes] at this
    omega
end Go.Proofs.Ytbpmbjpepjndaaa.Dt
