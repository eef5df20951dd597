/- What the frames of layer ctx's laws share: a dot, a list of dots, a context that came in, as the walks take them. No condition. -/
import Derived.Test.YtegclhgfibfanaaKD
import Derived.ShutString
import Derived.ChangeOld
import Derived.Deep.DeepHandedRow
import Derived.Deep.Matrix
import Derived.SizedLaws
import Derived.Deep.SlicePairs
import Derived.Lib.SmallJoins
namespace Go.Proofs.Ytegclhgfibfanaa.Cx
open Go.ChangeShapes Go.WideShapes Go.ChangeAt Go.RowKit Go.Deep Go.Joins
set_option linter.unusedVariables false
set_option maxRecDepth 4000

theorem own : ownKnob Try.prog.godebug = none := by kernel_rfl
theorem laidOut : laidOutB Try.prog = true := by kernel_rfl
theorem cells16 : Try.prog.cellsOf 24 = 1 := by kernel_rfl
theorem cells64 : Try.prog.cellsOf 25 = 1 := by kernel_rfl
theorem cellsRs : Try.prog.cellsOf 45 = 1 := by kernel_rfl
theorem cellsR : Try.prog.cellsOf 59 = 2 := by kernel_rfl
theorem cellsD : Try.prog.cellsOf 27 = 2 := by kernel_rfl
theorem cellsP : Try.prog.cellsOf 47 = 2 := by kernel_rfl
theorem wf_u64 {n : Int} (h : (Lit.int .u64 n).wf = true) : ∃ s : Nat, n = (s : Int) ∧ s < 18446744073709551616 := by
  simp [Lit.wf, IntKind.min, IntKind.max, IntKind.bits, IntKind.signed] at h
  exact ⟨n.toNat, by omega, by omega⟩
theorem wf_u16 {n : Int} (h : (Lit.int .u16 n).wf = true) : ∃ s : Nat, n = (s : Int) ∧ s < 65536 := by
  simp [Lit.wf, IntKind.min, IntKind.max, IntKind.bits, IntKind.signed] at h
  exact ⟨n.toNat, by omega, by omega⟩
theorem wf_u8 {n : Int} (h : (Lit.int .u8 n).wf = true) : ∃ s : Nat, n = (s : Int) ∧ s < 256 := by
  simp [Lit.wf, IntKind.min, IntKind.max, IntKind.bits, IntKind.signed] at h
  exact ⟨n.toNat, by omega, by omega⟩
/-- a dot that came in; it reads as it did in every world. -/
theorem dot_of {H : Type} {enc : TypeId × Value → H} {W : World} {b0 : Nat} {v : Value} {d : DataW H} {p : List MemPlace} (hv : Value.okWide Try.prog W .any b0 27 v) (h : DataW.Trod enc Try.prog W 0 (fun _ => true) true 27 v d p) :
    ∃ r : Dot, v = .agg #[.int .u16 (r.1 : Int), .int .u64 (r.2 : Int)] ∧ r.1 < 65536 ∧ r.2 < 18446744073709551616 ∧ p = [] ∧ ∀ (W' : World) (sp : Nat → Bool), DataW.Trod enc Try.prog W' 0 sp true 27 v d p := by
  obtain ⟨c0, c1, y0, y1, m, rfl, rfl, rfl, hy0, hy1⟩ := open_agg2 Try.underlying27 (by kernel_rfl) cellsD hv h
  obtain ⟨a, e0, rfl, wa⟩ := DataW.trod_int Try.underlying24 hy0
  obtain ⟨b, e1, rfl, wb⟩ := DataW.trod_int Try.underlying25 hy1
  simp at e0 e1
  subst e0 e1
  have wa' := wa
  have wb' := wb
  obtain ⟨s, rfl, hs⟩ := wf_u16 wa
  obtain ⟨t, rfl, ht⟩ := wf_u64 wb
  exact ⟨(s, t), rfl, hs, ht, rfl, fun W' sp =>
    shut_agg2 (y0 := (.lit (.int .u16 (s : Int)), [])) (y1 := (.lit (.int .u64 (t : Int)), [])) Try.underlying27 (by kernel_rfl) cellsD ⟨1, by simp [DataW.trod, Try.underlying24, wa']⟩ ⟨1, by simp [DataW.trod, Try.underlying25, wb']⟩⟩
theorem list_of {α : Type} {Q : Nat → α → Prop} (n : Nat) (h : ∀ i, i < n → ∃ t, Q i t) : ∃ L : List α, L.length = n ∧ ∀ (i : Nat) (t : α), L[i]? = some t → Q i t := by
  induction n with
  | zero => exact ⟨[], rfl, fun i t hi => by simp at hi⟩
  | succ n ih =>
    obtain ⟨L, hL, hQ⟩ := ih (fun i hi => h i (by omega))
    obtain ⟨t, ht⟩ := h n (by omega)
    refine ⟨L ++ [t], by simp [hL], fun i u hu => ?_⟩
    rcases Nat.lt_or_ge i n with hi | hi
    · rw [List.getElem?_append_left (by omega)] at hu
      exact hQ i u hu
    · rw [List.getElem?_append_right (by omega), hL] at hu
      have e : i = n := by
        rcases Nat.eq_or_lt_of_le hi with e | e
        · exact e.symm
        · rw [List.getElem?_eq_none (by simp; omega)] at hu; cases hu
      subst e
      simp at hu
      subst hu
      exact ht
/-- rows of two cells. -/
theorem lies_two {α : Type} {w : World} {B : Nat} {ad : Addr} (hB : ad.block < B) (f g : α → Value) (L : List α) (h : ∀ (i : Nat) (r : α), L[i]? = some r → w.cell? (ad.add (i * 2)) = some (f r) ∧ w.cell? (ad.add (i * 2 + 1)) = some (g r)) : Dt.Lies w B (some ad) (L.flatMap fun r => [f r, g r]) := fun _ => by
  have len : ∀ L : List α, (L.flatMap fun r => [f r, g r]).length = L.length * 2 := fun L => by
    induction L with
    | nil => rfl
    | cons r L ih => simp only [List.flatMap_cons, List.length_append, List.length_cons, List.length_nil, ih]; omega
  have get : ∀ (L : List α) (k : Nat) (r : α), L[k]? = some r → (L.flatMap fun r => [f r, g r])[k * 2]? = some (f r) ∧ (L.flatMap fun r => [f r, g r])[k * 2 + 1]? = some (g r) := fun L => by
    induction L with
    | nil => intro k r h; simp at h
    | cons x L ih =>
      intro k r h
      cases k with
      | zero => obtain rfl : x = r := by simpa using h
                exact ⟨rfl, rfl⟩
      | succ k =>
        have h2 := ih k r (by simpa using h)
        have e : (x :: L).flatMap (fun r => [f r, g r]) = f x :: g x :: L.flatMap (fun r => [f r, g r]) := rfl
        have e1 : (k + 1) * 2 = k * 2 + 2 := by omega
        rw [e, e1]
        exact ⟨by simpa using h2.1, by simpa using h2.2⟩
  refine ⟨ad, rfl, hB, fun j u hu => ?_⟩
  have hj : j < (L.flatMap fun r => [f r, g r]).length := (List.getElem?_eq_some_iff.1 hu).1
  rw [len] at hj
  have hd : j / 2 < L.length := by omega
  have hg := List.getElem?_eq_getElem hd
  obtain ⟨g1, g2⟩ := get L _ _ hg
  obtain ⟨c1, c2⟩ := h _ _ hg
  rcases Nat.mod_two_eq_zero_or_one j with h0 | h0
  · have e : j = j / 2 * 2 := by omega
    rw [e] at hu ⊢
    rw [g1] at hu
    cases hu
    exact c1
  · have e : j = j / 2 * 2 + 1 := by omega
    generalize hz : j / 2 = z at *
    subst e
    rw [g2] at hu
    cases hu
    exact c2
/-- a list of dots that came in. -/
theorem dots_of {H : Type} {enc : TypeId × Value → H} {W : World} {a : Option Addr} {len cap : Nat} {d : DataW H} {p : List MemPlace} (h : DataW.Trod enc Try.prog W 0 (fun _ => true) true 35 (.slice a len cap) d p) :
    ∃ l : List Dot, DotsAt W a l len cap := by
  obtain ⟨fuel, hf⟩ := h
  rcases open_slice_pairs Try.underlying35 Try.underlying27 cellsD rfl rfl cells16 cells64 hf with ⟨hcs, _⟩ | ⟨x, n0, c0, m, f0, V0, V1, D0, D1, P0, P1, hcs, hb, hl, hm, hmm, hx, hi⟩
  · simp [Value.cells] at hcs
    obtain ⟨rfl, rfl, rfl⟩ := hcs
    exact ⟨[], rfl, fun _ => ⟨rfl, rfl⟩, Nat.le_refl _, by omega, Dt.Dots.none_ _ _ _⟩
  · simp [Value.cells] at hcs
    obtain ⟨rfl, rfl, rfl⟩ := hcs
    unfold maxLen at hm
    have hmc : m = cap := by simpa using hmm
    have each : ∀ i, i < len → ∃ r : Dot, (r.1 < 65536 ∧ r.2 < 18446744073709551616) ∧ W.cell? (x.add (i * 2)) = some (.int .u16 (r.1 : Int)) ∧ W.cell? (x.add (i * 2 + 1)) = some (.int .u64 (r.2 : Int)) := by
      intro i hil
      obtain ⟨h0, h1, t0, t1⟩ := hi i (by omega)
      obtain ⟨z0, e0, _, w0⟩ := DataW.trod_int Try.underlying24 t0
      obtain ⟨z1, e1, _, w1⟩ := DataW.trod_int Try.underlying25 t1
      obtain ⟨s0, rfl, hs0⟩ := wf_u16 w0
      obtain ⟨s1, rfl, hs1⟩ := wf_u64 w1
      rw [(List.cons.inj e0).1] at h0
      rw [(List.cons.inj e1).1] at h1
      exact ⟨(s0, s1), ⟨hs0, hs1⟩, h0, h1⟩
    obtain ⟨L, hL, hQ⟩ := list_of len each
    refine ⟨L, hL, (fun e => by cases e), by omega, by omega, fun r hr => ?_, ?_⟩
    · obtain ⟨i, hi', rfl⟩ := List.getElem_of_mem hr
      exact (hQ i _ (List.getElem?_eq_getElem hi')).1
    · rcases Nat.eq_zero_or_pos L.length with h0 | h0
      · rw [List.eq_nil_of_length_eq_zero h0]; exact Dt.Lies.none_ _ _ _
      · refine lies_two ?_ (fun r : Dot => Value.int .u16 (r.1 : Int)) (fun r : Dot => Value.int .u64 (r.2 : Int)) L (fun i r hr => (hQ i r hr).2)
        have h1 := (hQ 0 _ (List.getElem?_eq_getElem h0)).2.1
        have h2 := World.block_lt_of_cell? W _ h1
        rwa [Dt.block_add] at h2
/-- what a slice's datum is as long as. -/
def Long {H : Type} (d : DataW H) (n : Nat) : Prop := n = 0 ∨ ∃ elems spare, d = .slice elems spare ∧ elems.length = n
/-- a slice of runs that stands in a cell. -/
theorem runs_cell {H : Type} {enc : TypeId × Value → H} {W : World} {fuel : Nat} {v : Value} {d : DataW H} {p : List MemPlace} (h : DataW.trod enc Try.prog W 0 (fun _ => true) true fuel 45 [v] = some (d, p)) :
    ∃ (A : Option Addr) (n c : Nat) (l : List Run), v = .slice A n c ∧ RunsAt W A l n c ∧ Long d n := by
  rcases open_slice_pairs Try.underlying45 Try.underlying59 cellsR rfl rfl cells64 cells64 h with ⟨hcs, _⟩ | ⟨x, n0, c0, m, f0, V0, V1, D0, D1, P0, P1, hcs, hb, hl, hm, hmm, hx, hi⟩
  · obtain rfl := (List.cons.inj hcs).1
    exact ⟨none, 0, 0, [], rfl, ⟨rfl, fun _ => ⟨rfl, rfl⟩, Nat.le_refl _, by omega, Ru.Runs.none_ _ _ _⟩, .inl rfl⟩
  · obtain rfl := (List.cons.inj hcs).1
    unfold maxLen at hm
    have hmc : m = c0 := by simpa using hmm
    have each : ∀ i, i < n0 → ∃ r : Run, (r.1 < 18446744073709551616 ∧ r.2 < 18446744073709551616) ∧ W.cell? (x.add (i * 2)) = some (.int .u64 (r.1 : Int)) ∧ W.cell? (x.add (i * 2 + 1)) = some (.int .u64 (r.2 : Int)) := by
      intro i hil
      obtain ⟨h0, h1, t0, t1⟩ := hi i (by omega)
      obtain ⟨z0, e0, _, w0⟩ := DataW.trod_int Try.underlying25 t0
      obtain ⟨z1, e1, _, w1⟩ := DataW.trod_int Try.underlying25 t1
      obtain ⟨s0, rfl, hs0⟩ := wf_u64 w0
      obtain ⟨s1, rfl, hs1⟩ := wf_u64 w1
      rw [(List.cons.inj e0).1] at h0
      rw [(List.cons.inj e1).1] at h1
      exact ⟨(s0, s1), ⟨hs0, hs1⟩, h0, h1⟩
    obtain ⟨L, hL, hQ⟩ := list_of n0 each
    simp only [Prod.mk.injEq] at hx
    refine ⟨some x, n0, c0, L, rfl, ⟨hL, (fun e => by cases e), by omega, by omega, fun r hr => ?_, ?_⟩, .inr ⟨_, _, hx.1, by simp⟩⟩
    · obtain ⟨i, hi', rfl⟩ := List.getElem_of_mem hr
      exact (hQ i _ (List.getElem?_eq_getElem hi')).1
    · rcases Nat.eq_zero_or_pos L.length with h0 | h0
      · rw [List.eq_nil_of_length_eq_zero h0]; exact Ru.Lies.none_ _ _ _
      · refine lies_two ?_ (fun r : Run => Value.int .u64 (r.1 : Int)) (fun r : Run => Value.int .u64 (r.2 : Int)) L (fun i r hr => (hQ i r hr).2)
        have h1 := (hQ 0 _ (List.getElem?_eq_getElem h0)).2.1
        have h2 := World.block_lt_of_cell? W _ h1
        rwa [Dt.block_add] at h2
/-- a context that came in, and how long its parts' data are. -/
theorem ctx_of {H : Type} {enc : TypeId × Value → H} {W : World} {a : Option Addr} {len cap : Nat} {d : DataW H} {p : List MemPlace} (h : DataW.Trod enc Try.prog W 0 (fun _ => true) true 23 (.slice a len cap) d p) :
    ∃ c : List Part, CtxAt W a c len cap ∧ (len = 0 ∨ ∃ (D0 D1 : Nat → DataW H) (spare : List (DataW H)), d = .slice ((List.range len).map fun i => .agg [D0 i, D1 i]) spare ∧ ∀ (i : Nat) (x : Part), c[i]? = some x → Long (D1 i) x.2.length) := by
  obtain ⟨fuel, hf⟩ := h
  rcases open_slice_pairs Try.underlying23 Try.underlying47 cellsP rfl rfl cells16 cellsRs hf with ⟨hcs, _⟩ | ⟨x, n0, c0, m, f0, V0, V1, D0, D1, P0, P1, hcs, hb, hl, hm, hmm, hx, hi⟩
  · simp [Value.cells] at hcs
    obtain ⟨rfl, rfl, rfl⟩ := hcs
    exact ⟨[], CtxAt.none_ W, .inl rfl⟩
  · simp [Value.cells] at hcs
    obtain ⟨rfl, rfl, rfl⟩ := hcs
    unfold maxLen at hm
    have hmc : m = cap := by simpa using hmm
    have each : ∀ i, i < len → ∃ r : PV × Part, PartIs W W.heap.size r.1 r.2 ∧ Long (D1 i) r.2.2.length ∧ W.cell? (x.add (i * 2)) = some (.int .u16 (r.1.dev : Int)) ∧ W.cell? (x.add (i * 2 + 1)) = some (.slice r.1.adr r.1.len r.1.cap) := by
      intro i hil
      obtain ⟨h0, h1, t0, t1⟩ := hi i (by omega)
      obtain ⟨z0, e0, _, w0⟩ := DataW.trod_int Try.underlying24 t0
      obtain ⟨s0, rfl, hs0⟩ := wf_u16 w0
      rw [(List.cons.inj e0).1] at h0
      obtain ⟨A, n, c, l, e1, hR, hLg⟩ := runs_cell t1
      rw [e1] at h1
      exact ⟨(⟨s0, A, n, c⟩, (s0, l)), ⟨rfl, hs0, hR.len, hR.nil, hR.cap, hR.max, hR.runs⟩, by show Long (D1 i) l.length; rw [hR.len]; exact hLg, h0, h1⟩
    obtain ⟨L, hL, hQ⟩ := list_of len each
    simp only [Prod.mk.injEq] at hx
    refine ⟨L.map (fun r => r.2), ⟨by rw [List.length_map, hL], (fun e => by cases e), by omega, by omega, L.map (fun r => r.1), ?_, by rw [List.length_map, List.length_map], ?_⟩, .inr ⟨D0, D1, _, hx.1, ?_⟩⟩
    · have e : cv (L.map (fun r => r.1)) = L.flatMap (fun r => [Value.int .u16 (r.1.dev : Int), .slice r.1.adr r.1.len r.1.cap]) := by
        unfold cv
        rw [List.flatMap_map]
      rw [e]
      rcases Nat.eq_zero_or_pos L.length with h0 | h0
      · rw [List.eq_nil_of_length_eq_zero h0]; exact Dt.Lies.none_ _ _ _
      · refine lies_two ?_ (fun r : PV × Part => Value.int .u16 (r.1.dev : Int)) (fun r : PV × Part => Value.slice r.1.adr r.1.len r.1.cap) L (fun i r hr => (hQ i r hr).2.2)
        have h1 := (hQ 0 _ (List.getElem?_eq_getElem h0)).2.2.1
        have h2 := World.block_lt_of_cell? W _ h1
        rwa [Dt.block_add] at h2
    · intro k p y hp hy
      rw [List.getElem?_map] at hp hy
      obtain ⟨r, hr, rfl⟩ := Option.map_eq_some_iff.1 hp
      rw [hr] at hy
      cases hy
      exact (hQ k r hr).1
    · intro i y hy
      rw [List.getElem?_map] at hy
      obtain ⟨r, hr, rfl⟩ := Option.map_eq_some_iff.1 hy
      exact (hQ i r hr).2.1
end Go.Proofs.Ytegclhgfibfanaa.Cx
