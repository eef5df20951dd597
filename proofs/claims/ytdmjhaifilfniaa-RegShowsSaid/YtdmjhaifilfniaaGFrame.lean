/- What the frames of layer reg's laws share: a list of values that came in, as the walks take it. No condition. -/
import Derived.Test.YtdmjhaifilfniaaGWords
import Derived.ShutString
import Derived.ChangeOld
import Derived.Deep.DeepHandedRow
import Derived.Deep.Matrix
import Derived.SizedLaws
import Derived.Deep.SlicePairs
import Derived.Lib.SmallJoins
namespace Go.Proofs.Ytdmjhaifilfniaa.Rg
open Go.ChangeShapes Go.WideShapes Go.ChangeAt Go.RowKit Go.Deep Go.Joins
set_option linter.unusedVariables false
set_option maxRecDepth 4000

theorem own : ownKnob Try.prog.godebug = none := by kernel_rfl
theorem laidOut : laidOutB Try.prog = true := by kernel_rfl
theorem cellsV : Try.prog.cellsOf 29 = 3 := by kernel_rfl
theorem bytesV : Try.prog.bytesOf 29 = 32 := by kernel_rfl
theorem wf_u64 {n : Int} (h : (Lit.int .u64 n).wf = true) : ∃ s : Nat, n = (s : Int) ∧ s < 18446744073709551616 := by
  simp [Lit.wf, IntKind.min, IntKind.max, IntKind.bits, IntKind.signed] at h
  exact ⟨n.toNat, by omega, by omega⟩
theorem wf_u16 {n : Int} (h : (Lit.int .u16 n).wf = true) : ∃ s : Nat, n = (s : Int) ∧ s < 65536 := by
  simp [Lit.wf, IntKind.min, IntKind.max, IntKind.bits, IntKind.signed] at h
  exact ⟨n.toNat, by omega, by omega⟩
theorem wf_u8 {n : Int} (h : (Lit.int .u8 n).wf = true) : ∃ s : Nat, n = (s : Int) ∧ s < 256 := by
  simp [Lit.wf, IntKind.min, IntKind.max, IntKind.bits, IntKind.signed] at h
  exact ⟨n.toNat, by omega, by omega⟩
/-- each slice and text within weighs at most what an argument may weigh. -/
def Held {H : Type} (t : TypeId) (d : DataW H) : Prop := ∀ n ∈ d.weights Try.prog t, n ≤ reachBytes
theorem weights_all {H : Type} {P : Program} {e : TypeId} {l : List (DataW H)} {d : DataW H} (h : d ∈ l) : ∀ n ∈ d.weights P e, n ∈ DataW.weightsAll P e l := by
  induction l with
  | nil => cases h
  | cons x l ih =>
    intro n hn
    simp only [DataW.weightsAll, List.mem_append]
    rcases List.mem_cons.1 h with rfl | h
    · exact Or.inl hn
    · exact Or.inr (ih h n hn)
theorem Held.elem {H : Type} {t e : TypeId} {elems spare : List (DataW H)} (h : Held t (.slice elems spare)) (hu : Try.prog.underlying t = some (.slice e)) {d : DataW H} (hd : d ∈ elems) : Held e d := fun n hn =>
  h n (by simp only [DataW.weights, hu, List.mem_cons, List.mem_append]; exact Or.inr (Or.inl (weights_all hd n hn)))
theorem Held.length {H : Type} {t e : TypeId} {elems spare : List (DataW H)} (h : Held t (.slice elems spare)) (hu : Try.prog.underlying t = some (.slice e)) : (elems.length + spare.length) * Try.prog.bytesOf e ≤ reachBytes :=
  h _ (by simp [DataW.weights, hu])
theorem Held.part {H : Type} {t t' : TypeId} {fs : Array Field} {parts : List (DataW H)} (h : Held t (.agg parts)) (hu : Try.prog.underlying t = some (.struct fs)) {j : Nat} {d : DataW H} (ht : (fs.toList.map (·.type))[j]? = some t') (hd : parts[j]? = some d) : Held t' d := fun n hn =>
  h n (by simp only [DataW.weights, hu]; exact DataW.weights_mem_each ht hd n hn)
theorem list_of {α : Type} {Q : Nat → α → Prop} (n : Nat) (h : ∀ i, i < n → ∃ t, Q i t) : ∃ L : List α, L.length = n ∧ ∀ (i : Nat) (t : α), L[i]? = some t → Q i t := by
  induction n with
  | zero => exact ⟨[], rfl, fun i t hi => by simp at hi⟩
  | succ n ih =>
    obtain ⟨L, hL, hQ⟩ := ih (fun i hi => h i (by omega))
    obtain ⟨t, ht⟩ := h n (by omega)
    refine ⟨L ++ [t], by simp [hL], fun i u hu => ?_⟩
    rcases Nat.lt_or_ge i n with hi | hi
    · rw [List.getElem?_append_left (by omega)] at hu
      exact hQ i u hu
    · rw [List.getElem?_append_right (by omega), hL] at hu
      have e : i = n := by
        rcases Nat.eq_or_lt_of_le hi with e | e
        · exact e.symm
        · rw [List.getElem?_eq_none (by simp; omega)] at hu; cases hu
      subst e
      simp at hu
      subst hu
      exact ht
/-- a value's cells. -/
theorem val_of {H : Type} {enc : TypeId × Value → H} {W : World} {fuel : Nat} {cs : List Value} {d : DataW H} {p : List MemPlace} (h : DataW.trod enc Try.prog W 0 (fun _ => true) true fuel 29 cs = some (d, p)) (hz : Held 29 d) :
    ∃ x : Vl, cs = vcells x ∧ FitV x := by
  obtain ⟨xs, f1, _, hxy, hlen, hxl, hfd⟩ := DataW.trod_struct Try.underlying29 h
  rw [cellsV] at hlen
  match xs, hxl, cs, hlen with
  | [y0, y1], _, [u0, u1, u2], _ =>
    have g0 := hfd 0 _ rfl
    have g1 := hfd 1 _ rfl
    simp only [List.getElem?_cons_zero, List.getElem?_cons_succ] at g0 g1
    have hD : d = .agg ([y0, y1].map (·.1)) := congrArg Prod.fst hxy
    subst hD
    obtain ⟨zs, f2, _, hzy, _, hzl, hfz⟩ := DataW.trod_struct Try.underlying27 g0
    match zs, hzl with
    | [z0, z1], _ =>
      have k0 := hfz 0 _ rfl
      have k1 := hfz 1 _ rfl
      simp only [List.getElem?_cons_zero, List.getElem?_cons_succ] at k0 k1
      obtain ⟨i0, e0, _, w0⟩ := DataW.trod_int Try.underlying24 k0
      obtain ⟨i1, e1, _, w1⟩ := DataW.trod_int Try.underlying25 k1
      obtain ⟨s, e2, hs1, _⟩ := DataW.trod_string Try.underlying9 g1
      have hst : Held 9 y1.1 := hz.part (j := 1) Try.underlying29 rfl rfl
      rw [hs1] at hst
      have hsl := hst s.data.toList.length (by simp [DataW.weights])
      obtain rfl := (List.cons.inj e0).1
      obtain rfl := (List.cons.inj e1).1
      obtain rfl := (List.cons.inj e2).1
      obtain ⟨s0, rfl, hs0⟩ := wf_u16 w0
      obtain ⟨s1, rfl, hs1⟩ := wf_u64 w1
      refine ⟨((s0, s1), s), rfl, ⟨hs0, hs1, ?_⟩⟩
      unfold Kd.Short
      simp only [reachBytes, Array.length_toList] at hsl
      have e : s.data.size = s.size := rfl
      show s.size ≤ 140737488355328
      omega
/-- values that came in. -/
theorem vals_of {H : Type} {enc : TypeId × Value → H} {W : World} {A : Option Addr} {n c : Nat} {d : DataW H} {p : List MemPlace} (h : DataW.Trod enc Try.prog W 0 (fun _ => true) true 22 (.slice A n c) d p) (hz : Held 22 d) :
    ∃ l : List Vl, ValsAt W W.heap.size A l n c := by
  obtain ⟨fuel, hf⟩ := h
  rcases open_slice Try.underlying22 hf with ⟨hcs, _⟩ | ⟨x, n0, c0, m, f0, D, Pl, hcs, hb, hl, hm, hmm, hx, hi⟩
  · simp [Value.cells] at hcs
    obtain ⟨rfl, rfl, rfl⟩ := hcs
    exact ⟨[], ValsAt.none_ _ _⟩
  · simp [Value.cells] at hcs
    obtain ⟨rfl, rfl, rfl⟩ := hcs
    unfold maxLen at hm
    have hmc : m = c := by simpa using hmm
    obtain rfl := (Prod.mk.inj hx).1
    have hw := hz.length Try.underlying22
    rw [bytesV] at hw
    simp only [List.length_map, List.length_range, reachBytes] at hw
    have each : ∀ i, i < n → ∃ r : Vl, FitV r ∧ ∀ j (hj : j < (vcells r).length), W.cell? (x.add (i * 3 + j)) = some (vcells r)[j] := by
      intro i hil
      obtain ⟨cs', k1, k2⟩ := hi i (by omega)
      rw [cellsV] at k1
      obtain ⟨_, hlen, hcell⟩ := World.cells?_some k1
      have hh : Held 29 (D i) := hz.elem Try.underlying22 (List.mem_map.2 ⟨i, List.mem_range.2 hil, rfl⟩)
      obtain ⟨r, rfl, hq⟩ := val_of k2 hh
      refine ⟨r, hq, fun j hj => ?_⟩
      have := hcell j hj
      rw [Dt.add_add] at this
      rw [this]
      exact List.getElem?_eq_getElem hj
    obtain ⟨L, hL, hQ⟩ := list_of n each
    refine ⟨L, hL, (fun e => by cases e), hl, by omega, by omega, fun r hr => ?_, fun h0 => ?_⟩
    · obtain ⟨i, hi', rfl⟩ := List.getElem_of_mem hr
      exact (hQ i _ (List.getElem?_eq_getElem hi')).1
    · rw [vv_length] at h0
      have h1 := (hQ 0 _ (List.getElem?_eq_getElem (show 0 < L.length by omega))).2 0 (show 0 < 3 by decide)
      have h2 := World.block_lt_of_cell? W _ h1
      rw [block_add] at h2
      refine ⟨x, rfl, h2, fun j u hu => ?_⟩
      have hj : j < L.length * 3 := by have := (List.getElem?_eq_some_iff.1 hu).1; rwa [vv_length] at this
      have hk : j / 3 < L.length := by omega
      have hv := vv_get (List.getElem?_eq_getElem hk) (j % 3) (by omega)
      rw [show j / 3 * 3 + j % 3 = j by omega, hu] at hv
      have h3 : j % 3 < (vcells L[j / 3]).length := Nat.mod_lt _ (by decide)
      have hc := (hQ (j / 3) _ (List.getElem?_eq_getElem hk)).2 (j % 3) h3
      rw [show j / 3 * 3 + j % 3 = j by omega] at hc
      rw [List.getElem?_eq_getElem h3] at hv
      rw [hc, hv]
end Go.Proofs.Ytdmjhaifilfniaa.Rg
