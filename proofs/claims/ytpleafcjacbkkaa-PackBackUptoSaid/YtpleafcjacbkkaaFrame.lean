/- What the frames of layer pack's laws share: a slice of bytes that came in, as the walks take it, and the form's own reach. No condition. -/
import Derived.Test.YtpleafcjacbkkaaWorks
import Derived.ShutString
import Derived.ChangeOld
import Derived.Deep.DeepHandedRow
import Derived.Deep.Matrix
import Derived.SizedLaws
namespace Go.Proofs.Ytpleafcjacbkkaa.Nu
open Go.ChangeShapes Go.WideShapes Go.ChangeAt Go.RowKit Go.Deep
set_option linter.unusedVariables false

theorem own : ownKnob Try.prog.godebug = none := by kernel_rfl
theorem laidOut : laidOutB Try.prog = true := by kernel_rfl
theorem cells5 : Try.prog.cellsOf 5 = 1 := by kernel_rfl
theorem bytes5 : Try.prog.bytesOf 5 = 1 := by kernel_rfl

theorem block_of_cell {W : World} {a : Addr} {v : Value} (h : W.cell? a = some v) : a.block < W.heap.size := by
  rcases Nat.lt_or_ge a.block W.heap.size with hlt | hge
  · exact hlt
  · exfalso
    have hn : W.heap[a.block]? = none := Array.getElem?_eq_none hge
    simp [World.cell?, hn] at h
theorem wf_u8 {n : Int} (h : (Lit.int .u8 n).wf = true) : ∃ s : Nat, n = (s : Int) ∧ s < 256 := by
  simp [Lit.wf, IntKind.min, IntKind.max, IntKind.bits, IntKind.signed] at h
  exact ⟨n.toNat, by omega, by omega⟩
theorem wf_u64 {n : Int} (h : (Lit.int .u64 n).wf = true) : ∃ s : Nat, n = (s : Int) ∧ s < 18446744073709551616 := by
  simp [Lit.wf, IntKind.min, IntKind.max, IntKind.bits, IntKind.signed] at h
  exact ⟨n.toNat, by omega, by omega⟩
theorem wf_i64 {n : Int} (h : (Lit.int .i64 n).wf = true) : -9223372036854775808 ≤ n ∧ n ≤ 9223372036854775807 := by
  simp [Lit.wf, IntKind.min, IntKind.max, IntKind.bits, IntKind.signed] at h
  omega

/-- numbers of a row of bytes, as the walks take them. -/
theorem bytes_row {W : World} {x : Addr} {len : Nat} {zs : List Int} (hl : len ≤ zs.length) (hcell : ∀ i, i < len → W.cell? (x.add i) = some (.int .u8 (zs.getD i 0))) (hwz : ∀ n ∈ zs, (Lit.int .u8 n).wf = true) :
    ∃ l : List Nat, l.length = len ∧ Bytes W W.heap.size (some x) l := by
  refine ⟨(zs.take len).map Int.toNat, by simp; omega, fun y hy => ?_, fun h0 => ⟨x, rfl, ?_, fun j y hj => ?_⟩⟩
  · obtain ⟨n, hn, rfl⟩ := List.mem_map.1 hy
    obtain ⟨s, rfl, hs⟩ := wf_u8 (hwz n (List.mem_of_mem_take hn))
    omega
  · have h1 : 0 < len := by simp at h0; omega
    have h2 := block_of_cell (hcell 0 h1)
    rwa [block_add] at h2
  · have hjl : j < len := by
      have := (List.getElem?_eq_some_iff.1 hj).1
      simp at this
      omega
    rw [hcell j hjl]
    have hz : j < zs.length := by omega
    rw [List.getElem?_map, List.getElem?_take_of_lt hjl, List.getElem?_eq_getElem hz] at hj
    simp only [Option.map_some, Option.some.injEq] at hj
    obtain ⟨s, hs, _⟩ := wf_u8 (hwz zs[j] (List.getElem_mem hz))
    have e : zs.getD j 0 = (y : Int) := by
      rw [List.getD_eq_getElem?_getD, List.getElem?_eq_getElem hz, Option.getD_some]
      omega
    rw [e]

/-- a slice of bytes that came in. -/
theorem bytes_of {H : Type} {enc : TypeId × Value → H} {W : World} {a : Option Addr} {len cap : Nat} {d : DataW H} {p : List MemPlace} (h : DataW.Trod enc Try.prog W 0 (fun _ => true) true 22 (.slice a len cap) d p) :
    ∃ l : List Nat, l.length = len ∧ Bytes W W.heap.size a l ∧ len ≤ cap ∧ cap ≤ 9223372036854775807 ∧ (a = none → len = 0 ∧ cap = 0) := by
  obtain ⟨fuel, hf⟩ := h
  rcases open_ints Try.underlying22 Try.underlying5 cells5 hf with ⟨hcs, _⟩ | ⟨x, l, c, zs, hcs, _, hl, hm, hz, _, hcell, hwz⟩
  · simp [Value.cells] at hcs
    obtain ⟨rfl, rfl, rfl⟩ := hcs
    exact ⟨[], rfl, Bytes.none_ _ _ _, by omega, by omega, fun _ => ⟨rfl, rfl⟩⟩
  · simp [Value.cells] at hcs
    obtain ⟨rfl, rfl, rfl⟩ := hcs
    have hz' : zs.length = cap := by simpa using hz
    obtain ⟨l, hl1, hl2⟩ := bytes_row (len := len) (by omega) (fun i hi => hcell i (by omega)) hwz
    unfold maxLen at hm
    exact ⟨l, hl1, hl2, by omega, by omega, fun h => by cases h⟩

/-- what a slice of bytes reads as: nil, or as many numbers as it is long. -/
theorem datum_of {H : Type} {enc : TypeId × Value → H} {W : World} {a : Option Addr} {len cap : Nat} {d : DataW H} {p : List MemPlace} (h : DataW.Trod enc Try.prog W 0 (fun _ => true) true 22 (.slice a len cap) d p) :
    len = 0 ∨ ∃ elems spare, d = .slice elems spare ∧ elems.length = len := by
  obtain ⟨fuel, hf⟩ := h
  rcases open_ints Try.underlying22 Try.underlying5 cells5 hf with ⟨hcs, _⟩ | ⟨x, l, c, zs, hcs, _, hl, hm, hz, hx, hcell, hwz⟩
  · simp [Value.cells] at hcs
    exact .inl hcs.2.1
  · simp [Value.cells] at hcs
    obtain ⟨rfl, rfl, rfl⟩ := hcs
    have hz' : zs.length = cap := by simpa using hz
    simp only [Prod.mk.injEq] at hx
    exact .inr ⟨_, _, hx.1, by simp [lits]; omega⟩
/-- the form's own reach, at a slice of bytes that came first, and at one that came second. -/
theorem reach_first {H : Type} {enc : TypeId × Value → H} {W : World} {a : Option Addr} {len cap : Nat} {d : DataW H} {p : List MemPlace} {ts : List TypeId} {ds : List (DataW H)} (h : DataW.Trod enc Try.prog W 0 (fun _ => true) true 22 (.slice a len cap) d p)
    (hsz : (DataW.weightsEach Try.prog (22 :: ts) (d :: ds)).all (· ≤ reachBytes) = true) : len ≤ 140737488351232 := by
  rcases datum_of h with h0 | ⟨elems, spare, rfl, hl⟩
  · omega
  · have := sized_slice hsz (j := 0) (t := 22) (e := 5) rfl rfl Try.underlying22
    rw [bytes5] at this
    simp only [reachBytes] at this
    omega
theorem reach_second {H : Type} {enc : TypeId × Value → H} {W : World} {a : Option Addr} {len cap : Nat} {d d0 : DataW H} {p : List MemPlace} {t0 : TypeId} {ts : List TypeId} {ds : List (DataW H)} (h : DataW.Trod enc Try.prog W 0 (fun _ => true) true 22 (.slice a len cap) d p)
    (hsz : (DataW.weightsEach Try.prog (t0 :: 22 :: ts) (d0 :: d :: ds)).all (· ≤ reachBytes) = true) : len ≤ 140737488351232 := by
  rcases datum_of h with h0 | ⟨elems, spare, rfl, hl⟩
  · omega
  · have := sized_slice hsz (j := 1) (t := 22) (e := 5) rfl rfl Try.underlying22
    rw [bytes5] at this
    simp only [reachBytes] at this
    omega
end Go.Proofs.Ytpleafcjacbkkaa.Nu
