/- What the frames of layer crc's laws share: the listed table lies in its variable; a slice of bytes, and a slice of such slices, that came in, as the walks take them; a world that holds the table. No condition. -/
import Derived.Test.YtlgfieplapebjaaDoorCards
import Derived.Test.YtlgfieplapebjaaDoorTie
import Derived.Test.YtlgfieplapebjaaDoorWalks
import Derived.Test.YtlgfieplapebjaaDoorBursts
import Derived.ShutString
import Derived.ChangeOld
import Derived.Deep.DeepHandedRow
import Derived.Lib.LaidTab
import Derived.Deep.Matrix
import Derived.SizedLaws
namespace Go.Proofs.YtlgfieplapebjaaDoor.Cr
open Go.ChangeShapes Go.WideShapes Go.ChangeAt Go.RowKit Go.Deep
set_option linter.unusedVariables false

theorem own : ownKnob Tryd.prog.godebug = none := by kernel_rfl
theorem laidOut : laidOutB Tryd.prog = true := by kernel_rfl
theorem gTab : Tryd.prog.globalNamed "epitaph/crc.steps" = some 0 := by kernel_rfl
theorem gTabType : (Tryd.prog.globals[0]?).map (·.type) = some 39 := by kernel_rfl
theorem cells39 : Tryd.prog.cellsOf 39 = 16 := by kernel_rfl
theorem cells23 : Tryd.prog.cellsOf 23 = 1 := by kernel_rfl
theorem cells24 : Tryd.prog.cellsOf 24 = 1 := by kernel_rfl
theorem cells5 : Tryd.prog.cellsOf 5 = 1 := by kernel_rfl

/-- WHAT THE ROW's LIST GIVES: the table's cells hold its sixteen numbers. -/
theorem table {W : World} (h : laidMetH Tryd.prog [("epitaph/crc.steps", Rows.laid_epitaph_crc_steps)] W) : Tab W := by
  have ht : Lib.TabIs Tryd.prog W "epitaph/crc.steps" .u32 [0, 498536548, 997073096, 651767980, 1994146192, 1802195444, 1303535960, 1342533948, 3988292384, 4027552580, 3604390888, 3412177804, 2607071920, 2262029012, 2685067896, 3183342108] :=
    Lib.tabIs_of_head (rest := []) gTab gTabType Tryd.underlying39 Tryd.underlying23 cells23 cells39 h
  intro i hi
  have hc := ht.cell gTab i (by simpa using hi)
  rw [hc]
  have key : ∀ i : Fin 16, ([0, 498536548, 997073096, 651767980, 1994146192, 1802195444, 1303535960, 1342533948, 3988292384, 4027552580, 3604390888, 3412177804, 2607071920, 2262029012, 2685067896, 3183342108] : List Int).getD i.1 0 = ((Crc.tab.getD i.1 0 : Nat) : Int) := by decide +kernel
  rw [key ⟨i, hi⟩]

theorem block_of_cell {W : World} {a : Addr} {v : Value} (h : W.cell? a = some v) : a.block < W.heap.size := by
  rcases Nat.lt_or_ge a.block W.heap.size with hlt | hge
  · exact hlt
  · exfalso
    have hn : W.heap[a.block]? = none := Array.getElem?_eq_none hge
    simp [World.cell?, hn] at h

theorem wf_u8 {n : Int} (h : (Lit.int .u8 n).wf = true) : 0 ≤ n ∧ n < 256 := by
  simp [Lit.wf, IntKind.min, IntKind.max, IntKind.bits, IntKind.signed] at h
  omega

theorem wf_u32 {n : Int} (h : (Lit.int .u32 n).wf = true) : ∃ s : Nat, n = (s : Int) ∧ s < 4294967296 := by
  simp [Lit.wf, IntKind.min, IntKind.max, IntKind.bits, IntKind.signed] at h
  exact ⟨n.toNat, by omega, by omega⟩
theorem wf_u16 {n : Int} (h : (Lit.int .u16 n).wf = true) : ∃ s : Nat, n = (s : Int) ∧ s < 65536 := by
  simp [Lit.wf, IntKind.min, IntKind.max, IntKind.bits, IntKind.signed] at h
  exact ⟨n.toNat, by omega, by omega⟩

theorem says_walk' (w : World) (A1 A3 : Option Addr) (ps : List Part) (l3 : List Nat) (c1 c3 : Nat) (i : Int) (ht : Tab w) (h1 : Parts w w.heap.size A1 ps) (h3 : Bytes w w.heap.size A3 l3) (hi : (Lit.int .u32 i).wf = true)
    (n1 : ps.length ≤ 9223372036854775807) (n3 : l3.length ≤ 9223372036854775807) :
    Calls Tryd.prog 3 #[.slice A1 ps.length c1, .int .u32 i, .slice A3 l3.length c3] w fun e w' => e = .returned (.bool true) ∧ Below w.heap.size w w' := by
  obtain ⟨s, rfl, hs⟩ := wf_u32 hi
  exact says_walk w A1 A3 ps l3 c1 c3 s ht h1 h3 hs n1 n3

theorem bursts_walk' (w : World) (A : Option Addr) (l : List Nat) (c : Nat) (i j : Int) (ht : Tab w) (hb : Bytes w w.heap.size A l) (hl : l.length ≤ 140737488351232) (hi : (Lit.int .u16 i).wf = true) (hj : (Lit.int .u32 j).wf = true) :
    Calls Tryd.prog 5 #[.slice A l.length c, .int .u16 i, .int .u32 j] w fun e w' => e = .returned (.bool true) ∧ Below w.heap.size w w' := by
  obtain ⟨s, rfl, hs⟩ := wf_u16 hi
  obtain ⟨t, rfl, ht'⟩ := wf_u32 hj
  exact bursts_walk w A l c s t ht hb hl hs ht'

/-- numbers of a row of bytes, as the walks take them. -/
theorem bytes_row {W : World} {x : Addr} {len : Nat} {zs : List Int} (hl : len ≤ zs.length) (hcell : ∀ i, i < len → W.cell? (x.add i) = some (.int .u8 (zs.getD i 0))) (hwz : ∀ n ∈ zs, (Lit.int .u8 n).wf = true) :
    ∃ l : List Nat, l.length = len ∧ Bytes W W.heap.size (some x) l := by
  refine ⟨(zs.take len).map Int.toNat, by simp; omega, fun y hy => ?_, fun h0 => ⟨x, rfl, ?_, fun j y hj => ?_⟩⟩
  · obtain ⟨n, hn, rfl⟩ := List.mem_map.1 hy
    have := wf_u8 (hwz n (List.mem_of_mem_take hn))
    omega
  · have h1 : 0 < len := by simp at h0; omega
    have h2 := block_of_cell (hcell 0 h1)
    rwa [block_add] at h2
  · have hjl : j < len := by
      have := (List.getElem?_eq_some_iff.1 hj).1
      simp at this
      omega
    rw [hcell j hjl]
    have hz : j < zs.length := by omega
    rw [List.getElem?_map, List.getElem?_take_of_lt hjl, List.getElem?_eq_getElem hz] at hj
    simp only [Option.map_some, Option.some.injEq] at hj
    have hw := wf_u8 (hwz zs[j] (List.getElem_mem hz))
    have e : zs.getD j 0 = (y : Int) := by
      rw [List.getD_eq_getElem?_getD, List.getElem?_eq_getElem hz, Option.getD_some]
      omega
    rw [e]

/-- a slice of bytes that came in. -/
theorem bytes_of {H : Type} {enc : TypeId × Value → H} {W : World} {a : Option Addr} {len cap : Nat} {d : DataW H} {p : List MemPlace} (h : DataW.Trod enc Tryd.prog W 0 (fun _ => true) true 24 (.slice a len cap) d p) :
    ∃ l : List Nat, l.length = len ∧ Bytes W W.heap.size a l ∧ l.length ≤ 9223372036854775807 := by
  obtain ⟨fuel, hf⟩ := h
  rcases open_ints Tryd.underlying24 Tryd.underlying5 cells5 hf with ⟨hcs, _⟩ | ⟨x, l, c, zs, hcs, _, hl, hm, hz, _, hcell, hwz⟩
  · simp [Value.cells] at hcs
    obtain ⟨rfl, rfl, rfl⟩ := hcs
    exact ⟨[], rfl, Bytes.none_ _ _ _, by simp⟩
  · simp [Value.cells] at hcs
    obtain ⟨rfl, rfl, rfl⟩ := hcs
    have hz' : zs.length = cap := by simpa using hz
    obtain ⟨l, hl1, hl2⟩ := bytes_row (len := len) (by omega) (fun i hi => hcell i (by omega)) hwz
    unfold maxLen at hm
    exact ⟨l, hl1, hl2, by omega⟩

theorem bytes5 : Tryd.prog.bytesOf 5 = 1 := by kernel_rfl
/-- what a slice of bytes reads as: nil, or as many numbers as it is long. -/
theorem datum_of {H : Type} {enc : TypeId × Value → H} {W : World} {a : Option Addr} {len cap : Nat} {d : DataW H} {p : List MemPlace} (h : DataW.Trod enc Tryd.prog W 0 (fun _ => true) true 24 (.slice a len cap) d p) :
    len = 0 ∨ ∃ elems spare, d = .slice elems spare ∧ elems.length = len := by
  obtain ⟨fuel, hf⟩ := h
  rcases open_ints Tryd.underlying24 Tryd.underlying5 cells5 hf with ⟨hcs, _⟩ | ⟨x, l, c, zs, hcs, _, hl, hm, hz, hx, hcell, hwz⟩
  · simp [Value.cells] at hcs
    exact .inl hcs.2.1
  · simp [Value.cells] at hcs
    obtain ⟨rfl, rfl, rfl⟩ := hcs
    have hz' : zs.length = cap := by simpa using hz
    simp only [Prod.mk.injEq] at hx
    exact .inr ⟨_, _, hx.1, by simp [lits]; omega⟩
/-- the form's own reach, at a slice of bytes that came first. -/
theorem reach_first {H : Type} {enc : TypeId × Value → H} {W : World} {a : Option Addr} {len cap : Nat} {d : DataW H} {p : List MemPlace} {ts : List TypeId} {ds : List (DataW H)} (h : DataW.Trod enc Tryd.prog W 0 (fun _ => true) true 24 (.slice a len cap) d p)
    (hsz : (DataW.weightsEach Tryd.prog (24 :: ts) (d :: ds)).all (· ≤ reachBytes) = true) : len ≤ 140737488351232 := by
  rcases datum_of h with h0 | ⟨elems, spare, rfl, hl⟩
  · omega
  · have := sized_slice hsz (j := 0) (t := 24) (e := 5) rfl rfl Tryd.underlying24
    rw [bytes5] at this
    simp only [reachBytes] at this
    omega

/-- a slice of slices of bytes that came in. -/
theorem parts_of {H : Type} {enc : TypeId × Value → H} {W : World} {a : Option Addr} {len cap : Nat} {d : DataW H} {p : List MemPlace} (h : DataW.Trod enc Tryd.prog W 0 (fun _ => true) true 22 (.slice a len cap) d p) :
    ∃ ps : List Part, ps.length = len ∧ Parts W W.heap.size a ps ∧ ps.length ≤ 9223372036854775807 := by
  obtain ⟨fuel, hf⟩ := h
  rcases open_int_rows Tryd.underlying22 Tryd.underlying24 Tryd.underlying5 cells24 cells5 hf with ⟨hcs, _⟩ | ⟨x, ln, cp, A, L, C, Z, hcs, _, hl, hm, _, hr⟩
  · simp [Value.cells] at hcs
    obtain ⟨rfl, rfl, rfl⟩ := hcs
    exact ⟨[], rfl, ⟨fun p hp => (by cases hp), fun h => absurd h (by simp)⟩, by simp⟩
  · simp [Value.cells] at hcs
    obtain ⟨rfl, rfl, rfl⟩ := hcs
    unfold maxLen at hm
    have each : ∀ r, ∃ l : List Nat, r < cap → l.length = L r ∧ Bytes W W.heap.size (A r) l ∧ l.length ≤ 9223372036854775807 := by
      intro r
      by_cases hrc : r < cap
      · obtain ⟨_, h1, h2, h3, h4, h5, h6⟩ := hr r hrc
        unfold maxLen at h2
        cases hA : A r with
        | none => exact ⟨[], fun _ => ⟨by have := h5 hA; simp; omega, Bytes.none_ _ _ _, by simp⟩⟩
        | some x' =>
          obtain ⟨l, hl1, hl2⟩ := bytes_row (W := W) (x := x') (len := L r) (zs := Z r) (by omega) (fun i hi => (h6 x' hA).2 i (by omega)) h4
          exact ⟨l, fun _ => ⟨hl1, hl2, by omega⟩⟩
      · exact ⟨[], fun h => absurd h hrc⟩
    refine ⟨(List.range len).map fun r => ⟨A r, C r, Classical.choose (each r)⟩, by simp, ⟨fun q hq => ?_, fun _ => ⟨x, rfl, fun j q hj => ?_⟩⟩, by simp; omega⟩
    · obtain ⟨r, hr1, rfl⟩ := List.mem_map.1 hq
      have hlt := List.mem_range.1 hr1
      have := Classical.choose_spec (each r) (by omega)
      exact ⟨this.2.1, this.2.2⟩
    · have hjl : j < len := by
        have := (List.getElem?_eq_some_iff.1 hj).1
        simpa using this
      rw [List.getElem?_map, List.getElem?_range hjl] at hj
      simp only [Option.map_some, Option.some.injEq] at hj
      subst hj
      have := (Classical.choose_spec (each j) (by omega)).1
      rw [(hr j (by omega)).1, this]

/-- A WORLD FOR THE WITNESS: the settled one, the table (block 0) holding what its initialiser lays. -/
noncomputable def laidWorld (os : Os) : World :=
  { World.holding Tryd.prog os ⟨#[], #[], []⟩ with heap := (World.holding Tryd.prog os ⟨#[], #[], []⟩).heap.modify 0 fun
      | .cells _ t frozen => .cells #[.int .u32 0, .int .u32 498536548, .int .u32 997073096, .int .u32 651767980, .int .u32 1994146192, .int .u32 1802195444, .int .u32 1303535960, .int .u32 1342533948, .int .u32 3988292384, .int .u32 4027552580, .int .u32 3604390888, .int .u32 3412177804, .int .u32 2607071920, .int .u32 2262029012, .int .u32 2685067896, .int .u32 3183342108] t frozen
      | o => o }
end Go.Proofs.YtlgfieplapebjaaDoor.Cr
