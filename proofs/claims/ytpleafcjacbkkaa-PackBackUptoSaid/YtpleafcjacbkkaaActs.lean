/- A list of calls that came in, as the walk of PackReads takes it. No condition. -/
import Derived.Test.YtpleafcjacbkkaaFrame
import Derived.Test.YtpleafcjacbkkaaReads
import Derived.Deep.SlicePairs
namespace Go.Proofs.Ytpleafcjacbkkaa.Nu
open Go.ChangeShapes Go.WideShapes Go.ChangeAt Go.RowKit Go.Deep
set_option linter.unusedVariables false

/-- a list, out of what there is at each place. -/
theorem list_of {α : Type} {Q : Nat → α → Prop} (len : Nat) (h : ∀ i, i < len → ∃ x, Q i x) : ∃ l : List α, l.length = len ∧ ∀ (i : Nat) (x : α), l[i]? = some x → Q i x := by
  induction len with
  | zero => exact ⟨[], rfl, fun i x hx => by cases hx⟩
  | succ n ih =>
    obtain ⟨l, hl, hq⟩ := ih fun i hi => h i (by omega)
    obtain ⟨x, hx⟩ := h n (by omega)
    refine ⟨l ++ [x], by simp [hl], fun i y hy => ?_⟩
    rcases Nat.lt_or_ge i n with hi | hi
    · rw [List.getElem?_append_left (by omega)] at hy
      exact hq i y hy
    · have hb := (List.getElem?_eq_some_iff.1 hy).1
      simp at hb
      obtain rfl : i = n := by omega
      rw [List.getElem?_append_right (by omega), hl, Nat.sub_self] at hy
      cases hy
      exact hx
theorem acts_of {H : Type} {enc : TypeId × Value → H} {W : World} {a : Option Addr} {len cap : Nat} {d : DataW H} {p : List MemPlace} (h : DataW.Trod enc Try.prog W 0 (fun _ => true) true 23 (.slice a len cap) d p) :
    ∃ l : List (Nat × Int), l.length = len ∧ Acts W W.heap.size a l ∧ len ≤ 9223372036854775807 := by
  obtain ⟨fuel, hf⟩ := h
  rcases open_slice_pairs Try.underlying23 Try.underlying29 (by kernel_rfl) rfl rfl (by kernel_rfl) (by kernel_rfl) hf with ⟨hcs, _⟩ | ⟨x, l, c, m, n, V0, V1, D0, D1, P0, P1, hcs, _, hl, hm, hmm, _, hi⟩
  · simp [Value.cells] at hcs
    obtain ⟨rfl, rfl, rfl⟩ := hcs
    exact ⟨[], rfl, ⟨fun x hx => (by cases hx), fun h => absurd h (by simp)⟩, by omega⟩
  · simp [Value.cells] at hcs
    obtain ⟨rfl, rfl, rfl⟩ := hcs
    unfold maxLen at hm
    have hmc : m = cap := by simpa using hmm
    obtain ⟨L, hL, hQ⟩ := list_of (Q := fun i (y : Nat × Int) => y.1 < 256 ∧ (-9223372036854775808 ≤ y.2 ∧ y.2 ≤ 9223372036854775807) ∧ W.cell? (x.add (i * 2)) = some (.int .u8 (y.1 : Int)) ∧ W.cell? (x.add (i * 2 + 1)) = some (.int .i64 y.2)) len (fun i hil => by
      obtain ⟨h1, h2, h3, h4⟩ := hi i (by omega)
      obtain ⟨z0, e0, _, w0⟩ := DataW.trod_int Try.underlying5 h3
      obtain ⟨z1, e1, _, w1⟩ := DataW.trod_int Try.underlying3 h4
      obtain ⟨s0, rfl, hs0⟩ := wf_u8 w0
      exact ⟨(s0, z1), hs0, wf_i64 w1, by rw [h1, (List.cons.inj e0).1], by rw [h2, (List.cons.inj e1).1]⟩)
    refine ⟨L, hL, ⟨fun y hy => ?_, fun h0 => ⟨x, rfl, ?_, fun j k mo hj => ⟨(hQ j _ hj).2.2.1, (hQ j _ hj).2.2.2⟩⟩⟩, by omega⟩
    · obtain ⟨i, hi', rfl⟩ := List.getElem_of_mem hy
      have := hQ i _ (List.getElem?_eq_getElem hi')
      exact ⟨this.1, this.2.1⟩
    · have := hQ 0 _ (List.getElem?_eq_getElem h0)
      have h2 := block_of_cell this.2.2.1
      rwa [block_add] at h2
end Go.Proofs.Ytpleafcjacbkkaa.Nu
