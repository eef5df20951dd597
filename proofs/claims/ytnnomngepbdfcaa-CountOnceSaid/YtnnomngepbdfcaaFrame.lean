/- What the frames of layer count's laws share: a slice of numbers that came in, as the walks take it. No condition. -/
import Derived.Test.YtnnomngepbdfcaaWords
import Derived.ShutString
import Derived.ChangeOld
import Derived.Deep.DeepHandedRow
import Derived.Deep.Matrix
import Derived.SizedLaws
namespace Go.Proofs.Ytnnomngepbdfcaa.Co
open Go.ChangeShapes Go.WideShapes Go.ChangeAt Go.RowKit Go.Deep
set_option linter.unusedVariables false

theorem own : ownKnob Try.prog.godebug = none := by kernel_rfl
theorem laidOut : laidOutB Try.prog = true := by kernel_rfl
theorem cells22 : Try.prog.cellsOf 22 = 1 := by kernel_rfl
theorem wf_u64 {n : Int} (h : (Lit.int .u64 n).wf = true) : ∃ s : Nat, n = (s : Int) ∧ s < 18446744073709551616 := by
  simp [Lit.wf, IntKind.min, IntKind.max, IntKind.bits, IntKind.signed] at h
  exact ⟨n.toNat, by omega, by omega⟩
theorem list_of {α : Type} {Q : Nat → α → Prop} (n : Nat) (h : ∀ i, i < n → ∃ t, Q i t) : ∃ L : List α, L.length = n ∧ ∀ (i : Nat) (t : α), L[i]? = some t → Q i t := by
  induction n with
  | zero => exact ⟨[], rfl, fun i t hi => by simp at hi⟩
  | succ n ih =>
    obtain ⟨L, hL, hQ⟩ := ih (fun i hi => h i (by omega))
    obtain ⟨t, ht⟩ := h n (by omega)
    refine ⟨L ++ [t], by simp [hL], fun i u hu => ?_⟩
    rcases Nat.lt_or_ge i n with hi | hi
    · rw [List.getElem?_append_left (by omega)] at hu
      exact hQ i u hu
    · rw [List.getElem?_append_right (by omega), hL] at hu
      have e : i = n := by
        rcases Nat.eq_or_lt_of_le hi with e | e
        · exact e.symm
        · rw [List.getElem?_eq_none (by simp; omega)] at hu; cases hu
      subst e
      simp at hu
      subst hu
      exact ht
/-- a slice of numbers that came in. -/
theorem nums_of {H : Type} {enc : TypeId × Value → H} {W : World} {a : Option Addr} {len cap : Nat} {d : DataW H} {p : List MemPlace} (h : DataW.Trod enc Try.prog W 0 (fun _ => true) true 23 (.slice a len cap) d p) :
    ∃ l : List Nat, l.length = len ∧ Nums W W.heap.size a l ∧ len ≤ cap ∧ cap ≤ 9223372036854775807 ∧ (a = none → len = 0 ∧ cap = 0) := by
  obtain ⟨fuel, hf⟩ := h
  rcases open_ints Try.underlying23 Try.underlying22 cells22 hf with ⟨hcs, _⟩ | ⟨x, n0, c0, zs, hcs, _, hl, hm, hz, _, hcell, hwz⟩
  · simp [Value.cells] at hcs
    obtain ⟨rfl, rfl, rfl⟩ := hcs
    exact ⟨[], rfl, Nums.none_ _ _ _, by omega, by omega, fun _ => ⟨rfl, rfl⟩⟩
  · simp [Value.cells] at hcs
    obtain ⟨rfl, rfl, rfl⟩ := hcs
    have hz' : zs.length = cap := by simpa using hz
    unfold maxLen at hm
    have each : ∀ i, i < len → ∃ s : Nat, s < 18446744073709551616 ∧ W.cell? (x.add i) = some (.int .u64 (s : Int)) := by
      intro i hil
      have h0 := hcell i (by omega)
      have hzi : i < zs.length := by omega
      obtain ⟨s, hs, hs2⟩ := wf_u64 (hwz zs[i] (List.getElem_mem hzi))
      refine ⟨s, hs2, ?_⟩
      rw [h0, List.getD_eq_getElem?_getD, List.getElem?_eq_getElem hzi, Option.getD_some, hs]
    obtain ⟨L, hL, hQ⟩ := list_of len each
    refine ⟨L, hL, ⟨fun r hr => ?_, fun h0 => ⟨x, rfl, ?_, fun j u hu => ?_⟩⟩, by omega, by omega, fun e => by cases e⟩
    · obtain ⟨i, hi', rfl⟩ := List.getElem_of_mem hr
      exact (hQ i _ (List.getElem?_eq_getElem hi')).1
    · rw [nv_length] at h0
      have h1 := (hQ 0 _ (List.getElem?_eq_getElem h0)).2
      have h2 := World.block_lt_of_cell? W _ h1
      rwa [block_add] at h2
    · rw [nv_get] at hu
      obtain ⟨s, hs, rfl⟩ := Option.map_eq_some_iff.1 hu
      exact (hQ j s hs).2
end Go.Proofs.Ytnnomngepbdfcaa.Co
