/- Words and contracts that the proofs of this seat stand on, part 6 of 14. -/
import Derived.Test.YtmhghgogehmehaaMgD
import Derived.Maps.RangeWalk
import Derived.Maps.OwnOps
import Derived.Maps.OwnSet
import Derived.Maps.Ext

/- Maps that tell of devices: what a map of devices and numbers holds, as arithmetic and in memory. -/
namespace Go.Proofs.Ytmhghgogehmehaa.Dt
open Go.ChangeShapes Go.WideShapes Go.ChangeAt Go.RowKit Go.Maps
set_option linter.unusedVariables false
set_option maxRecDepth 4000

theorem law16 : Keyed Try.prog 32 := int_keyed Try.underlying32
theorem zero64 (w : World) : (zeroValue 33).run Try.prog w = .ok (.int .u64 0) w := by kernel_rfl
theorem wf16 {d : Nat} (h : d < 65536) : (Lit.int .u16 (d : Int)).wf = true := by
  simp [Lit.wf, IntKind.min, IntKind.max, IntKind.bits, IntKind.signed]; omega
theorem wf64 {n : Nat} (h : n < 18446744073709551616) : (Lit.int .u64 (n : Int)).wf = true := by
  simp [Lit.wf, IntKind.min, IntKind.max, IntKind.bits, IntKind.signed]; omega
theorem un16 {x : Int} (h : (Lit.int .u16 x).wf = true) : ∃ d : Nat, x = (d : Int) ∧ d < 65536 := by
  simp [Lit.wf, IntKind.min, IntKind.max, IntKind.bits, IntKind.signed] at h
  exact ⟨x.toNat, by omega, by omega⟩
abbrev keyL (d : Nat) : Lit := .int .u16 (d : Int)
abbrev numL (n : Nat) : DataW Unit := .lit (.int .u64 (n : Int))
theorem key_is {d : Nat} (h : d < 65536) : keyOf Try.prog 32 (.int .u16 (d : Int)) = some (keyL d) := keyOf_int_mk Try.underlying32 (wf16 h)
theorem key_lit (d : Nat) : WideAt.IsKeyLit (keyL d) := trivial
theorem key_ne {d e : Nat} (h : e ≠ d) : keyL e ≠ keyL d := fun h2 => by
  injection h2 with _ h3
  exact h (by omega)
theorem same_key (d e : Nat) : (keyL e).sameKey (keyL d) = decide (e = d) := by
  by_cases h : e = d
  · subst h; simp [Lit.sameKey]
  · rw [Maps.sameKey_ne (key_ne h), decide_eq_false h]
/-- the map holds, at each device, what f says; no key but those of which f says something. -/
structure Holds (D : DataW Unit) (f : Nat → Nat) : Prop where
  at_ : ∀ d, d < 65536 → D.atKey (keyL d) (numL 0) = numL (f d)
  key : ∀ kl, Maps.has D kl = true → ∃ d, d < 65536 ∧ kl = keyL d ∧ 0 < f d
  some_ : ∀ d, 0 < f d → d < 65536 ∧ Maps.has D (keyL d) = true
theorem holds_none : Holds (.map []) (fun _ => 0) := ⟨fun d _ => rfl, (fun kl h => by cases h), (fun d h => absurd h (by omega))⟩
theorem Holds.put {D : DataW Unit} {f : Nat → Nat} (h : Holds D f) (hD : Maps.IsMap D) {d n : Nat} (hd : d < 65536) (hn : 0 < n) : Holds (D.put (keyL d) (numL n)) (fun e => if e = d then n else f e) := by
  refine ⟨fun e he => ?_, fun kl hk => ?_, fun e he => ?_⟩
  · by_cases hed : e = d
    · subst hed
      rw [Maps.atKey_put_same hD (key_lit _), if_pos rfl]
    · rw [Maps.atKey_put_other (key_ne hed), h.at_ e he, if_neg hed]
  · by_cases hed : kl = keyL d
    · exact ⟨d, hd, hed, by rw [if_pos rfl]; exact hn⟩
    · rw [Maps.has_put_other hed] at hk
      obtain ⟨e, he, rfl, hf⟩ := h.key kl hk
      have : e ≠ d := fun h2 => hed (by rw [h2])
      exact ⟨e, he, rfl, by rw [if_neg this]; exact hf⟩
  · by_cases hed : e = d
    · subst hed
      exact ⟨hd, Maps.has_put_same hD (key_lit _) _⟩
    · rw [if_neg hed] at he
      rw [Maps.has_put_other (key_ne hed)]
      exact h.some_ e he

/-- block b is a map that holds what f says, of at most n entries. -/
def MapAt (w : World) (b n : Nat) (f : Nat → Nat) : Prop := ∃ D : DataW Unit, w.ownsMap Try.prog 32 (plainElem Try.prog 33) b n D ∧ Holds D f
theorem MapAt.lt {w : World} {b n : Nat} {f : Nat → Nat} (h : MapAt w b n f) : b < w.heap.size := by
  obtain ⟨D, h1, _⟩ := h
  exact h1.lt
theorem MapAt.below {w w' : World} {B b n : Nat} {f : Nat → Nat} (h : MapAt w b n f) (hb : Below B w w') (hB : b < B) : MapAt w' b n f := by
  obtain ⟨D, ⟨es, clock, h1, h2⟩, h3⟩ := h
  exact ⟨D, ⟨es, clock, (hb.block b hB).trans h1, h2⟩, h3⟩
theorem MapAt.more {w : World} {b n n' : Nat} {f : Nat → Nat} (h : MapAt w b n f) (hn : n ≤ n') : MapAt w b n' f := by
  obtain ⟨D, h1, h2⟩ := h
  exact ⟨D, h1.mono hn, h2⟩
theorem MapAt.turn {w : World} {b n : Nat} {f g : Nat → Nat} (h : MapAt w b n f) (e : f = g) : MapAt w b n g := e ▸ h
/-- a map of devices has at most 65536 entries. -/
theorem few_nat (l : List Nat) (n : Nat) (hn : l.Nodup) (h : ∀ x ∈ l, x < n) : l.length ≤ n := by
  induction n generalizing l with
  | zero =>
    cases l with
    | nil => exact Nat.le_refl _
    | cons x l => exact absurd (h x (List.mem_cons_self ..)) (by omega)
  | succ n ih =>
    by_cases hm : n ∈ l
    · have h1 := ih (l.erase n) (hn.erase n) (fun x hx => by
        have h2 := h x (List.mem_of_mem_erase hx)
        have h3 : x ≠ n := fun e => by rw [e] at hx; exact (hn.not_mem_erase) hx
        omega)
      rw [List.length_erase_of_mem hm] at h1
      omega
    · have h1 := ih l hn (fun x hx => by
        have h2 := h x hx
        have h3 : x ≠ n := fun e => hm (e ▸ hx)
        omega)
      omega
def devL : Lit → Nat
  | .int _ x => x.toNat
  | _ => 0
theorem Holds.size {D : DataW Unit} {f : Nat → Nat} (h : Holds D f) {es : List (Lit × DataW Unit)} (hD : D = .map es) (hp : es.Pairwise (fun p q => p.1 ≠ q.1)) (hk : ∀ p ∈ es, WideAt.IsKeyLit p.1) : es.length ≤ 65536 := by
  have hd : ∀ p ∈ es, ∃ d, d < 65536 ∧ p.1 = keyL d := fun p hp1 => by
    obtain ⟨d, h1, h2, _⟩ := h.key p.1 (by
      rw [hD]
      exact List.any_eq_true.2 ⟨p, hp1, WideAt.sameKey_self (hk p hp1)⟩)
    exact ⟨d, h1, h2⟩
  have h1 := few_nat (es.map (fun p => devL p.1)) 65536 (by
    refine List.pairwise_map.2 (hp.imp_of_mem fun {p q} hp1 hq1 hne e => ?_)
    obtain ⟨d, _, e1⟩ := hd p hp1
    obtain ⟨d2, _, e2⟩ := hd q hq1
    rw [e1, e2] at e
    have : d = d2 := by simpa [devL] using e
    exact hne (by rw [e1, e2, this])) (fun x hx => by
    obtain ⟨p, hp1, rfl⟩ := List.mem_map.1 hx
    obtain ⟨d, h1, e1⟩ := hd p hp1
    rw [e1]
    simpa [devL] using h1)
  simpa using h1
theorem MapAt.tight {w : World} {b n : Nat} {f : Nat → Nat} (h : MapAt w b n f) : MapAt w b 65536 f := by
  obtain ⟨D, h1, h2⟩ := h
  obtain ⟨es, hD, hp, hk⟩ := h1.entries law16
  have hs := h2.size hD hp hk
  obtain ⟨es', clock, hb, F, _, hD'⟩ := h1
  have h3 : es.length = es'.size := by
    rw [hD'] at hD
    injection hD with hD
    rw [← hD]
    exact length_read es'
  exact ⟨D, ⟨es', clock, hb, F, by omega, hD'⟩, h2⟩
end Go.Proofs.Ytmhghgogehmehaa.Dt
