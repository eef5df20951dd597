/- The contract of the document's set of layer ctx: what two contexts come to. For every two contexts of at most 100 parts, of at most 100 runs each (gen-set.py printed it). -/
import Derived.Test.YtegclhgfibfanaaKC
import Derived.Deep.RegionHeld3
namespace Go.Proofs.Ytegclhgfibfanaa.Cx
open Go.ChangeShapes Go.WideShapes Go.ChangeAt Go.RowKit
set_option linter.unusedVariables false

theorem bel_drew {w W : World} (h : Below w.heap.size w W) : Below w.heap.size w W.drew := h.drew
theorem bel_alloc {w W : World} (o : Obj) (h : Below w.heap.size w W) : Below w.heap.size w (W.alloc o) := h.alloc h.size o
/-- a call that makes runs, in a later world. -/
theorem made_runs {w W : World} {f : Nat} {args : Array Value} {m : List Run} (hW : Below w.heap.size w W) (hm : Ru.InOrder m) (h : Calls Try.prog f args W (Ru.RunPost W m)) :
    Calls Try.prog f args W fun e V => ∃ A n c, e = .returned (.slice A n c) ∧ RunsAt V A m n c ∧ Below w.heap.size w V ∧ Below W.heap.size W V :=
  h.mono fun e V hp => by
    obtain ⟨A, n, c, e1, h1, h2, _⟩ := runs_post hp hm
    exact ⟨A, n, c, e1, h1, hW.trans (h2.mono hW.size), h2⟩
theorem pick_next {f : Nat → List Run} {l : List Dot} {k : Nat} {x : Dot} (h : l[k]? = some x) : (l.take (k + 1)).filterMap (fun x => oneC f x.1) = (l.take k).filterMap (fun x => oneC f x.1) ++ (if (f x.1).length = 0 then [] else [(x.1, f x.1)]) := by
  rw [List.take_add_one, h, List.filterMap_append]
  congr 1
  simp only [Option.toList_some]
  by_cases h0 : (f x.1).length = 0
  · rw [if_pos h0, List.filterMap_cons, show oneC f x.1 = none from if_pos h0]; rfl
  · rw [if_neg h0, List.filterMap_cons, show oneC f x.1 = some (x.1, f x.1) from if_neg h0]; rfl
theorem devs_len {a b : List Part} (ha : a.length ≤ 100) (hb : b.length ≤ 100) (hfa : FitC a) (hfb : FitC b) : Dt.Fit (devsC a b) ∧ (devsC a b).length ≤ 200 := by
  have h1 := step_fit a hfa [] (fun r hr => by cases hr) a.length
  rw [List.take_length] at h1
  have h2 := step_fit b hfb (a.foldl stepP []) h1.1 b.length
  rw [List.take_length] at h2
  refine ⟨h2.1, ?_⟩
  have h3 := h1.2
  have h4 := h2.2
  simp only [List.length_nil, Nat.zero_add] at h3
  unfold devsC
  omega
/-- what a round of set knows. -/
def SRel (w : World) (n : Nat) (g : Nat → List Part) (v i : Value) (wr : World) : Prop :=
  ∃ (k m : Nat) (A : Option Addr) (c : Nat) (ps : List PV), k ≤ n ∧ i = .int .i64 ((k : Nat) : Int) ∧ v = .slice A m c ∧ (g k).length = m ∧ wr.ownsRow w.heap.size 47 2 (.slice A m c) m (cv ps) ∧ Match wr ps (g k) ∧ Apart wr ps (Value.slice A m c).ownBlock ∧ Below w.heap.size w wr
theorem own_block_lt {w : World} {B k m c size : Nat} {e : TypeId} {A : Option Addr} {xs : List Value} (h : w.ownsRow B e size (.slice A m c) k xs) : ∀ r, (Value.slice A m c).ownBlock = some r → B ≤ r ∧ r < w.heap.size := by
  intro r hr
  cases A with
  | none => cases hr
  | some ad =>
    have e2 : ad.block = r := by simpa [Value.ownBlock] using hr
    have := h.lt ad.block rfl
    rw [e2] at this
    exact this

end Go.Proofs.Ytegclhgfibfanaa.Cx
