/- CtxTells: the law's walk (gen-ctells.py printed it). -/
import Derived.Test.YtegclhgfibfanaaMCSetsW
namespace Go.Proofs.Ytegclhgfibfanaa.Cx
open Go.ChangeShapes Go.WideShapes Go.ChangeAt Go.RowKit
set_option linter.unusedVariables false

/-- a call that tells, in a later world. -/
theorem later {w W : World} {f : Nat} {args : Array Value} {v : Value} (hW : Below w.heap.size w W) (h : Calls Try.prog f args W fun e V => e = .returned v ∧ Below W.heap.size W V) :
    Calls Try.prog f args W fun e V => e = .returned v ∧ Below w.heap.size w V :=
  h.mono fun _ _ ⟨h1, h2⟩ => ⟨h1, hW.trans (h2.mono hW.size)⟩
theorem later_ctx {w W : World} {f : Nat} {args : Array Value} {m : List Part} (hW : Below w.heap.size w W) (h : Calls Try.prog f args W (CtxHas W m)) :
    Calls Try.prog f args W fun e V => ∃ A n c, e = .returned (.slice A n c) ∧ CtxAt V A m n c ∧ Below w.heap.size w V ∧ Below W.heap.size W V :=
  h.mono fun e V ⟨A, n, c, e1, h1, h2⟩ => ⟨A, n, c, e1, h1, hW.trans (h2.mono hW.size), h2⟩
theorem later_dots {w W : World} {f : Nat} {args : Array Value} {m : List Dot} (hW : Below w.heap.size w W) (h : Calls Try.prog f args W (DotsHas W m)) :
    Calls Try.prog f args W fun e V => ∃ A n c, e = .returned (.slice A n c) ∧ DotsAt V A m n c ∧ Below w.heap.size w V ∧ Below W.heap.size W V :=
  h.mono fun e V ⟨A, n, c, e1, h1, h2⟩ => ⟨A, n, c, e1, h1, hW.trans (h2.mono hW.size), h2⟩
theorem later_runs {w W : World} {f : Nat} {args : Array Value} {m : List Run} (hW : Below w.heap.size w W) (h : Calls Try.prog f args W (RunsHas W m)) :
    Calls Try.prog f args W fun e V => ∃ A n c, e = .returned (.slice A n c) ∧ RunsAt V A m n c ∧ Below w.heap.size w V ∧ Below W.heap.size W V :=
  h.mono fun e V ⟨A, n, c, e1, h1, h2⟩ => ⟨A, n, c, e1, h1, hW.trans (h2.mono hW.size), h2⟩
end Go.Proofs.Ytegclhgfibfanaa.Cx
