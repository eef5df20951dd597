/- CtxSets: the law's walk (gen-csets.py printed it). -/
import Derived.Test.YtegclhgfibfanaaKD
namespace Go.Proofs.Ytegclhgfibfanaa.Cx
open Go.ChangeShapes Go.WideShapes Go.ChangeAt Go.RowKit
set_option linter.unusedVariables false

/-- the document's Eq of what is the same. -/
theorem eq_true (w : World) (A1 A2 : Option Addr) (a : List Part) (n1 n2 c1 c2 : Nat) (h1 : CtxAt w A1 a n1 c1) (h2 : CtxAt w A2 a n2 c2) :
    Calls Try.prog 10 #[.slice A1 n1 c1, .slice A2 n2 c2] w fun e w' => e = .returned (.bool true) ∧ Below w.heap.size w w' :=
  (req_any w A1 A2 a a n1 n2 c1 c2 h1 h2 (few_small h1)).mono fun _ _ ⟨h3, h4⟩ => ⟨by rw [h3, decide_eq_true rfl], h4⟩
end Go.Proofs.Ytegclhgfibfanaa.Cx
