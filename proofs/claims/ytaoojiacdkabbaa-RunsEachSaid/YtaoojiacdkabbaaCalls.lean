/- What the laws' walks share: contracts with their answers named. -/
import Derived.Test.YtaoojiacdkabbaaWorks
import Derived.Test.YtaoojiacdkabbaaOf
namespace Go.Proofs.Ytaoojiacdkabbaa.Ru
open Go.ChangeShapes Go.WideShapes Go.ChangeAt Go.RowKit Go.Shelf
set_option linter.unusedVariables false

theorem conv {f : FuncId} {args : Array Value} {w : World} {a b : Value} (h : Calls Try.prog f args w fun e w' => e = .returned a ∧ Below w.heap.size w w') (he : a = b) : Calls Try.prog f args w fun e w' => e = .returned b ∧ Below w.heap.size w w' := he ▸ h
theorem convS {f : FuncId} {args : Array Value} {w : World} {a b : Value} (h : Calls Try.prog f args w fun e w' => e = .returned a ∧ w' = w) (he : a = b) : Calls Try.prog f args w fun e w' => e = .returned b ∧ w' = w := he ▸ h
theorem eq_g (w : World) (A1 A2 : Option Addr) (l1 l2 : List Run) (n1 n2 c1 c2 : Nat) (e1 : l1.length = n1) (e2 : l2.length = n2) (h1 : Runs w w.heap.size A1 l1) (h2 : Runs w w.heap.size A2 l2) (h63 : n1 ≤ 9223372036854775807) :
    Calls Try.prog 10 #[.slice A1 n1 c1, .slice A2 n2 c2] w fun e w' => e = .returned (.bool (decide (l1 = l2))) ∧ Below w.heap.size w w' :=
  (eq_any w _ _ A1 A2 l1 l2 n1 n2 c1 c2 e1 e2 h1 h2 h63).mono fun _ _ ⟨h, q, hq⟩ => ⟨h, hq ▸ below_drewK (Below.refl _ _) q⟩
end Go.Proofs.Ytaoojiacdkabbaa.Ru
