/- What the document's 'set' reckons, as plain functions. No program is walked here. -/
import Derived.Test.YtaoojiacdkabbaaPoints
namespace Go.Proofs.Ytaoojiacdkabbaa.Ru
set_option linter.unusedVariables false

/-- is a place in: 1 what both have, 2 what the first one has alone, else both together. -/
def inB (how : Int) (x y : Bool) : Bool := if how = 1 then x && y else if how = 2 then x && !y else x || y
/-- a stretch more. -/
def addR (o : List Run) (p q : Nat) : List Run :=
  match o.getLast? with
  | some r => if r.2 + 1 = p then o.dropLast ++ [(r.1, q - 1)] else o ++ [(p, q - 1)]
  | none => [(p, q - 1)]
def stS (a b : List Run) (how : Int) (P : List Nat) (o : List Run) (i : Nat) : List Run :=
  if inB how (has a (P.getD i 0)) (has b (P.getD i 0)) = true then addR o (P.getD i 0) (P.getD (i + 1) 0) else o
def stF (a b : List Run) (how : Int) (P : List Nat) (k : Nat) : List Run := (List.range k).foldl (stS a b how P) []
def setL (a b : List Run) (how : Int) : List Run := stF a b how (ptL (a ++ b)) ((ptL (a ++ b)).length - 1)
theorem stF_succ (a b : List Run) (how : Int) (P : List Nat) (k : Nat) : stF a b how P (k + 1) = stS a b how P (stF a b how P k) k := by
  unfold stF
  rw [List.range_succ, List.foldl_append]
  rfl
end Go.Proofs.Ytaoojiacdkabbaa.Ru
