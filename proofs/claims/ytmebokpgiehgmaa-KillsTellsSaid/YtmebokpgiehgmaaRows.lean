/-
  No cell of these rows narrows 'for every input' (looked for: loops, veiled, ifaces, maps, wideKeys, modest, calm, conditions, laid).
  DERIVED. THE GIVEN ROWS OF THIS SEAT. 3 by the template 'for every input the law returns true; each argument reads behind the call as it read before'; 0 by the template 'total and deterministic' (their statements: YtmebokpgiehgmaaTotals.lean).
  GIVEN WITH THE SEED: the statements are not yours to turn. If you find one false, say at which input.
  Laid BY PROGRAM, IN A SANDBOX (cutbox-rows.mjs): the forced cells as the released guide's own fill.sh prints them over the translation 8f0bfca6ee77101a… (all of the seat's roots in one cut). By AI agents, Wed Nov 11 2026. No macro, syntax, notation, axiom, sorry.
-/
import Derived.Test.YtmebokpgiehgmaaChecked
import GoSem.Claim
import GoSem.ClaimJoined
import GoSem.ClaimMapViews
import Derived.JoinedTies
import Derived.KernelRfl
namespace Go.Proofs.Ytmebokpgiehgmaa
/- THE CELL 'sum', in the pinned program and in every row, IS THE sha256 OF THE DUMP (.gsa) THAT YtmebokpgiehgmaaProg.lean LOADS. Nothing in Lean hashes anything: it is a label: what it is worth is what the hold of that sum in a sandbox is worth. -/
noncomputable def Try.pinned : Pinned := { name := "ytmebokpgiehgmaa", sum := "8f0bfca6ee77101add2bfb743e9a941c7e76fa675d1879465539de5da98b100b", checked := Try.checked }
namespace Rows
def none {H : Type} : Left H := { results := [], args := [] }

/-- 'epitaphlaw17.KillsTells': WHATEVER THE INPUT: true; the input reads as it did. -/
def killsTellsSpec : ChangeSpec := { name := "killsTells", fn := fun _ => fun
  | [d1, d2, d3] => { results := [.lit (.bool true)], args := [d1, d2, d3] }
  | _ => none }
def killsTellsRow : OpenClaim := { program := "ytmebokpgiehgmaa", sum := "8f0bfca6ee77101add2bfb743e9a941c7e76fa675d1879465539de5da98b100b", func := "epitaph/epitaphlaw17.KillsTells", spec := "killsTells", unfollowed := true, recurses := true, plainKeys := false, apart := false }
def KillsTellsSaid : Prop := killsTellsRow.holds Try.pinned (OpenSpec.ofChange killsTellsSpec)

/-- ITS FALSE NEIGHBOUR: 'it returns false'. Refute it at one input. -/
def killsTellsWrong : ChangeSpec := { name := "killsTells", fn := fun _ => fun
  | [d1, d2, d3] => { results := [.lit (.bool false)], args := [d1, d2, d3] }
  | _ => none }
def KillsTellsWrongFalsely : Prop := killsTellsRow.holds Try.pinned (OpenSpec.ofChange killsTellsWrong)

/-- 'epitaphlaw17.KillsNew': WHATEVER THE INPUT: true; the input reads as it did. -/
def killsNewSpec : ChangeSpec := { name := "killsNew", fn := fun _ => fun
  | [d1, d2] => { results := [.lit (.bool true)], args := [d1, d2] }
  | _ => none }
def killsNewRow : OpenClaim := { program := "ytmebokpgiehgmaa", sum := "8f0bfca6ee77101add2bfb743e9a941c7e76fa675d1879465539de5da98b100b", func := "epitaph/epitaphlaw17.KillsNew", spec := "killsNew", unfollowed := true, recurses := true, plainKeys := false, apart := false }
def KillsNewSaid : Prop := killsNewRow.holds Try.pinned (OpenSpec.ofChange killsNewSpec)

/-- ITS FALSE NEIGHBOUR: 'it returns false'. Refute it at one input. -/
def killsNewWrong : ChangeSpec := { name := "killsNew", fn := fun _ => fun
  | [d1, d2] => { results := [.lit (.bool false)], args := [d1, d2] }
  | _ => none }
def KillsNewWrongFalsely : Prop := killsNewRow.holds Try.pinned (OpenSpec.ofChange killsNewWrong)

/-- 'epitaphlaw17.KillsOrder': WHATEVER THE INPUT: true; the input reads as it did. -/
def killsOrderSpec : ChangeSpec := { name := "killsOrder", fn := fun _ => fun
  | [d1, d2, d3] => { results := [.lit (.bool true)], args := [d1, d2, d3] }
  | _ => none }
def killsOrderRow : OpenClaim := { program := "ytmebokpgiehgmaa", sum := "8f0bfca6ee77101add2bfb743e9a941c7e76fa675d1879465539de5da98b100b", func := "epitaph/epitaphlaw17.KillsOrder", spec := "killsOrder", unfollowed := true, recurses := true, plainKeys := false, apart := false }
def KillsOrderSaid : Prop := killsOrderRow.holds Try.pinned (OpenSpec.ofChange killsOrderSpec)

/-- ITS FALSE NEIGHBOUR: 'it returns false'. Refute it at one input. -/
def killsOrderWrong : ChangeSpec := { name := "killsOrder", fn := fun _ => fun
  | [d1, d2, d3] => { results := [.lit (.bool false)], args := [d1, d2, d3] }
  | _ => none }
def KillsOrderWrongFalsely : Prop := killsOrderRow.holds Try.pinned (OpenSpec.ofChange killsOrderWrong)

/- THE SECOND FORM. 'bulk': how many values and letters a reading holds, each counted each time it is reached (what is shared counts as often as it is met; a slice's spare places count too). A statement '..UptoSaid' is the law's where the arguments, and the package variables that the reading takes, are together of bulk at most 1048576: NARROWER than '..Said'. Prove '..Said' where nothing that the law and all that it calls make is longer than what came in: it says more and counts as full. Else prove '..UptoSaid'. A law counts once. -/
mutual
def uptoBulk {H : Type} : DataW H → Nat
  | .lit (.string bytes) => bytes.length + 1
  | .lit _ => 1
  | .nil => 1
  | .ptr d => uptoBulk d + 1
  | .slice elems spare => uptoBulkAll elems + uptoBulkAll spare + 1
  | .agg parts => uptoBulkAll parts + 1
  | .iface _ d => uptoBulk d + 1
  | .map entries => uptoBulkEntries entries + 1
  | .held _ => 1
def uptoBulkAll {H : Type} : List (DataW H) → Nat
  | [] => 0
  | d :: r => uptoBulk d + uptoBulkAll r
def uptoBulkEntries {H : Type} : List (Lit × DataW H) → Nat
  | [] => 0
  | x :: r => uptoBulkEntry x + uptoBulkEntries r
def uptoBulkEntry {H : Type} : Lit × DataW H → Nat
  | (.string bytes, d) => bytes.length + uptoBulk d + 1
  | (_, d) => uptoBulk d + 1
 end
def uptoSmall : (H : Type) → List (DataW H) → Bool := fun _ ds => decide (uptoBulkAll ds ≤ 1048576)
def OpenSpec.upto (s : _root_.Go.ChangeSpec) : _root_.Go.OpenSpec := { _root_.Go.OpenSpec.ofChange s with cond := some uptoSmall }

/-- 'epitaphlaw17.KillsTells', WHERE WHAT IT READS IS OF BULK AT MOST 1048576: true; the input reads as it did. -/
def killsTellsUptoRow : OpenClaim := { program := "ytmebokpgiehgmaa", sum := "8f0bfca6ee77101add2bfb743e9a941c7e76fa675d1879465539de5da98b100b", func := "epitaph/epitaphlaw17.KillsTells", spec := "killsTells", unfollowed := true, recurses := true, plainKeys := false, apart := false, narrowed := true }
def KillsTellsUptoSaid : Prop := killsTellsUptoRow.holds Try.pinned (OpenSpec.upto killsTellsSpec)

/-- 'epitaphlaw17.KillsNew', WHERE WHAT IT READS IS OF BULK AT MOST 1048576: true; the input reads as it did. -/
def killsNewUptoRow : OpenClaim := { program := "ytmebokpgiehgmaa", sum := "8f0bfca6ee77101add2bfb743e9a941c7e76fa675d1879465539de5da98b100b", func := "epitaph/epitaphlaw17.KillsNew", spec := "killsNew", unfollowed := true, recurses := true, plainKeys := false, apart := false, narrowed := true }
def KillsNewUptoSaid : Prop := killsNewUptoRow.holds Try.pinned (OpenSpec.upto killsNewSpec)

/-- 'epitaphlaw17.KillsOrder', WHERE WHAT IT READS IS OF BULK AT MOST 1048576: true; the input reads as it did. -/
def killsOrderUptoRow : OpenClaim := { program := "ytmebokpgiehgmaa", sum := "8f0bfca6ee77101add2bfb743e9a941c7e76fa675d1879465539de5da98b100b", func := "epitaph/epitaphlaw17.KillsOrder", spec := "killsOrder", unfollowed := true, recurses := true, plainKeys := false, apart := false, narrowed := true }
def KillsOrderUptoSaid : Prop := killsOrderUptoRow.holds Try.pinned (OpenSpec.upto killsOrderSpec)

end Rows
end Go.Proofs.Ytmebokpgiehgmaa
