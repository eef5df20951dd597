/-
  No cell of these rows narrows 'for every input' (looked for: loops, veiled, ifaces, maps, wideKeys, modest, calm, conditions, laid).
  DERIVED. THE GIVEN ROWS OF THIS SEAT. 2 by the template 'for every input the law returns true; each argument reads behind the call as it read before'; 0 by the template 'total and deterministic' (their statements: YtblgbbpbhcaodaaTotals.lean).
  GIVEN WITH THE SEED: the statements are not yours to turn. If you find one false, say at which input.
  Laid BY PROGRAM, IN A SANDBOX (cutbox-rows.mjs): the forced cells as the released guide's own fill.sh prints them over the translation 307ddafbb82f2a28… (all of the seat's roots in one cut). By AI agents, Wed Nov 11 2026. No macro, syntax, notation, axiom, sorry.
-/
import Derived.Test.YtblgbbpbhcaodaaChecked
import GoSem.Claim
import GoSem.ClaimJoined
import GoSem.ClaimMapViews
import Derived.JoinedTies
import Derived.KernelRfl
namespace Go.Proofs.Ytblgbbpbhcaodaa
/- THE CELL 'sum', in the pinned program and in every row, IS THE sha256 OF THE DUMP (.gsa) THAT YtblgbbpbhcaodaaProg.lean LOADS. Nothing in Lean hashes anything: it is a label: what it is worth is what the hold of that sum in a sandbox is worth. -/
noncomputable def Try.pinned : Pinned := { name := "ytblgbbpbhcaodaa", sum := "307ddafbb82f2a2806349e26247d689c3ffb74ae11182486a5ee65f56f457606", checked := Try.checked }
namespace Rows
def none {H : Type} : Left H := { results := [], args := [] }

/-- 'epitaphlaw16.EcodeWrites': WHATEVER THE INPUT: true; the input reads as it did. -/
def ecodeWritesSpec : ChangeSpec := { name := "ecodeWrites", fn := fun _ => fun
  | [d] => { results := [.lit (.bool true)], args := [d] }
  | _ => none }
def ecodeWritesRow : OpenClaim := { program := "ytblgbbpbhcaodaa", sum := "307ddafbb82f2a2806349e26247d689c3ffb74ae11182486a5ee65f56f457606", func := "epitaph/epitaphlaw16.EcodeWrites", spec := "ecodeWrites", unfollowed := true, recurses := true, apart := false }
def EcodeWritesSaid : Prop := ecodeWritesRow.holds Try.pinned (OpenSpec.ofChange ecodeWritesSpec)

/-- ITS FALSE NEIGHBOUR: 'it returns false'. Refute it at one input. -/
def ecodeWritesWrong : ChangeSpec := { name := "ecodeWrites", fn := fun _ => fun
  | [d] => { results := [.lit (.bool false)], args := [d] }
  | _ => none }
def EcodeWritesWrongFalsely : Prop := ecodeWritesRow.holds Try.pinned (OpenSpec.ofChange ecodeWritesWrong)

/-- 'epitaphlaw16.EcodeBack': WHATEVER THE INPUT: true; the input reads as it did. -/
def ecodeBackSpec : ChangeSpec := { name := "ecodeBack", fn := fun _ => fun
  | [d1, d2] => { results := [.lit (.bool true)], args := [d1, d2] }
  | _ => none }
def ecodeBackRow : OpenClaim := { program := "ytblgbbpbhcaodaa", sum := "307ddafbb82f2a2806349e26247d689c3ffb74ae11182486a5ee65f56f457606", func := "epitaph/epitaphlaw16.EcodeBack", spec := "ecodeBack", unfollowed := true, recurses := true, apart := false }
def EcodeBackSaid : Prop := ecodeBackRow.holds Try.pinned (OpenSpec.ofChange ecodeBackSpec)

/-- ITS FALSE NEIGHBOUR: 'it returns false'. Refute it at one input. -/
def ecodeBackWrong : ChangeSpec := { name := "ecodeBack", fn := fun _ => fun
  | [d1, d2] => { results := [.lit (.bool false)], args := [d1, d2] }
  | _ => none }
def EcodeBackWrongFalsely : Prop := ecodeBackRow.holds Try.pinned (OpenSpec.ofChange ecodeBackWrong)

/- THE SECOND FORM. 'bulk': how many values and letters a reading holds, each counted each time it is reached (what is shared counts as often as it is met; a slice's spare places count too). A statement '..UptoSaid' is the law's where the arguments, and the package variables that the reading takes, are together of bulk at most 1048576: NARROWER than '..Said'. Prove '..Said' where nothing that the law and all that it calls make is longer than what came in: it says more and counts as full. Else prove '..UptoSaid'. A law counts once. -/
mutual
def uptoBulk {H : Type} : DataW H → Nat
  | .lit (.string bytes) => bytes.length + 1
  | .lit _ => 1
  | .nil => 1
  | .ptr d => uptoBulk d + 1
  | .slice elems spare => uptoBulkAll elems + uptoBulkAll spare + 1
  | .agg parts => uptoBulkAll parts + 1
  | .iface _ d => uptoBulk d + 1
  | .map entries => uptoBulkEntries entries + 1
  | .held _ => 1
def uptoBulkAll {H : Type} : List (DataW H) → Nat
  | [] => 0
  | d :: r => uptoBulk d + uptoBulkAll r
def uptoBulkEntries {H : Type} : List (Lit × DataW H) → Nat
  | [] => 0
  | x :: r => uptoBulkEntry x + uptoBulkEntries r
def uptoBulkEntry {H : Type} : Lit × DataW H → Nat
  | (.string bytes, d) => bytes.length + uptoBulk d + 1
  | (_, d) => uptoBulk d + 1
 end
def uptoSmall : (H : Type) → List (DataW H) → Bool := fun _ ds => decide (uptoBulkAll ds ≤ 1048576)
def OpenSpec.upto (s : _root_.Go.ChangeSpec) : _root_.Go.OpenSpec := { _root_.Go.OpenSpec.ofChange s with cond := some uptoSmall }

/-- 'epitaphlaw16.EcodeWrites', WHERE WHAT IT READS IS OF BULK AT MOST 1048576: true; the input reads as it did. -/
def ecodeWritesUptoRow : OpenClaim := { program := "ytblgbbpbhcaodaa", sum := "307ddafbb82f2a2806349e26247d689c3ffb74ae11182486a5ee65f56f457606", func := "epitaph/epitaphlaw16.EcodeWrites", spec := "ecodeWrites", unfollowed := true, recurses := true, apart := false, narrowed := true }
def EcodeWritesUptoSaid : Prop := ecodeWritesUptoRow.holds Try.pinned (OpenSpec.upto ecodeWritesSpec)

/-- 'epitaphlaw16.EcodeBack', WHERE WHAT IT READS IS OF BULK AT MOST 1048576: true; the input reads as it did. -/
def ecodeBackUptoRow : OpenClaim := { program := "ytblgbbpbhcaodaa", sum := "307ddafbb82f2a2806349e26247d689c3ffb74ae11182486a5ee65f56f457606", func := "epitaph/epitaphlaw16.EcodeBack", spec := "ecodeBack", unfollowed := true, recurses := true, apart := false, narrowed := true }
def EcodeBackUptoSaid : Prop := ecodeBackUptoRow.holds Try.pinned (OpenSpec.upto ecodeBackSpec)

end Rows
end Go.Proofs.Ytblgbbpbhcaodaa
