/- The contract of pack's New: a reader of these bytes in a new block. -/
import Derived.Test.YtpleafcjacbkkaaText
namespace Go.Proofs.Ytpleafcjacbkkaa.Nu
open Go.ChangeShapes Go.WideShapes Go.ChangeAt Go.RowKit
set_option linter.unusedVariables false

/-- a new reader of these bytes. -/
def NewPost (w : World) (l : List Nat) (r : Ending) (w' : World) : Prop :=
  ∃ g, r = .returned (.pointer (some ⟨g, 0, none⟩)) ∧ w.heap.size ≤ g ∧ PR w' g g l 0 ∧ Below w.heap.size w w'
theorem new_any (w : World) (A : Option Addr) (l : List Nat) (n c : Nat) (hn : l.length = n) (hA : A = none → n = 0 ∧ c = 0) (hb : Bytes w w.heap.size A l) (hl : n ≤ 140737488355328) :
    Calls Try.prog 6 #[.slice A n c] w (NewPost w l) := by
  have hB := Lib.hid hb
  have HN := Lib.hid hn
  have HA := Lib.hid hA
  clear hb hn hA
  go_enter Try.func6, Try.ntmps6
  go_wp2_with fail
  refine (clone_any w A l n c HN.out HA.out hB.out hl).mono ?_
  rintro r w' ⟨A', n', c', rfl, h1, h2, h3, h4, h5, h6, _⟩
  have H1 := Lib.hid h1
  have H2 := Lib.hid h2
  have H5 := Lib.hid h5
  have H6 := Lib.hid h6
  clear h1 h2 h5 h6
  go_wp2
  go_ret
  refine ⟨w'.heap.size, rfl, H6.out.size, ⟨A', n', c', At.new _ _ _, (H2.out.below (below_new w' _)), H1.out, h3, h4, H5.out, fun h => absurd rfl h⟩, H6.out.alloc H6.out.size _⟩
end Go.Proofs.Ytpleafcjacbkkaa.Nu
