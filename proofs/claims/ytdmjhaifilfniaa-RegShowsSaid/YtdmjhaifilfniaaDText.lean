/- The contracts of the document's answers for layer dot on texts: Decimal, Text. For every number and dot of their types. -/
import Derived.Test.YtdmjhaifilfniaaDOne
import Derived.Laws.IdiomStrings
import Derived.Laws.Concat
import Derived.Deep.RegionHeld3
import Derived.IntWalk
namespace Go.Proofs.Ytdmjhaifilfniaa.Dt
open Go.ChangeShapes Go.WideShapes Go.ChangeAt Go.RowKit
set_option linter.unusedVariables false

/-- a number's digits. -/
def digB (v : Nat) : UInt8 := UInt8.ofNat (48 + v % 10)
def decB (v : Nat) : List UInt8 := if h : v < 10 then [digB v] else decB (v / 10) ++ [digB v]
termination_by v
decreasing_by omega
theorem decB_small {v : Nat} (h : v < 10) : decB v = [digB v] := by rw [decB, dif_pos h]
theorem decB_more {v : Nat} (h : ¬ v < 10) : decB v = decB (v / 10) ++ [digB v] := by rw [decB, dif_neg h]
theorem decB_long (v k : Nat) (h : v < 10 ^ (k + 1)) : (decB v).length ≤ k + 1 := by
  induction k generalizing v with
  | zero => rw [decB_small (by simpa using h)]; simp
  | succ k ih =>
    by_cases h1 : v < 10
    · rw [decB_small h1]; simp
    · rw [decB_more h1, List.length_append]
      have := ih (v / 10) (by rw [Nat.pow_succ] at h; omega)
      simp; omega
def decA (v : Nat) : ByteArray := ⟨(decB v).toArray⟩
theorem decA_long {v : Nat} (h : v < 18446744073709551616) : (decA v).size ≤ 20 := by
  have := decB_long v 19 (by omega)
  simpa [decA, ByteArray.size] using this

theorem bel_drew {w W : World} (h : Below w.heap.size w W) : Below w.heap.size w W.drew := h.drew
/-- a dot's text. -/
def textA (d : Dot) : ByteArray := decA d.1 ++ ⟨#[46]⟩ ++ decA d.2
end Go.Proofs.Ytdmjhaifilfniaa.Dt
