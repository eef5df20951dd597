/- The contracts of field's special and Text and of the document's Text. For every byte and every text. -/
import Derived.Test.YtdmjhaifilfniaaFWords
namespace Go.Proofs.Ytdmjhaifilfniaa.Fd
open Go.ChangeShapes Go.WideShapes Go.ChangeAt Go.RowKit
set_option linter.unusedVariables false

theorem eq_byte (c : UInt8) (n : Nat) (hn : n < 256) : ((c.toNat : Int) == (n : Int)) = decide (c = UInt8.ofNat n) := by
  rw [Bool.eq_iff_iff, beq_iff_eq, decide_eq_true_iff]
  constructor
  · intro h
    apply UInt8.toNat_inj.1
    rw [UInt8.toNat_ofNat_of_lt' (by show n < 256; exact hn)]
    omega
  · intro h
    rw [h, UInt8.toNat_ofNat_of_lt' (by show n < 256; exact hn)]
theorem eq34 (c : UInt8) : ((c.toNat : Int) == 34) = decide (c = 34) := eq_byte c 34 (by decide)
theorem eq92 (c : UInt8) : ((c.toNat : Int) == 92) = decide (c = 92) := eq_byte c 92 (by decide)
theorem ne34 (c : UInt8) : ((c.toNat : Int) != 34) = !decide (c = 34) := by rw [bne, eq34]
theorem ne92 (c : UInt8) : ((c.toNat : Int) != 92) = !decide (c = 92) := by rw [bne, eq92]

end Go.Proofs.Ytdmjhaifilfniaa.Fd
