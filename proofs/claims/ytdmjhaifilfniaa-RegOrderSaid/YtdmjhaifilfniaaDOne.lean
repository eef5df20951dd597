/- The contracts of the document's answers for layer dot on single dots: Good, Cmp, Pack, Split, Unpack. For every dot and number of their types. -/
import Derived.Test.YtdmjhaifilfniaaDWords
namespace Go.Proofs.Ytdmjhaifilfniaa.Dt
open Go.ChangeShapes Go.WideShapes Go.ChangeAt Go.RowKit
set_option linter.unusedVariables false

theorem below_new3 (w : World) (o1 o2 o3 : Obj) : Below w.heap.size w (((w.alloc o1).alloc o2).alloc o3) := by
  have h1 := below_new w o1
  have h2 := h1.alloc (Nat.le_trans (Nat.le_refl _) h1.size) o2
  exact h2.alloc h2.size o3
/-- may a dot be? -/
def mayD (d : Dot) : Bool := decide (1 ≤ d.1 ∧ 1 ≤ d.2 ∧ d.2 < 281474976710656)
theorem may_iff (d : Dot) : mayD d = true ↔ 1 ≤ d.1 ∧ 1 ≤ d.2 ∧ d.2 < 281474976710656 := decide_eq_true_iff
/-- which dot stands ahead? -/
def aheadD (a b : Dot) : Bool := decide (a.1 < b.1 ∨ (a.1 = b.1 ∧ a.2 < b.2))
def cmpD (a b : Dot) : Int := if a = b then 0 else if aheadD a b = true then -1 else 1
theorem cmp_same (a : Dot) : cmpD a a = 0 := if_pos rfl
theorem cmp_less {a b : Dot} (h : aheadD a b = true) : cmpD a b = -1 := by
  unfold cmpD
  rw [if_neg, if_pos h]
  rintro rfl
  have := of_decide_eq_true h
  omega
theorem cmp_more {a b : Dot} (h : aheadD b a = true) : cmpD a b = 1 := by
  have h2 := of_decide_eq_true h
  unfold cmpD
  rw [if_neg, if_neg]
  · intro h3
    have := of_decide_eq_true h3
    omega
  · rintro rfl
    omega
/-- the dot of a number. -/
def splitD (v : Nat) : Dot := (v / 281474976710656, v % 281474976710656)
def unpackD (v : Nat) : Dot × Bool := if mayD (splitD v) = true then (splitD v, true) else ((0, 0), false)
end Go.Proofs.Ytdmjhaifilfniaa.Dt
