/- The contract of the document's Rising of layer dot. For every list. -/
import Derived.Test.YtdmjhaifilfniaaDTell
import Derived.Test.YtdmjhaifilfniaaDText
namespace Go.Proofs.Ytdmjhaifilfniaa.Dt
open Go.ChangeShapes Go.WideShapes Go.ChangeAt Go.RowKit
set_option linter.unusedVariables false

/-- does each one stand ahead of the next one? -/
def riseB : List Dot → Bool
  | a :: b :: l => aheadD a b && riseB (b :: l)
  | _ => true
theorem riseB_snoc (l : List Dot) (x y : Dot) : riseB (l ++ [x] ++ [y]) = (riseB (l ++ [x]) && aheadD x y) := by
  induction l with
  | nil => simp [riseB]
  | cons a l ih =>
    cases l with
    | nil => simp [riseB]
    | cons b l =>
      simp only [List.cons_append, riseB] at ih ⊢
      rw [ih, Bool.and_assoc]
theorem riseB_part (l m : List Dot) (h : riseB (l ++ m) = true) : riseB l = true := by
  induction l with
  | nil => rfl
  | cons a l ih =>
    cases l with
    | nil => rfl
    | cons b l =>
      simp only [List.cons_append, riseB, Bool.and_eq_true] at ih h ⊢
      exact ⟨h.1, ih h.2⟩
theorem riseB_two {l : List Dot} {j : Nat} {x y : Dot} (hx : l[j]? = some x) (hy : l[j + 1]? = some y) : riseB (l.take (j + 2)) = (riseB (l.take (j + 1)) && aheadD x y) := by
  rw [take_next hy, take_next hx, riseB_snoc]
theorem cmp_sign (a b : Dot) : aheadD a b = false → 0 ≤ cmpD a b := by
  intro h
  unfold cmpD
  split
  · omega
  · rw [h]; simp
theorem Dots.cells {w : World} {B : Nat} {A : Option Addr} {l : List Dot} (h : Dots w B A l) {k : Nat} (hk : k < l.length) :
    ∃ (ad : Addr) (x : Dot), A = some ad ∧ ad.block < B ∧ l[k]? = some x ∧ x.1 < 65536 ∧ x.2 < 18446744073709551616 ∧ ∀ V, Below B w V → V.cell? (ad.add (k * 2)) = some (.int .u16 (x.1 : Int)) ∧ V.cell? ⟨(ad.add (k * 2)).block, (ad.add (k * 2)).off + 1, none⟩ = some (.int .u64 (x.2 : Int)) := by
  obtain ⟨ad, e, hB, _⟩ := h.2 (by rw [dv_length]; omega)
  obtain ⟨ad', lo, hi, e', hl, h1, h2, hc1, hc2⟩ := h.at_ hk
  obtain rfl : ad = ad' := by rw [e] at e'; exact Option.some.inj e'
  refine ⟨ad, (lo, hi), e, hB, hl, h1, h2, fun V hV => ⟨(hV.cell (by rw [block_add]; exact hB)).trans hc1, ?_⟩⟩
  rw [add_next]
  exact (hV.cell (by rw [block_add]; exact hB)).trans hc2

end Go.Proofs.Ytdmjhaifilfniaa.Dt
