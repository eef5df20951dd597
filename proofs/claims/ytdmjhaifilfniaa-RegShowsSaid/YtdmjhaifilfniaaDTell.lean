/- The contracts of the document's answers for layer dot that tell of lists: Same, Has, Rising. For every list. -/
import Derived.Test.YtdmjhaifilfniaaDOne
import Derived.Deep.RegionHeld3
namespace Go.Proofs.Ytdmjhaifilfniaa.Dt
open Go.ChangeShapes Go.WideShapes Go.ChangeAt Go.RowKit
set_option linter.unusedVariables false

theorem bel_drewN {B : Nat} {w W : World} (h : Below B w W) (m : Nat) : Below B w (W.drewN m) := h.trans ⟨rfl, rfl, rfl, Nat.le_refl _, fun _ _ => rfl⟩
theorem take_more {l m : List Dot} {k : Nat} {x : Dot} (h : l.take k = m.take k) (h1 : l[k]? = some x) (h2 : m[k]? = some x) : l.take (k + 1) = m.take (k + 1) := by
  rw [List.take_add_one, List.take_add_one, h, h1, h2]
theorem ne_at {l m : List Dot} {k : Nat} {x y : Dot} (h1 : l[k]? = some x) (h2 : m[k]? = some y) (hn : x ≠ y) : l ≠ m := by
  intro e
  rw [e, h2] at h1
  exact hn (Option.some.inj h1).symm
theorem take_next {l : List Dot} {k : Nat} {x : Dot} (h1 : l[k]? = some x) : l.take (k + 1) = l.take k ++ [x] := by
  rw [List.take_add_one, h1]; rfl
end Go.Proofs.Ytdmjhaifilfniaa.Dt
