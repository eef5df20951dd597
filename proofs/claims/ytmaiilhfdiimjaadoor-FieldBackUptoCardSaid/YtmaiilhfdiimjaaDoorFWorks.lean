/- The chapter's example of layer field: the law's own 'works' returns true. No condition. -/
import Derived.Test.YtmaiilhfdiimjaaDoorFPunq
namespace Go.Proofs.YtmaiilhfdiimjaaDoor.Fd
open Go.ChangeShapes Go.WideShapes Go.ChangeAt Go.RowKit
set_option linter.unusedVariables false

set_option maxHeartbeats 4000000 in
theorem works_any (w : World) : Calls Tryd.prog 13 #[] w fun e w' => e = .returned (.bool true) ∧ Below w.heap.size w w' := by
  have CU := fun W => punquote_any ⟨#[34, 97, 92, 34, 98, 34, 120]⟩ W (by decide)
  have CQ := fun W => pquote_any ⟨#[97, 34, 98]⟩ W (by decide)
  have e1 : unqV (unqB (⟨#[34, 97, 92, 34, 98, 34, 120]⟩ : ByteArray).data.toList) = .tuple #[.string ⟨#[97, 34, 98]⟩, .string ⟨#[120]⟩, .bool true] := rfl
  have e2 : ba (quoB (⟨#[97, 34, 98]⟩ : ByteArray).data.toList) = ⟨#[34, 97, 92, 34, 98, 34]⟩ := rfl
  rw [e1] at CU
  rw [e2] at CQ
  clear e1 e2
  go_enter Tryd.func13, Tryd.ntmps13
  go_wp2_with fail
  refine (CU _).mono ?_
  rintro e w1 ⟨rfl, hb1⟩
  have HB1 := Lib.hid hb1
  clear hb1
  go_wp2_with fail
  refine (CQ _).mono ?_
  rintro e w2 ⟨rfl, hb2⟩
  have HB2 : Hid (Below w.heap.size w w2) := HB1.out.trans (hb2.mono HB1.out.size)
  clear hb2
  go_wp2
  go_ret
  exact ⟨rfl, HB2.out⟩
end Go.Proofs.YtmaiilhfdiimjaaDoor.Fd
