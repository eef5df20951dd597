/- FieldTells: the law's walk. -/
import Derived.Test.YtmaiilhfdiimjaaDoorFOf
namespace Go.Proofs.YtmaiilhfdiimjaaDoor.Fd
open Go.ChangeShapes Go.WideShapes Go.ChangeAt Go.RowKit
set_option linter.unusedVariables false

set_option maxHeartbeats 8000000 in
theorem tells_walk (w : World) (f : Nat) (s : ByteArray) (hf : f < 256) (hs : s.size ≤ 281474976710656) (hN : Names w) :
    Calls Tryd.prog 3 #[.int .u8 (f : Int), .string s] w fun e w' => e = .returned (.bool true) ∧ Below w.heap.size w w' := by
  have C1 := pof_any s w hN
  have C2 := rof_any s w
  have C3 := pgood_any w f hf
  have C4 := rgood_any w f hf
  have C5 := pname_any w f hf hN
  have C6 := rname_any w f hf
  have C7 := ptext_any s w (by omega)
  have C8 := rtext_any s w (by omega)
  generalize ofB s.data.toList = x at C1 C2
  obtain ⟨x1, x2⟩ := x
  unfold ofV at C1 C2
  simp only at C1 C2
  generalize goodB f = g at C3 C4
  generalize ba (nameB f) = n at C5 C6
  generalize textB s.data.toList = t at C7 C8
  clear hN
  go_enter Tryd.func3, Tryd.ntmps3
  go_wp2_with fail
  refine C1.mono ?_
  rintro e w' ⟨rfl, rfl⟩
  go_wp2_with fail
  refine C2.mono ?_
  rintro e w' ⟨rfl, rfl⟩
  go_wp2_with fail
  refine C3.mono ?_
  rintro e w' ⟨rfl, rfl⟩
  go_wp2_with fail
  refine C4.mono ?_
  rintro e w' ⟨rfl, rfl⟩
  go_wp2_with fail
  refine C5.mono ?_
  rintro e w' ⟨rfl, rfl⟩
  go_wp2_with fail
  refine C6.mono ?_
  rintro e w' ⟨rfl, rfl⟩
  go_wp2_with fail
  refine C7.mono ?_
  rintro e w' ⟨rfl, rfl⟩
  go_wp2_with fail
  refine C8.mono ?_
  rintro e w' ⟨rfl, rfl⟩
  go_wp2_with fail
  refine (works_any _).mono ?_
  rintro e w6 ⟨rfl, hb6⟩
  have HB6 := Lib.hid hb6
  clear hb6
  go_wp2
  go_ret
  exact ⟨rfl, HB6.out⟩
end Go.Proofs.YtmaiilhfdiimjaaDoor.Fd
