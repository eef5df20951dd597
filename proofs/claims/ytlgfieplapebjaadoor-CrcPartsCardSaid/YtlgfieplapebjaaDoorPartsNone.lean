/- The walk of the law CrcParts at no bytes: it returns true; nothing that was there has changed. It asks that the package's table lies in its variable. -/
import Derived.Test.YtlgfieplapebjaaDoorLater
namespace Go.Proofs.YtlgfieplapebjaaDoor.Cr
open Go.ChangeShapes Go.WideShapes Go.ChangeAt Go.RowKit
set_option linter.unusedVariables false

set_option maxHeartbeats 8000000 in
theorem parts_none (w : World) (A : Option Addr) (c cut : Nat) (ht : Hid (Tab w)) (hc : c ≤ 9223372036854775807) (hcut : cut < 65536) :
    Calls Tryd.prog 4 #[.slice A 0 c, .int .u16 (cut : Int)] w fun e w' => e = .returned (.bool true) ∧ Below w.heap.size w w' := by
  obtain ⟨s, hs⟩ : ∃ s, Crc.more 0 [] = s := ⟨_, rfl⟩
  have r0 := Lib.hid hs
  have r3 : Hid (Crc.more (Crc.more (Crc.more 0 []) []) [] = s) := by
    show _ = _
    rw [Crc.more_nil, Crc.more_nil]; exact hs
  have r4 : Hid (Crc.more s [] = s) := by
    show _ = _
    rw [Crc.more_nil]
  have hsl : s < 4294967296 := by rw [← hs, Crc.more_nil]; decide
  clear hs
  have hb := Lib.hid (Bytes.none_ w w.heap.size A)
  go_enter Tryd.func4, Tryd.ntmps4
  go_wp2_with fail
  go_region_held3 (fun _ => True) (trivial) (first
    | (go_at_call 11; (with_reducible refine (works_later w _ ht.out ?_).mono ?_); (repeat (first | exact Below.refl _ _ | apply bel_drew | apply bel_alloc)); rintro e w' ⟨rfl, bw⟩)
    | (go_at_call 9; (with_reducible refine (more_later w _ s s 0 c A [] rfl r4.out hsl ht.out hb.out (by omega) ?_).mono ?_); (repeat (first | exact Below.refl _ _ | apply bel_drew | apply bel_alloc)); rintro e w' ⟨rfl, rfl⟩)
    | (go_at_call 7; (with_reducible refine (of_three_later w _ _ s 0 0 c c A A [] [] rfl rfl r3.out ht.out hb.out hb.out (by omega) (by omega) ?_ ?_ ?_ ?_).mono ?_); (repeat (first | exact Below.refl _ _ | apply bel_drew | apply bel_alloc)); (focus (simp [go_sem]; done)); (focus (simp [go_sem]; done)); (focus (simp [go_sem]; done)); rintro e w' ⟨rfl, rfl⟩)
    | (go_at_call 7; (with_reducible refine (of_one_later w _ _ s 0 c A [] rfl r0.out ht.out hb.out (by omega) ?_ ?_).mono ?_); (repeat (first | exact Below.refl _ _ | apply bel_drew | apply bel_alloc)); (focus (simp [go_sem]; done)); rintro e w' ⟨rfl, rfl⟩))
  all_goals (go_wp2; go_ret; exact ⟨rfl, by assumption⟩)
end Go.Proofs.YtlgfieplapebjaaDoor.Cr
