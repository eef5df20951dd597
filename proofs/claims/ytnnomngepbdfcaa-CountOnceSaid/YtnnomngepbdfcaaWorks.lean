/- The chapter's example holds, and the walk of the law CountNil: it returns true, for every number; nothing that was there has changed. -/
import Derived.Test.YtnnomngepbdfcaaCounter
namespace Go.Proofs.Ytnnomngepbdfcaa.Co
open Go.ChangeShapes Go.WideShapes Go.ChangeAt Go.RowKit
set_option linter.unusedVariables false

theorem PC.new (w : World) (k : Nat) : PC (w.alloc (.cells #[.int .u64 0, .int .u64 (k : Int), .bool true] 42)) w.heap.size 0 k := At.new _ _ _
theorem works_any (w : World) :
    Calls Try.prog 15 #[] w fun e w' => e = .returned (.bool true) ∧ Below w.heap.size w w' := by
  have HP0 : Hid (PC (w.alloc (.cells #[.int .u64 0, .int .u64 2, .bool true] 42)) w.heap.size 0 2) := PC.new w 2
  have HB0 : Hid (Below w.heap.size w (w.alloc (.cells #[.int .u64 0, .int .u64 2, .bool true] 42))) := below_new w _
  go_enter Try.func15, Try.ntmps15
  go_wp2_with fail
  refine (new_any w 2 (by decide)).mono ?_
  rintro e w' ⟨rfl, rfl⟩
  go_wp2_with fail
  refine (next_some _ _ _ _ HP0.out (by decide) (by decide)).mono ?_
  rintro e w1 ⟨rfl, hp1, hg1⟩
  have HP1 := Lib.hid hp1
  have HB1 := Lib.hid (HB0.out.grown hg1 HB0.out.size (fun k h => (by cases h; exact Nat.le_refl _)))
  clear hp1 hg1 HP0 HB0
  go_wp2_with fail
  refine (next_some _ _ _ _ HP1.out (by decide) (by decide)).mono ?_
  rintro e w2 ⟨rfl, hp2, hg2⟩
  have HP2 := Lib.hid hp2
  have HB2 := Lib.hid (HB1.out.grown hg2 HB1.out.size (fun k h => (by cases h; exact Nat.le_refl _)))
  clear hp2 hg2 HP1 HB1
  go_wp2_with fail
  refine (next_none _ _ _ _ HP2.out (by decide) (by decide) (by decide)).mono ?_
  rintro e w3 ⟨rfl, hp3, hg3⟩
  have HB3 := Lib.hid (HB2.out.grown hg3 HB2.out.size (fun k h => (by cases h; exact Nat.le_refl _)))
  clear hp3 hg3 HP2 HB2
  go_wp2
  go_ret
  exact ⟨rfl, HB3.out⟩

theorem nil_walk (w : World) (n : Nat) (hn : n < 18446744073709551616) :
    Calls Try.prog 5 #[.int .u64 (n : Int)] w fun e w' => e = .returned (.bool true) ∧ Below w.heap.size w w' := by
  go_enter Try.func5, Try.ntmps5
  go_wp2_with fail
  refine (raise_nil w n).mono ?_
  rintro e w' ⟨rfl, rfl⟩
  go_wp2_with fail
  refine (next_nil w).mono ?_
  rintro e w' ⟨rfl, d1, rfl⟩
  go_wp2_with fail
  refine (now_nil _).mono ?_
  rintro e w' ⟨rfl, rfl⟩
  go_wp2_with fail
  refine (left_nil _).mono ?_
  rintro e w' ⟨rfl, d2, rfl⟩
  go_wp2_with fail
  refine (copy_nil _).mono ?_
  rintro e w' ⟨rfl, rfl⟩
  obtain ⟨V, hV⟩ : ∃ V, V = w.drewN (d1 + d2) := ⟨_, rfl⟩
  have HV : Hid (Below w.heap.size w V) := by subst hV; exact below_drewN _ w _
  rw [← hV]
  clear hV
  have HP0 : Hid (At (V.alloc (.cells #[.int .u64 0, .int .u64 0, .bool false] 42)) V.heap.size 42 #[.int .u64 0, .int .u64 0, .bool false]) := At.new _ _ _
  have HB0 : Hid (Below w.heap.size w (V.alloc (.cells #[.int .u64 0, .int .u64 0, .bool false] 42))) := HV.out.alloc HV.out.size _
  go_wp2_with fail
  refine (next_plain _ _ HP0.out).mono ?_
  rintro e w' ⟨rfl, d3, rfl⟩
  go_wp2_with fail
  refine (now_plain _ _ (At.drewN HP0.out d3)).mono ?_
  rintro e w' ⟨rfl, rfl⟩
  go_wp2_with fail
  refine (left_plain _ _ (At.drewN HP0.out d3)).mono ?_
  rintro e w' ⟨rfl, d4, rfl⟩
  go_wp2_with fail
  refine (works_any _).mono ?_
  rintro e w' ⟨rfl, hb⟩
  have HB := Lib.hid ((HB0.out.trans (below_drewN _ _ (d3 + d4))).trans (hb.mono HB0.out.size))
  clear hb
  go_wp2
  go_ret
  exact ⟨rfl, HB.out⟩
end Go.Proofs.Ytnnomngepbdfcaa.Co
