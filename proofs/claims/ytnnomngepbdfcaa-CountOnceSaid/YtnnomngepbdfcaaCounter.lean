/- The contracts of count's own functions: what each call answers of a counter that New made, of nil, and of a plain one, and what it leaves. -/
import Derived.Test.YtnnomngepbdfcaaWords
import Derived.Deep.RegionWith
namespace Go.Proofs.Ytnnomngepbdfcaa.Co
open Go.ChangeShapes Go.WideShapes Go.ChangeAt Go.RowKit
set_option linter.unusedVariables false

theorem atMost_any (w : World) (n : Nat) (hn : n < 18446744073709551616) :
    Calls Try.prog 17 #[.int .u64 (n : Int)] w fun e w' => e = .returned (.int .u64 ((capN n : Nat) : Int)) ∧ w = w' := by
  by_cases h : n < 281474976710656
  · rw [capN_le h]
    go_enter Try.func17, Try.ntmps17
    go_wp2
    go_ret
    exact ⟨rfl, rfl⟩
  · rw [capN_gt h]
    go_enter Try.func17, Try.ntmps17
    go_wp2
    go_ret
    exact ⟨rfl, rfl⟩
theorem counts_any (w : World) (g m k : Nat) (h : PC w g m k) :
    Calls Try.prog 18 #[.pointer (some ⟨g, 0, none⟩)] w fun e w' => e = .returned (.bool true) ∧ w = w' := by
  have c2 := At.cell h 2
  simp at c2
  clear h
  go_enter Try.func18, Try.ntmps18
  go_wp2
  go_ret
  exact ⟨rfl, rfl⟩
theorem counts_nil (w : World) :
    Calls Try.prog 18 #[.pointer none] w fun e w' => e = .returned (.bool false) ∧ w = w' := by
  go_enter Try.func18, Try.ntmps18
  go_wp2
  go_ret
  exact ⟨rfl, rfl⟩
theorem counts_plain (w : World) (g : Nat) (h : At w g 42 #[.int .u64 0, .int .u64 0, .bool false]) :
    Calls Try.prog 18 #[.pointer (some ⟨g, 0, none⟩)] w fun e w' => e = .returned (.bool false) ∧ w = w' := by
  have c2 := At.cell h 2
  simp at c2
  clear h
  go_enter Try.func18, Try.ntmps18
  go_wp2
  go_ret
  exact ⟨rfl, rfl⟩

/-- New: a counter in a new block. -/
theorem new_any (w : World) (n : Nat) (hn : n < 18446744073709551616) :
    Calls Try.prog 6 #[.int .u64 (n : Int)] w fun e w' => e = .returned (.pointer (some ⟨w.heap.size, 0, none⟩)) ∧ w.alloc (.cells #[.int .u64 0, .int .u64 ((capN n : Nat) : Int), .bool true] 42) = w' := by
  go_enter Try.func6, Try.ntmps6
  go_wp2_with fail
  refine (atMost_any w n hn).mono ?_
  rintro e w' ⟨rfl, rfl⟩
  go_wp2
  go_ret
  exact ⟨rfl, rfl⟩
/-- Now. -/
theorem now_any (w : World) (g m k : Nat) (h : PC w g m k) :
    Calls Try.prog 12 #[.pointer (some ⟨g, 0, none⟩)] w fun e w' => e = .returned (.int .u64 (m : Int)) ∧ w = w' := by
  have HP := Lib.hid h
  have c0 := At.cell h 0
  simp at c0
  clear h
  go_enter Try.func12, Try.ntmps12
  go_wp2_with fail
  refine (counts_any w g m k HP.out).mono ?_
  rintro e w' ⟨rfl, rfl⟩
  go_wp2
  go_ret
  exact ⟨rfl, rfl⟩
theorem now_nil (w : World) :
    Calls Try.prog 12 #[.pointer none] w fun e w' => e = .returned (.int .u64 0) ∧ w = w' := by
  go_enter Try.func12, Try.ntmps12
  go_wp2_with fail
  refine (counts_nil w).mono ?_
  rintro e w' ⟨rfl, rfl⟩
  go_wp2
  go_ret
  exact ⟨rfl, rfl⟩
theorem now_plain (w : World) (g : Nat) (h : At w g 42 #[.int .u64 0, .int .u64 0, .bool false]) :
    Calls Try.prog 12 #[.pointer (some ⟨g, 0, none⟩)] w fun e w' => e = .returned (.int .u64 0) ∧ w = w' := by
  go_enter Try.func12, Try.ntmps12
  go_wp2_with fail
  refine (counts_plain w g h).mono ?_
  rintro e w' ⟨rfl, rfl⟩
  go_wp2
  go_ret
  exact ⟨rfl, rfl⟩
theorem counts_quiet {f : FuncId} {args : Array Value} {w : World} {n : Nat} {v : Value} (h : Calls Try.prog f args (w.drewN n) fun e w' => e = .returned v ∧ w.drewN n = w') :
    Calls Try.prog f args (w.drewN n) fun e w'' => e = .returned v ∧ ∃ m, w'' = w.drewN m := h.mono fun _ _ q => ⟨q.1, n, q.2.symm⟩
theorem PC.drewN {w : World} {g m k : Nat} (h : PC w g m k) (n : Nat) : PC (w.drewN n) g m k := h
/-- Left. -/
theorem left_any (w : World) (g m k : Nat) (h : PC w g m k) (hm : m < 281474976710656) (hk : k < 281474976710656) :
    Calls Try.prog 13 #[.pointer (some ⟨g, 0, none⟩)] w fun e w' => e = .returned (.int .u64 ((leftM m k : Nat) : Int)) ∧ ∃ d, w.drewN d = w' := by
  have HP := Lib.hid h
  have c0 := At.cell h 0
  have c1 := At.cell h 1
  simp at c0 c1
  clear h
  by_cases hlt : k < m
  · have e0 : leftM m k = 0 := by unfold leftM; omega
    have hI : (k : Int) < (m : Int) := by omega
    rw [e0]
    clear e0
    go_enter Try.func13, Try.ntmps13
    go_wp2
    go_quiet ((go_at_call 18; exact counts_quiet (counts_any _ g m k (HP.out.drewN _))))
    go_wp2
    go_ret
    exact ⟨rfl, _, rfl⟩
  · have e0 : ((leftM m k : Nat) : Int) = (k : Int) - (m : Int) := by unfold leftM; omega
    have hd : decide ((k : Int) < (m : Int)) = false := decide_eq_false (by omega)
    rw [e0]
    clear e0
    go_enter Try.func13, Try.ntmps13
    go_wp2
    go_quiet ((go_at_call 18; exact counts_quiet (counts_any _ g m k (HP.out.drewN _))))
    go_wp2
    go_quiet (fail)
    go_wp2
    go_ret
    exact ⟨rfl, _, (World.drewN_drewN _ _ _).symm⟩
theorem left_nil (w : World) :
    Calls Try.prog 13 #[.pointer none] w fun e w' => e = .returned (.int .u64 0) ∧ ∃ d, w.drewN d = w' := by
  go_enter Try.func13, Try.ntmps13
  go_wp2
  go_quiet ((go_at_call 18; exact counts_quiet (counts_nil _)))
  go_wp2
  go_ret
  exact ⟨rfl, _, rfl⟩
theorem left_plain (w : World) (g : Nat) (h : At w g 42 #[.int .u64 0, .int .u64 0, .bool false]) :
    Calls Try.prog 13 #[.pointer (some ⟨g, 0, none⟩)] w fun e w' => e = .returned (.int .u64 0) ∧ ∃ d, w.drewN d = w' := by
  go_enter Try.func13, Try.ntmps13
  go_wp2
  go_quiet ((go_at_call 18; exact counts_quiet (counts_plain _ g h)))
  go_wp2
  go_ret
  exact ⟨rfl, _, rfl⟩

/-- a call that answers v, and leaves this counter. -/
def CPost (w : World) (g : Nat) (v : Value) (m k : Nat) (r : Ending) (w' : World) : Prop :=
  r = .returned v ∧ PC w' g m k ∧ w.grownBy w' (some g)
/-- Raise. -/
theorem raise_any (w : World) (g m k n : Nat) (h : PC w g m k) (hn : n < 18446744073709551616) :
    Calls Try.prog 8 #[.pointer (some ⟨g, 0, none⟩), .int .u64 (n : Int)] w (CPost w g (.tuple #[]) (riseM m n) k) := by
  have HP := Lib.hid h
  have c0 := At.cell h 0
  have f0 := At.frozen h 0
  simp at c0
  clear h
  go_enter Try.func8, Try.ntmps8
  go_wp2_with fail
  refine (counts_any w g m k HP.out).mono ?_
  rintro e w' ⟨rfl, rfl⟩
  go_wp2
  go_region_with (go_at_call 17; refine (atMost_any _ n hn).mono ?_; rintro e w' ⟨rfl, rfl⟩)
  all_goals
    rw [riseM_int]
    go_end0
    exact ⟨rfl, (At.set HP.out 0 (.int .u64 ((riseM m n : Nat) : Int))).drew, (turn_set w g 0 _).trans (turn_drew _ _)⟩
theorem raise_nil (w : World) (n : Nat) :
    Calls Try.prog 8 #[.pointer none, .int .u64 (n : Int)] w fun e w' => e = .returned (.tuple #[]) ∧ w = w' := by
  go_enter Try.func8, Try.ntmps8
  go_wp2_with fail
  refine (counts_nil w).mono ?_
  rintro e w' ⟨rfl, rfl⟩
  go_wp2
  exact bodyPost_ret (results_none rfl _ _ _) rfl ⟨rfl, rfl⟩
/-- Next. -/
theorem next_some (w : World) (g m k : Nat) (h : PC w g m k) (hlt : m < k) (hk : k < 281474976710656) :
    Calls Try.prog 10 #[.pointer (some ⟨g, 0, none⟩)] w (CPost w g (.tuple #[.int .u64 ((m + 1 : Nat) : Int), .int .i64 0]) (m + 1) k) := by
  have HP := Lib.hid h
  have HL : Hid (((leftM m k : Nat) : Int) ≠ 0) := by show _ ≠ _; unfold leftM; omega
  clear h
  go_enter Try.func10, Try.ntmps10
  go_wp2_with fail
  refine (left_any w g m k HP.out (by omega) hk).mono ?_
  rintro e w' ⟨rfl, d, rfl⟩
  have c0 := At.cell (PC.drewN HP.out d) 0
  have f0 := At.frozen (PC.drewN HP.out d) 0
  simp at c0
  have hb : (((leftM m k : Nat) : Int) == 0) = false := by rw [beq_eq_false_iff_ne]; exact HL.out
  go_wp2
  go_ret2
  exact ⟨rfl, At.set (PC.drewN HP.out d) 0 (.int .u64 ((m + 1 : Nat) : Int)), (turn_drewN w d _).trans (turn_set _ g 0 _)⟩
theorem next_none (w : World) (g m k : Nat) (h : PC w g m k) (hlt : ¬ m < k) (hm : m < 281474976710656) (hk : k < 281474976710656) :
    Calls Try.prog 10 #[.pointer (some ⟨g, 0, none⟩)] w (CPost w g (.tuple #[.int .u64 0, .int .i64 9]) m k) := by
  have HP := Lib.hid h
  have HL : Hid (leftM m k = 0) := by show _ = _; unfold leftM; omega
  clear h
  go_enter Try.func10, Try.ntmps10
  go_wp2_with fail
  refine (left_any w g m k HP.out hm hk).mono ?_
  rintro e w' ⟨rfl, d, rfl⟩
  rw [HL.out]
  go_wp2
  go_ret2
  exact ⟨rfl, PC.drewN HP.out d, turn_drewN w d _⟩
/-- Next, in one. -/
theorem next_any (w : World) (g m k : Nat) (h : PC w g m k) (hm : m < 281474976710656) (hk : k < 281474976710656) :
    Calls Try.prog 10 #[.pointer (some ⟨g, 0, none⟩)] w (CPost w g (.tuple #[.int .u64 ((nextN m k : Nat) : Int), .int .i64 ((nextE m k : Nat) : Int)]) (nextM m k) k) := by
  unfold nextN nextE nextM
  by_cases hlt : m < k
  · rw [if_pos hlt, if_pos hlt, if_pos hlt]
    exact next_some w g m k h hlt hk
  · rw [if_neg hlt, if_neg hlt, if_neg hlt]
    exact next_none w g m k h hlt hm hk
theorem next_nil (w : World) :
    Calls Try.prog 10 #[.pointer none] w fun e w' => e = .returned (.tuple #[.int .u64 0, .int .i64 9]) ∧ ∃ d, w.drewN d = w' := by
  go_enter Try.func10, Try.ntmps10
  go_wp2_with fail
  refine (left_nil w).mono ?_
  rintro e w' ⟨rfl, d, rfl⟩
  go_wp2
  go_ret2
  exact ⟨rfl, _, rfl⟩
theorem next_plain (w : World) (g : Nat) (h : At w g 42 #[.int .u64 0, .int .u64 0, .bool false]) :
    Calls Try.prog 10 #[.pointer (some ⟨g, 0, none⟩)] w fun e w' => e = .returned (.tuple #[.int .u64 0, .int .i64 9]) ∧ ∃ d, w.drewN d = w' := by
  go_enter Try.func10, Try.ntmps10
  go_wp2_with fail
  refine (left_plain w g h).mono ?_
  rintro e w' ⟨rfl, d, rfl⟩
  go_wp2
  go_ret2
  exact ⟨rfl, _, rfl⟩
/-- Copy. -/
theorem copy_any (w : World) (g m k : Nat) (h : PC w g m k) :
    Calls Try.prog 16 #[.pointer (some ⟨g, 0, none⟩)] w fun e w' => e = .returned (.pointer (some ⟨w.heap.size, 0, none⟩)) ∧ PC w' w.heap.size m k ∧ Below w.heap.size w w' := by
  have HP := Lib.hid h
  have c0 := At.cell h 0
  have c1 := At.cell h 1
  have c2 := At.cell h 2
  simp at c0 c1 c2
  clear h
  go_enter Try.func16, Try.ntmps16
  go_wp2_with fail
  refine (counts_any w g m k HP.out).mono ?_
  rintro e w' ⟨rfl, rfl⟩
  go_wp2
  go_ret
  exact ⟨rfl, At.new _ _ _, below_new w _⟩
theorem copy_nil (w : World) :
    Calls Try.prog 16 #[.pointer none] w fun e w' => e = .returned (.pointer none) ∧ w = w' := by
  go_enter Try.func16, Try.ntmps16
  go_wp2_with fail
  refine (counts_nil w).mono ?_
  rintro e w' ⟨rfl, rfl⟩
  go_wp2
  go_ret
  exact ⟨rfl, rfl⟩
end Go.Proofs.Ytnnomngepbdfcaa.Co
