/- The contracts of the document's counter: what each of its functions answers. -/
import Derived.Test.YtnnomngepbdfcaaWords
import Derived.Deep.RegionWith
import Derived.Laws.Rows
import Derived.RegionTactic
namespace Go.Proofs.Ytnnomngepbdfcaa.Co
open Go.ChangeShapes Go.WideShapes Go.ChangeAt Go.RowKit
set_option linter.unusedVariables false

theorem info27 : (Try.prog.info? 27).map (·.size) = some 2 := by kernel_rfl
theorem results_cell_two {fn : Func} {p u v : Tmp} (h : fn.results = #[.cell p 27, .tmp u, .tmp v]) (tmps : Array Value) (w : World) (g : Nat) (c0 c1 : Value)
    (hp : tmps.getD p undef = .pointer (some ⟨g, 0, none⟩)) (hg : w.heap[g]? = some (.cells #[c0, c1] 27 (0, 0))) :
    (results fn tmps).run Try.prog w = .ok (.tuple #[.agg #[c0, c1], tmps.getD u undef, tmps.getD v undef]) w := by
  have hp' : tmps[p]?.getD undef = .pointer (some ⟨g, 0, none⟩) := by simpa using hp
  have hl := run_loadVar_row (P := Try.prog) w g 27 27 #[c0, c1] (0, 0) _ hg Try.underlying27 rfl info27
  simp [results, h, hp', asAddr, hl]
theorem below_two (w : World) (o1 o2 : Obj) : Below w.heap.size w ((w.alloc o1).alloc o2) := (below_new w o1).alloc (by show _ ≤ (w.heap.push o1).size; simp) o2

theorem rnew_any (w : World) (n : Nat) (hn : n < 18446744073709551616) :
    Calls Try.prog 7 #[.int .u64 (n : Int)] w fun e w' => e = .returned (rc 0 (capN n)) ∧ Below w.heap.size w w' := by
  by_cases h : n < 281474976710656
  · rw [capN_le h]
    have hd : decide ((281474976710655 : Int) < (n : Int)) = false := decide_eq_false (by omega)
    go_enter Try.func7, Try.ntmps7
    go_wp2
    exact bodyPost_ret (results_cell_row rfl _ _ _ 27 #[.int .u64 (n : Int), .int .u64 0] (0, 0) _ rfl (heap_alloc_new w _) Try.underlying27 rfl info27) rfl ⟨rfl, below_new w _⟩
  · rw [capN_gt h]
    have hd : decide ((281474976710655 : Int) < (n : Int)) = true := decide_eq_true (by omega)
    go_enter Try.func7, Try.ntmps7
    go_wp2
    exact bodyPost_ret (results_cell_row rfl _ _ _ 27 #[.int .u64 281474976710655, .int .u64 0] (0, 0) _ rfl (heap_alloc_new w _) Try.underlying27 rfl info27) rfl ⟨rfl, below_new w _⟩
theorem rraise_any (w : World) (m k n : Nat) (hm : m < 281474976710656) (hn : n < 18446744073709551616) :
    Calls Try.prog 9 #[rc m k, .int .u64 (n : Int)] w fun e w' => e = .returned (rc (riseM m n) k) ∧ Below w.heap.size w w' := by
  unfold riseM rc
  by_cases h : n < 281474976710656
  · rw [capN_le h]
    have hd : decide ((281474976710655 : Int) < (n : Int)) = false := decide_eq_false (by omega)
    by_cases h2 : m < n
    · rw [if_pos h2]
      go_enter Try.func9, Try.ntmps9
      go_wp2
      exact bodyPost_ret (results_cell_row rfl _ _ _ 27 #[.int .u64 (k : Int), .int .u64 (n : Int)] (0, 0) _ rfl (heap_alloc2_new w _ _) Try.underlying27 rfl info27) rfl ⟨rfl, below_two w _ _⟩
    · rw [if_neg h2]
      go_enter Try.func9, Try.ntmps9
      go_wp2
      exact bodyPost_ret (results_cell_row rfl _ _ _ 27 #[.int .u64 (k : Int), .int .u64 (m : Int)] (0, 0) _ rfl (heap_alloc2_new w _ _) Try.underlying27 rfl info27) rfl ⟨rfl, below_two w _ _⟩
  · rw [capN_gt h]
    have hd : decide ((281474976710655 : Int) < (n : Int)) = true := decide_eq_true (by omega)
    by_cases h2 : m < 281474976710655
    · rw [if_pos h2]
      have hd2 : decide ((m : Int) < (281474976710655 : Int)) = true := decide_eq_true (by omega)
      clear h h2
      go_enter Try.func9, Try.ntmps9
      go_wp2
      exact bodyPost_ret (results_cell_row rfl _ _ _ 27 #[.int .u64 (k : Int), .int .u64 281474976710655] (0, 0) _ rfl (heap_alloc2_new w _ _) Try.underlying27 rfl info27) rfl ⟨rfl, below_two w _ _⟩
    · rw [if_neg h2]
      have hd2 : decide ((m : Int) < (281474976710655 : Int)) = false := decide_eq_false (by omega)
      clear h h2
      go_enter Try.func9, Try.ntmps9
      go_wp2
      exact bodyPost_ret (results_cell_row rfl _ _ _ 27 #[.int .u64 (k : Int), .int .u64 (m : Int)] (0, 0) _ rfl (heap_alloc2_new w _ _) Try.underlying27 rfl info27) rfl ⟨rfl, below_two w _ _⟩
theorem rleft_any (w : World) (m k : Nat) (hm : m < 281474976710656) (hk : k < 281474976710656) :
    Calls Try.prog 14 #[rc m k] w fun e w' => e = .returned (.int .u64 ((leftM m k : Nat) : Int)) ∧ Below w.heap.size w w' := by
  unfold rc
  by_cases h2 : k ≤ m
  · have e0 : leftM m k = 0 := by unfold leftM; omega
    rw [e0]
    go_enter Try.func14, Try.ntmps14
    go_wp2
    go_ret
    exact ⟨rfl, below_new w _⟩
  · have e0 : ((leftM m k : Nat) : Int) = (k : Int) - (m : Int) := by unfold leftM; omega
    rw [e0]
    clear e0
    go_enter Try.func14, Try.ntmps14
    go_wp2
    go_ret
    exact ⟨rfl, below_new w _⟩
theorem rnext_any (w : World) (m k : Nat) (hm : m < 281474976710656) (hk : k < 281474976710656) :
    Calls Try.prog 11 #[rc m k] w fun e w' => e = .returned (.tuple #[rc (nextM m k) k, .int .u64 ((nextN m k : Nat) : Int), .int .i64 ((nextE m k : Nat) : Int)]) ∧ Below w.heap.size w w' := by
  unfold nextM nextN nextE rc
  by_cases h2 : m < k
  · rw [if_pos h2, if_pos h2, if_pos h2]
    go_enter Try.func11, Try.ntmps11
    go_wp2
    go_region
    all_goals
      go_wp2
      exact bodyPost_ret (results_cell_two rfl _ _ _ (.int .u64 (k : Int)) (.int .u64 ((m : Int) + 1)) rfl (heap_alloc2_new w _ _)) rfl ⟨rfl, (below_two w _ _).drew⟩
  · rw [if_neg h2, if_neg h2, if_neg h2]
    go_enter Try.func11, Try.ntmps11
    go_wp2
    exact bodyPost_ret (results_cell_two rfl _ _ _ (.int .u64 (k : Int)) (.int .u64 (m : Int)) rfl (heap_alloc2_new w _ _)) rfl ⟨rfl, below_two w _ _⟩
end Go.Proofs.Ytnnomngepbdfcaa.Co
