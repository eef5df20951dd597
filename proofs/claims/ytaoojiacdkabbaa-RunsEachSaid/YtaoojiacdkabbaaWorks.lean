/- The chapter's example, as the laws ask it. For every world. -/
import Derived.Test.YtaoojiacdkabbaaOf2
import Derived.Test.YtaoojiacdkabbaaRest
import Derived.Test.YtaoojiacdkabbaaLast
import Derived.Test.YtaoojiacdkabbaaGood
namespace Go.Proofs.Ytaoojiacdkabbaa.Ru
open Go.ChangeShapes Go.WideShapes Go.ChangeAt Go.RowKit Go.Shelf
set_option linter.unusedVariables false

theorem few_any (w : World) (A : Option Addr) (n c : Nat) : Calls Try.prog 8 #[.slice A n c] w fun e w' => e = .returned (.bool (decide (n ≤ 60))) ∧ w' = w := by
  have hd : decide (n ≤ 60) = decide ((n : Int) ≤ 60) := decide_eq_decide.2 (by omega)
  rw [hd]
  clear hd
  go_enter Try.func8, Try.ntmps8
  go_wp2
  go_ret
  exact ⟨rfl, rfl⟩

def exL : List Run := [(1, 2), (5, 6)]
theorem ex_order : InOrder exL := by
  refine ⟨fun r hr => ?_, by simp [exL]⟩
  simp only [exL, List.mem_cons, List.not_mem_nil, or_false] at hr
  rcases hr with rfl | rfl <;> decide
theorem ex_of : ofL [5, 1, 2, 6] = exL := by
  refine uniq (ofL_spec _).1 ex_order fun m => ?_
  rw [(ofL_spec _).2]
  rw [Bool.eq_iff_iff]
  simp [exL, has, mayR]
  omega
theorem ex_nrm : nrm exL = exL := (nrm_uniq ex_order fun _ => rfl).symm
theorem ex_first : firstR (nrm exL) = 3 := by rw [ex_nrm]; rfl
theorem ex_last : lastR (nrm exL) = 6 := by rw [ex_nrm]; rfl
theorem ex_size : sizeR (nrm exL) = 4 := by rw [ex_nrm]; rfl

set_option maxRecDepth 100000 in
theorem works_any (w : World) : Calls Try.prog 9 #[] w fun e w' => e = .returned (.bool true) ∧ Below w.heap.size w w' := by
  have L0 : Hid (Below w.heap.size w (w.alloc (.cells #[.int .u64 5, .int .u64 1, .int .u64 2, .int .u64 6] 28))) := below_new _ _
  have HNU : Nums (w.alloc (.cells #[.int .u64 5, .int .u64 1, .int .u64 2, .int .u64 6] 28)) (w.alloc (.cells #[.int .u64 5, .int .u64 1, .int .u64 2, .int .u64 6] 28)).heap.size (some ⟨w.heap.size, 0, none⟩) [5, 1, 2, 6] := by
    refine ⟨fun x hx => by simp only [List.mem_cons, List.not_mem_nil, or_false] at hx; rcases hx with rfl | rfl | rfl | rfl <;> decide, fun _ => ⟨_, rfl, by simp, fun j u hu => ?_⟩⟩
    rw [zero_add, World.cell?_alloc_new]
    simpa [nv] using hu
  have H1 := Lib.hid (pof_any _ (some ⟨w.heap.size, 0, none⟩) [5, 1, 2, 6] 4 4 rfl HNU (by omega))
  clear HNU
  go_enter Try.func9, Try.ntmps9
  go_wp2_with fail
  refine H1.out.mono ?_
  rw [ex_of]
  rintro e w1 p1
  obtain ⟨A, n, c, rfl, e1, a1, f1, f1', r1, o1, b1⟩ := post_runs p1 (fit_order ex_order)
  have W1 : Hid (Below w.heap.size w w1) := L0.out.trans (b1.mono L0.out.size)
  obtain rfl : n = 2 := e1.symm
  have R1 := Lib.hid r1
  have L1 : Hid (Below w1.heap.size w1 (w1.alloc (.cells #[.int .u64 1, .int .u64 2, .int .u64 5, .int .u64 6] 31))) := below_new _ _
  have H2 : Hid (Calls Try.prog 10 #[.slice A 2 c, .slice (some ⟨w1.heap.size, 0, none⟩) 2 2] (w1.alloc (.cells #[.int .u64 1, .int .u64 2, .int .u64 5, .int .u64 6] 31)) fun e w' => e = .returned (.bool (decide (exL = exL))) ∧ ∃ m, w' = (w1.alloc (.cells #[.int .u64 1, .int .u64 2, .int .u64 5, .int .u64 6] 31)).drewN m) := by
    refine eq_any _ _ (w1.heap.size + 1) A _ exL exL 2 2 c 2 rfl rfl (r1.up L1.out) ⟨fit_order ex_order, fun _ => ⟨_, rfl, by simp, fun j u hu => ?_⟩⟩ (by omega)
    rw [zero_add, World.cell?_alloc_new]
    simpa [exL, rv] using hu
  rw [decide_eq_true (rfl : exL = exL)] at H2
  clear p1 r1 o1 b1 a1
  go_wp2_with fail
  refine H2.out.mono ?_
  rintro e w2 ⟨rfl, q, rfl⟩
  have L2 : Hid (Below w1.heap.size w1 ((w1.alloc (.cells #[.int .u64 1, .int .u64 2, .int .u64 5, .int .u64 6] 31)).drewN q)) := below_drewK L1.out q
  generalize (w1.alloc (.cells #[.int .u64 1, .int .u64 2, .int .u64 5, .int .u64 6] 31)).drewN q = w2 at L2 ⊢
  have H3 := Lib.hid (pfirst_any w2 A exL 2 c rfl (R1.out.up L2.out) (by omega))
  rw [ex_first] at H3
  go_wp2_with fail
  refine H3.out.mono ?_
  rintro e w3 ⟨rfl, b3⟩
  have L3 : Hid (Below w1.heap.size w1 w3) := L2.out.trans (b3.mono L2.out.size)
  have H4 := Lib.hid (plast_any w3 A exL 2 c rfl (R1.out.up L3.out) (by omega))
  rw [ex_last] at H4
  clear b3
  go_wp2_with fail
  refine H4.out.mono ?_
  rintro e w4 ⟨rfl, b4⟩
  have L4 : Hid (Below w1.heap.size w1 w4) := L3.out.trans (b4.mono L3.out.size)
  have H5 := Lib.hid (psize_any w4 A exL 2 c rfl (R1.out.up L4.out) (by omega))
  rw [ex_size] at H5
  clear b4
  go_wp2_with fail
  refine H5.out.mono ?_
  rintro e w5 ⟨rfl, b5⟩
  have L5 : Hid (Below w.heap.size w w5) := W1.out.trans ((L4.out.trans (b5.mono L4.out.size)).mono W1.out.size)
  clear b5
  go_wp2
  go_ret
  exact ⟨rfl, L5.out⟩
end Go.Proofs.Ytaoojiacdkabbaa.Ru
