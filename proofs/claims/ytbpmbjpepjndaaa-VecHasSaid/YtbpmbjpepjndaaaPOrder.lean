/- The contract of the program's Order. For all vectors of at most 2^43 dots. -/
import Derived.Test.YtbpmbjpepjndaaaPBeyond
namespace Go.Proofs.Ytbpmbjpepjndaaa.Dt
open Go.ChangeShapes Go.WideShapes Go.ChangeAt Go.RowKit
set_option linter.unusedVariables false

theorem order_bools (a b : List Dot) : orderV a b = if mostV a b = true then (if mostV b a = true then 0 else -1) else (if mostV b a = true then 1 else 2) := by
  unfold orderV
  cases mostV a b <;> cases mostV b a <;> simp
set_option maxHeartbeats 1000000 in
theorem porder_any (w : World) (A1 A2 : Option Addr) (l1 l2 : List Dot) (n1 n2 c1 c2 : Nat) (h1 : VecAt w A1 l1 n1 c1) (h2 : VecAt w A2 l2 n2 c2) :
    Calls Try.prog 22 #[.slice A1 n1 c1, .slice A2 n2 c2] w fun e w' => e = .returned (.int .i64 (orderV l1 l2)) ∧ Below w.heap.size w w' := by
  have H1 := Lib.hid h1
  have H2 := Lib.hid h2
  have HO : Hid (orderV l1 l2 = if mostF (ofV l1) (ofV l2) = true then (if mostF (ofV l2) (ofV l1) = true then 0 else -1) else (if mostF (ofV l2) (ofV l1) = true then 1 else 2)) := order_bools l1 l2
  have C1 := ptold_any w A1 l1 n1 c1 h1.len h1.dots (Nat.le_trans h1.few (by decide))
  clear h1 h2
  generalize orderV l1 l2 = ans at HO ⊢
  go_enter Try.func22, Try.ntmps22
  go_wp2_with fail
  refine C1.mono ?_
  rintro e w1 ⟨rfl, hm1, hb1⟩
  have HM1 := Lib.hid hm1
  have HB1 := Lib.hid hb1
  have h2 := H2.out.up hb1
  have C2 := ptold_any w1 A2 l2 n2 c2 h2.len h2.dots (Nat.le_trans h2.few (by decide))
  clear hm1 hb1 C1 h2
  go_wp2_with fail
  refine C2.mono ?_
  rintro e w2 ⟨rfl, hm2, hb2⟩
  have HM1' := Lib.hid (HM1.out.below hb2 HM1.out.lt)
  have HM2 := Lib.hid hm2
  have HB2 : Hid (Below w.heap.size w w2) := Lib.hid (HB1.out.trans (hb2.mono HB1.out.size))
  have C3 := pbeyond_any w2 _ _ _ _ _ _ HM1'.out hm2
  clear hm2 hb2 C2
  generalize mostF (ofV l1) (ofV l2) = m1 at HO C3
  go_wp2_with fail
  refine C3.mono ?_
  rintro e w3 ⟨rfl, hb3⟩
  have C4 := pbeyond_any w3 _ _ _ _ _ _ (HM2.out.below hb3 HM2.out.lt) (HM1'.out.below hb3 HM1'.out.lt)
  have HB3 : Hid (Below w.heap.size w w3) := Lib.hid (HB2.out.trans (hb3.mono HB2.out.size))
  clear hb3 C3
  generalize mostF (ofV l2) (ofV l1) = m2 at HO C4
  go_wp2_with fail
  refine C4.mono ?_
  rintro e w4 ⟨rfl, hb4⟩
  have HB4 : Hid (Below w.heap.size w w4) := Lib.hid (HB3.out.trans (hb4.mono HB3.out.size))
  clear hb4 C4 HM1 HM1' HM2
  cases m1 <;> cases m2 <;> obtain rfl := HO.out
  all_goals
    go_wp2
    go_ret
    exact ⟨rfl, HB4.out⟩
end Go.Proofs.Ytbpmbjpepjndaaa.Dt
