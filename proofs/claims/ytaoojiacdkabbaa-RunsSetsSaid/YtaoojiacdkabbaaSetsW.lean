/- The walk of RunsSets: whatever the two lists. No condition but that the slices are slices. -/
import Derived.Test.YtaoojiacdkabbaaCalls
namespace Go.Proofs.Ytaoojiacdkabbaa.Ru
open Go.ChangeShapes Go.WideShapes Go.ChangeAt Go.RowKit Go.Shelf
set_option linter.unusedVariables false

set_option maxRecDepth 100000 in
set_option maxHeartbeats 8000000 in
theorem sets_walk (w : World) (A B : Option Addr) (a b : List Run) (m c q d : Nat) (ha : a.length = m) (hA : A = none → m = 0 ∧ c = 0) (hra : Runs w w.heap.size A a) (hb : b.length = q) (hB : B = none → q = 0 ∧ d = 0) (hrb : Runs w w.heap.size B b) :
    Calls Try.prog 3 #[.slice A m c, .slice B q d] w fun e w' => e = .returned (.bool true) ∧ Below w.heap.size w w' := by
  have HLa := Lib.hid ha
  have HAa := Lib.hid hA
  have HRa := Lib.hid hra
  have HLb := Lib.hid hb
  have HAb := Lib.hid hB
  have HRb := Lib.hid hrb
  have FW := Lib.hid (works_any w)
  clear ha hA hra hb hB hrb
  by_cases hm : m ≤ 60
  · have F1 := Lib.hid (convS (few_any w A m c) (congrArg Value.bool (decide_eq_true hm)))
    by_cases hq6 : q ≤ 60
    · have F2 := Lib.hid (convS (few_any w B q d) (congrArg Value.bool (decide_eq_true hq6)))
      have HW0 : Hid (Below w.heap.size w w) := Below.refl _ _
      obtain ⟨vw', vw⟩ : ∃ v, decide ((setL a b 2).length = 0) = v := ⟨_, rfl⟩
      obtain ⟨vs', vs⟩ : ∃ v, decide (nrm a = nrm b) = v := ⟨_, rfl⟩
      go_enter Try.func3, Try.ntmps3
      go_wp2_with fail
      refine F1.out.mono ?_
      rintro e w1 ⟨rfl, hw⟩
      obtain rfl : w = w1 := hw.symm
      go_wp2_with fail
      refine F2.out.mono ?_
      rintro e w1 ⟨rfl, hw⟩
      obtain rfl : w = w1 := hw.symm
      go_wp2_with fail
      clear F1 F2 FW
      have C1 := Lib.hid (pjoin_any w A B a b m q c d HLa.out HLb.out HAa.out HAb.out HRa.out HRb.out (by omega) (by omega))
      refine C1.out.mono ?_
      rintro e w1 p1
      obtain ⟨A1, n1, c1, rfl, e1, a1, f1, g1, r1, o1, b1⟩ := post_runs p1 (fit_order (set_spec a b 0).1)
      have HW1 : Hid (Below w.heap.size w w1) := HW0.out.trans (b1.mono HW0.out.size)
      have Sa1 := Lib.hid (HRa.out.up b1)
      have Sb1 := Lib.hid (HRb.out.up b1)
      have R1 := Lib.hid r1
      have E1 := Lib.hid e1
      have N1 := Lib.hid a1
      clear C1 b1 HW0 HRa HRb p1 r1 o1 e1 a1
      have C2 := Lib.hid (join_any w1 A B a b m q c d HLa.out HLb.out HAa.out HAb.out Sa1.out Sb1.out (by omega) (by omega))
      go_wp2_with fail
      refine C2.out.mono ?_
      rintro e w2 p2
      obtain ⟨A2, n2, c2, rfl, e2, a2, f2, g2, r2, o2, b2⟩ := post_runs p2 (fit_order (set_spec a b 0).1)
      have HW2 : Hid (Below w.heap.size w w2) := HW1.out.trans (b2.mono HW1.out.size)
      have Sa2 := Lib.hid (Sa1.out.up b2)
      have Sb2 := Lib.hid (Sb1.out.up b2)
      have Sx2 := Lib.hid (R1.out.up b2)
      have R2 := Lib.hid r2
      have E2 := Lib.hid e2
      have N2 := Lib.hid a2
      clear C2 b2 HW1 Sa1 Sb1 R1 p2 r2 o2 e2 a2
      have C3 := Lib.hid (conv (eq_g w2 A1 A2 (setL a b 0) (setL a b 0) n1 n2 c1 c2 E1.out E2.out Sx2.out R2.out (by omega)) (congrArg Value.bool (decide_eq_true rfl)))
      go_wp2_with fail
      refine C3.out.mono ?_
      rintro e w3 ⟨rfl, b3⟩
      have HW3 : Hid (Below w.heap.size w w3) := HW2.out.trans (b3.mono HW2.out.size)
      have Sa3 := Lib.hid (Sa2.out.up b3)
      have Sb3 := Lib.hid (Sb2.out.up b3)
      clear C3 b3 HW2 Sa2 Sb2
      have C4 := Lib.hid (pmeet_any w3 A B a b m q c d HLa.out HLb.out Sa3.out Sb3.out (by omega) (by omega))
      go_wp2_with fail
      refine C4.out.mono ?_
      rintro e w4 p4
      obtain ⟨A4, n4, c4, rfl, e4, a4, f4, g4, r4, o4, b4⟩ := post_runs p4 (fit_order (set_spec a b 1).1)
      have HW4 : Hid (Below w.heap.size w w4) := HW3.out.trans (b4.mono HW3.out.size)
      have Sa4 := Lib.hid (Sa3.out.up b4)
      have Sb4 := Lib.hid (Sb3.out.up b4)
      have R4 := Lib.hid r4
      have E4 := Lib.hid e4
      have N4 := Lib.hid a4
      clear C4 b4 HW3 Sa3 Sb3 p4 r4 o4 e4 a4
      have C5 := Lib.hid (meet_any w4 A B a b m q c d HLa.out HLb.out HAa.out HAb.out Sa4.out Sb4.out (by omega) (by omega))
      go_wp2_with fail
      refine C5.out.mono ?_
      rintro e w5 p5
      obtain ⟨A5, n5, c5, rfl, e5, a5, f5, g5, r5, o5, b5⟩ := post_runs p5 (fit_order (set_spec a b 1).1)
      have HW5 : Hid (Below w.heap.size w w5) := HW4.out.trans (b5.mono HW4.out.size)
      have Sa5 := Lib.hid (Sa4.out.up b5)
      have Sb5 := Lib.hid (Sb4.out.up b5)
      have Sx5 := Lib.hid (R4.out.up b5)
      have R5 := Lib.hid r5
      have E5 := Lib.hid e5
      have N5 := Lib.hid a5
      clear C5 b5 HW4 Sa4 Sb4 R4 p5 r5 o5 e5 a5
      have C6 := Lib.hid (conv (eq_g w5 A4 A5 (setL a b 1) (setL a b 1) n4 n5 c4 c5 E4.out E5.out Sx5.out R5.out (by omega)) (congrArg Value.bool (decide_eq_true rfl)))
      go_wp2_with fail
      refine C6.out.mono ?_
      rintro e w6 ⟨rfl, b6⟩
      have HW6 : Hid (Below w.heap.size w w6) := HW5.out.trans (b6.mono HW5.out.size)
      have Sa6 := Lib.hid (Sa5.out.up b6)
      have Sb6 := Lib.hid (Sb5.out.up b6)
      clear C6 b6 HW5 Sa5 Sb5
      have C7 := Lib.hid (pminus_any w6 A B a b m q c d HLa.out HLb.out Sa6.out Sb6.out (by omega) (by omega))
      go_wp2_with fail
      refine C7.out.mono ?_
      rintro e w7 p7
      obtain ⟨A7, n7, c7, rfl, e7, a7, f7, g7, r7, o7, b7⟩ := post_runs p7 (fit_order (set_spec a b 2).1)
      have HW7 : Hid (Below w.heap.size w w7) := HW6.out.trans (b7.mono HW6.out.size)
      have Sa7 := Lib.hid (Sa6.out.up b7)
      have Sb7 := Lib.hid (Sb6.out.up b7)
      have R7 := Lib.hid r7
      have E7 := Lib.hid e7
      have N7 := Lib.hid a7
      clear C7 b7 HW6 Sa6 Sb6 p7 r7 o7 e7 a7
      have C8 := Lib.hid (minus_any w7 A B a b m q c d HLa.out HLb.out HAa.out HAb.out Sa7.out Sb7.out (by omega) (by omega))
      go_wp2_with fail
      refine C8.out.mono ?_
      rintro e w8 p8
      obtain ⟨A8, n8, c8, rfl, e8, a8, f8, g8, r8, o8, b8⟩ := post_runs p8 (fit_order (set_spec a b 2).1)
      have HW8 : Hid (Below w.heap.size w w8) := HW7.out.trans (b8.mono HW7.out.size)
      have Sa8 := Lib.hid (Sa7.out.up b8)
      have Sb8 := Lib.hid (Sb7.out.up b8)
      have Sx8 := Lib.hid (R7.out.up b8)
      have R8 := Lib.hid r8
      have E8 := Lib.hid e8
      have N8 := Lib.hid a8
      clear C8 b8 HW7 Sa7 Sb7 R7 p8 r8 o8 e8 a8
      have C9 := Lib.hid (conv (eq_g w8 A7 A8 (setL a b 2) (setL a b 2) n7 n8 c7 c8 E7.out E8.out Sx8.out R8.out (by omega)) (congrArg Value.bool (decide_eq_true rfl)))
      go_wp2_with fail
      refine C9.out.mono ?_
      rintro e w9 ⟨rfl, b9⟩
      have HW9 : Hid (Below w.heap.size w w9) := HW8.out.trans (b9.mono HW8.out.size)
      have Sa9 := Lib.hid (Sa8.out.up b9)
      have Sb9 := Lib.hid (Sb8.out.up b9)
      clear C9 b9 HW8 Sa8 Sb8
      have C10 := Lib.hid (conv (within_any w9 A B a b m q c d HLa.out HLb.out Sa9.out Sb9.out (by omega) (by omega)) (congrArg Value.bool vw))
      go_wp2_with fail
      refine C10.out.mono ?_
      rintro e w10 ⟨rfl, b10⟩
      have HW10 : Hid (Below w.heap.size w w10) := HW9.out.trans (b10.mono HW9.out.size)
      have Sa10 := Lib.hid (Sa9.out.up b10)
      have Sb10 := Lib.hid (Sb9.out.up b10)
      clear C10 b10 HW9 Sa9 Sb9
      have C11 := Lib.hid (minus_any w10 A B a b m q c d HLa.out HLb.out HAa.out HAb.out Sa10.out Sb10.out (by omega) (by omega))
      go_wp2_with fail
      refine C11.out.mono ?_
      rintro e w11 p11
      obtain ⟨A11, n11, c11, rfl, e11, a11, f11, g11, r11, o11, b11⟩ := post_runs p11 (fit_order (set_spec a b 2).1)
      have HW11 : Hid (Below w.heap.size w w11) := HW10.out.trans (b11.mono HW10.out.size)
      have Sa11 := Lib.hid (Sa10.out.up b11)
      have Sb11 := Lib.hid (Sb10.out.up b11)
      have R11 := Lib.hid r11
      have E11 := Lib.hid e11
      have N11 := Lib.hid a11
      clear C11 b11 HW10 Sa10 Sb10 p11 r11 o11 e11 a11
      have hq11 : ((n11 : Int) == 0) = vw' := by rw [← vw, E11.out, Bool.eq_iff_iff, beq_iff_eq, decide_eq_true_iff]; omega
      have C12 := Lib.hid (conv (same_any w11 A B a b m q c d HLa.out HLb.out Sa11.out Sb11.out (by omega) (by omega)) (congrArg Value.bool vs))
      go_wp2_with fail
      refine C12.out.mono ?_
      rintro e w12 ⟨rfl, b12⟩
      have HW12 : Hid (Below w.heap.size w w12) := HW11.out.trans (b12.mono HW11.out.size)
      have Sa12 := Lib.hid (Sa11.out.up b12)
      have Sb12 := Lib.hid (Sb11.out.up b12)
      clear C12 b12 HW11 Sa11 Sb11
      have C13 := Lib.hid (norm_any w12 A a m c HLa.out HAa.out Sa12.out (by omega))
      go_wp2_with fail
      refine C13.out.mono ?_
      rintro e w13 p13
      obtain ⟨A13, n13, c13, rfl, e13, a13, f13, g13, r13, o13, b13⟩ := post_runs p13 (fit_order (nrm_spec a).1)
      have HW13 : Hid (Below w.heap.size w w13) := HW12.out.trans (b13.mono HW12.out.size)
      have Sb13 := Lib.hid (Sb12.out.up b13)
      have R13 := Lib.hid r13
      have E13 := Lib.hid e13
      have N13 := Lib.hid a13
      clear C13 b13 HW12 Sb12 p13 r13 o13 e13 a13
      have C14 := Lib.hid (norm_any w13 B b q d HLb.out HAb.out Sb13.out (by omega))
      go_wp2_with fail
      refine C14.out.mono ?_
      rintro e w14 p14
      obtain ⟨A14, n14, c14, rfl, e14, a14, f14, g14, r14, o14, b14⟩ := post_runs p14 (fit_order (nrm_spec b).1)
      have HW14 : Hid (Below w.heap.size w w14) := HW13.out.trans (b14.mono HW13.out.size)
      have Sx14 := Lib.hid (R13.out.up b14)
      have R14 := Lib.hid r14
      have E14 := Lib.hid e14
      have N14 := Lib.hid a14
      clear C14 b14 HW13 R13 p14 r14 o14 e14 a14
      have C15 := Lib.hid (conv (eq_g w14 A13 A14 (nrm a) (nrm b) n13 n14 c13 c14 E13.out E14.out Sx14.out R14.out (by omega)) (congrArg Value.bool vs))
      go_wp2_with fail
      refine C15.out.mono ?_
      rintro e w15 ⟨rfl, b15⟩
      have HW15 : Hid (Below w.heap.size w w15) := HW14.out.trans (b15.mono HW14.out.size)
      clear C15 b15 HW14 
      have C16 := Lib.hid (works_any w15)
      go_wp2_with fail
      refine C16.out.mono ?_
      rintro e w16 ⟨rfl, b16⟩
      have HW16 : Hid (Below w.heap.size w w16) := HW15.out.trans (b16.mono HW15.out.size)
      clear C16 b16 HW15 
      go_wp2
      go_ret
      exact ⟨rfl, HW16.out⟩
    · have F2 := Lib.hid (convS (few_any w B q d) (congrArg Value.bool (decide_eq_false hq6)))
      go_enter Try.func3, Try.ntmps3
      go_wp2_with fail
      refine F1.out.mono ?_
      rintro e w1 ⟨rfl, hw⟩
      obtain rfl : w = w1 := hw.symm
      go_wp2_with fail
      refine F2.out.mono ?_
      rintro e w1 ⟨rfl, hw⟩
      obtain rfl : w = w1 := hw.symm
      go_wp2_with fail
      refine FW.out.mono ?_
      rintro e w2 ⟨rfl, b2⟩
      go_wp2
      go_ret
      exact ⟨rfl, b2⟩
  · have F1 := Lib.hid (convS (few_any w A m c) (congrArg Value.bool (decide_eq_false hm)))
    go_enter Try.func3, Try.ntmps3
    go_wp2_with fail
    refine F1.out.mono ?_
    rintro e w1 ⟨rfl, hw⟩
    obtain rfl : w = w1 := hw.symm
    go_wp2_with fail
    refine FW.out.mono ?_
    rintro e w2 ⟨rfl, b2⟩
    go_wp2
    go_ret
    exact ⟨rfl, b2⟩
end Go.Proofs.Ytaoojiacdkabbaa.Ru
