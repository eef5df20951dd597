/- The walk of RunsLaws where the first list tells the number and the second one does. Condition: at most 1048576 runs a side. -/
import Derived.Test.YtaoojiacdkabbaaCalls
import Derived.Test.YtaoojiacdkabbaaLawsM
namespace Go.Proofs.Ytaoojiacdkabbaa.Ru
open Go.ChangeShapes Go.WideShapes Go.ChangeAt Go.RowKit Go.Shelf
set_option linter.unusedVariables false

set_option maxRecDepth 100000 in
set_option maxHeartbeats 16000000 in
theorem laws_tt (w : World) (A B : Option Addr) (a b : List Run) (m c q d n : Nat) (ha : a.length = m) (hA : A = none → m = 0 ∧ c = 0) (hra : Runs w w.heap.size A a) (hb : b.length = q) (hB : B = none → q = 0 ∧ d = 0) (hrb : Runs w w.heap.size B b)
    (h1 : m ≤ 1048576) (h2 : q ≤ 1048576) (va : has a n = true) (vb : has b n = true) :
    Calls Try.prog 5 #[.slice A m c, .slice B q d, .int .u64 (n : Int)] w fun e w' => e = .returned (.bool true) ∧ Below w.heap.size w w' := by
  have HLa := Lib.hid ha
  have HAa := Lib.hid hA
  have HRa := Lib.hid hra
  have HLb := Lib.hid hb
  have HAb := Lib.hid hB
  have HRb := Lib.hid hrb
  have HW0 : Hid (Below w.heap.size w w) := Below.refl _ _
  clear ha hA hra hb hB hrb
  obtain ⟨zj', zj⟩ : ∃ z, ((sizeR (nrm (setL a b 0)) : Nat) : Int) = z := ⟨_, rfl⟩
  obtain ⟨zm', zm⟩ : ∃ z, ((sizeR (nrm (setL a b 1)) : Nat) : Int) = z := ⟨_, rfl⟩
  obtain ⟨za', za⟩ : ∃ z, ((sizeR (nrm a) : Nat) : Int) = z := ⟨_, rfl⟩
  obtain ⟨zb', zb⟩ : ∃ z, ((sizeR (nrm b) : Nat) : Int) = z := ⟨_, rfl⟩
  obtain ⟨zs, hzs⟩ : ∃ z, IntKind.u64.wrap (zj' + zm') = z := ⟨_, rfl⟩
  have hzs2 : IntKind.u64.wrap (za' + zb') = zs := by
    rw [← hzs, ← zj, ← zm, ← za, ← zb]
    congr 1
    have := sizes a b
    omega
  go_enter Try.func5, Try.ntmps5
  go_wp2_with fail
  have C1 := Lib.hid (pjoin_any w A B a b m q c d HLa.out HLb.out HAa.out HAb.out HRa.out HRb.out (by omega) (by omega))
  refine C1.out.mono ?_
  rintro e w1 p1
  obtain ⟨A1, n1, c1, rfl, e1, a1, f1, g1, r1, o1, b1⟩ := post_runs p1 (fit_order (set_spec a b 0).1)
  have HW1 : Hid (Below w.heap.size w w1) := HW0.out.trans (b1.mono HW0.out.size)
  have Sa1 := Lib.hid (HRa.out.up b1)
  have Sb1 := Lib.hid (HRb.out.up b1)
  have R1 := Lib.hid r1
  have E1 := Lib.hid e1
  have N1 := Lib.hid a1
  have m1 : n1 ≤ 2097153 := by rw [← e1]; have h := set_length0 a b; rw [HLa.out, HLb.out] at h; omega
  clear C1 b1 HW0 HRa HRb p1 r1 o1 e1 a1
  have C2 := Lib.hid (pmeet_any w1 A B a b m q c d HLa.out HLb.out Sa1.out Sb1.out (by omega) (by omega))
  go_wp2_with fail
  refine C2.out.mono ?_
  rintro e w2 p2
  obtain ⟨A2, n2, c2, rfl, e2, a2, f2, g2, r2, o2, b2⟩ := post_runs p2 (fit_order (set_spec a b 1).1)
  have HW2 : Hid (Below w.heap.size w w2) := HW1.out.trans (b2.mono HW1.out.size)
  have Sa2 := Lib.hid (Sa1.out.up b2)
  have Sb2 := Lib.hid (Sb1.out.up b2)
  have Sj2 := Lib.hid (R1.out.up b2)
  have R2 := Lib.hid r2
  have E2 := Lib.hid e2
  have N2 := Lib.hid a2
  have m2 : n2 ≤ 2097153 := by rw [← e2]; have h := set_length1 a b; rw [HLa.out, HLb.out] at h; omega
  clear C2 b2 HW1 Sa1 Sb1 R1 p2 r2 o2 e2 a2
  have C3 := Lib.hid (pminus_any w2 A B a b m q c d HLa.out HLb.out Sa2.out Sb2.out (by omega) (by omega))
  go_wp2_with fail
  refine C3.out.mono ?_
  rintro e w3 p3
  obtain ⟨A3, n3, c3, rfl, e3, a3, f3, g3, r3, o3, b3⟩ := post_runs p3 (fit_order (set_spec a b 2).1)
  have HW3 : Hid (Below w.heap.size w w3) := HW2.out.trans (b3.mono HW2.out.size)
  have Sa3 := Lib.hid (Sa2.out.up b3)
  have Sb3 := Lib.hid (Sb2.out.up b3)
  have Sj3 := Lib.hid (Sj2.out.up b3)
  have Sm3 := Lib.hid (R2.out.up b3)
  have R3 := Lib.hid r3
  have E3 := Lib.hid e3
  have N3 := Lib.hid a3
  have m3 : n3 ≤ 2097153 := by rw [← e3]; have h := set_length2 a b; rw [HLa.out, HLb.out] at h; omega
  clear C3 b3 HW2 Sa2 Sb2 Sj2 R2 p3 r3 o3 e3 a3
  have C4 := Lib.hid (conv (phas_any w3 A1 (setL a b 0) n1 c1 n E1.out Sj3.out (by omega)) (congrArg Value.bool (show has (setL a b 0) n = true from by rw [has0, va, vb]; rfl)))
  go_wp2_with fail
  refine C4.out.mono ?_
  rintro e w4 ⟨rfl, b4⟩
  have HW4 : Hid (Below w.heap.size w w4) := HW3.out.trans (b4.mono HW3.out.size)
  have Sa4 := Lib.hid (Sa3.out.up b4)
  have Sb4 := Lib.hid (Sb3.out.up b4)
  have Sj4 := Lib.hid (Sj3.out.up b4)
  have Sm4 := Lib.hid (Sm3.out.up b4)
  have Sd4 := Lib.hid (R3.out.up b4)
  clear C4 b4 HW3 Sa3 Sb3 Sj3 Sm3 R3
  have C5 := Lib.hid (conv (phas_any w4 A a m c n HLa.out Sa4.out (by omega)) (congrArg Value.bool (show has a n = true from va)))
  go_wp2_with fail
  refine C5.out.mono ?_
  rintro e w5 ⟨rfl, b5⟩
  have HW5 : Hid (Below w.heap.size w w5) := HW4.out.trans (b5.mono HW4.out.size)
  have Sa5 := Lib.hid (Sa4.out.up b5)
  have Sb5 := Lib.hid (Sb4.out.up b5)
  have Sj5 := Lib.hid (Sj4.out.up b5)
  have Sm5 := Lib.hid (Sm4.out.up b5)
  have Sd5 := Lib.hid (Sd4.out.up b5)
  clear C5 b5 HW4 Sa4 Sb4 Sj4 Sm4 Sd4
  have C6 := Lib.hid (conv (phas_any w5 A2 (setL a b 1) n2 c2 n E2.out Sm5.out (by omega)) (congrArg Value.bool (show has (setL a b 1) n = true from by rw [has1, va, vb]; rfl)))
  go_wp2_with fail
  refine C6.out.mono ?_
  rintro e w6 ⟨rfl, b6⟩
  have HW6 : Hid (Below w.heap.size w w6) := HW5.out.trans (b6.mono HW5.out.size)
  have Sa6 := Lib.hid (Sa5.out.up b6)
  have Sb6 := Lib.hid (Sb5.out.up b6)
  have Sj6 := Lib.hid (Sj5.out.up b6)
  have Sm6 := Lib.hid (Sm5.out.up b6)
  have Sd6 := Lib.hid (Sd5.out.up b6)
  clear C6 b6 HW5 Sa5 Sb5 Sj5 Sm5 Sd5
  have C7 := Lib.hid (conv (phas_any w6 A a m c n HLa.out Sa6.out (by omega)) (congrArg Value.bool (show has a n = true from va)))
  go_wp2_with fail
  refine C7.out.mono ?_
  rintro e w7 ⟨rfl, b7⟩
  have HW7 : Hid (Below w.heap.size w w7) := HW6.out.trans (b7.mono HW6.out.size)
  have Sa7 := Lib.hid (Sa6.out.up b7)
  have Sb7 := Lib.hid (Sb6.out.up b7)
  have Sj7 := Lib.hid (Sj6.out.up b7)
  have Sm7 := Lib.hid (Sm6.out.up b7)
  have Sd7 := Lib.hid (Sd6.out.up b7)
  clear C7 b7 HW6 Sa6 Sb6 Sj6 Sm6 Sd6
  have C8 := Lib.hid (conv (phas_any w7 B b q d n HLb.out Sb7.out (by omega)) (congrArg Value.bool (show has b n = true from vb)))
  go_wp2_with fail
  refine C8.out.mono ?_
  rintro e w8 ⟨rfl, b8⟩
  have HW8 : Hid (Below w.heap.size w w8) := HW7.out.trans (b8.mono HW7.out.size)
  have Sa8 := Lib.hid (Sa7.out.up b8)
  have Sb8 := Lib.hid (Sb7.out.up b8)
  have Sj8 := Lib.hid (Sj7.out.up b8)
  have Sm8 := Lib.hid (Sm7.out.up b8)
  have Sd8 := Lib.hid (Sd7.out.up b8)
  clear C8 b8 HW7 Sa7 Sb7 Sj7 Sm7 Sd7
  have C9 := Lib.hid (conv (phas_any w8 A3 (setL a b 2) n3 c3 n E3.out Sd8.out (by omega)) (congrArg Value.bool (show has (setL a b 2) n = false from by rw [has2, va, vb]; rfl)))
  go_wp2_with fail
  refine C9.out.mono ?_
  rintro e w9 ⟨rfl, b9⟩
  have HW9 : Hid (Below w.heap.size w w9) := HW8.out.trans (b9.mono HW8.out.size)
  have Sa9 := Lib.hid (Sa8.out.up b9)
  have Sb9 := Lib.hid (Sb8.out.up b9)
  have Sj9 := Lib.hid (Sj8.out.up b9)
  have Sm9 := Lib.hid (Sm8.out.up b9)
  have Sd9 := Lib.hid (Sd8.out.up b9)
  clear C9 b9 HW8 Sa8 Sb8 Sj8 Sm8 Sd8
  have C10 := Lib.hid (conv (phas_any w9 A a m c n HLa.out Sa9.out (by omega)) (congrArg Value.bool (show has a n = true from va)))
  go_wp2_with fail
  refine C10.out.mono ?_
  rintro e w10 ⟨rfl, b10⟩
  have HW10 : Hid (Below w.heap.size w w10) := HW9.out.trans (b10.mono HW9.out.size)
  have Sa10 := Lib.hid (Sa9.out.up b10)
  have Sb10 := Lib.hid (Sb9.out.up b10)
  have Sj10 := Lib.hid (Sj9.out.up b10)
  have Sm10 := Lib.hid (Sm9.out.up b10)
  have Sd10 := Lib.hid (Sd9.out.up b10)
  clear C10 b10 HW9 Sa9 Sb9 Sj9 Sm9 Sd9
  have C11 := Lib.hid (conv (phas_any w10 B b q d n HLb.out Sb10.out (by omega)) (congrArg Value.bool (show has b n = true from vb)))
  go_wp2_with fail
  refine C11.out.mono ?_
  rintro e w11 ⟨rfl, b11⟩
  have HW11 : Hid (Below w.heap.size w w11) := HW10.out.trans (b11.mono HW10.out.size)
  have Sa11 := Lib.hid (Sa10.out.up b11)
  have Sb11 := Lib.hid (Sb10.out.up b11)
  have Sj11 := Lib.hid (Sj10.out.up b11)
  have Sm11 := Lib.hid (Sm10.out.up b11)
  have Sd11 := Lib.hid (Sd10.out.up b11)
  clear C11 b11 HW10 Sa10 Sb10 Sj10 Sm10 Sd10
  have C12 := Lib.hid (conv (psize_any w11 A1 (setL a b 0) n1 c1 E1.out Sj11.out (by omega)) (congrArg (Value.int .u64) zj))
  go_wp2_with fail
  refine C12.out.mono ?_
  rintro e w12 ⟨rfl, b12⟩
  have HW12 : Hid (Below w.heap.size w w12) := HW11.out.trans (b12.mono HW11.out.size)
  have Sa12 := Lib.hid (Sa11.out.up b12)
  have Sb12 := Lib.hid (Sb11.out.up b12)
  have Sj12 := Lib.hid (Sj11.out.up b12)
  have Sm12 := Lib.hid (Sm11.out.up b12)
  have Sd12 := Lib.hid (Sd11.out.up b12)
  clear C12 b12 HW11 Sa11 Sb11 Sj11 Sm11 Sd11
  have C13 := Lib.hid (conv (psize_any w12 A2 (setL a b 1) n2 c2 E2.out Sm12.out (by omega)) (congrArg (Value.int .u64) zm))
  go_wp2_with fail
  refine C13.out.mono ?_
  rintro e w13 ⟨rfl, b13⟩
  have HW13 : Hid (Below w.heap.size w w13) := HW12.out.trans (b13.mono HW12.out.size)
  have Sa13 := Lib.hid (Sa12.out.up b13)
  have Sb13 := Lib.hid (Sb12.out.up b13)
  have Sj13 := Lib.hid (Sj12.out.up b13)
  have Sm13 := Lib.hid (Sm12.out.up b13)
  have Sd13 := Lib.hid (Sd12.out.up b13)
  clear C13 b13 HW12 Sa12 Sb12 Sj12 Sm12 Sd12
  have C14 := Lib.hid (conv (psize_any w13 A a m c HLa.out Sa13.out (by omega)) (congrArg (Value.int .u64) za))
  go_wp2_with fail
  refine C14.out.mono ?_
  rintro e w14 ⟨rfl, b14⟩
  have HW14 : Hid (Below w.heap.size w w14) := HW13.out.trans (b14.mono HW13.out.size)
  have Sa14 := Lib.hid (Sa13.out.up b14)
  have Sb14 := Lib.hid (Sb13.out.up b14)
  have Sj14 := Lib.hid (Sj13.out.up b14)
  have Sm14 := Lib.hid (Sm13.out.up b14)
  have Sd14 := Lib.hid (Sd13.out.up b14)
  clear C14 b14 HW13 Sa13 Sb13 Sj13 Sm13 Sd13
  have C15 := Lib.hid (conv (psize_any w14 B b q d HLb.out Sb14.out (by omega)) (congrArg (Value.int .u64) zb))
  go_wp2_with fail
  refine C15.out.mono ?_
  rintro e w15 ⟨rfl, b15⟩
  have HW15 : Hid (Below w.heap.size w w15) := HW14.out.trans (b15.mono HW14.out.size)
  have Sa15 := Lib.hid (Sa14.out.up b15)
  have Sb15 := Lib.hid (Sb14.out.up b15)
  have Sj15 := Lib.hid (Sj14.out.up b15)
  have Sm15 := Lib.hid (Sm14.out.up b15)
  have Sd15 := Lib.hid (Sd14.out.up b15)
  clear C15 b15 HW14 Sa14 Sb14 Sj14 Sm14 Sd14
  have C16 := Lib.hid (pjoin_any w15 B A b a q m d c HLb.out HLa.out HAb.out HAa.out Sb15.out Sa15.out (by omega) (by omega))
  go_wp2_with fail
  refine C16.out.mono ?_
  rintro e w16 p16
  obtain ⟨A16, n16, c16, rfl, e16, a16, f16, g16, r16, o16, b16⟩ := post_runs p16 (fit_order (set_spec b a 0).1)
  have HW16 : Hid (Below w.heap.size w w16) := HW15.out.trans (b16.mono HW15.out.size)
  have Sa16 := Lib.hid (Sa15.out.up b16)
  have Sb16 := Lib.hid (Sb15.out.up b16)
  have Sj16 := Lib.hid (Sj15.out.up b16)
  have Sm16 := Lib.hid (Sm15.out.up b16)
  have Sd16 := Lib.hid (Sd15.out.up b16)
  have R16 := Lib.hid r16
  have E16 := Lib.hid e16
  have N16 := Lib.hid a16
  clear C16 b16 HW15 Sa15 Sb15 Sj15 Sm15 Sd15 p16 r16 o16 e16 a16
  have C17 := Lib.hid (conv (eq_g w16 A16 A1 (setL b a 0) (setL a b 0) n16 n1 c16 c1 E16.out E1.out R16.out Sj16.out (by omega)) (congrArg Value.bool (decide_eq_true (join_turn a b))))
  go_wp2_with fail
  refine C17.out.mono ?_
  rintro e w17 ⟨rfl, b17⟩
  have HW17 : Hid (Below w.heap.size w w17) := HW16.out.trans (b17.mono HW16.out.size)
  have Sa17 := Lib.hid (Sa16.out.up b17)
  have Sb17 := Lib.hid (Sb16.out.up b17)
  have Sj17 := Lib.hid (Sj16.out.up b17)
  have Sm17 := Lib.hid (Sm16.out.up b17)
  have Sd17 := Lib.hid (Sd16.out.up b17)
  clear C17 b17 HW16 Sa16 Sb16 Sj16 Sm16 Sd16
  have C18 := Lib.hid (pmeet_any w17 B A b a q m d c HLb.out HLa.out Sb17.out Sa17.out (by omega) (by omega))
  go_wp2_with fail
  refine C18.out.mono ?_
  rintro e w18 p18
  obtain ⟨A18, n18, c18, rfl, e18, a18, f18, g18, r18, o18, b18⟩ := post_runs p18 (fit_order (set_spec b a 1).1)
  have HW18 : Hid (Below w.heap.size w w18) := HW17.out.trans (b18.mono HW17.out.size)
  have Sa18 := Lib.hid (Sa17.out.up b18)
  have Sb18 := Lib.hid (Sb17.out.up b18)
  have Sj18 := Lib.hid (Sj17.out.up b18)
  have Sm18 := Lib.hid (Sm17.out.up b18)
  have Sd18 := Lib.hid (Sd17.out.up b18)
  have R18 := Lib.hid r18
  have E18 := Lib.hid e18
  have N18 := Lib.hid a18
  clear C18 b18 HW17 Sa17 Sb17 Sj17 Sm17 Sd17 p18 r18 o18 e18 a18
  have C19 := Lib.hid (conv (eq_g w18 A18 A2 (setL b a 1) (setL a b 1) n18 n2 c18 c2 E18.out E2.out R18.out Sm18.out (by omega)) (congrArg Value.bool (decide_eq_true (meet_turn a b))))
  go_wp2_with fail
  refine C19.out.mono ?_
  rintro e w19 ⟨rfl, b19⟩
  have HW19 : Hid (Below w.heap.size w w19) := HW18.out.trans (b19.mono HW18.out.size)
  have Sa19 := Lib.hid (Sa18.out.up b19)
  have Sb19 := Lib.hid (Sb18.out.up b19)
  have Sj19 := Lib.hid (Sj18.out.up b19)
  have Sm19 := Lib.hid (Sm18.out.up b19)
  have Sd19 := Lib.hid (Sd18.out.up b19)
  clear C19 b19 HW18 Sa18 Sb18 Sj18 Sm18 Sd18
  have C20 := Lib.hid (pjoin_any w19 A3 A2 (setL a b 2) (setL a b 1) n3 n2 c3 c2 E3.out E2.out N3.out N2.out Sd19.out Sm19.out (by omega) (by omega))
  go_wp2_with fail
  refine C20.out.mono ?_
  rintro e w20 p20
  obtain ⟨A20, n20, c20, rfl, e20, a20, f20, g20, r20, o20, b20⟩ := post_runs p20 (fit_order (set_spec (setL a b 2) (setL a b 1) 0).1)
  have HW20 : Hid (Below w.heap.size w w20) := HW19.out.trans (b20.mono HW19.out.size)
  have Sa20 := Lib.hid (Sa19.out.up b20)
  have Sb20 := Lib.hid (Sb19.out.up b20)
  have Sj20 := Lib.hid (Sj19.out.up b20)
  have Sm20 := Lib.hid (Sm19.out.up b20)
  have Sd20 := Lib.hid (Sd19.out.up b20)
  have R20 := Lib.hid r20
  have E20 := Lib.hid e20
  have N20 := Lib.hid a20
  have m20 : n20 ≤ 4194306 := by rw [← e20]; have h := set_length0 (setL a b 2) (setL a b 1); rw [E3.out, E2.out] at h; omega
  clear C20 b20 HW19 Sa19 Sb19 Sj19 Sm19 Sd19 p20 r20 o20 e20 a20
  have C21 := Lib.hid (conv (same_any w20 A20 A (setL (setL a b 2) (setL a b 1) 0) a n20 m c20 c E20.out HLa.out R20.out Sa20.out (by omega) (by omega)) (congrArg Value.bool (decide_eq_true (both_parts a b))))
  go_wp2_with fail
  refine C21.out.mono ?_
  rintro e w21 ⟨rfl, b21⟩
  have HW21 : Hid (Below w.heap.size w w21) := HW20.out.trans (b21.mono HW20.out.size)
  have Sa21 := Lib.hid (Sa20.out.up b21)
  have Sb21 := Lib.hid (Sb20.out.up b21)
  have Sj21 := Lib.hid (Sj20.out.up b21)
  have Sm21 := Lib.hid (Sm20.out.up b21)
  have Sd21 := Lib.hid (Sd20.out.up b21)
  clear C21 b21 HW20 Sa20 Sb20 Sj20 Sm20 Sd20
  have C22 := Lib.hid (pmeet_any w21 A3 B (setL a b 2) b n3 q c3 d E3.out HLb.out Sd21.out Sb21.out (by omega) (by omega))
  go_wp2_with fail
  refine C22.out.mono ?_
  rintro e w22 p22
  obtain ⟨A22, n22, c22, rfl, e22, a22, f22, g22, r22, o22, b22⟩ := post_runs p22 (fit_order (set_spec (setL a b 2) b 1).1)
  have HW22 : Hid (Below w.heap.size w w22) := HW21.out.trans (b22.mono HW21.out.size)
  have Sa22 := Lib.hid (Sa21.out.up b22)
  have Sb22 := Lib.hid (Sb21.out.up b22)
  have Sj22 := Lib.hid (Sj21.out.up b22)
  have Sm22 := Lib.hid (Sm21.out.up b22)
  have Sd22 := Lib.hid (Sd21.out.up b22)
  have R22 := Lib.hid r22
  have E22 := Lib.hid e22
  have N22 := Lib.hid a22
  clear C22 b22 HW21 Sa21 Sb21 Sj21 Sm21 Sd21 p22 r22 o22 e22 a22
  have hq22 : ((n22 : Int) == 0) = true := by have h := E22.out; rw [apart_parts] at h; rw [← h]; rfl
  have C23 := Lib.hid (conv (within_any w22 A2 A (setL a b 1) a n2 m c2 c E2.out HLa.out Sm22.out Sa22.out (by omega) (by omega)) (congrArg Value.bool (decide_eq_true (within_meet a b))))
  go_wp2_with fail
  refine C23.out.mono ?_
  rintro e w23 ⟨rfl, b23⟩
  have HW23 : Hid (Below w.heap.size w w23) := HW22.out.trans (b23.mono HW22.out.size)
  have Sa23 := Lib.hid (Sa22.out.up b23)
  have Sb23 := Lib.hid (Sb22.out.up b23)
  have Sj23 := Lib.hid (Sj22.out.up b23)
  have Sm23 := Lib.hid (Sm22.out.up b23)
  have Sd23 := Lib.hid (Sd22.out.up b23)
  clear C23 b23 HW22 Sa22 Sb22 Sj22 Sm22 Sd22
  have C24 := Lib.hid (conv (within_any w23 A A1 a (setL a b 0) m n1 c c1 HLa.out E1.out Sa23.out Sj23.out (by omega) (by omega)) (congrArg Value.bool (decide_eq_true (within_join a b))))
  go_wp2_with fail
  refine C24.out.mono ?_
  rintro e w24 ⟨rfl, b24⟩
  have HW24 : Hid (Below w.heap.size w w24) := HW23.out.trans (b24.mono HW23.out.size)
  have Sj24 := Lib.hid (Sj23.out.up b24)
  have Sm24 := Lib.hid (Sm23.out.up b24)
  have Sd24 := Lib.hid (Sd23.out.up b24)
  clear C24 b24 HW23 Sj23 Sm23 Sd23
  have C25 := Lib.hid (conv (pgood_any w24 A1 (setL a b 0) n1 c1 E1.out Sj24.out (by omega)) (congrArg Value.bool (set_good a b 0)))
  go_wp2_with fail
  refine C25.out.mono ?_
  rintro e w25 ⟨rfl, b25⟩
  have HW25 : Hid (Below w.heap.size w w25) := HW24.out.trans (b25.mono HW24.out.size)
  have Sm25 := Lib.hid (Sm24.out.up b25)
  have Sd25 := Lib.hid (Sd24.out.up b25)
  clear C25 b25 HW24 Sm24 Sd24
  have C26 := Lib.hid (conv (pgood_any w25 A2 (setL a b 1) n2 c2 E2.out Sm25.out (by omega)) (congrArg Value.bool (set_good a b 1)))
  go_wp2_with fail
  refine C26.out.mono ?_
  rintro e w26 ⟨rfl, b26⟩
  have HW26 : Hid (Below w.heap.size w w26) := HW25.out.trans (b26.mono HW25.out.size)
  have Sd26 := Lib.hid (Sd25.out.up b26)
  clear C26 b26 HW25 Sd25
  have C27 := Lib.hid (conv (pgood_any w26 A3 (setL a b 2) n3 c3 E3.out Sd26.out (by omega)) (congrArg Value.bool (set_good a b 2)))
  go_wp2_with fail
  refine C27.out.mono ?_
  rintro e w27 ⟨rfl, b27⟩
  have HW27 : Hid (Below w.heap.size w w27) := HW26.out.trans (b27.mono HW26.out.size)
  clear C27 b27 HW26 
  have C28 := Lib.hid (works_any w27)
  go_wp2_with fail
  refine C28.out.mono ?_
  rintro e w28 ⟨rfl, b28⟩
  have HW28 : Hid (Below w.heap.size w w28) := HW27.out.trans (b28.mono HW27.out.size)
  clear C28 b28 HW27 
  go_wp2
  go_ret
  exact ⟨rfl, HW28.out⟩
end Go.Proofs.Ytaoojiacdkabbaa.Ru
