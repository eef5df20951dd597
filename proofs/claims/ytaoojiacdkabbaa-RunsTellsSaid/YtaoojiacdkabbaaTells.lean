/- The walk of RunsTells: whatever the list, the number and the numbers. No condition but that the slices are slices. -/
import Derived.Test.YtaoojiacdkabbaaCalls
namespace Go.Proofs.Ytaoojiacdkabbaa.Ru
open Go.ChangeShapes Go.WideShapes Go.ChangeAt Go.RowKit Go.Shelf
set_option linter.unusedVariables false

set_option maxRecDepth 100000 in
set_option maxHeartbeats 8000000 in
theorem tells_walk (w : World) (A : Option Addr) (l : List Run) (m c n : Nat) (hl : l.length = m) (hA : A = none → m = 0 ∧ c = 0) (hb : Runs w w.heap.size A l) (hn : n < 18446744073709551616) (B : Option Addr) (nu : List Nat) (q d : Nat) (hq : nu.length = q) (hqb : Nums w w.heap.size B nu) (hq63 : q ≤ 9223372036854775807) :
    Calls Try.prog 4 #[.slice A m c, .int .u64 (n : Int), .slice B q d] w fun e w' => e = .returned (.bool true) ∧ Below w.heap.size w w' := by
  have HL := Lib.hid hl
  have HA := Lib.hid hA
  have HB := Lib.hid hb
  have HQ := Lib.hid hq
  have HQB := Lib.hid hqb
  have FW := Lib.hid (works_any w)
  clear hl hA hb hq hqb
  by_cases hm : m ≤ 60
  · have F1 := Lib.hid (convS (few_any w A m c) (congrArg Value.bool (decide_eq_true hm)))
    by_cases hq6 : q ≤ 60
    · have d1 : decide ((60 : Int) < (q : Int)) = false := decide_eq_false (by omega)
      have HE1 : Hid ([(n, n)].length = 1) := rfl
      have HW0 : Hid (Below w.heap.size w (w.alloc (.cells #[.int .u64 (n : Int), .int .u64 (n : Int)] 31))) := below_new _ _
      have RL0 := Lib.hid (HB.out.up HW0.out)
      have RN0 := Lib.hid (HQB.out.up HW0.out)
      have RO0 : Hid (Runs (w.alloc (.cells #[.int .u64 (n : Int), .int .u64 (n : Int)] 31)) (w.alloc (.cells #[.int .u64 (n : Int), .int .u64 (n : Int)] 31)).heap.size (some ⟨w.heap.size, 0, none⟩) [(n, n)]) := ⟨fun r hr => by obtain rfl := List.mem_singleton.1 hr; exact ⟨hn, hn⟩, lies_one w (n, n)⟩
      obtain ⟨vg', vg⟩ : ∃ b, decide (l = nrm l) = b := ⟨_, rfl⟩
      obtain ⟨vh', vh⟩ : ∃ b, has l n = b := ⟨_, rfl⟩
      obtain ⟨vz', vz⟩ : ∃ b, ((sizeR (nrm l) : Nat) : Int) = b := ⟨_, rfl⟩
      obtain ⟨vf', vf⟩ : ∃ b, ((firstR (nrm l) : Nat) : Int) = b := ⟨_, rfl⟩
      obtain ⟨vl', vl⟩ : ∃ b, ((lastR (nrm l) : Nat) : Int) = b := ⟨_, rfl⟩
      go_enter Try.func4, Try.ntmps4
      go_wp2_with fail
      refine F1.out.mono ?_
      rintro e w1 ⟨rfl, hw⟩
      obtain rfl : w = w1 := hw.symm
      go_wp2_with fail
      clear F1 HB HQB d1 FW
      obtain ⟨Z, hZ⟩ : ∃ Z, w.heap.size = Z := ⟨_, rfl⟩
      have HN1 : Hid (some (⟨Z, 0, none⟩ : Addr) = none → 1 = 0 ∧ 1 = 0) := fun h => by cases h
      rw [hZ] at RO0 ⊢
      clear hZ
      generalize w.alloc (.cells #[.int .u64 (n : Int), .int .u64 (n : Int)] 31) = w0 at HW0 RL0 RN0 RO0 ⊢
      have C1 := Lib.hid (pnorm_any w0 A l m c HL.out RL0.out (by omega))
      refine C1.out.mono ?_
      rintro e w1 p1
      obtain ⟨A1, n1, c1, rfl, e1, a1, f1, g1, r1, o1, b1⟩ := post_runs p1 (fit_order (nrm_spec l).1)
      have HW1 : Hid (Below w.heap.size w w1) := HW0.out.trans (b1.mono HW0.out.size)
      have Sl1 := Lib.hid (RL0.out.up b1)
      have Sq1 := Lib.hid (RN0.out.up b1)
      have So1 := Lib.hid (RO0.out.up b1)
      have R1 := Lib.hid r1
      have E1 := Lib.hid e1
      have N1 := Lib.hid a1
      clear C1 b1 HW0 RL0 RN0 RO0 p1 r1 o1 e1 a1
      have C2 := Lib.hid (norm_any w1 A l m c HL.out HA.out Sl1.out (by omega))
      go_wp2_with fail
      refine C2.out.mono ?_
      rintro e w2 p2
      obtain ⟨A2, n2, c2, rfl, e2, a2, f2, g2, r2, o2, b2⟩ := post_runs p2 (fit_order (nrm_spec l).1)
      have HW2 : Hid (Below w.heap.size w w2) := HW1.out.trans (b2.mono HW1.out.size)
      have Sl2 := Lib.hid (Sl1.out.up b2)
      have Sq2 := Lib.hid (Sq1.out.up b2)
      have So2 := Lib.hid (So1.out.up b2)
      have Sx2 := Lib.hid (R1.out.up b2)
      have R2 := Lib.hid r2
      have E2 := Lib.hid e2
      have N2 := Lib.hid a2
      clear C2 b2 HW1 Sl1 Sq1 So1 R1 p2 r2 o2 e2 a2
      have C3 := Lib.hid (conv (eq_g w2 A1 A2 (nrm l) (nrm l) n1 n2 c1 c2 E1.out E2.out Sx2.out R2.out (by omega)) (congrArg Value.bool (decide_eq_true rfl)))
      go_wp2_with fail
      refine C3.out.mono ?_
      rintro e w3 ⟨rfl, b3⟩
      have HW3 : Hid (Below w.heap.size w w3) := HW2.out.trans (b3.mono HW2.out.size)
      have Sl3 := Lib.hid (Sl2.out.up b3)
      have Sq3 := Lib.hid (Sq2.out.up b3)
      have So3 := Lib.hid (So2.out.up b3)
      clear C3 b3 HW2 Sl2 Sq2 So2
      have C4 := Lib.hid (conv (pgood_any w3 A l m c HL.out Sl3.out (by omega)) (congrArg Value.bool vg))
      go_wp2_with fail
      refine C4.out.mono ?_
      rintro e w4 ⟨rfl, b4⟩
      have HW4 : Hid (Below w.heap.size w w4) := HW3.out.trans (b4.mono HW3.out.size)
      have Sl4 := Lib.hid (Sl3.out.up b4)
      have Sq4 := Lib.hid (Sq3.out.up b4)
      have So4 := Lib.hid (So3.out.up b4)
      clear C4 b4 HW3 Sl3 Sq3 So3
      have C5 := Lib.hid (conv (good_any w4 A l m c HL.out HA.out Sl4.out (by omega)) (congrArg Value.bool vg))
      go_wp2_with fail
      refine C5.out.mono ?_
      rintro e w5 ⟨rfl, b5⟩
      have HW5 : Hid (Below w.heap.size w w5) := HW4.out.trans (b5.mono HW4.out.size)
      have Sl5 := Lib.hid (Sl4.out.up b5)
      have Sq5 := Lib.hid (Sq4.out.up b5)
      have So5 := Lib.hid (So4.out.up b5)
      clear C5 b5 HW4 Sl4 Sq4 So4
      have C6 := Lib.hid (conv (phas_any w5 A l m c n HL.out Sl5.out (by omega)) (congrArg Value.bool vh))
      go_wp2_with fail
      refine C6.out.mono ?_
      rintro e w6 ⟨rfl, b6⟩
      have HW6 : Hid (Below w.heap.size w w6) := HW5.out.trans (b6.mono HW5.out.size)
      have Sl6 := Lib.hid (Sl5.out.up b6)
      have Sq6 := Lib.hid (Sq5.out.up b6)
      have So6 := Lib.hid (So5.out.up b6)
      clear C6 b6 HW5 Sl5 Sq5 So5
      have C7 := Lib.hid (conv (has_any w6 w6.heap.size A l m c n HL.out Sl6.out (Nat.le_refl _) (by omega) hn) (congrArg Value.bool vh))
      go_wp2_with fail
      refine C7.out.mono ?_
      rintro e w7 ⟨rfl, b7⟩
      have HW7 : Hid (Below w.heap.size w w7) := HW6.out.trans (b7.mono HW6.out.size)
      have Sl7 := Lib.hid (Sl6.out.up b7)
      have Sq7 := Lib.hid (Sq6.out.up b7)
      have So7 := Lib.hid (So6.out.up b7)
      clear C7 b7 HW6 Sl6 Sq6 So6
      have C8 := Lib.hid (padd_any w7 A l m c n HL.out HA.out Sl7.out (by omega) hn)
      go_wp2_with fail
      refine C8.out.mono ?_
      rintro e w8 p8
      obtain ⟨A8, n8, c8, rfl, e8, a8, f8, g8, r8, o8, b8⟩ := post_runs p8 (fit_order (set_spec l [(n, n)] 0).1)
      have HW8 : Hid (Below w.heap.size w w8) := HW7.out.trans (b8.mono HW7.out.size)
      have Sl8 := Lib.hid (Sl7.out.up b8)
      have Sq8 := Lib.hid (Sq7.out.up b8)
      have So8 := Lib.hid (So7.out.up b8)
      have R8 := Lib.hid r8
      have E8 := Lib.hid e8
      have N8 := Lib.hid a8
      clear C8 b8 HW7 Sl7 Sq7 So7 p8 r8 o8 e8 a8
      have C9 := Lib.hid (join_any w8 A (some ⟨Z, 0, none⟩) l [(n, n)] m 1 c 1 HL.out HE1.out HA.out HN1.out Sl8.out So8.out (by omega) (by omega))
      go_wp2_with fail
      refine C9.out.mono ?_
      rintro e w9 p9
      obtain ⟨A9, n9, c9, rfl, e9, a9, f9, g9, r9, o9, b9⟩ := post_runs p9 (fit_order (set_spec l [(n, n)] 0).1)
      have HW9 : Hid (Below w.heap.size w w9) := HW8.out.trans (b9.mono HW8.out.size)
      have Sl9 := Lib.hid (Sl8.out.up b9)
      have Sq9 := Lib.hid (Sq8.out.up b9)
      have Sx9 := Lib.hid (R8.out.up b9)
      have R9 := Lib.hid r9
      have E9 := Lib.hid e9
      have N9 := Lib.hid a9
      clear C9 b9 HW8 Sl8 Sq8 R8 p9 r9 o9 e9 a9
      have C10 := Lib.hid (conv (eq_g w9 A8 A9 (setL l [(n, n)] 0) (setL l [(n, n)] 0) n8 n9 c8 c9 E8.out E9.out Sx9.out R9.out (by omega)) (congrArg Value.bool (decide_eq_true rfl)))
      go_wp2_with fail
      refine C10.out.mono ?_
      rintro e w10 ⟨rfl, b10⟩
      have HW10 : Hid (Below w.heap.size w w10) := HW9.out.trans (b10.mono HW9.out.size)
      have Sl10 := Lib.hid (Sl9.out.up b10)
      have Sq10 := Lib.hid (Sq9.out.up b10)
      clear C10 b10 HW9 Sl9 Sq9
      have C11 := Lib.hid (conv (psize_any w10 A l m c HL.out Sl10.out (by omega)) (congrArg (Value.int .u64) vz))
      go_wp2_with fail
      refine C11.out.mono ?_
      rintro e w11 ⟨rfl, b11⟩
      have HW11 : Hid (Below w.heap.size w w11) := HW10.out.trans (b11.mono HW10.out.size)
      have Sl11 := Lib.hid (Sl10.out.up b11)
      have Sq11 := Lib.hid (Sq10.out.up b11)
      clear C11 b11 HW10 Sl10 Sq10
      have C12 := Lib.hid (conv (size_any w11 A l m c HL.out HA.out Sl11.out (by omega)) (congrArg (Value.int .u64) vz))
      go_wp2_with fail
      refine C12.out.mono ?_
      rintro e w12 ⟨rfl, b12⟩
      have HW12 : Hid (Below w.heap.size w w12) := HW11.out.trans (b12.mono HW11.out.size)
      have Sl12 := Lib.hid (Sl11.out.up b12)
      have Sq12 := Lib.hid (Sq11.out.up b12)
      clear C12 b12 HW11 Sl11 Sq11
      have C13 := Lib.hid (conv (pfirst_any w12 A l m c HL.out Sl12.out (by omega)) (congrArg (Value.int .u64) vf))
      go_wp2_with fail
      refine C13.out.mono ?_
      rintro e w13 ⟨rfl, b13⟩
      have HW13 : Hid (Below w.heap.size w w13) := HW12.out.trans (b13.mono HW12.out.size)
      have Sl13 := Lib.hid (Sl12.out.up b13)
      have Sq13 := Lib.hid (Sq12.out.up b13)
      clear C13 b13 HW12 Sl12 Sq12
      have C14 := Lib.hid (conv (first_any w13 A l m c HL.out HA.out Sl13.out (by omega)) (congrArg (Value.int .u64) vf))
      go_wp2_with fail
      refine C14.out.mono ?_
      rintro e w14 ⟨rfl, b14⟩
      have HW14 : Hid (Below w.heap.size w w14) := HW13.out.trans (b14.mono HW13.out.size)
      have Sl14 := Lib.hid (Sl13.out.up b14)
      have Sq14 := Lib.hid (Sq13.out.up b14)
      clear C14 b14 HW13 Sl13 Sq13
      have C15 := Lib.hid (conv (plast_any w14 A l m c HL.out Sl14.out (by omega)) (congrArg (Value.int .u64) vl))
      go_wp2_with fail
      refine C15.out.mono ?_
      rintro e w15 ⟨rfl, b15⟩
      have HW15 : Hid (Below w.heap.size w w15) := HW14.out.trans (b15.mono HW14.out.size)
      have Sl15 := Lib.hid (Sl14.out.up b15)
      have Sq15 := Lib.hid (Sq14.out.up b15)
      clear C15 b15 HW14 Sl14 Sq14
      have C16 := Lib.hid (conv (last_any w15 A l m c HL.out HA.out Sl15.out (by omega)) (congrArg (Value.int .u64) vl))
      go_wp2_with fail
      refine C16.out.mono ?_
      rintro e w16 ⟨rfl, b16⟩
      have HW16 : Hid (Below w.heap.size w w16) := HW15.out.trans (b16.mono HW15.out.size)
      have Sl16 := Lib.hid (Sl15.out.up b16)
      have Sq16 := Lib.hid (Sq15.out.up b16)
      clear C16 b16 HW15 Sl15 Sq15
      have C17 := Lib.hid (pof_any w16 B nu q d HQ.out Sq16.out (by omega))
      go_wp2_with fail
      refine C17.out.mono ?_
      rintro e w17 p17
      obtain ⟨A17, n17, c17, rfl, e17, a17, f17, g17, r17, o17, b17⟩ := post_runs p17 (fit_order (ofL_spec nu).1)
      have HW17 : Hid (Below w.heap.size w w17) := HW16.out.trans (b17.mono HW16.out.size)
      have Sq17 := Lib.hid (Sq16.out.up b17)
      have R17 := Lib.hid r17
      have E17 := Lib.hid e17
      have N17 := Lib.hid a17
      clear C17 b17 HW16 Sq16 p17 r17 o17 e17 a17
      have C18 := Lib.hid (of_any w17 B nu q d HQ.out Sq17.out (by omega))
      go_wp2_with fail
      refine C18.out.mono ?_
      rintro e w18 p18
      obtain ⟨A18, n18, c18, rfl, e18, a18, f18, g18, r18, o18, b18⟩ := post_runs p18 (fit_order (ofL_spec nu).1)
      have HW18 : Hid (Below w.heap.size w w18) := HW17.out.trans (b18.mono HW17.out.size)
      have Sx18 := Lib.hid (R17.out.up b18)
      have R18 := Lib.hid r18
      have E18 := Lib.hid e18
      have N18 := Lib.hid a18
      clear C18 b18 HW17 R17 p18 r18 o18 e18 a18
      have C19 := Lib.hid (conv (eq_g w18 A17 A18 (ofL nu) (ofL nu) n17 n18 c17 c18 E17.out E18.out Sx18.out R18.out (by omega)) (congrArg Value.bool (decide_eq_true rfl)))
      go_wp2_with fail
      refine C19.out.mono ?_
      rintro e w19 ⟨rfl, b19⟩
      have HW19 : Hid (Below w.heap.size w w19) := HW18.out.trans (b19.mono HW18.out.size)
      clear C19 b19 HW18 
      have C20 := Lib.hid (works_any w19)
      go_wp2_with fail
      refine C20.out.mono ?_
      rintro e w20 ⟨rfl, b20⟩
      have HW20 : Hid (Below w.heap.size w w20) := HW19.out.trans (b20.mono HW19.out.size)
      clear C20 b20 HW19 
      go_wp2
      go_ret
      exact ⟨rfl, HW20.out⟩
    · have d1 : decide ((60 : Int) < (q : Int)) = true := decide_eq_true (by omega)
      go_enter Try.func4, Try.ntmps4
      go_wp2_with fail
      refine F1.out.mono ?_
      rintro e w1 ⟨rfl, hw⟩
      obtain rfl : w = w1 := hw.symm
      go_wp2_with fail
      refine FW.out.mono ?_
      rintro e w2 ⟨rfl, b2⟩
      go_wp2
      go_ret
      exact ⟨rfl, b2⟩
  · have F1 := Lib.hid (convS (few_any w A m c) (congrArg Value.bool (decide_eq_false hm)))
    go_enter Try.func4, Try.ntmps4
    go_wp2_with fail
    refine F1.out.mono ?_
    rintro e w1 ⟨rfl, hw⟩
    obtain rfl : w = w1 := hw.symm
    go_wp2_with fail
    refine FW.out.mono ?_
    rintro e w2 ⟨rfl, b2⟩
    go_wp2
    go_ret
    exact ⟨rfl, b2⟩
end Go.Proofs.Ytaoojiacdkabbaa.Ru
