/- VecLaws: the law's walk (gen-laws.py printed it). -/
import Derived.Test.YtbpmbjpepjndaaaVHasW
namespace Go.Proofs.Ytbpmbjpepjndaaa.Dt
open Go.ChangeShapes Go.WideShapes Go.ChangeAt Go.RowKit
set_option linter.unusedVariables false

theorem same_eq (W : World) (A1 A2 : Option Addr) (l m : List Dot) (n1 n2 c1 c2 : Nat) (h1 : VecAt W A1 l n1 c1) (h2 : VecAt W A2 m n2 c2) (e : l = m) :
    Calls Try.prog 12 #[.slice A1 n1 c1, .slice A2 n2 c2] W fun e V => e = .returned (.bool true) ∧ Below W.heap.size W V := by
  subst e
  exact same_true W W A1 A2 l n1 n2 c1 c2 (Below.refl _ _) h1 h2
set_option maxHeartbeats 8000000 in
theorem laws_walk (P : PVec) (w : World) (A0 A1 A2 : Option Addr) (a b c : List Dot) (n0 n1 n2 c0 c1 c2 : Nat) (h0 : VecAt w A0 a n0 c0) (h1 : VecAt w A1 b n1 c1) (h2 : VecAt w A2 c n2 c2) :
    Calls Try.prog 6 #[.slice A0 n0 c0, .slice A1 n1 c1, .slice A2 n2 c2] w fun e w' => e = .returned (.bool true) ∧ Below w.heap.size w w' := by
  have FA := Lib.hid h0.dots.1
  have FB := Lib.hid h1.dots.1
  have FC := Lib.hid h2.dots.1
  have H0 := Lib.hid h0
  have H1 := Lib.hid h1
  have H2 := Lib.hid h2
  have K0 : Hid (Below w.heap.size w w) := Lib.hid (Below.refl _ _)
  clear h0 h1 h2
  go_enter Try.func6, Try.ntmps6
  go_wp2_with fail
  refine (P.norm _ A0 a n0 c0 (H0.out.up K0.out)).mono ?_
  rintro e w1 hp
  obtain ⟨B1, m1, d1, rfl, hk, hb⟩ := vec_post hp (fit_norm FA.out) (short_norm _)
  have N_1 := Lib.hid hk
  have K1 : Hid (Below w.heap.size w w1) := K0.out.trans (hb.mono K0.out.size)
  clear hp hk hb K0
  go_wp2_with fail
  refine (P.join _ A0 A1 (a) (b) n0 n1 c0 c1 (H0.out.up K1.out) (H1.out.up K1.out)).mono ?_
  rintro e w2 hp
  obtain ⟨B2, m2, d2, rfl, hk, hb⟩ := vec_post hp (fit_join FA.out FB.out) (short_join _ _)
  have X_2 := Lib.hid hk
  have N_2 := Lib.hid (N_1.out.up hb)
  have K2 : Hid (Below w.heap.size w w2) := K1.out.trans (hb.mono K1.out.size)
  clear hp hk hb K1 N_1
  go_wp2_with fail
  refine (P.join _ A1 A0 (b) (a) n1 n0 c1 c0 (H1.out.up K2.out) (H0.out.up K2.out)).mono ?_
  rintro e w3 hp
  obtain ⟨B3, m3, d3, rfl, hk, hb⟩ := vec_post hp (fit_join FB.out FA.out) (short_join _ _)
  have Y_3 := Lib.hid hk
  have N_3 := Lib.hid (N_2.out.up hb)
  have X_3 := Lib.hid (X_2.out.up hb)
  have K3 : Hid (Below w.heap.size w w3) := K2.out.trans (hb.mono K2.out.size)
  clear hp hk hb K2 N_2 X_2
  go_wp2_with fail
  refine (same_eq _ B2 B3 (joinV (a) (b)) (joinV (b) (a)) m2 m3 d2 d3 X_3.out Y_3.out (join_comm a b)).mono ?_
  rintro e w4 ⟨rfl, hb⟩
  have N_4 := Lib.hid (N_3.out.up hb)
  have K4 : Hid (Below w.heap.size w w4) := K3.out.trans (hb.mono K3.out.size)
  clear hb K3 X_3 Y_3 N_3
  go_wp2_with fail
  refine (P.join _ A0 A1 (a) (b) n0 n1 c0 c1 (H0.out.up K4.out) (H1.out.up K4.out)).mono ?_
  rintro e w5 hp
  obtain ⟨B5, m5, d5, rfl, hk, hb⟩ := vec_post hp (fit_join FA.out FB.out) (short_join _ _)
  have X_5 := Lib.hid hk
  have N_5 := Lib.hid (N_4.out.up hb)
  have K5 : Hid (Below w.heap.size w w5) := K4.out.trans (hb.mono K4.out.size)
  clear hp hk hb K4 N_4
  go_wp2_with fail
  refine (P.join _ B5 A2 (joinV (a) (b)) (c) m5 n2 d5 c2 X_5.out (H2.out.up K5.out)).mono ?_
  rintro e w6 hp
  obtain ⟨B6, m6, d6, rfl, hk, hb⟩ := vec_post hp (fit_join (fit_join FA.out FB.out) FC.out) (short_join _ _)
  have Y_6 := Lib.hid hk
  have N_6 := Lib.hid (N_5.out.up hb)
  have K6 : Hid (Below w.heap.size w w6) := K5.out.trans (hb.mono K5.out.size)
  clear hp hk hb K5 X_5 N_5
  go_wp2_with fail
  refine (P.join _ A1 A2 (b) (c) n1 n2 c1 c2 (H1.out.up K6.out) (H2.out.up K6.out)).mono ?_
  rintro e w7 hp
  obtain ⟨B7, m7, d7, rfl, hk, hb⟩ := vec_post hp (fit_join FB.out FC.out) (short_join _ _)
  have Z_7 := Lib.hid hk
  have N_7 := Lib.hid (N_6.out.up hb)
  have Y_7 := Lib.hid (Y_6.out.up hb)
  have K7 : Hid (Below w.heap.size w w7) := K6.out.trans (hb.mono K6.out.size)
  clear hp hk hb K6 N_6 Y_6
  go_wp2_with fail
  refine (P.join _ A0 B7 (a) (joinV (b) (c)) n0 m7 c0 d7 (H0.out.up K7.out) Z_7.out).mono ?_
  rintro e w8 hp
  obtain ⟨B8, m8, d8, rfl, hk, hb⟩ := vec_post hp (fit_join FA.out (fit_join FB.out FC.out)) (short_join _ _)
  have U_8 := Lib.hid hk
  have N_8 := Lib.hid (N_7.out.up hb)
  have Y_8 := Lib.hid (Y_7.out.up hb)
  have K8 : Hid (Below w.heap.size w w8) := K7.out.trans (hb.mono K7.out.size)
  clear hp hk hb K7 Z_7 N_7 Y_7
  go_wp2_with fail
  refine (same_eq _ B6 B8 (joinV (joinV (a) (b)) (c)) (joinV (a) (joinV (b) (c))) m6 m8 d6 d8 Y_8.out U_8.out (join_assoc FA.out FB.out FC.out)).mono ?_
  rintro e w9 ⟨rfl, hb⟩
  have N_9 := Lib.hid (N_8.out.up hb)
  have K9 : Hid (Below w.heap.size w w9) := K8.out.trans (hb.mono K8.out.size)
  clear hb K8 Y_8 U_8 N_8
  go_wp2_with fail
  refine (P.meet _ A0 A1 (a) (b) n0 n1 c0 c1 (H0.out.up K9.out) (H1.out.up K9.out)).mono ?_
  rintro e w10 hp
  obtain ⟨B10, m10, d10, rfl, hk, hb⟩ := vec_post hp (fit_meet FA.out FB.out) (short_meet _ _)
  have X_10 := Lib.hid hk
  have N_10 := Lib.hid (N_9.out.up hb)
  have K10 : Hid (Below w.heap.size w w10) := K9.out.trans (hb.mono K9.out.size)
  clear hp hk hb K9 N_9
  go_wp2_with fail
  refine (P.meet _ B10 A2 (meetV (a) (b)) (c) m10 n2 d10 c2 X_10.out (H2.out.up K10.out)).mono ?_
  rintro e w11 hp
  obtain ⟨B11, m11, d11, rfl, hk, hb⟩ := vec_post hp (fit_meet (fit_meet FA.out FB.out) FC.out) (short_meet _ _)
  have Y_11 := Lib.hid hk
  have N_11 := Lib.hid (N_10.out.up hb)
  have K11 : Hid (Below w.heap.size w w11) := K10.out.trans (hb.mono K10.out.size)
  clear hp hk hb K10 X_10 N_10
  go_wp2_with fail
  refine (P.meet _ A1 A2 (b) (c) n1 n2 c1 c2 (H1.out.up K11.out) (H2.out.up K11.out)).mono ?_
  rintro e w12 hp
  obtain ⟨B12, m12, d12, rfl, hk, hb⟩ := vec_post hp (fit_meet FB.out FC.out) (short_meet _ _)
  have Z_12 := Lib.hid hk
  have N_12 := Lib.hid (N_11.out.up hb)
  have Y_12 := Lib.hid (Y_11.out.up hb)
  have K12 : Hid (Below w.heap.size w w12) := K11.out.trans (hb.mono K11.out.size)
  clear hp hk hb K11 N_11 Y_11
  go_wp2_with fail
  refine (P.meet _ A0 B12 (a) (meetV (b) (c)) n0 m12 c0 d12 (H0.out.up K12.out) Z_12.out).mono ?_
  rintro e w13 hp
  obtain ⟨B13, m13, d13, rfl, hk, hb⟩ := vec_post hp (fit_meet FA.out (fit_meet FB.out FC.out)) (short_meet _ _)
  have U_13 := Lib.hid hk
  have N_13 := Lib.hid (N_12.out.up hb)
  have Y_13 := Lib.hid (Y_12.out.up hb)
  have K13 : Hid (Below w.heap.size w w13) := K12.out.trans (hb.mono K12.out.size)
  clear hp hk hb K12 Z_12 N_12 Y_12
  go_wp2_with fail
  refine (same_eq _ B11 B13 (meetV (meetV (a) (b)) (c)) (meetV (a) (meetV (b) (c))) m11 m13 d11 d13 Y_13.out U_13.out (meet_assoc FA.out FB.out FC.out)).mono ?_
  rintro e w14 ⟨rfl, hb⟩
  have N_14 := Lib.hid (N_13.out.up hb)
  have K14 : Hid (Below w.heap.size w w14) := K13.out.trans (hb.mono K13.out.size)
  clear hb K13 Y_13 U_13 N_13
  go_wp2_with fail
  refine (P.join _ A0 A0 (a) (a) n0 n0 c0 c0 (H0.out.up K14.out) (H0.out.up K14.out)).mono ?_
  rintro e w15 hp
  obtain ⟨B15, m15, d15, rfl, hk, hb⟩ := vec_post hp (fit_join FA.out FA.out) (short_join _ _)
  have X_15 := Lib.hid hk
  have N_15 := Lib.hid (N_14.out.up hb)
  have K15 : Hid (Below w.heap.size w w15) := K14.out.trans (hb.mono K14.out.size)
  clear hp hk hb K14 N_14
  go_wp2_with fail
  refine (same_eq _ B15 B1 (joinV (a) (a)) (normV (a)) m15 m1 d15 d1 X_15.out N_15.out (join_self a)).mono ?_
  rintro e w16 ⟨rfl, hb⟩
  have N_16 := Lib.hid (N_15.out.up hb)
  have K16 : Hid (Below w.heap.size w w16) := K15.out.trans (hb.mono K15.out.size)
  clear hb K15 X_15 N_15
  go_wp2_with fail
  refine (P.join _ A0 A1 (a) (b) n0 n1 c0 c1 (H0.out.up K16.out) (H1.out.up K16.out)).mono ?_
  rintro e w17 hp
  obtain ⟨B17, m17, d17, rfl, hk, hb⟩ := vec_post hp (fit_join FA.out FB.out) (short_join _ _)
  have X_17 := Lib.hid hk
  have N_17 := Lib.hid (N_16.out.up hb)
  have K17 : Hid (Below w.heap.size w w17) := K16.out.trans (hb.mono K16.out.size)
  clear hp hk hb K16 N_16
  go_wp2_with fail
  refine (P.meet _ A0 B17 (a) (joinV (a) (b)) n0 m17 c0 d17 (H0.out.up K17.out) X_17.out).mono ?_
  rintro e w18 hp
  obtain ⟨B18, m18, d18, rfl, hk, hb⟩ := vec_post hp (fit_meet FA.out (fit_join FA.out FB.out)) (short_meet _ _)
  have Y_18 := Lib.hid hk
  have N_18 := Lib.hid (N_17.out.up hb)
  have K18 : Hid (Below w.heap.size w w18) := K17.out.trans (hb.mono K17.out.size)
  clear hp hk hb K17 X_17 N_17
  go_wp2_with fail
  refine (same_eq _ B18 B1 (meetV (a) (joinV (a) (b))) (normV (a)) m18 m1 d18 d1 Y_18.out N_18.out (meet_join FA.out FB.out)).mono ?_
  rintro e w19 ⟨rfl, hb⟩
  have N_19 := Lib.hid (N_18.out.up hb)
  have K19 : Hid (Below w.heap.size w w19) := K18.out.trans (hb.mono K18.out.size)
  clear hb K18 Y_18 N_18
  go_wp2_with fail
  refine (P.meet _ A0 A1 (a) (b) n0 n1 c0 c1 (H0.out.up K19.out) (H1.out.up K19.out)).mono ?_
  rintro e w20 hp
  obtain ⟨B20, m20, d20, rfl, hk, hb⟩ := vec_post hp (fit_meet FA.out FB.out) (short_meet _ _)
  have X_20 := Lib.hid hk
  have N_20 := Lib.hid (N_19.out.up hb)
  have K20 : Hid (Below w.heap.size w w20) := K19.out.trans (hb.mono K19.out.size)
  clear hp hk hb K19 N_19
  go_wp2_with fail
  refine (P.join _ A0 B20 (a) (meetV (a) (b)) n0 m20 c0 d20 (H0.out.up K20.out) X_20.out).mono ?_
  rintro e w21 hp
  obtain ⟨B21, m21, d21, rfl, hk, hb⟩ := vec_post hp (fit_join FA.out (fit_meet FA.out FB.out)) (short_join _ _)
  have Y_21 := Lib.hid hk
  have N_21 := Lib.hid (N_20.out.up hb)
  have K21 : Hid (Below w.heap.size w w21) := K20.out.trans (hb.mono K20.out.size)
  clear hp hk hb K20 X_20 N_20
  go_wp2_with fail
  refine (same_eq _ B21 B1 (joinV (a) (meetV (a) (b))) (normV (a)) m21 m1 d21 d1 Y_21.out N_21.out (join_meet FA.out FB.out)).mono ?_
  rintro e w22 ⟨rfl, hb⟩
  have N_22 := Lib.hid (N_21.out.up hb)
  have K22 : Hid (Below w.heap.size w w22) := K21.out.trans (hb.mono K21.out.size)
  clear hb K21 Y_21 N_21
  go_wp2_with fail
  have CG := P.good _ B1 (normV (a)) m1 d1 N_22.out
  rw [good_norm FA.out] at CG
  refine (CG).mono ?_
  rintro e w23 ⟨rfl, hb⟩
  have N_23 := Lib.hid (N_22.out.up hb)
  have K23 : Hid (Below w.heap.size w w23) := K22.out.trans (hb.mono K22.out.size)
  clear hb K22 N_22
  clear CG
  go_wp2_with fail
  have CO := P.order _ A0 B1 a (normV (a)) n0 m1 c0 d1 (H0.out.up K23.out) N_23.out
  rw [order_norm FA.out] at CO
  refine (CO).mono ?_
  rintro e w24 ⟨rfl, hb⟩
  have K24 : Hid (Below w.heap.size w w24) := K23.out.trans (hb.mono K23.out.size)
  clear hb K23 N_23
  clear CO
  go_wp2_with fail
  refine (works_any P _).mono ?_
  rintro e w25 ⟨rfl, hb⟩
  have K25 : Hid (Below w.heap.size w w25) := K24.out.trans (hb.mono K24.out.size)
  clear hb K24
  go_wp2
  go_ret
  exact ⟨rfl, K25.out⟩
end Go.Proofs.Ytbpmbjpepjndaaa.Dt
