/- VecPairs: the law's walk. -/
import Derived.Test.YtbpmbjpepjndaaaVTellsN
namespace Go.Proofs.Ytbpmbjpepjndaaa.Dt
open Go.ChangeShapes Go.WideShapes Go.ChangeAt Go.RowKit
set_option linter.unusedVariables false

theorem pairs_end (P : PVec) (w : World) (A1 A2 : Option Addr) (n1 n2 c1 c2 : Nat) (h : ¬ (n1 ≤ 100 ∧ n2 ≤ 100)) :
    Calls Try.prog 4 #[.slice A1 n1 c1, .slice A2 n2 c2] w fun e w' => e = .returned (.bool true) ∧ Below w.heap.size w w' := by
  have C1 := fun W => few_any W A1 n1 c1
  have C2 := fun W => few_any W A2 n2 c2
  by_cases h1 : n1 ≤ 100
  · rw [decide_eq_true h1] at C1
    rw [decide_eq_false (fun h2 => h ⟨h1, h2⟩)] at C2
    go_enter Try.func4, Try.ntmps4
    go_wp2_with fail
    refine (C1 _).mono ?_
    rintro e w1 ⟨rfl, rfl⟩
    go_wp2_with fail
    refine (C2 _).mono ?_
    rintro e w1 ⟨rfl, rfl⟩
    go_wp2_with fail
    refine (works_any P _).mono ?_
    rintro e w2 ⟨rfl, hb2⟩
    have HE := Lib.hid hb2
    clear hb2
    go_wp2
    go_ret
    exact ⟨rfl, HE.out⟩
  · rw [decide_eq_false h1] at C1
    go_enter Try.func4, Try.ntmps4
    go_wp2_with fail
    refine (C1 _).mono ?_
    rintro e w1 ⟨rfl, rfl⟩
    go_wp2_with fail
    refine (works_any P _).mono ?_
    rintro e w2 ⟨rfl, hb2⟩
    have HE := Lib.hid hb2
    clear hb2
    go_wp2
    go_ret
    exact ⟨rfl, HE.out⟩
set_option maxHeartbeats 16000000 in
theorem pairs_few (P : PVec) (w : World) (A1 A2 : Option Addr) (l1 l2 : List Dot) (n1 n2 c1 c2 : Nat) (hv1 : VecAt w A1 l1 n1 c1) (hv2 : VecAt w A2 l2 n2 c2) (h1 : n1 ≤ 100) (h2 : n2 ≤ 100) :
    Calls Try.prog 4 #[.slice A1 n1 c1, .slice A2 n2 c2] w fun e w' => e = .returned (.bool true) ∧ Below w.heap.size w w' := by
  have C1 := fun W => few_any W A1 n1 c1
  have C2 := fun W => few_any W A2 n2 c2
  rw [decide_eq_true h1] at C1
  rw [decide_eq_true h2] at C2
  have f1 := hv1.dots.1
  have f2 := hv2.dots.1
  have A19 := fun W (hW : Below w.heap.size w W) => made hW (fit_join f1 f2) (short_join l1 l2) (P.join W A1 A2 l1 l2 n1 n2 c1 c2 (hv1.up hW) (hv2.up hW))
  have A11 := fun W (hW : Below w.heap.size w W) => made hW (fit_join f1 f2) (short_join l1 l2) (rjoin_any W A1 A2 l1 l2 n1 n2 c1 c2 hv1.len hv2.len hv1.nil hv2.nil (hv1.up hW).dots (hv2.up hW).dots (by omega))
  have A20 := fun W (hW : Below w.heap.size w W) => made hW (fit_meet f1 f2) (short_meet l1 l2) (P.meet W A1 A2 l1 l2 n1 n2 c1 c2 (hv1.up hW) (hv2.up hW))
  have A21 := fun W (hW : Below w.heap.size w W) => made hW (fit_meet f1 f2) (short_meet l1 l2) (rmeet_any W A1 A2 l1 l2 n1 n2 c1 c2 hv1.len hv2.len hv1.nil hv2.nil (hv1.up hW).dots (hv2.up hW).dots (by omega))
  have A22 := fun W (hW : Below w.heap.size w W) => later hW (P.order W A1 A2 l1 l2 n1 n2 c1 c2 (hv1.up hW) (hv2.up hW))
  have A23 := fun W (hW : Below w.heap.size w W) => later hW (rorder_any W A1 A2 l1 l2 n1 n2 c1 c2 hv1.len hv2.len hv1.nil hv2.nil (hv1.up hW).dots (hv2.up hW).dots (by omega))
  have A24 := fun W (hW : Below w.heap.size w W) => later hW (P.lack W A1 A2 l1 l2 n1 n2 c1 c2 (hv1.up hW) (hv2.up hW))
  have A25 := fun W (hW : Below w.heap.size w W) => later hW (rlack_any W A1 A2 l1 l2 n1 n2 c1 c2 hv1.len hv2.len hv1.nil hv2.nil (hv1.up hW).dots (hv2.up hW).dots (by omega))
  have A8 := fun W (hW : Below w.heap.size w W) => later hW (works_any P W)
  have A12j := fun W (hW : Below w.heap.size w W) A' A'' m' m'' c' c'' (h1 : VecAt W A' (joinV l1 l2) m' c') (h2 : VecAt W A'' (joinV l1 l2) m'' c'') => same_true w W A' A'' (joinV l1 l2) m' m'' c' c'' hW h1 h2
  have A12m := fun W (hW : Below w.heap.size w W) A' A'' m' m'' c' c'' (h1 : VecAt W A' (meetV l1 l2) m' c') (h2 : VecAt W A'' (meetV l1 l2) m'' c'') => same_true w W A' A'' (meetV l1 l2) m' m'' c' c'' hW h1 h2
  clear hv1 hv2 f1 f2 h1 h2
  generalize joinV l1 l2 = J at A19 A11 A12j
  generalize meetV l1 l2 = M at A20 A21 A12m
  generalize orderV l1 l2 = o at A22 A23
  generalize ((lackV l1 l2 : Nat) : Int) = k at A24 A25
  go_enter Try.func4, Try.ntmps4
  go_wp2_with fail
  refine (C1 _).mono ?_
  rintro e w1 ⟨rfl, rfl⟩
  go_wp2_with fail
  refine (C2 _).mono ?_
  rintro e w1 ⟨rfl, rfl⟩
  go_wp2_with fail
  clear C1 C2
  refine (A19 _ (Below.refl _ _)).mono ?_
  rintro e w1 ⟨B1, m1, k1, rfl, hN, b1, _⟩
  have HN := Lib.hid hN
  have HB1 := Lib.hid b1
  clear hN b1
  go_wp2_with fail
  refine (A11 _ HB1.out).mono ?_
  rintro e w2 ⟨B2, m2, k2, rfl, hM, b2, c2'⟩
  have HN2 := Lib.hid (HN.out.up c2')
  have HM := Lib.hid hM
  have HB2 := Lib.hid b2
  clear hM b2 c2' HN HB1
  go_wp2_with fail
  refine (A12j _ HB2.out _ _ _ _ _ _ HN2.out HM.out).mono ?_
  rintro e w3 ⟨rfl, b3⟩
  have HB3 := Lib.hid b3
  clear b3 HN2 HM HB2
  go_wp2_with fail
  refine (A20 _ HB3.out).mono ?_
  rintro e w4 ⟨B4, m4, k4, rfl, hN, b4, _⟩
  have HN := Lib.hid hN
  have HB4 := Lib.hid b4
  clear hN b4 HB3
  go_wp2_with fail
  refine (A21 _ HB4.out).mono ?_
  rintro e w5 ⟨B5, m5, k5, rfl, hM, b5, c5'⟩
  have HN2 := Lib.hid (HN.out.up c5')
  have HM := Lib.hid hM
  have HB5 := Lib.hid b5
  clear hM b5 c5' HN HB4
  go_wp2_with fail
  refine (A12m _ HB5.out _ _ _ _ _ _ HN2.out HM.out).mono ?_
  rintro e w6 ⟨rfl, b6⟩
  have HB6 := Lib.hid b6
  clear b6 HN2 HM HB5
  go_wp2_with fail
  refine (A22 _ HB6.out).mono ?_
  rintro e w7 ⟨rfl, b7⟩
  have HB7 := Lib.hid b7
  clear b7 HB6
  go_wp2_with fail
  refine (A23 _ HB7.out).mono ?_
  rintro e w8 ⟨rfl, b8⟩
  have HB8 := Lib.hid b8
  clear b8 HB7
  go_wp2_with fail
  refine (A24 _ HB8.out).mono ?_
  rintro e w9 ⟨rfl, b9⟩
  have HB9 := Lib.hid b9
  clear b9 HB8
  go_wp2_with fail
  refine (A25 _ HB9.out).mono ?_
  rintro e w10 ⟨rfl, b10⟩
  have HB10 := Lib.hid b10
  clear b10 HB9
  go_wp2_with fail
  refine (A8 _ HB10.out).mono ?_
  rintro e w11 ⟨rfl, b11⟩
  have HB11 := Lib.hid b11
  clear b11 HB10
  go_wp2
  go_ret
  exact ⟨rfl, HB11.out⟩
theorem pairs_walk (P : PVec) (w : World) (A1 A2 : Option Addr) (l1 l2 : List Dot) (n1 n2 c1 c2 : Nat) (hv1 : VecAt w A1 l1 n1 c1) (hv2 : VecAt w A2 l2 n2 c2) :
    Calls Try.prog 4 #[.slice A1 n1 c1, .slice A2 n2 c2] w fun e w' => e = .returned (.bool true) ∧ Below w.heap.size w w' := by
  by_cases h : n1 ≤ 100 ∧ n2 ≤ 100
  · exact pairs_few P w A1 A2 l1 l2 n1 n2 c1 c2 hv1 hv2 h.1 h.2
  · exact pairs_end P w A1 A2 n1 n2 c1 c2 h
end Go.Proofs.Ytbpmbjpepjndaaa.Dt
