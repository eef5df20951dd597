/- VecTells: the law's walk. -/
import Derived.Test.YtbpmbjpepjndaaaVSide
namespace Go.Proofs.Ytbpmbjpepjndaaa.Dt
open Go.ChangeShapes Go.WideShapes Go.ChangeAt Go.RowKit
set_option linter.unusedVariables false

theorem few_any (w : World) (A : Option Addr) (n c : Nat) : Calls Try.prog 7 #[.slice A n c] w fun e w' => e = .returned (.bool (decide (n ≤ 100))) ∧ w = w' := by
  have h : decide ((n : Int) ≤ 100) = decide (n ≤ 100) := decide_eq_decide.2 (by omega)
  rw [← h]
  clear h
  go_enter Try.func7, Try.ntmps7
  go_wp2
  go_ret
  exact ⟨rfl, rfl⟩
theorem rgood_later {w W : World} (d : Dot) (hW : Below w.heap.size w W) : Calls Try.prog 10 #[.agg #[.int .u16 (d.1 : Int), .int .u64 (d.2 : Int)]] W fun e V => e = .returned (.bool (mayD d)) ∧ Below w.heap.size w V :=
  (rgood_any W d.1 d.2).mono fun _ _ ⟨h1, h2⟩ => ⟨h1, by rw [h2]; exact hW.trans ((below_new W _).mono hW.size)⟩
/-- the box of a dot that came in. -/
theorem one_box (w : World) (d : Dot) : ∀ V, Below (w.alloc (.cells #[.int .u16 (d.1 : Int), .int .u64 (d.2 : Int)] 27)).heap.size (w.alloc (.cells #[.int .u16 (d.1 : Int), .int .u64 (d.2 : Int)] 27)) V → V.cell? ⟨w.heap.size, 0, none⟩ = some (.int .u16 (d.1 : Int)) ∧ V.cell? ⟨w.heap.size, 1, none⟩ = some (.int .u64 (d.2 : Int)) := by
  intro V hV
  have h1 : (w.alloc (.cells #[.int .u16 (d.1 : Int), .int .u64 (d.2 : Int)] 27)).cell? ⟨w.heap.size, 0, none⟩ = some (.int .u16 (d.1 : Int)) := by simp [go_sem]
  have h2 : (w.alloc (.cells #[.int .u16 (d.1 : Int), .int .u64 (d.2 : Int)] 27)).cell? ⟨w.heap.size, 1, none⟩ = some (.int .u64 (d.2 : Int)) := by simp [go_sem]
  exact ⟨(hV.cell (World.block_lt_of_cell? _ _ h1)).trans h1, (hV.cell (World.block_lt_of_cell? _ _ h2)).trans h2⟩
/-- a new vector of one dot. -/
theorem vec_one (w : World) (d : Dot) (hd : FitD d) : VecAt (w.alloc (.cells #[.int .u16 (d.1 : Int), .int .u64 (d.2 : Int)] 27)) (some ⟨w.heap.size, 0, none⟩) [d] 1 1 :=
  ⟨rfl, (fun h => by cases h), by decide, by decide, ⟨fit_dot hd, lies_one w d⟩, by decide⟩
set_option maxHeartbeats 16000000 in
/-- where the dot may be. -/
theorem tells_may (P : PVec) (w : World) (A : Option Addr) (l : List Dot) (n c : Nat) (d : Dot) (hv : VecAt w A l n c) (hd : FitD d) (h100 : n ≤ 100) (hm : mayD d = true) :
    Calls Try.prog 3 #[.slice A n c, .agg #[.int .u16 (d.1 : Int), .int .u64 (d.2 : Int)]] w fun e w' => e = .returned (.bool true) ∧ Below w.heap.size w w' := by
  have HB : Hid (Below w.heap.size w (w.alloc (.cells #[.int .u16 (d.1 : Int), .int .u64 (d.2 : Int)] 27))) := below_new _ _
  have HX := Lib.hid (one_box w d)
  have hq := hv.up HB.out
  have C7 := fun W => few_any W A n c
  rw [decide_eq_true h100] at C7
  have hl := hv.dots.1
  clear hv
  go_enter Try.func3, Try.ntmps3
  go_wp2_with fail
  generalize w.alloc (.cells #[.int .u16 (d.1 : Int), .int .u64 (d.2 : Int)] 27) = W0 at HB HX hq ⊢
  have HQ := Lib.hid hq
  have HL := Lib.hid hl
  have HD := Lib.hid hd
  have HM := Lib.hid hm
  clear hq hl hd hm
  refine (C7 _).mono ?_
  rintro e w1 ⟨rfl, rfl⟩
  go_wp2_with fail
  refine (rnorm_any _ A l n c HQ.out.len HQ.out.nil HQ.out.dots (by omega)).mono ?_
  rintro e w2 hp2
  obtain ⟨A2, m2, c2, rfl, _, hb2⟩ := vec_post hp2 (fit_norm HL.out) (short_norm l)
  have HB2 := Lib.hid hb2
  clear hb2 hp2
  obtain ⟨x1, x2⟩ := HX.out _ HB2.out
  go_wp2_with fail
  have A10 := rgood_later d HB2.out
  rw [HM.out] at A10
  refine A10.mono ?_
  rintro e w3 ⟨rfl, hb3⟩
  have HB3 := Lib.hid hb3
  clear hb3 x1 x2 A10
  obtain ⟨x1, x2⟩ := HX.out _ HB3.out
  have HB3a : Hid (Below W0.heap.size W0 (w3.alloc (.cells #[.int .u16 (d.1 : Int), .int .u64 (d.2 : Int)] 27))) := bel_alloc _ HB3.out
  go_wp2_with fail
  refine (rjoin_any _ A _ l [d] n 1 c 1 HQ.out.len rfl HQ.out.nil (fun h => by cases h) (HQ.out.up HB3a.out).dots (vec_one w3 d HD.out).dots (by omega)).mono ?_
  rintro e w4 hp4
  obtain ⟨A4, m4, c4, rfl, hW4, hb4⟩ := vec_post hp4 (fit_put' HL.out HD.out) (short_join l [d])
  have HB4 : Hid (Below W0.heap.size W0 w4) := HB3a.out.trans (hb4.mono HB3a.out.size)
  have HW4 := Lib.hid hW4
  have HQ4 := Lib.hid (HQ.out.up HB4.out)
  have HX4 : Hid (∀ V, Below w4.heap.size w4 V → V.cell? ⟨w.heap.size, 0, none⟩ = some (.int .u16 (d.1 : Int)) ∧ V.cell? ⟨w.heap.size, 1, none⟩ = some (.int .u64 (d.2 : Int))) := fun V hV => HX.out V (HB4.out.trans (hV.mono HB4.out.size))
  have HE4 : Hid (Below w.heap.size w w4) := HB.out.trans (HB4.out.mono HB.out.size)
  clear hb4 hp4 hW4 x1 x2 C7 HX HB HB2 HB3 HB3a HB4
  have A13 := fun W (hW : Below w4.heap.size w4 W) => made hW (fit_norm HL.out) (short_norm l) (P.norm W A l n c (HQ4.out.up hW))
  have A9 := fun W (hW : Below w4.heap.size w4 W) => made hW (fit_norm HL.out) (short_norm l) (rnorm_any W A l n c HQ.out.len HQ.out.nil (HQ4.out.up hW).dots (by omega))
  have A14 := fun W (hW : Below w4.heap.size w4 W) => later hW (P.good W A l n c (HQ4.out.up hW))
  have A15 := fun W (hW : Below w4.heap.size w4 W) => later hW (P.of W A l n c d.1 (HQ4.out.up hW) HD.out.1)
  have A16 := fun W (hW : Below w4.heap.size w4 W) => later hW (rof_any W A l n c d.1 HQ.out.len (HQ4.out.up hW).dots (by omega))
  have A17 := fun W (hW : Below w4.heap.size w4 W) => later hW (P.has W A l n c d (HQ4.out.up hW) HD.out)
  have A10 := fun W (hW : Below w4.heap.size w4 W) => rgood_later d hW
  have A18 := fun W (hW : Below w4.heap.size w4 W) => made hW (fit_put' HL.out HD.out) (short_join l [d]) (P.put W A l n c d (HQ4.out.up hW) HD.out)
  have A8 := fun W (hW : Below w4.heap.size w4 W) => later hW (works_any P W)
  have A12 := fun W (hW : Below w4.heap.size w4 W) A' m' c' (h : VecAt W A' (normV l) m' c') => same_later w4 W A A' l (normV l) n m' c c' hW (HQ4.out.up hW) h
  have A12p := fun W (hW : Below w4.heap.size w4 W) A' m' c' (h : VecAt W A' (putV l d) m' c') => same_true w4 W A' A4 (putV l d) m' m4 c' c4 hW h (HW4.out.up hW)
  have A12n := fun W (hW : Below w4.heap.size w4 W) A' A'' m' m'' c' c'' (h1 : VecAt W A' (normV l) m' c') (h2 : VecAt W A'' (normV l) m'' c'') => same_true w4 W A' A'' (normV l) m' m'' c' c'' hW h1 h2
  rw [HM.out] at A10
  have ho : decide ((d.2 : Int) ≤ ((ofV l d.1 : Nat) : Int)) = hasV l d := by unfold hasV; rw [HM.out, Bool.true_and]; exact decide_eq_decide.2 (by omega)
  rw [show goodV l = decide (l = normV l) from rfl] at A14
  rw [← ho] at A17
  clear ho HM HL HD HQ HQ4 HW4
  obtain ⟨x1, x2⟩ := HX4.out _ (Below.refl _ _)
  generalize decide (l = normV l) = bg at A14 A12
  generalize ((ofV l d.1 : Nat) : Int) = o at A15 A16 A17
  generalize putV l d = L2 at A18 A12p
  generalize normV l = L at A13 A9 A12 A12n
  go_wp2_with fail
  go_region_held3 (fun V => V.cell? ⟨w.heap.size, 0, none⟩ = some (.int .u16 (d.1 : Int)) ∧ V.cell? ⟨w.heap.size, 1, none⟩ = some (.int .u64 (d.2 : Int))) (first | exact ⟨x1, x2⟩ | assumption | exact HX4.out _ (by (repeat (first | exact Below.refl _ _ | assumption | apply bel_drew | apply bel_alloc)))) (first
    | (go_at_call 13; (with_reducible refine (A13 _ ?_).mono ?_); (focus (repeat (first | exact Below.refl _ _ | assumption | apply bel_drew | apply bel_alloc))); rintro e V ⟨A5, m5, c5, rfl, hN, bv, cv⟩; have hcV := HX4.out V bv)
    | (go_at_call 9; (with_reducible refine (A9 _ ?_).mono ?_); (focus (repeat (first | exact Below.refl _ _ | assumption | apply bel_drew | apply bel_alloc))); rintro e V' ⟨A6, m6, c6, rfl, hM, bv', cv'⟩; have hcV' := HX4.out V' bv'; try have hN2 := VecAt.up hN cv')
    | (go_at_call 12; (with_reducible refine (A12n _ ?_ _ _ _ _ _ _ ?_ ?_).mono ?_); (focus (repeat (first | exact Below.refl _ _ | assumption | apply bel_drew | apply bel_alloc))); (focus exact hN2); (focus exact hM); rintro e V ⟨rfl, bv⟩; have hcV := HX4.out V bv)
    | (go_at_call 12; (with_reducible refine (A12 _ ?_ _ _ _ ?_).mono ?_); (focus (repeat (first | exact Below.refl _ _ | assumption | apply bel_drew | apply bel_alloc))); (focus exact hM); rintro e V ⟨rfl, bv⟩; have hcV := HX4.out V bv)
    | (go_at_call 12; (with_reducible refine (A12p _ ?_ _ _ _ ?_).mono ?_); (focus (repeat (first | exact Below.refl _ _ | assumption | apply bel_drew | apply bel_alloc))); (focus exact hN); rintro e V ⟨rfl, bv⟩; have hcV := HX4.out V bv)
    | (go_at_call 14; (with_reducible refine (A14 _ ?_).mono ?_); (focus (repeat (first | exact Below.refl _ _ | assumption | apply bel_drew | apply bel_alloc))); rintro e V ⟨rfl, bv⟩; have hcV := HX4.out V bv)
    | (go_at_call 15; (with_reducible refine (A15 _ ?_).mono ?_); (focus (repeat (first | exact Below.refl _ _ | assumption | apply bel_drew | apply bel_alloc))); rintro e V ⟨rfl, bv⟩; have hcV := HX4.out V bv)
    | (go_at_call 16; (with_reducible refine (A16 _ ?_).mono ?_); (focus (repeat (first | exact Below.refl _ _ | assumption | apply bel_drew | apply bel_alloc))); rintro e V ⟨rfl, bv⟩; have hcV := HX4.out V bv)
    | (go_at_call 17; (with_reducible refine (A17 _ ?_).mono ?_); (focus (repeat (first | exact Below.refl _ _ | assumption | apply bel_drew | apply bel_alloc))); rintro e V ⟨rfl, bv⟩; have hcV := HX4.out V bv)
    | (go_at_call 10; (with_reducible refine (A10 _ ?_).mono ?_); (focus (repeat (first | exact Below.refl _ _ | assumption | apply bel_drew | apply bel_alloc))); rintro e V ⟨rfl, bv⟩; have hcV := HX4.out V bv)
    | (go_at_call 8; (with_reducible refine (A8 _ ?_).mono ?_); (focus (repeat (first | exact Below.refl _ _ | assumption | apply bel_drew | apply bel_alloc))); rintro e V ⟨rfl, bv⟩; have hcV := HX4.out V bv)
    | (go_at_call 18; (with_reducible refine (A18 _ ?_).mono ?_); (focus (repeat (first | exact Below.refl _ _ | assumption | apply bel_drew | apply bel_alloc))); rintro e V ⟨A5, m5, c5, rfl, hN, bv, cv⟩; have hcV := HX4.out V bv))
  all_goals
    go_wp2
    go_ret
    exact ⟨rfl, HE4.out.trans (bv.mono HE4.out.size)⟩
end Go.Proofs.Ytbpmbjpepjndaaa.Dt
