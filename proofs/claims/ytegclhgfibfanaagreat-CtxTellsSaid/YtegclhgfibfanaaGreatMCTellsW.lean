/- CtxTells: the law's walk (gen-ctells.py printed it). -/
import Derived.Test.YtegclhgfibfanaaGreatMCSetsW
namespace Go.Proofs.YtegclhgfibfanaaGreat.Cx
open Go.ChangeShapes Go.WideShapes Go.ChangeAt Go.RowKit
set_option linter.unusedVariables false

/-- a call that tells, in a later world. -/
theorem later {w W : World} {f : Nat} {args : Array Value} {v : Value} (hW : Below w.heap.size w W) (h : Calls Tryz.prog f args W fun e V => e = .returned v ∧ Below W.heap.size W V) :
    Calls Tryz.prog f args W fun e V => e = .returned v ∧ Below w.heap.size w V :=
  h.mono fun _ _ ⟨h1, h2⟩ => ⟨h1, hW.trans (h2.mono hW.size)⟩
theorem later_ctx {w W : World} {f : Nat} {args : Array Value} {m : List Part} (hW : Below w.heap.size w W) (h : Calls Tryz.prog f args W (CtxHas W m)) :
    Calls Tryz.prog f args W fun e V => ∃ A n c, e = .returned (.slice A n c) ∧ CtxAt V A m n c ∧ Below w.heap.size w V ∧ Below W.heap.size W V :=
  h.mono fun e V ⟨A, n, c, e1, h1, h2⟩ => ⟨A, n, c, e1, h1, hW.trans (h2.mono hW.size), h2⟩
theorem later_dots {w W : World} {f : Nat} {args : Array Value} {m : List Dot} (hW : Below w.heap.size w W) (h : Calls Tryz.prog f args W (DotsHas W m)) :
    Calls Tryz.prog f args W fun e V => ∃ A n c, e = .returned (.slice A n c) ∧ DotsAt V A m n c ∧ Below w.heap.size w V ∧ Below W.heap.size W V :=
  h.mono fun e V ⟨A, n, c, e1, h1, h2⟩ => ⟨A, n, c, e1, h1, hW.trans (h2.mono hW.size), h2⟩
theorem later_runs {w W : World} {f : Nat} {args : Array Value} {m : List Run} (hW : Below w.heap.size w W) (h : Calls Tryz.prog f args W (RunsHas W m)) :
    Calls Tryz.prog f args W fun e V => ∃ A n c, e = .returned (.slice A n c) ∧ RunsAt V A m n c ∧ Below w.heap.size w V ∧ Below W.heap.size W V :=
  h.mono fun e V ⟨A, n, c, e1, h1, h2⟩ => ⟨A, n, c, e1, h1, hW.trans (h2.mono hW.size), h2⟩
theorem tells_end (P : PCtx) (w : World) (A1 A2 : Option Addr) (a : List Part) (n1 n2 c1 c2 : Nat) (d : Dot) (ha : CtxAt w A1 a n1 c1) (h : ¬ (fewC a = true ∧ n2 ≤ 40)) :
    Calls Tryz.prog 3 #[.slice A1 n1 c1, .slice A2 n2 c2, .agg #[.int .u16 (d.1 : Int), .int .u64 (d.2 : Int)]] w fun e w' => e = .returned (.bool true) ∧ Below w.heap.size w w' := by
  have HB : Hid (Below w.heap.size w (w.alloc (.cells #[.int .u16 (d.1 : Int), .int .u64 (d.2 : Int)] 28))) := Lib.hid (Dt.below_new _ _)
  have C1 := Lib.hid (rfew_any _ A1 a n1 c1 (ha.up HB.out))
  cases h1 : fewC a with
  | false =>
    rw [h1] at C1
    clear h ha
    go_enter Tryz.func3, Tryz.ntmps3
    go_wp2_with fail
    refine C1.out.mono ?_
    rintro e w1 ⟨rfl, b1⟩
    have HC : Hid (Below w.heap.size w w1) := Lib.hid (HB.out.trans (b1.mono HB.out.size))
    clear b1 C1 HB
    go_wp2_with fail
    refine (works_any P _).mono ?_
    rintro e w2 ⟨rfl, b2⟩
    have HE : Hid (Below w.heap.size w w2) := Lib.hid (HC.out.trans (b2.mono HC.out.size))
    clear b2
    go_wp2
    go_ret
    exact ⟨rfl, HE.out⟩
  | true =>
    rw [h1] at C1
    have h2 : decide ((40 : Int) < (n2 : Int)) = true := decide_eq_true (by
      have : ¬ n2 ≤ 40 := fun h3 => h ⟨h1, h3⟩
      omega)
    clear h ha
    go_enter Tryz.func3, Tryz.ntmps3
    go_wp2_with fail
    refine C1.out.mono ?_
    rintro e w1 ⟨rfl, b1⟩
    have HC : Hid (Below w.heap.size w w1) := Lib.hid (HB.out.trans (b1.mono HB.out.size))
    clear b1 C1 HB
    go_wp2_with fail
    refine (works_any P _).mono ?_
    rintro e w2 ⟨rfl, b2⟩
    have HE : Hid (Below w.heap.size w w2) := Lib.hid (HC.out.trans (b2.mono HC.out.size))
    clear b2
    go_wp2
    go_ret
    exact ⟨rfl, HE.out⟩
set_option maxHeartbeats 16000000 in
theorem tells_few (P : PCtx) (w : World) (A1 A2 : Option Addr) (a : List Part) (l : List Dot) (n1 n2 c1 c2 : Nat) (d : Dot) (ha : CtxAt w A1 a n1 c1) (hl : DotsAt w A2 l n2 c2) (hd : d.1 < 65536 ∧ d.2 < 18446744073709551616) (f1 : fewC a = true) (f2 : n2 ≤ 40) :
    Calls Tryz.prog 3 #[.slice A1 n1 c1, .slice A2 n2 c2, .agg #[.int .u16 (d.1 : Int), .int .u64 (d.2 : Int)]] w fun e w' => e = .returned (.bool true) ∧ Below w.heap.size w w' := by
  have HB : Hid (Below w.heap.size w (w.alloc (.cells #[.int .u16 (d.1 : Int), .int .u64 (d.2 : Int)] 28))) := Lib.hid (Dt.below_new _ _)
  have HX := Lib.hid (box_at w d)
  have C1 := Lib.hid (rfew_any _ A1 a n1 c1 (ha.up HB.out))
  rw [f1] at C1
  have g2 : decide ((40 : Int) < (n2 : Int)) = false := decide_eq_false (by omega)
  have s1 := few_is f1
  have W1 : Wide 67108864 a := (small_wide s1).more (by decide)
  have s2 : Small (ofC l) := (of_whole l hl.fit).small (by rw [hl.len]; omega)
  have n67 : n2 ≤ 67108864 := by omega
  have n99 : n2 ≤ 99 := by omega
  go_enter Tryz.func3, Tryz.ntmps3
  go_wp2_with fail
  refine C1.out.mono ?_
  rintro e w1 ⟨rfl, b1⟩
  have HC : Hid (Below w.heap.size w w1) := Lib.hid (HB.out.trans (b1.mono HB.out.size))
  have HX1 : Hid (∀ V, Below w1.heap.size w1 V → V.cell? ⟨w.heap.size, 0, none⟩ = some (.int .u16 (d.1 : Int)) ∧ V.cell? ⟨w.heap.size, 1, none⟩ = some (.int .u64 (d.2 : Int))) := Lib.hid (fun V hV => HX.out V (b1.trans (hV.mono b1.size)))
  have HA := Lib.hid (ha.up HC.out)
  have HL := Lib.hid (hl.up HC.out)
  have ff := hl.fit
  have A10 := fun W (hW : Below w1.heap.size w1 W) => later_ctx hW (P.norm W A1 a n1 c1 (HA.out.up hW) W1)
  have A11 := fun W (hW : Below w1.heap.size w1 W) => later_ctx hW ((rnorm_any W A1 a n1 c1 (HA.out.up hW) s1).mono fun _ _ h => ctx_has h)
  have A12 := fun W (hW : Below w1.heap.size w1 W) => later hW (P.good W A1 a n1 c1 (HA.out.up hW) W1)
  have A13 := fun W (hW : Below w1.heap.size w1 W) => later hW (rgood_any W A1 a n1 c1 (HA.out.up hW) s1)
  have A14 := fun W (hW : Below w1.heap.size w1 W) => later_ctx hW (P.of W A2 l n2 c2 (HL.out.up hW) n67)
  have A15 := fun W (hW : Below w1.heap.size w1 W) => later_ctx hW (rof_any W A2 l n2 c2 (HL.out.up hW).len (HL.out.up hW).dots n99)
  have A17 := fun W (hW : Below w1.heap.size w1 W) => later_runs hW (P.runs W A1 a n1 c1 d.1 (HA.out.up hW) W1 hd.1)
  have A18 := fun W (hW : Below w1.heap.size w1 W) => later_runs hW ((rruns_any W A1 a n1 c1 d.1 (HA.out.up hW) s1).mono fun _ _ h => runs_has' (runs_order a d.1) h)
  have A19 := fun W (hW : Below w1.heap.size w1 W) => later hW (P.has W A1 a n1 c1 d (HA.out.up hW) W1 hd)
  have A20 := fun W (hW : Below w1.heap.size w1 W) => later hW (rhas_any W A1 a n1 c1 d (HA.out.up hW) s1 hd)
  have A21 := fun W (hW : Below w1.heap.size w1 W) => later_ctx hW (P.add W A1 A2 a l n1 n2 c1 c2 (HA.out.up hW) (HL.out.up hW) W1 n67)
  have A22 := fun W (hW : Below w1.heap.size w1 W) A m c (h : CtxAt W A (ofC l) m c) => later_ctx hW ((rjoin_any W A1 A a (ofC l) n1 m c1 c (HA.out.up hW) h s1 s2).mono fun _ _ h => ctx_has h)
  have A23 := fun W (hW : Below w1.heap.size w1 W) => later_ctx hW (P.only W A1 a n1 c1 d.1 (HA.out.up hW) W1 hd.1)
  have A24 := fun W (hW : Below w1.heap.size w1 W) => later_ctx hW (ronly_any W A1 a n1 c1 d.1 (HA.out.up hW) s1 hd.1)
  have A25 := fun W (hW : Below w1.heap.size w1 W) => later hW (P.size W A1 a n1 c1 (HA.out.up hW) W1)
  have A26 := fun W (hW : Below w1.heap.size w1 W) => later hW (rsize_any W A1 a n1 c1 (HA.out.up hW) s1)
  have A28 := fun W (hW : Below w1.heap.size w1 W) => later_dots hW (P.base W A1 a n1 c1 (HA.out.up hW) W1)
  have A29 := fun W (hW : Below w1.heap.size w1 W) => later_dots hW ((rbase_any W A1 a n1 c1 (HA.out.up hW) s1).mono fun _ _ h => dots_has (fit_base HA.out.fit) h)
  have A30 := fun W (hW : Below w1.heap.size w1 W) => later_ctx hW (P.plain W A2 l n2 c2 (HL.out.up hW) n67)
  have A31 := fun W (hW : Below w1.heap.size w1 W) => later_ctx hW ((rplain_any W A2 l n2 c2 (HL.out.up hW).len (HL.out.up hW).nil (HL.out.up hW).dots (by omega)).mono fun _ _ h => ctx_has h)
  have A8 := fun W (hW : Below w1.heap.size w1 W) => later hW (works_any P W)
  have A9 := fun (m : List Part) W (hW : Below w1.heap.size w1 W) A' A'' m' m'' c' c'' (h1 : CtxAt W A' m m' c') (h2 : CtxAt W A'' m m'' c'') => later hW (eq_true W A' A'' m m' m'' c' c'' h1 h2)
  have A16 := fun (m : List Run) W (hW : Below w1.heap.size w1 W) A' A'' m' m'' c' c'' (h1 : RunsAt W A' m m' c') (h2 : RunsAt W A'' m m'' c'') => later hW ((same_runs W A' A'' m m m' m'' c' c'' h1 h2).mono fun _ _ ⟨h3, h4⟩ => ⟨by rw [h3, decide_eq_true rfl], h4⟩)
  have A27 := fun (m : List Dot) W (hW : Below w1.heap.size w1 W) A' A'' m' m'' c' c'' (h1 : DotsAt W A' m m' c') (h2 : DotsAt W A'' m m'' c'') => later hW ((same_dots W A' A'' m m m' m'' c' c'' h1 h2).mono fun _ _ ⟨h3, h4⟩ => ⟨by rw [h3, decide_eq_true rfl], h4⟩)
  clear b1 C1 HB HX ha hl HA HL f1 f2 s1 s2 W1 n67 n99 hd ff
  generalize setC a (ofC l) 0 = cJ at A21 A22
  generalize normC a = cN at A10 A11
  generalize goodC a = bG at A12 A13
  generalize ofC l = cO at A14 A15 A22
  generalize runsC a d.1 = rR at A17 A18
  generalize hasC a d = bH at A19 A20
  generalize onlyC a d.1 = cQ at A23 A24
  generalize ((sizeC a : Nat) : Int) = zS at A25 A26
  generalize baseC a = dB at A28 A29
  generalize plainC l = cP at A30 A31
  have A9N := A9 cN
  have A9O := A9 cO
  have A9J := A9 cJ
  have A9Q := A9 cQ
  have A9P := A9 cP
  have A16R := A16 rR
  have A27B := A27 dB
  clear A9 A16 A27
  obtain ⟨x1, x2⟩ := HX1.out _ (Below.refl _ _)
  go_wp2_with fail
  go_region_held3 (fun V => V.cell? ⟨w.heap.size, 0, none⟩ = some (.int .u16 (d.1 : Int)) ∧ V.cell? ⟨w.heap.size, 1, none⟩ = some (.int .u64 (d.2 : Int))) (first | exact ⟨x1, x2⟩ | assumption | exact HX1.out _ (by (repeat (first | exact Below.refl _ _ | assumption | apply bel_drew | apply bel_alloc)))) (first
    | (go_at_call 8; (with_reducible refine (A10 _ ?_).mono ?_); (focus (repeat (first | exact Below.refl _ _ | assumption | apply bel_drew | apply bel_alloc))); rintro e V ⟨A5, m5, c5, rfl, hN, bv, cv'⟩; have hcV := HX1.out V bv)
    | (go_at_call 9; (with_reducible refine (A11 _ ?_).mono ?_); (focus (repeat (first | exact Below.refl _ _ | assumption | apply bel_drew | apply bel_alloc))); rintro e V' ⟨A6, m6, c6, rfl, hM, bv', cv''⟩; have hcV' := HX1.out V' bv'; have hN2 := CtxAt.up hN cv'')
    | (go_at_call 7; (with_reducible refine (A9N _ ?_ _ _ _ _ _ _ ?_ ?_).mono ?_); (focus (repeat (first | exact Below.refl _ _ | assumption | apply bel_drew | apply bel_alloc))); (focus exact hN2); (focus exact hM); rintro e V ⟨rfl, bv⟩; have hcV := HX1.out V bv)
    | (go_at_call 10; (with_reducible refine (A12 _ ?_).mono ?_); (focus (repeat (first | exact Below.refl _ _ | assumption | apply bel_drew | apply bel_alloc))); rintro e V ⟨rfl, bv⟩; have hcV := HX1.out V bv)
    | (go_at_call 11; (with_reducible refine (A13 _ ?_).mono ?_); (focus (repeat (first | exact Below.refl _ _ | assumption | apply bel_drew | apply bel_alloc))); rintro e V ⟨rfl, bv⟩; have hcV := HX1.out V bv)
    | (go_at_call 12; (with_reducible refine (A14 _ ?_).mono ?_); (focus (repeat (first | exact Below.refl _ _ | assumption | apply bel_drew | apply bel_alloc))); rintro e V ⟨A5, m5, c5, rfl, hN, bv, cv'⟩; have hcV := HX1.out V bv)
    | (go_at_call 13; (with_reducible refine (A15 _ ?_).mono ?_); (focus (repeat (first | exact Below.refl _ _ | assumption | apply bel_drew | apply bel_alloc))); rintro e V' ⟨A6, m6, c6, rfl, hM, bv', cv''⟩; have hcV' := HX1.out V' bv'; have hN2 := CtxAt.up hN cv'')
    | (go_at_call 7; (with_reducible refine (A9O _ ?_ _ _ _ _ _ _ ?_ ?_).mono ?_); (focus (repeat (first | exact Below.refl _ _ | assumption | apply bel_drew | apply bel_alloc))); (focus exact hN2); (focus exact hM); rintro e V ⟨rfl, bv⟩; have hcV := HX1.out V bv)
    | (go_at_call 15; (with_reducible refine (A17 _ ?_).mono ?_); (focus (repeat (first | exact Below.refl _ _ | assumption | apply bel_drew | apply bel_alloc))); rintro e V ⟨A5, m5, c5, rfl, hN, bv, cv'⟩; have hcV := HX1.out V bv)
    | (go_at_call 16; (with_reducible refine (A18 _ ?_).mono ?_); (focus (repeat (first | exact Below.refl _ _ | assumption | apply bel_drew | apply bel_alloc))); rintro e V' ⟨A6, m6, c6, rfl, hM, bv', cv''⟩; have hcV' := HX1.out V' bv'; have hN2 := RunsAt.up hN cv'')
    | (go_at_call 14; (with_reducible refine (A16R _ ?_ _ _ _ _ _ _ ?_ ?_).mono ?_); (focus (repeat (first | exact Below.refl _ _ | assumption | apply bel_drew | apply bel_alloc))); (focus exact hN2); (focus exact hM); rintro e V ⟨rfl, bv⟩; have hcV := HX1.out V bv)
    | (go_at_call 17; (with_reducible refine (A19 _ ?_).mono ?_); (focus (repeat (first | exact Below.refl _ _ | assumption | apply bel_drew | apply bel_alloc))); rintro e V ⟨rfl, bv⟩; have hcV := HX1.out V bv)
    | (go_at_call 18; (with_reducible refine (A20 _ ?_).mono ?_); (focus (repeat (first | exact Below.refl _ _ | assumption | apply bel_drew | apply bel_alloc))); rintro e V ⟨rfl, bv⟩; have hcV := HX1.out V bv))
  all_goals
    clear A10 A11 A12 A13 A14 A17 A18 A19 A20 A9N A9O A16R
    have x3 := HX1.out V bv
    obtain ⟨x1, x2⟩ := x3
    go_wp2_with fail
    go_region_held3 (fun V => V.cell? ⟨w.heap.size, 0, none⟩ = some (.int .u16 (d.1 : Int)) ∧ V.cell? ⟨w.heap.size, 1, none⟩ = some (.int .u64 (d.2 : Int))) (first | exact ⟨x1, x2⟩ | assumption | exact HX1.out _ (by (repeat (first | exact Below.refl _ _ | assumption | apply bel_drew | apply bel_alloc)))) (first
      | (go_at_call 19; (with_reducible refine (A21 _ ?_).mono ?_); (focus (repeat (first | exact Below.refl _ _ | assumption | apply bel_drew | apply bel_alloc))); rintro e V ⟨A5, m5, c5, rfl, hN, bv, cv'⟩; have hcV := HX1.out V bv)
      | (go_at_call 13; (with_reducible refine (A15 _ ?_).mono ?_); (focus (repeat (first | exact Below.refl _ _ | assumption | apply bel_drew | apply bel_alloc))); rintro e V' ⟨A6, m6, c6, rfl, hM, bv', cv''⟩; have hcV' := HX1.out V' bv'; have hN2 := CtxAt.up hN cv'')
      | (go_at_call 20; (with_reducible refine (A22 _ ?_ _ _ _ ?_).mono ?_); (focus (repeat (first | exact Below.refl _ _ | assumption | apply bel_drew | apply bel_alloc))); (focus exact hM); rintro e V ⟨A7, m7, c7, rfl, hJ, bv, cv'⟩; have hcV := HX1.out V bv; have hN3 := CtxAt.up hN2 cv')
      | (go_at_call 7; (with_reducible refine (A9J _ ?_ _ _ _ _ _ _ ?_ ?_).mono ?_); (focus (repeat (first | exact Below.refl _ _ | assumption | apply bel_drew | apply bel_alloc))); (focus exact hN3); (focus exact hJ); rintro e V ⟨rfl, bv⟩; have hcV := HX1.out V bv)
      | (go_at_call 21; (with_reducible refine (A23 _ ?_).mono ?_); (focus (repeat (first | exact Below.refl _ _ | assumption | apply bel_drew | apply bel_alloc))); rintro e V ⟨A5, m5, c5, rfl, hN, bv, cv'⟩; have hcV := HX1.out V bv)
      | (go_at_call 22; (with_reducible refine (A24 _ ?_).mono ?_); (focus (repeat (first | exact Below.refl _ _ | assumption | apply bel_drew | apply bel_alloc))); rintro e V' ⟨A6, m6, c6, rfl, hM, bv', cv''⟩; have hcV' := HX1.out V' bv'; have hN2 := CtxAt.up hN cv'')
      | (go_at_call 7; (with_reducible refine (A9Q _ ?_ _ _ _ _ _ _ ?_ ?_).mono ?_); (focus (repeat (first | exact Below.refl _ _ | assumption | apply bel_drew | apply bel_alloc))); (focus exact hN2); (focus exact hM); rintro e V ⟨rfl, bv⟩; have hcV := HX1.out V bv)
      | (go_at_call 23; (with_reducible refine (A25 _ ?_).mono ?_); (focus (repeat (first | exact Below.refl _ _ | assumption | apply bel_drew | apply bel_alloc))); rintro e V ⟨rfl, bv⟩; have hcV := HX1.out V bv)
      | (go_at_call 24; (with_reducible refine (A26 _ ?_).mono ?_); (focus (repeat (first | exact Below.refl _ _ | assumption | apply bel_drew | apply bel_alloc))); rintro e V ⟨rfl, bv⟩; have hcV := HX1.out V bv)
      | (go_at_call 26; (with_reducible refine (A28 _ ?_).mono ?_); (focus (repeat (first | exact Below.refl _ _ | assumption | apply bel_drew | apply bel_alloc))); rintro e V ⟨A5, m5, c5, rfl, hN, bv, cv'⟩; have hcV := HX1.out V bv)
      | (go_at_call 27; (with_reducible refine (A29 _ ?_).mono ?_); (focus (repeat (first | exact Below.refl _ _ | assumption | apply bel_drew | apply bel_alloc))); rintro e V' ⟨A6, m6, c6, rfl, hM, bv', cv''⟩; have hcV' := HX1.out V' bv'; have hN2 := DotsAt.up hN cv'')
      | (go_at_call 25; (with_reducible refine (A27B _ ?_ _ _ _ _ _ _ ?_ ?_).mono ?_); (focus (repeat (first | exact Below.refl _ _ | assumption | apply bel_drew | apply bel_alloc))); (focus exact hN2); (focus exact hM); rintro e V ⟨rfl, bv⟩; have hcV := HX1.out V bv)
      | (go_at_call 28; (with_reducible refine (A30 _ ?_).mono ?_); (focus (repeat (first | exact Below.refl _ _ | assumption | apply bel_drew | apply bel_alloc))); rintro e V ⟨A5, m5, c5, rfl, hN, bv, cv'⟩; have hcV := HX1.out V bv)
      | (go_at_call 29; (with_reducible refine (A31 _ ?_).mono ?_); (focus (repeat (first | exact Below.refl _ _ | assumption | apply bel_drew | apply bel_alloc))); rintro e V' ⟨A6, m6, c6, rfl, hM, bv', cv''⟩; have hcV' := HX1.out V' bv'; have hN2 := CtxAt.up hN cv'')
      | (go_at_call 7; (with_reducible refine (A9P _ ?_ _ _ _ _ _ _ ?_ ?_).mono ?_); (focus (repeat (first | exact Below.refl _ _ | assumption | apply bel_drew | apply bel_alloc))); (focus exact hN2); (focus exact hM); rintro e V ⟨rfl, bv⟩; have hcV := HX1.out V bv)
      | (go_at_call 6; (with_reducible refine (A8 _ ?_).mono ?_); (focus (repeat (first | exact Below.refl _ _ | assumption | apply bel_drew | apply bel_alloc))); rintro e V ⟨rfl, bv⟩; have hcV := HX1.out V bv))
  all_goals
    have HE : Hid (Below w.heap.size w V) := Lib.hid (HC.out.trans (bv.mono HC.out.size))
    go_wp2
    go_ret
    exact ⟨rfl, HE.out⟩
theorem tells_walk (P : PCtx) (w : World) (A1 A2 : Option Addr) (a : List Part) (l : List Dot) (n1 n2 c1 c2 : Nat) (d : Dot) (ha : CtxAt w A1 a n1 c1) (hl : DotsAt w A2 l n2 c2) (hd : d.1 < 65536 ∧ d.2 < 18446744073709551616) :
    Calls Tryz.prog 3 #[.slice A1 n1 c1, .slice A2 n2 c2, .agg #[.int .u16 (d.1 : Int), .int .u64 (d.2 : Int)]] w fun e w' => e = .returned (.bool true) ∧ Below w.heap.size w w' := by
  by_cases h : fewC a = true ∧ n2 ≤ 40
  · exact tells_few P w A1 A2 a l n1 n2 c1 c2 d ha hl hd h.1 h.2
  · exact tells_end P w A1 A2 a n1 n2 c1 c2 d ha h
end Go.Proofs.YtegclhgfibfanaaGreat.Cx
