/- DotPacks: the law's walk. -/
import Derived.Test.YtoojlalpcmlanaaDoorDPacksW
namespace Go.Proofs.YtoojlalpcmlanaaDoor.Dt
open Go.ChangeShapes Go.WideShapes Go.ChangeAt Go.RowKit
set_option linter.unusedVariables false
set_option linter.unusedSimpArgs false

set_option maxHeartbeats 16000000 in
/-- where both dots may be. -/
theorem packs_both (P : PDot) (w : World) (hV : Vars w) (a b : Dot) (ha : FitD a) (hb : FitD b) (hm : mayD a = true) (hmb : mayD b = true) :
    Calls Tryd.prog 6 #[.agg #[.int .u16 (a.1 : Int), .int .u64 (a.2 : Int)], .agg #[.int .u16 (b.1 : Int), .int .u64 (b.2 : Int)]] w fun e w' => e = .returned (.bool true) ∧ Below w.heap.size w w' := by
  have CK := fun W => P.pack W a ha
  have CU := fun W => P.unpack W (numD a) (numD_less ha)
  rw [unpack_num hm ha.1] at CU
  have HV := Lib.hid hV
  clear hV
  have CT := fun W h => P.text W a h ha
  have CR := fun W h => P.parse W (textA a) h (textA_max ha)
  rw [parse_textA a ha, if_pos hm] at CR
  have CG := fun W => P.good W a.1 a.2 ha
  rw [show mayD (a.1, a.2) = true from hm] at CG
  have HB : Hid (Below w.heap.size w ((w.alloc (.cells #[.int .u16 (a.1 : Int), .int .u64 (a.2 : Int)] 25)).alloc (.cells #[.int .u16 (b.1 : Int), .int .u64 (b.2 : Int)] 25))) := below_new2 _ _ _
  have HC := Lib.hid (two_boxes w a b)
  generalize textA a = ta at CT CR
  simp only at CU CR
  go_enter Tryd.func6, Tryd.ntmps6
  go_wp2_with fail
  generalize (w.alloc (.cells #[.int .u16 (a.1 : Int), .int .u64 (a.2 : Int)] 25)).alloc (.cells #[.int .u16 (b.1 : Int), .int .u64 (b.2 : Int)] 25) = W0 at HB HC ⊢
  refine (CK _).mono ?_
  rintro e w1 ⟨rfl, hb1⟩
  have HB1 := Lib.hid hb1
  clear hb1
  go_wp2_with fail
  refine (CU _).mono ?_
  rintro e w2 ⟨rfl, hb2⟩
  have HB2 : Hid (Below W0.heap.size W0 (w2.alloc (.cells #[.int .u16 (a.1 : Int), .int .u64 (a.2 : Int)] 25))) := bel_alloc _ (HB1.out.trans (hb2.mono HB1.out.size))
  have HD := Lib.hid (one_box w2 a)
  clear hb2 HB1
  obtain ⟨⟨x1, x2⟩, _⟩ := HC.out _ HB2.out
  go_wp2_with fail
  clear x1 x2
  generalize w2.alloc (.cells #[.int .u16 (a.1 : Int), .int .u64 (a.2 : Int)] 25) = W3 at HB2 HD ⊢
  refine (CT _ (HV.out.pow.below (HB.out.trans (HB2.out.mono HB.out.size)))).mono ?_
  rintro e w4 ⟨rfl, hb4⟩
  have HB4 := Lib.hid hb4
  clear hb4
  go_wp2_with fail
  refine (CR _ (HV.out.below (HB.out.trans ((HB2.out.trans (HB4.out.mono HB2.out.size)).mono HB.out.size)))).mono ?_
  rintro e w5 ⟨rfl, hb5⟩
  have HB5 : Hid (Below W3.heap.size W3 (w5.alloc (.cells #[.int .u16 (a.1 : Int), .int .u64 (a.2 : Int)] 25))) := bel_alloc _ (HB4.out.trans (hb5.mono HB4.out.size))
  have HD6 := Lib.hid (one_box w5 a)
  clear hb5 HB4
  obtain ⟨⟨x1, x2⟩, _⟩ := HC.out _ (HB2.out.trans (HB5.out.mono HB2.out.size))
  go_wp2_with fail
  clear x1 x2
  generalize w5.alloc (.cells #[.int .u16 (a.1 : Int), .int .u64 (a.2 : Int)] 25) = W6 at HB5 HD6 ⊢
  refine (CG _).mono ?_
  rintro e w7 ⟨rfl, hb7⟩
  have HG7 := Lib.hid hb7
  have HB7 : Hid (Below W3.heap.size W3 w7) := HB5.out.trans (hb7.mono HB5.out.size)
  have G7 : Below W0.heap.size W0 w7 := HB2.out.trans (HB7.out.mono HB2.out.size)
  have HE : Hid (Below w.heap.size w w7) := HB.out.trans (G7.mono HB.out.size)
  have HC7 : Hid (∀ V, Below w7.heap.size w7 V → (V.cell? ⟨w.heap.size, 0, none⟩ = some (.int .u16 (a.1 : Int)) ∧ V.cell? ⟨w.heap.size, 1, none⟩ = some (.int .u64 (a.2 : Int))) ∧ V.cell? ⟨w.heap.size + 1, 0, none⟩ = some (.int .u16 (b.1 : Int)) ∧ V.cell? ⟨w.heap.size + 1, 1, none⟩ = some (.int .u64 (b.2 : Int))) := fun V hV => HC.out V (G7.trans (hV.mono G7.size))
  obtain ⟨⟨x1, x2⟩, x3, x4⟩ := HC7.out w7 (Below.refl _ _)
  clear hb7 HB HB2 HB5 HC G7 CK CU CT CR CG
  have A1 := fun W (hW : Below w7.heap.size w7 W) => later hW (P.good W b.1 b.2 hb)
  go_wp2_with fail
  · rw [show mayD (b.1, b.2) = true from hmb] at A1
    have A2 := fun W (hW : Below w7.heap.size w7 W) => later hW (P.cmp W a b ha hb)
    have A3 := fun W (hW : Below w7.heap.size w7 W) => later hW (P.pack W a ha)
    have A4 := fun W (hW : Below w7.heap.size w7 W) => later hW (P.pack W b hb)
    have hn := num_order hm hmb
    have hn1 := num_one hm hmb
    have t1 : decide (cmpD a b < 0) = aheadD a b := cmp_neg a b
    have t2 : decide ((numD a : Int) < (numD b : Int)) = aheadD a b := by
      cases h : aheadD a b with
      | true => exact decide_eq_true (by have := hn.2 h; omega)
      | false => exact decide_eq_false (fun h2 => by rw [hn.1 (by omega)] at h; exact absurd h (by simp))
    generalize aheadD a b = q at t1 t2
    generalize cmpD a b = cz at t1 A2
    have t3 : ((numD a : Int) == (numD b : Int)) = ((a.1 : Int) == (b.1 : Int) && (a.2 : Int) == (b.2 : Int)) := by
      rw [Bool.eq_iff_iff, Bool.and_eq_true, beq_iff_eq, beq_iff_eq, beq_iff_eq]
      constructor
      · intro h
        have h2 := hn1.1 (by omega)
        rw [h2]; exact ⟨rfl, rfl⟩
      · rintro ⟨h1, h2⟩
        have := hn1.2 (Prod.ext (by omega) (by omega))
        omega
    clear hn hn1 hm hmb
    generalize ((numD a : Nat) : Int) = na at A3 t2 t3 ⊢
    generalize ((numD b : Nat) : Int) = nb at A4 t2 t3 ⊢
    have hq : q = true ∨ q = false := by cases q <;> simp
    have hX : ((a.1 : Int) == (b.1 : Int)) = true ∨ ((a.1 : Int) == (b.1 : Int)) = false := by cases ((a.1 : Int) == (b.1 : Int)) <;> simp
    have hY : ((a.2 : Int) == (b.2 : Int)) = true ∨ ((a.2 : Int) == (b.2 : Int)) = false := by cases ((a.2 : Int) == (b.2 : Int)) <;> simp
    rcases hq with rfl | rfl <;> rcases hX with q1 | q1 <;> rcases hY with q2 | q2
    all_goals
     rw [q1, q2] at t3
     simp only [Bool.and_true, Bool.and_false, Bool.true_and, Bool.false_and] at t3
     go_region_held3 (fun V => (V.cell? ⟨w.heap.size, 0, none⟩ = some (.int .u16 (a.1 : Int)) ∧ V.cell? ⟨w.heap.size, 1, none⟩ = some (.int .u64 (a.2 : Int))) ∧ V.cell? ⟨w.heap.size + 1, 0, none⟩ = some (.int .u16 (b.1 : Int)) ∧ V.cell? ⟨w.heap.size + 1, 1, none⟩ = some (.int .u64 (b.2 : Int))) (first | exact ⟨⟨x1, x2⟩, x3, x4⟩ | assumption | exact HC7.out _ (by (repeat (first | exact Below.refl _ _ | assumption | apply bel_drew | apply bel_alloc)))) (first
       | (go_at_call 10; (with_reducible refine (A1 _ ?_).mono ?_); (repeat (first | exact Below.refl _ _ | assumption | apply bel_drew | apply bel_alloc)); rintro e V ⟨rfl, bv⟩; have hcV := HC7.out V bv)
       | (go_at_call 12; (with_reducible refine (A2 _ ?_).mono ?_); (repeat (first | exact Below.refl _ _ | assumption | apply bel_drew | apply bel_alloc)); rintro e V ⟨rfl, bv⟩; have hcV := HC7.out V bv)
       | (go_at_call 14; (with_reducible refine (A3 _ ?_).mono ?_); (repeat (first | exact Below.refl _ _ | assumption | apply bel_drew | apply bel_alloc)); rintro e V ⟨rfl, bv⟩; have hcV := HC7.out V bv)
       | (go_at_call 14; (with_reducible refine (A4 _ ?_).mono ?_); (repeat (first | exact Below.refl _ _ | assumption | apply bel_drew | apply bel_alloc)); rintro e V ⟨rfl, bv⟩; have hcV := HC7.out V bv))
     all_goals
       have HV3 : Hid (Below W3.heap.size W3 V) := HB7.out.trans (bv.mono HB7.out.size)
       have HV6 : Hid (Below W6.heap.size W6 V) := HG7.out.trans (bv.mono HG7.out.size)
       have HEV : Hid (Below w.heap.size w V) := HE.out.trans (bv.mono HE.out.size)
       obtain ⟨y1, y2⟩ := HD.out _ HV3.out
       obtain ⟨z1, z2⟩ := HD6.out _ HV6.out
       obtain ⟨⟨k1, k2⟩, _⟩ := HC7.out V bv
       clear hcV bv HB7 HG7 HE HD HD6 HC7 A1 A2 A3 A4 x1 x2 x3 x4 t1 t2 t3
       go_wp2_with fail
       refine (works_any P _ (HV.out.pow.below HEV.out)).mono ?_
       rintro e w8 ⟨rfl, hb8⟩
       have HE8 : Hid (Below w.heap.size w w8) := HEV.out.trans (hb8.mono HEV.out.size)
       clear hb8
       go_wp2
       go_ret
       exact ⟨rfl, HE8.out⟩
end Go.Proofs.YtoojlalpcmlanaaDoor.Dt
