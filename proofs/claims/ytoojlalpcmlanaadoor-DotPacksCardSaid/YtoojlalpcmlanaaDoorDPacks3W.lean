/- DotPacks: the law's walk where the first dot may be and the second may not, and the whole. -/
import Derived.Test.YtoojlalpcmlanaaDoorDPacks2W
import Derived.Shelf.SlSortCmp.QuietGrown
namespace Go.Proofs.YtoojlalpcmlanaaDoor.Dt
open Go.ChangeShapes Go.WideShapes Go.ChangeAt Go.RowKit
set_option linter.unusedVariables false

theorem pgood_g (W : World) (d : Dot) (b : Bool) (hb : mayD d = b) :
    Calls Tryd.prog 10 #[.agg #[.int .u16 (d.1 : Int), .int .u64 (d.2 : Int)]] W fun e w' => e = .returned (.bool b) ∧ ∃ q os', w' = Sort.grow (W.drewN q) os' := by
  obtain ⟨a, n⟩ := d
  subst hb
  by_cases c1 : 1 ≤ a
  · have d1 : ((a : Int) != 0) = true := by rw [bne_iff_ne]; omega
    by_cases c2 : 1 ≤ n
    · have d2 : ((n : Int) != 0) = true := by rw [bne_iff_ne]; omega
      have hd : mayD (a, n) = decide ((n : Int) ≤ 281474976710655) := decide_eq_decide.2 ⟨fun h => by have := h.2.2; simp at this; omega, fun h => ⟨c1, c2, by simp; omega⟩⟩
      rw [hd]
      clear hd
      go_enter Tryd.func10, Tryd.ntmps10
      go_wp2
      go_ret
      exact ⟨rfl, 0, _, Sort.alloc_eq_grow _ _⟩
    · have hd : mayD (a, n) = false := decide_eq_false (fun h => c2 h.2.1)
      have d2 : ((n : Int) != 0) = false := by rw [bne_eq_false_iff_eq]; omega
      rw [hd]
      clear hd
      go_enter Tryd.func10, Tryd.ntmps10
      go_wp2
      go_ret
      exact ⟨rfl, 0, _, Sort.alloc_eq_grow _ _⟩
  · have hd : mayD (a, n) = false := decide_eq_false (fun h => c1 h.1)
    have d1 : ((a : Int) != 0) = false := by rw [bne_eq_false_iff_eq]; omega
    rw [hd]
    clear hd
    go_enter Tryd.func10, Tryd.ntmps10
    go_wp2
    go_ret
    exact ⟨rfl, 0, _, Sort.alloc_eq_grow _ _⟩
set_option maxHeartbeats 16000000 in
/-- where the first dot may be and the second may not. -/
theorem packs_one (P : PDot) (w : World) (hV : Vars w) (a b : Dot) (ha : FitD a) (hb : FitD b) (hm : mayD a = true) (hmb : mayD b = false) :
    Calls Tryd.prog 6 #[.agg #[.int .u16 (a.1 : Int), .int .u64 (a.2 : Int)], .agg #[.int .u16 (b.1 : Int), .int .u64 (b.2 : Int)]] w fun e w' => e = .returned (.bool true) ∧ Below w.heap.size w w' := by
  have CK := fun W => P.pack W a ha
  have CU := fun W => P.unpack W (numD a) (numD_less ha)
  rw [unpack_num hm ha.1] at CU
  have HV := Lib.hid hV
  clear hV
  have CT := fun W h => P.text W a h ha
  have CR := fun W h => P.parse W (textA a) h (textA_max ha)
  rw [parse_textA a ha, if_pos hm] at CR
  have CG := fun W => P.good W a.1 a.2 ha
  rw [show mayD (a.1, a.2) = true from hm] at CG
  have HB : Hid (Below w.heap.size w ((w.alloc (.cells #[.int .u16 (a.1 : Int), .int .u64 (a.2 : Int)] 25)).alloc (.cells #[.int .u16 (b.1 : Int), .int .u64 (b.2 : Int)] 25))) := below_new2 _ _ _
  have HC := Lib.hid (two_boxes w a b)
  generalize textA a = ta at CT CR
  simp only at CU CR
  go_enter Tryd.func6, Tryd.ntmps6
  go_wp2_with fail
  generalize (w.alloc (.cells #[.int .u16 (a.1 : Int), .int .u64 (a.2 : Int)] 25)).alloc (.cells #[.int .u16 (b.1 : Int), .int .u64 (b.2 : Int)] 25) = W0 at HB HC ⊢
  refine (CK _).mono ?_
  rintro e w1 ⟨rfl, hb1⟩
  have HB1 := Lib.hid hb1
  clear hb1
  go_wp2_with fail
  refine (CU _).mono ?_
  rintro e w2 ⟨rfl, hb2⟩
  have HB2 : Hid (Below W0.heap.size W0 (w2.alloc (.cells #[.int .u16 (a.1 : Int), .int .u64 (a.2 : Int)] 25))) := bel_alloc _ (HB1.out.trans (hb2.mono HB1.out.size))
  have HD := Lib.hid (one_box w2 a)
  clear hb2 HB1
  obtain ⟨⟨x1, x2⟩, _⟩ := HC.out _ HB2.out
  go_wp2_with fail
  clear x1 x2
  generalize w2.alloc (.cells #[.int .u16 (a.1 : Int), .int .u64 (a.2 : Int)] 25) = W3 at HB2 HD ⊢
  refine (CT _ (HV.out.pow.below (HB.out.trans (HB2.out.mono HB.out.size)))).mono ?_
  rintro e w4 ⟨rfl, hb4⟩
  have HB4 := Lib.hid hb4
  clear hb4
  go_wp2_with fail
  refine (CR _ (HV.out.below (HB.out.trans ((HB2.out.trans (HB4.out.mono HB2.out.size)).mono HB.out.size)))).mono ?_
  rintro e w5 ⟨rfl, hb5⟩
  have HB5 : Hid (Below W3.heap.size W3 (w5.alloc (.cells #[.int .u16 (a.1 : Int), .int .u64 (a.2 : Int)] 25))) := bel_alloc _ (HB4.out.trans (hb5.mono HB4.out.size))
  have HD6 := Lib.hid (one_box w5 a)
  clear hb5 HB4
  obtain ⟨⟨x1, x2⟩, _⟩ := HC.out _ (HB2.out.trans (HB5.out.mono HB2.out.size))
  go_wp2_with fail
  clear x1 x2
  generalize w5.alloc (.cells #[.int .u16 (a.1 : Int), .int .u64 (a.2 : Int)] 25) = W6 at HB5 HD6 ⊢
  refine (CG _).mono ?_
  rintro e w7 ⟨rfl, hb7⟩
  have HG7 := Lib.hid hb7
  have HB7 : Hid (Below W3.heap.size W3 w7) := HB5.out.trans (hb7.mono HB5.out.size)
  have G7 : Below W0.heap.size W0 w7 := HB2.out.trans (HB7.out.mono HB2.out.size)
  have HE : Hid (Below w.heap.size w w7) := HB.out.trans (G7.mono HB.out.size)
  have HC7 : Hid (∀ V, Below w7.heap.size w7 V → (V.cell? ⟨w.heap.size, 0, none⟩ = some (.int .u16 (a.1 : Int)) ∧ V.cell? ⟨w.heap.size, 1, none⟩ = some (.int .u64 (a.2 : Int))) ∧ V.cell? ⟨w.heap.size + 1, 0, none⟩ = some (.int .u16 (b.1 : Int)) ∧ V.cell? ⟨w.heap.size + 1, 1, none⟩ = some (.int .u64 (b.2 : Int))) := fun V hV => HC.out V (G7.trans (hV.mono G7.size))
  obtain ⟨⟨x1, x2⟩, x3, x4⟩ := HC7.out w7 (Below.refl _ _)
  clear hb7 HB HB2 HB5 HC G7 CK CU CT CR CG
  have hmx : Tryd.prog.follows .mixedOrders = true := by kernel_rfl
  have g1 : ∀ n os, (Sort.grow (w7.drewN n) os).cell? ⟨w.heap.size + 1, 0, none⟩ = some (.int .u16 (b.1 : Int)) := fun n os => (HC7.out _ (Lib.below_grow w7.heap.size w7 (Nat.le_refl _) n os)).2.1
  have g2 : ∀ n os, (Sort.grow (w7.drewN n) os).cell? ⟨w.heap.size + 1, 1, none⟩ = some (.int .u64 (b.2 : Int)) := fun n os => (HC7.out _ (Lib.below_grow w7.heap.size w7 (Nat.le_refl _) n os)).2.2
  have ct := fun W => pgood_g W b false hmb
  clear x1 x2 x3 x4 hm hmb
  go_wp2_with fail
  refine wp_region_quiet_grown hmx (by kernel_rfl) ?_
  repeat (
    (with_reducible refine wpQuiet_step (fun K hK => ?_))
    go_simp
    first
      | ((with_reducible refine hK _ ?_); clear hK K)
      | ((rw [if_neg (fun h => by cases h)]); (with_reducible refine hK _ ?_); clear hK K)
      | (apply Exists.intro; refine ⟨fun _ => ?_, hK _ ?_⟩; (go_at_call 10; refine Calls.grown_of (ct _)); clear hK K))
  with_reducible refine wpQuiet_nil ?_
  intro _ hw'
  obtain ⟨⟨nq, osq⟩, hw''⟩ := hw'
  subst hw''
  have bv : Below w7.heap.size w7 (Sort.grow (w7.drewN nq) osq) := Lib.below_grow w7.heap.size w7 (Nat.le_refl _) nq osq
  generalize Sort.grow (w7.drewN nq) osq = V at bv ⊢
  have HV3 : Hid (Below W3.heap.size W3 V) := HB7.out.trans (bv.mono HB7.out.size)
  have HV6 : Hid (Below W6.heap.size W6 V) := HG7.out.trans (bv.mono HG7.out.size)
  have HEV : Hid (Below w.heap.size w V) := HE.out.trans (bv.mono HE.out.size)
  obtain ⟨y1, y2⟩ := HD.out _ HV3.out
  obtain ⟨z1, z2⟩ := HD6.out _ HV6.out
  obtain ⟨⟨k1, k2⟩, _⟩ := HC7.out V bv
  clear bv HB7 HG7 HE HD HD6 HC7 g1 g2 ct
  go_wp2_with fail
  refine (works_any P _ (HV.out.pow.below HEV.out)).mono ?_
  rintro e w8 ⟨rfl, hb8⟩
  have HE8 : Hid (Below w.heap.size w w8) := HEV.out.trans (hb8.mono HEV.out.size)
  clear hb8
  go_wp2
  go_ret
  exact ⟨rfl, HE8.out⟩

theorem packs_walk (P : PDot) (w : World) (hV : Vars w) (a b : Dot) (ha : FitD a) (hb : FitD b) :
    Calls Tryd.prog 6 #[.agg #[.int .u16 (a.1 : Int), .int .u64 (a.2 : Int)], .agg #[.int .u16 (b.1 : Int), .int .u64 (b.2 : Int)]] w fun e w' => e = .returned (.bool true) ∧ Below w.heap.size w w' := by
  cases hm : mayD a with
  | false => exact packs_bad P w hV a b ha hb hm
  | true =>
    cases hmb : mayD b with
    | false => exact packs_one P w hV a b ha hb hm hmb
    | true => exact packs_both P w hV a b ha hb hm hmb
end Go.Proofs.YtoojlalpcmlanaaDoor.Dt
