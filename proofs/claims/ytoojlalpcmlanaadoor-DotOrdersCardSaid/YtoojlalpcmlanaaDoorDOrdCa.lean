/- DotOrders: the law's walk where the first dot stands ahead of the second, and that ahead of the third. -/
import Derived.Test.YtoojlalpcmlanaaDoorDOrdW
namespace Go.Proofs.YtoojlalpcmlanaaDoor.Dt
open Go.ChangeShapes Go.WideShapes Go.ChangeAt Go.RowKit
set_option linter.unusedVariables false

set_option maxHeartbeats 32000000 in
theorem orders_chain_a (P : PDot) (w : World) (hP : Pow w) (a b c : Dot) (ha : FitD a) (hb : FitD b) (hc : FitD c) (q1 : ((a.1 : Int) == (b.1 : Int)) = false) (h1 : cmpD a b = -1) (h2 : cmpD b a = 1) (h3 : cmpD b c = -1) (h4 : cmpD a c = -1) :
    Calls Tryd.prog 7 #[.agg #[.int .u16 (a.1 : Int), .int .u64 (a.2 : Int)], .agg #[.int .u16 (b.1 : Int), .int .u64 (b.2 : Int)], .agg #[.int .u16 (c.1 : Int), .int .u64 (c.2 : Int)]] w fun e w' => e = .returned (.bool true) ∧ Below w.heap.size w w' := by
  have HB := Lib.hid (tri_below w a b c)
  have HX := Lib.hid (boxed w a b c)
  have HF : Hid (Fit [a, b, c]) := fun r hr => by
    simp only [List.mem_cons, List.not_mem_nil, or_false] at hr
    rcases hr with rfl | rfl | rfl <;> assumption
  have ct1 := fun W => cmp_g W a b (-1) h1
  have ct2 := fun W => cmp_g W b a 1 h2
  have ct3 := fun W => cmp_g W b c (-1) h3
  have ct4 := fun W => cmp_g W a c (-1) h4
  clear h1 h2 h3 h4
  have u0 : IntKind.i64.wrap 0 = 0 := by decide
  have u1 : IntKind.i64.wrap 1 = 1 := by decide
  have u2 : IntKind.i64.wrap (-1) = -1 := by decide
  have hmx : Tryd.prog.follows .mixedOrders = true := by kernel_rfl
  go_enter Tryd.func7, Tryd.ntmps7
  go_wp2_with fail
  change Code.wp _ _ _ _ (tri w a b c)
  generalize tri w a b c = W0 at HB HX ⊢
  have g1 : ∀ q os, (Sort.grow (W0.drewN q) os).cell? ⟨w.heap.size, 0, none⟩ = some (.int .u16 (a.1 : Int)) := fun q os => (HX.out _ (Lib.below_grow W0.heap.size W0 (Nat.le_refl _) q os)).1.1.1
  have g2 : ∀ q os, (Sort.grow (W0.drewN q) os).cell? ⟨w.heap.size, 1, none⟩ = some (.int .u64 (a.2 : Int)) := fun q os => (HX.out _ (Lib.below_grow W0.heap.size W0 (Nat.le_refl _) q os)).1.1.2
  have g3 : ∀ q os, (Sort.grow (W0.drewN q) os).cell? ⟨w.heap.size + 1, 0, none⟩ = some (.int .u16 (b.1 : Int)) := fun q os => (HX.out _ (Lib.below_grow W0.heap.size W0 (Nat.le_refl _) q os)).1.2.1
  have g4 : ∀ q os, (Sort.grow (W0.drewN q) os).cell? ⟨w.heap.size + 1, 1, none⟩ = some (.int .u64 (b.2 : Int)) := fun q os => (HX.out _ (Lib.below_grow W0.heap.size W0 (Nat.le_refl _) q os)).1.2.2
  have g5 : ∀ q os, (Sort.grow (W0.drewN q) os).cell? ⟨w.heap.size + 2, 0, none⟩ = some (.int .u16 (c.1 : Int)) := fun q os => (HX.out _ (Lib.below_grow W0.heap.size W0 (Nat.le_refl _) q os)).2.1
  have g6 : ∀ q os, (Sort.grow (W0.drewN q) os).cell? ⟨w.heap.size + 2, 1, none⟩ = some (.int .u64 (c.2 : Int)) := fun q os => (HX.out _ (Lib.below_grow W0.heap.size W0 (Nat.le_refl _) q os)).2.2
  refine wp_region_quiet_grown hmx (by kernel_rfl) ?_
  repeat (
    (with_reducible refine wpQuiet_step (fun K hK => ?_))
    go_simp
    first
      | ((with_reducible refine hK _ ?_); clear hK K)
      | ((rw [if_neg (fun h => by cases h)]); (with_reducible refine hK _ ?_); clear hK K)
      | (apply Exists.intro; refine ⟨fun _ => ?_, hK _ ?_⟩; (go_at_call 12; (first | (with_reducible refine Calls.grown_of (ct1 _)) | (with_reducible refine Calls.grown_of (ct2 _)) | (with_reducible refine Calls.grown_of (ct3 _)) | (with_reducible refine Calls.grown_of (ct4 _)))); clear hK K))
  with_reducible refine wpQuiet_nil ?_
  intro _ hw'
  obtain ⟨⟨nq, osq⟩, hw''⟩ := hw'
  subst hw''
  have bv0 : Below W0.heap.size W0 (Sort.grow (W0.drewN nq) osq) := Lib.below_grow W0.heap.size W0 (Nat.le_refl _) nq osq
  generalize Sort.grow (W0.drewN nq) osq = V at bv0 ⊢
  have HBV := Lib.hid bv0
  obtain ⟨⟨⟨m1, m2⟩, m3, m4⟩, m5, m6⟩ := HX.out V bv0
  clear bv0 g1 g2 g3 g4 g5 g6 u0 u1 u2 ct1 ct2 ct3 ct4
  go_wp2_with fail
  clear m1 m2 m3 m4 m5 m6
  have HN := Lib.hid (new_three V a b c ha hb hc)
  have HV1 : Hid (Below W0.heap.size W0 (V.alloc (.cells #[.int .u16 (a.1 : Int), .int .u64 (a.2 : Int), .int .u16 (b.1 : Int), .int .u64 (b.2 : Int), .int .u16 (c.1 : Int), .int .u64 (c.2 : Int)] 25))) := bel_alloc _ HBV.out
  generalize V.alloc (.cells #[.int .u16 (a.1 : Int), .int .u64 (a.2 : Int), .int .u16 (b.1 : Int), .int .u64 (b.2 : Int), .int .u16 (c.1 : Int), .int .u64 (c.2 : Int)] 25) = V1 at HN HV1 ⊢
  generalize V.heap.size = lb at HN ⊢
  clear HBV
  refine (psorts_later P V1 V1 (some ⟨lb, 0, none⟩) [a, b, c] 3 3 rfl (fun h => by cases h) (Nat.le_refl _) (by decide) (HN.out V1 (Below.refl _ _)).1 (Below.refl _ _)).mono ?_
  rintro e V2 ⟨A, k, rfl, hD, hb2, _⟩
  have HV2 : Hid (Below W0.heap.size W0 V2) := HV1.out.trans (hb2.mono HV1.out.size)
  have HE : Hid (Below w.heap.size w V2) := HB.out.trans (HV2.out.mono HB.out.size)
  have HPE := Lib.hid (hP.below HE.out)
  have HC2 : Hid (∀ U, Below V2.heap.size V2 U → (((U.cell? ⟨w.heap.size, 0, none⟩ = some (.int .u16 (a.1 : Int)) ∧ U.cell? ⟨w.heap.size, 1, none⟩ = some (.int .u64 (a.2 : Int))) ∧ U.cell? ⟨w.heap.size + 1, 0, none⟩ = some (.int .u16 (b.1 : Int)) ∧ U.cell? ⟨w.heap.size + 1, 1, none⟩ = some (.int .u64 (b.2 : Int))) ∧ U.cell? ⟨w.heap.size + 2, 0, none⟩ = some (.int .u16 (c.1 : Int)) ∧ U.cell? ⟨w.heap.size + 2, 1, none⟩ = some (.int .u64 (c.2 : Int))) ∧ (U.cell? ⟨lb, 0, none⟩ = some (.int .u16 (a.1 : Int)) ∧ U.cell? ⟨lb, 1, none⟩ = some (.int .u64 (a.2 : Int))) ∧ U.cell? ⟨lb, 4, none⟩ = some (.int .u16 (c.1 : Int)) ∧ U.cell? ⟨lb, 5, none⟩ = some (.int .u64 (c.2 : Int))) := fun U hU => ⟨HX.out U (HV2.out.trans (hU.mono HV2.out.size)), (HN.out U (hb2.trans (hU.mono hb2.size))).2⟩
  clear HN HV1 HV2 HX hb2
  have hLen : (sortD [a, b, c]).length ≤ 1024 := Nat.le_trans (sortD_len _ HF.out) (by simp)
  have hR : riseB (sortD [a, b, c]) = true := (rise_ord _).2 (sort_ord _)
  have ia : decide (a ∈ sortD [a, b, c]) = true := decide_eq_true ((sort_mem _ _).2 (by simp))
  have ib : decide (b ∈ sortD [a, b, c]) = true := decide_eq_true ((sort_mem _ _).2 (by simp))
  have ic : decide (c ∈ sortD [a, b, c]) = true := decide_eq_true ((sort_mem _ _).2 (by simp))
  have A20 := fun W bl (hW : Below V2.heap.size V2 W) h => sort4_later P V2 W bl a b c hW h
  have A19 := fun W A' c' (hW : Below V2.heap.size V2 W) h2 => rsame_later V2 W W.heap.size W.heap.size A A' (sortD [a, b, c]) (sortD [a, b, c]) _ _ k c' rfl rfl hLen hW (hD.up hW) h2
  have A22 := fun W (hW : Below V2.heap.size V2 W) => later hW (P.rising W A (sortD [a, b, c]) _ k rfl (hD.up hW) hLen)
  have A24 := fun W (hW : Below V2.heap.size V2 W) => later hW (P.has W A (sortD [a, b, c]) _ k a rfl (hD.up hW) hLen ha)
  have B24 := fun W (hW : Below V2.heap.size V2 W) => later hW (P.has W A (sortD [a, b, c]) _ k b rfl (hD.up hW) hLen hb)
  have C24 := fun W (hW : Below V2.heap.size V2 W) => later hW (P.has W A (sortD [a, b, c]) _ k c rfl (hD.up hW) hLen hc)
  have A18 := fun W (hW : Below V2.heap.size V2 W) => later hW (works_any P W (HPE.out.below hW))
  simp only [hR, ia, ib, ic, decide_true] at A19 A22 A24 B24 C24
  have NF := fun W bl h => new_four W bl h a b c ha hb hc
  clear hR ia ib ic hLen ha hb hc HF
  generalize (sortD [a, b, c]).length = z at *
  generalize sortD [a, b, c] = L at *
  go_wp2_with fail
  obtain ⟨⟨⟨⟨m1, m2⟩, m3, m4⟩, m5, m6⟩, ⟨r1, r2⟩, r3, r4⟩ := HC2.out V2 (Below.refl _ _)
  go_region_held3 (fun V => (((V.cell? ⟨w.heap.size, 0, none⟩ = some (.int .u16 (a.1 : Int)) ∧ V.cell? ⟨w.heap.size, 1, none⟩ = some (.int .u64 (a.2 : Int))) ∧ V.cell? ⟨w.heap.size + 1, 0, none⟩ = some (.int .u16 (b.1 : Int)) ∧ V.cell? ⟨w.heap.size + 1, 1, none⟩ = some (.int .u64 (b.2 : Int))) ∧ V.cell? ⟨w.heap.size + 2, 0, none⟩ = some (.int .u16 (c.1 : Int)) ∧ V.cell? ⟨w.heap.size + 2, 1, none⟩ = some (.int .u64 (c.2 : Int))) ∧ (V.cell? ⟨lb, 0, none⟩ = some (.int .u16 (a.1 : Int)) ∧ V.cell? ⟨lb, 1, none⟩ = some (.int .u64 (a.2 : Int))) ∧ V.cell? ⟨lb, 4, none⟩ = some (.int .u16 (c.1 : Int)) ∧ V.cell? ⟨lb, 5, none⟩ = some (.int .u64 (c.2 : Int))) (first | exact ⟨⟨⟨⟨m1, m2⟩, m3, m4⟩, m5, m6⟩, ⟨r1, r2⟩, r3, r4⟩ | assumption | exact HC2.out _ (by (repeat (first | exact Below.refl _ _ | assumption | apply bel_drew | apply bel_alloc)))) (first
    | (go_at_call 20; (with_reducible refine (A20 _ _ ?_ ?_).mono ?_); (focus (repeat (first | exact Below.refl _ _ | assumption | apply bel_drew | apply bel_alloc))); (focus (refine (NF _ _ ?_).more ?_ <;> (simp; done))); rintro e V3 ⟨A', c', rfl, hD', bv, cv⟩; have hcV := HC2.out V3 bv)
    | (go_at_call 19; (with_reducible refine (A19 _ _ _ ?_ ?_).mono ?_); (focus (repeat (first | exact Below.refl _ _ | assumption | apply bel_drew | apply bel_alloc))); (focus (exact hD')); rintro e V3 ⟨rfl, bv⟩; have hcV := HC2.out V3 bv)
    | (go_at_call 22; (with_reducible refine (A22 _ ?_).mono ?_); (repeat (first | exact Below.refl _ _ | assumption | apply bel_drew | apply bel_alloc)); rintro e V3 ⟨rfl, bv⟩; have hcV := HC2.out V3 bv)
    | (go_at_call 24; (with_reducible refine (A24 _ ?_).mono ?_); (repeat (first | exact Below.refl _ _ | assumption | apply bel_drew | apply bel_alloc)); rintro e V3 ⟨rfl, bv⟩; have hcV := HC2.out V3 bv)
    | (go_at_call 24; (with_reducible refine (B24 _ ?_).mono ?_); (repeat (first | exact Below.refl _ _ | assumption | apply bel_drew | apply bel_alloc)); rintro e V3 ⟨rfl, bv⟩; have hcV := HC2.out V3 bv)
    | (go_at_call 24; (with_reducible refine (C24 _ ?_).mono ?_); (repeat (first | exact Below.refl _ _ | assumption | apply bel_drew | apply bel_alloc)); rintro e V3 ⟨rfl, bv⟩; have hcV := HC2.out V3 bv)
    | (go_at_call 18; (with_reducible refine (A18 _ ?_).mono ?_); (repeat (first | exact Below.refl _ _ | assumption | apply bel_drew | apply bel_alloc)); rintro e V3 ⟨rfl, bv⟩; have hcV := HC2.out V3 bv))
  all_goals
    go_wp2
    go_ret
    exact ⟨rfl, HE.out.trans (bv.mono HE.out.size)⟩
end Go.Proofs.YtoojlalpcmlanaaDoor.Dt
