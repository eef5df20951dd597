/- DotTells: the law's walk. -/
import Derived.Test.YtoojlalpcmlanaaDoorDSide
namespace Go.Proofs.YtoojlalpcmlanaaDoor.Dt
open Go.ChangeShapes Go.WideShapes Go.ChangeAt Go.RowKit
set_option linter.unusedVariables false

theorem later {f : FuncId} {args : Array Value} {w W : World} {x : Ending} (hW : Below w.heap.size w W) (h : Calls Tryd.prog f args W fun e V => e = x ∧ Below W.heap.size W V) : Calls Tryd.prog f args W fun e V => e = x ∧ Below w.heap.size w V :=
  h.mono fun _ _ ⟨h1, h2⟩ => ⟨h1, hW.trans (h2.mono hW.size)⟩
theorem rgood_b (W : World) (a n : Nat) : Calls Tryd.prog 11 #[.agg #[.int .u16 (a : Int), .int .u64 (n : Int)]] W fun e V => e = .returned (.bool (mayD (a, n))) ∧ Below W.heap.size W V :=
  (rgood_any W a n).mono fun _ _ ⟨h1, h2⟩ => ⟨h1, by rw [h2]; exact below_new _ _⟩
theorem rpack_b (W : World) (d : Dot) (h : FitD d) : Calls Tryd.prog 15 #[.int .u16 (d.1 : Int), .int .u64 (d.2 : Int)] W fun e V => e = .returned (.int .u64 (numD d : Int)) ∧ Below W.heap.size W V :=
  (rpack_any W d.1 d.2 h.1 h.2).mono fun _ _ ⟨h1, h2⟩ => ⟨h1, by rw [← h2]; exact Below.refl _ _⟩
set_option maxHeartbeats 8000000 in
theorem tells_walk (P : PDot) (w : World) (hP : Pow w) (a b : Dot) (v : Nat) (ha : FitD a) (hb : FitD b) (hv : v < 18446744073709551616) :
    Calls Tryd.prog 3 #[.agg #[.int .u16 (a.1 : Int), .int .u64 (a.2 : Int)], .agg #[.int .u16 (b.1 : Int), .int .u64 (b.2 : Int)], .int .u64 (v : Int)] w fun e w' => e = .returned (.bool true) ∧ Below w.heap.size w w' := by
  have CP := fun W => P.unpack W v hv
  have CR := fun W => runpack_any W v hv
  generalize unpackD v = u at CP CR
  obtain ⟨⟨u1, u2⟩, ok⟩ := u
  simp only at CP CR
  have HB : Hid (Below w.heap.size w ((w.alloc (.cells #[.int .u16 (a.1 : Int), .int .u64 (a.2 : Int)] 25)).alloc (.cells #[.int .u16 (b.1 : Int), .int .u64 (b.2 : Int)] 25))) := below_new2 _ _ _
  have hc1 : ((w.alloc (.cells #[.int .u16 (a.1 : Int), .int .u64 (a.2 : Int)] 25)).alloc (.cells #[.int .u16 (b.1 : Int), .int .u64 (b.2 : Int)] 25)).cell? ⟨w.heap.size, 0, none⟩ = some (.int .u16 (a.1 : Int)) := by simp [go_sem]
  have hc2 : ((w.alloc (.cells #[.int .u16 (a.1 : Int), .int .u64 (a.2 : Int)] 25)).alloc (.cells #[.int .u16 (b.1 : Int), .int .u64 (b.2 : Int)] 25)).cell? ⟨w.heap.size, 1, none⟩ = some (.int .u64 (a.2 : Int)) := by simp [go_sem]
  have hc3 : ((w.alloc (.cells #[.int .u16 (a.1 : Int), .int .u64 (a.2 : Int)] 25)).alloc (.cells #[.int .u16 (b.1 : Int), .int .u64 (b.2 : Int)] 25)).cell? ⟨w.heap.size + 1, 0, none⟩ = some (.int .u16 (b.1 : Int)) := by simp [go_sem]
  have hc4 : ((w.alloc (.cells #[.int .u16 (a.1 : Int), .int .u64 (a.2 : Int)] 25)).alloc (.cells #[.int .u16 (b.1 : Int), .int .u64 (b.2 : Int)] 25)).cell? ⟨w.heap.size + 1, 1, none⟩ = some (.int .u64 (b.2 : Int)) := by simp [go_sem]
  have hz : ((w.alloc (.cells #[.int .u16 (a.1 : Int), .int .u64 (a.2 : Int)] 25)).alloc (.cells #[.int .u16 (b.1 : Int), .int .u64 (b.2 : Int)] 25)).heap.size = w.heap.size + 2 := by simp
  go_enter Tryd.func3, Tryd.ntmps3
  go_wp2_with fail
  generalize (w.alloc (.cells #[.int .u16 (a.1 : Int), .int .u64 (a.2 : Int)] 25)).alloc (.cells #[.int .u16 (b.1 : Int), .int .u64 (b.2 : Int)] 25) = W0 at HB hc1 hc2 hc3 hc4 hz ⊢
  refine (CP _).mono ?_
  rintro e w2 ⟨rfl, hb2⟩
  have HB2 := Lib.hid hb2
  go_wp2_with fail
  have hd1 : (w2.alloc (.cells #[.int .u16 (u1 : Int), .int .u64 (u2 : Int)] 25)).cell? ⟨w2.heap.size, 0, none⟩ = some (.int .u16 (u1 : Int)) := by simp [go_sem]
  have hd2 : (w2.alloc (.cells #[.int .u16 (u1 : Int), .int .u64 (u2 : Int)] 25)).cell? ⟨w2.heap.size, 1, none⟩ = some (.int .u64 (u2 : Int)) := by simp [go_sem]
  have HB3 := Lib.hid (below_new w2 (.cells #[.int .u16 (u1 : Int), .int .u64 (u2 : Int)] 25))
  generalize w2.alloc (.cells #[.int .u16 (u1 : Int), .int .u64 (u2 : Int)] 25) = W3 at HB3 hd1 hd2 ⊢
  refine (CR _).mono ?_
  rintro e w4 ⟨rfl, hb4⟩
  have HB4 := Lib.hid hb4
  go_wp2_with fail
  have he1 : (w4.alloc (.cells #[.int .u16 (u1 : Int), .int .u64 (u2 : Int)] 25)).cell? ⟨w4.heap.size, 0, none⟩ = some (.int .u16 (u1 : Int)) := by simp [go_sem]
  have he2 : (w4.alloc (.cells #[.int .u16 (u1 : Int), .int .u64 (u2 : Int)] 25)).cell? ⟨w4.heap.size, 1, none⟩ = some (.int .u64 (u2 : Int)) := by simp [go_sem]
  have HB5 := Lib.hid (below_new w4 (.cells #[.int .u16 (u1 : Int), .int .u64 (u2 : Int)] 25))
  generalize w4.alloc (.cells #[.int .u16 (u1 : Int), .int .u64 (u2 : Int)] 25) = W5 at HB5 he1 he2 ⊢
  have G2 : Below W0.heap.size W0 W3 := HB2.out.trans (HB3.out.mono HB2.out.size)
  have G4 : Below W3.heap.size W3 W5 := HB4.out.trans (HB5.out.mono HB4.out.size)
  have G5 : Below W0.heap.size W0 W5 := G2.trans (G4.mono G2.size)
  have HE : Hid (Below w.heap.size w W5) := HB.out.trans (G5.mono HB.out.size)
  have HPE := Lib.hid (hP.below HE.out)
  clear hP
  have HC : Hid (∀ V, Below W5.heap.size W5 V → (((V.cell? ⟨w.heap.size, 0, none⟩ = some (.int .u16 (a.1 : Int)) ∧ V.cell? ⟨w.heap.size, 1, none⟩ = some (.int .u64 (a.2 : Int))) ∧ V.cell? ⟨w.heap.size + 1, 0, none⟩ = some (.int .u16 (b.1 : Int)) ∧ V.cell? ⟨w.heap.size + 1, 1, none⟩ = some (.int .u64 (b.2 : Int))) ∧ (V.cell? ⟨w2.heap.size, 0, none⟩ = some (.int .u16 (u1 : Int)) ∧ V.cell? ⟨w2.heap.size, 1, none⟩ = some (.int .u64 (u2 : Int))) ∧ V.cell? ⟨w4.heap.size, 0, none⟩ = some (.int .u16 (u1 : Int)) ∧ V.cell? ⟨w4.heap.size, 1, none⟩ = some (.int .u64 (u2 : Int)))) := fun V hV => by
    have K0 : Below W0.heap.size W0 V := G5.trans (hV.mono G5.size)
    have K3 : Below W3.heap.size W3 V := G4.trans (hV.mono G4.size)
    exact ⟨⟨⟨(K0.cell (World.block_lt_of_cell? W0 _ hc1)).trans hc1, (K0.cell (World.block_lt_of_cell? W0 _ hc2)).trans hc2⟩, (K0.cell (World.block_lt_of_cell? W0 _ hc3)).trans hc3, (K0.cell (World.block_lt_of_cell? W0 _ hc4)).trans hc4⟩,
      ⟨(K3.cell (World.block_lt_of_cell? W3 _ hd1)).trans hd1, (K3.cell (World.block_lt_of_cell? W3 _ hd2)).trans hd2⟩, (hV.cell (World.block_lt_of_cell? W5 _ he1)).trans he1, (hV.cell (World.block_lt_of_cell? W5 _ he2)).trans he2⟩
  clear G2 G4 G5 hc1 hc2 hc3 hc4 hd1 hd2 he1 he2 hb2 hb4 hz CP CR HB HB2 HB3 HB4 HB5
  obtain ⟨⟨⟨c1, c2⟩, c3, c4⟩, ⟨c5, c6⟩, c7, c8⟩ := HC.out W5 (Below.refl _ _)
  have A1 := fun W (hW : Below W5.heap.size W5 W) => later hW (P.good W a.1 a.2 ha)
  have A2 := fun W (hW : Below W5.heap.size W5 W) => later hW (rgood_b W a.1 a.2)
  have A3 := fun W (hW : Below W5.heap.size W5 W) => later hW (P.cmp W a b ha hb)
  have A4 := fun W (hW : Below W5.heap.size W5 W) => later hW (rcmp_any W a b)
  have A5 := fun W (hW : Below W5.heap.size W5 W) => later hW (P.pack W a ha)
  have A6 := fun W (hW : Below W5.heap.size W5 W) => later hW (rpack_b W a ha)
  have A7 := fun W (hW : Below W5.heap.size W5 W) => later hW (P.text W a (HPE.out.below hW) ha)
  have A8 := fun W (hW : Below W5.heap.size W5 W) => later hW (rtext_any a.1 a.2 ha.1 ha.2 W)
  have A9 := fun W (hW : Below W5.heap.size W5 W) => later hW (works_any P W (HPE.out.below hW))
  go_region_held3 (fun V => (((V.cell? ⟨w.heap.size, 0, none⟩ = some (.int .u16 (a.1 : Int)) ∧ V.cell? ⟨w.heap.size, 1, none⟩ = some (.int .u64 (a.2 : Int))) ∧ V.cell? ⟨w.heap.size + 1, 0, none⟩ = some (.int .u16 (b.1 : Int)) ∧ V.cell? ⟨w.heap.size + 1, 1, none⟩ = some (.int .u64 (b.2 : Int))) ∧ (V.cell? ⟨w2.heap.size, 0, none⟩ = some (.int .u16 (u1 : Int)) ∧ V.cell? ⟨w2.heap.size, 1, none⟩ = some (.int .u64 (u2 : Int))) ∧ V.cell? ⟨w4.heap.size, 0, none⟩ = some (.int .u16 (u1 : Int)) ∧ V.cell? ⟨w4.heap.size, 1, none⟩ = some (.int .u64 (u2 : Int)))) (first | exact ⟨⟨⟨c1, c2⟩, c3, c4⟩, ⟨c5, c6⟩, c7, c8⟩ | assumption | exact HC.out _ (by (repeat (first | exact Below.refl _ _ | assumption | apply bel_drew | apply bel_alloc)))) (first
    | (go_at_call 10; (with_reducible refine (A1 _ ?_).mono ?_); (repeat (first | exact Below.refl _ _ | assumption | apply bel_drew | apply bel_alloc)); rintro e V ⟨rfl, bv⟩; have hcV := HC.out V bv)
    | (go_at_call 11; (with_reducible refine (A2 _ ?_).mono ?_); (repeat (first | exact Below.refl _ _ | assumption | apply bel_drew | apply bel_alloc)); rintro e V ⟨rfl, bv⟩; have hcV := HC.out V bv)
    | (go_at_call 12; (with_reducible refine (A3 _ ?_).mono ?_); (repeat (first | exact Below.refl _ _ | assumption | apply bel_drew | apply bel_alloc)); rintro e V ⟨rfl, bv⟩; have hcV := HC.out V bv)
    | (go_at_call 13; (with_reducible refine (A4 _ ?_).mono ?_); (repeat (first | exact Below.refl _ _ | assumption | apply bel_drew | apply bel_alloc)); rintro e V ⟨rfl, bv⟩; have hcV := HC.out V bv)
    | (go_at_call 14; (with_reducible refine (A5 _ ?_).mono ?_); (repeat (first | exact Below.refl _ _ | assumption | apply bel_drew | apply bel_alloc)); rintro e V ⟨rfl, bv⟩; have hcV := HC.out V bv)
    | (go_at_call 15; (with_reducible refine (A6 _ ?_).mono ?_); (repeat (first | exact Below.refl _ _ | assumption | apply bel_drew | apply bel_alloc)); rintro e V ⟨rfl, bv⟩; have hcV := HC.out V bv)
    | (go_at_call 16; (with_reducible refine (A7 _ ?_).mono ?_); (repeat (first | exact Below.refl _ _ | assumption | apply bel_drew | apply bel_alloc)); rintro e V ⟨rfl, bv⟩; have hcV := HC.out V bv)
    | (go_at_call 17; (with_reducible refine (A8 _ ?_).mono ?_); (repeat (first | exact Below.refl _ _ | assumption | apply bel_drew | apply bel_alloc)); rintro e V ⟨rfl, bv⟩; have hcV := HC.out V bv)
    | (go_at_call 18; (with_reducible refine (A9 _ ?_).mono ?_); (repeat (first | exact Below.refl _ _ | assumption | apply bel_drew | apply bel_alloc)); rintro e V ⟨rfl, bv⟩; have hcV := HC.out V bv))
  all_goals
    go_wp2
    go_ret
    exact ⟨rfl, HE.out.trans (bv.mono HE.out.size)⟩
end Go.Proofs.YtoojlalpcmlanaaDoor.Dt
