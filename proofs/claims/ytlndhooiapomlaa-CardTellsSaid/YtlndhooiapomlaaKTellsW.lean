/- CardTells: the law's walk. -/
import Derived.Test.YtlndhooiapomlaaKSide
namespace Go.Proofs.Ytlndhooiapomlaa.Kd
open Go.ChangeShapes Go.WideShapes Go.ChangeAt Go.RowKit
set_option linter.unusedVariables false

/-- what a line's own box holds, in every world that keeps it. -/
theorem box_three (w : World) (v0 v1 v2 : Value) (t : TypeId) (V : World) (hb : Below (w.heap.size + 1) (w.alloc (.cells #[v0, v1, v2] t)) V) :
    V.cell? ⟨w.heap.size, 0, none⟩ = some v0 ∧ V.cell? ⟨w.heap.size, 1, none⟩ = some v1 ∧ V.cell? ⟨w.heap.size, 2, none⟩ = some v2 :=
  ⟨(hb.cell (Nat.lt_succ_self _)).trans (by rw [World.cell?_alloc_mark]; rfl), (hb.cell (Nat.lt_succ_self _)).trans (by rw [World.cell?_alloc_mark]; rfl), (hb.cell (Nat.lt_succ_self _)).trans (by rw [World.cell?_alloc_mark]; rfl)⟩
theorem below_self (w : World) (o : Obj) : Below (w.heap.size + 1) (w.alloc o) (w.alloc o) := Below.refl _ _
theorem below_box {w V : World} {o : Obj} (hb : Below (w.alloc o).heap.size (w.alloc o) V) : Below (w.heap.size + 1) (w.alloc o) V := by rw [alloc_size] at hb; exact hb

set_option maxHeartbeats 16000000 in
theorem tells_walk (P : PCard) (w : World) (p : CV) (x : Crd) (f : Nat) (hf : f < 256) (h : CardIs w w.heap.size p x) :
    Calls Try.prog 3 #[p.val, .int .u8 (f : Int)] w fun e w' => e = .returned (.bool true) ∧ Below w.heap.size w w' := by
  obtain ⟨p0, A, n, c⟩ := p
  have H := Lib.hid h
  clear h
  have CL := fun W hW => P.line W _ x f hf (H.out.up hW)
  have CR := fun W hW => rline_any W _ x f hf (H.out.up hW)
  simp only [CV.val] at *
  have HB := Lib.hid (below_new w (.cells #[.int .u64 (p0 : Int), .slice A n c] 25))
  have HX := Lib.hid (box_two w (.int .u64 (p0 : Int)) (.slice A n c) 25)
  go_enter Try.func3, Try.ntmps3
  go_wp2_with fail
  refine (CL _ HB.out).mono ?_
  rintro e w1 ⟨px, rfl, hpx, _, hb1⟩
  obtain ⟨f1, t1, A1, n1, c1⟩ := px
  simp only [LV.val]
  have HB1 : Hid (Below (w.heap.size + 1) (w.alloc (.cells #[.int .u64 (p0 : Int), .slice A n c] 25)) (w1.alloc (.cells #[.int .u8 (f1 : Int), .string t1, .slice A1 n1 c1] 28))) := Lib.hid ((below_box hb1).alloc (by have := hb1.size; rw [alloc_size] at this; exact this) _)
  have HBw1 : Hid (Below w.heap.size w (w1.alloc (.cells #[.int .u8 (f1 : Int), .string t1, .slice A1 n1 c1] 28))) := Lib.hid (HB.out.trans (HB1.out.mono (Nat.le_succ _)))
  have HX1 := Lib.hid (box_three w1 (.int .u8 (f1 : Int)) (.string t1) (.slice A1 n1 c1) 28)
  have HP1 := Lib.hid (((hpx.below (below_new w1 (.cells #[.int .u8 (f1 : Int), .string t1, .slice A1 n1 c1] 28))).more_ (below_new w1 (.cells #[.int .u8 (f1 : Int), .string t1, .slice A1 n1 c1] 28)).size))
  obtain ⟨k1, k2⟩ := HX.out _ HB1.out
  clear hb1 hpx CL
  go_wp2_with fail
  refine (CR _ HBw1.out).mono ?_
  rintro e w2 ⟨py, rfl, hpy, hb2⟩
  obtain ⟨f2, t2, A2, n2, c2⟩ := py
  simp only [LV.val]
  clear k1 k2 CR
  have hn2 := below_new w2 (.cells #[.int .u8 (f2 : Int), .string t2, .slice A2 n2 c2] 28)
  have hsz := HB1.out.size
  rw [alloc_size, alloc_size] at hsz
  have hsz2 := hb2.size
  rw [alloc_size] at hsz2
  have HX2 := box_three w2 (.int .u8 (f2 : Int)) (.string t2) (.slice A2 n2 c2) 28 _ (below_self _ _)
  have hB2 := hb2.trans (hn2.mono hb2.size)
  have hX1 := HX1.out _ (below_box hB2)
  have hX := HX.out _ (HB1.out.trans (hB2.mono (by rw [alloc_size]; omega)))
  have HBw2 := Lib.hid (HBw1.out.trans (hB2.mono HBw1.out.size))
  have HP2 := Lib.hid ((hpy.below hn2).more_ hn2.size)
  have HP1' := Lib.hid ((HP1.out.below hB2).more_ hB2.size)
  have hbc : w.heap.size < (w2.alloc (.cells #[.int .u8 (f2 : Int), .string t2, .slice A2 n2 c2] 28)).heap.size := by rw [alloc_size]; omega
  have hbx : w1.heap.size < (w2.alloc (.cells #[.int .u8 (f2 : Int), .string t2, .slice A2 n2 c2] 28)).heap.size := by rw [alloc_size]; omega
  have hby : w2.heap.size < (w2.alloc (.cells #[.int .u8 (f2 : Int), .string t2, .slice A2 n2 c2] 28)).heap.size := by rw [alloc_size]; omega
  go_wp2_with fail
  clear HP1 HB1 HX HX1 hn2 hsz hsz2 hB2 HBw1 hb2 hpy HB
  generalize w2.alloc (.cells #[.int .u8 (f2 : Int), .string t2, .slice A2 n2 c2] 28) = wr at *
  generalize w1.heap.size = bx at *
  generalize w2.heap.size = by_ at *
  obtain ⟨k1, k2⟩ := hX
  obtain ⟨x1, x2, x3⟩ := hX1
  obtain ⟨y1, y2, y3⟩ := HX2
  have HC := Lib.hid (H.out.up HBw2.out)
  have L1 := fun W (hW : Below wr.heap.size wr W) => later hW (P.good W _ x (HC.out.up hW))
  have L2 := fun W (hW : Below wr.heap.size wr W) => later hW (rgoodc_any W _ x (HC.out.up hW))
  have L4 := fun W (hW : Below wr.heap.size wr W) => later hW (P.title W _ x (HC.out.up hW))
  have L5 := fun W (hW : Below wr.heap.size wr W) => later hW (rtitle_any W _ x (HC.out.up hW))
  have L6 := fun W (hW : Below wr.heap.size wr W) => later hW (P.odds W _ x (HC.out.up hW))
  have L7 := fun W (hW : Below wr.heap.size wr W) => later hW (rodds_any W _ x (HC.out.up hW))
  have L8 := fun W (hW : Below wr.heap.size wr W) => later hW (works_any P W)
  have L3 := fun W (g h : Nat) (hW : Below wr.heap.size wr W) => @lines_later wr W g h _ _ _ HP1'.out HP2.out hW
  simp only [CV.val] at L1 L2 L4 L5 L6 L7
  simp only at L3
  generalize goodC x = g0 at L1 L2
  generalize titleC x.2 = g1 at L4 L5
  generalize oddsC x.2 = g2 at L6 L7
  generalize (lineC x.2 f).isSome = g3
  have HK : Hid (∀ V, Below wr.heap.size wr V → (V.cell? ⟨w.heap.size, 0, none⟩ = some (.int .u64 (p0 : Int)) ∧ V.cell? ⟨w.heap.size, 1, none⟩ = some (.slice A n c)) ∧ (V.cell? ⟨bx, 0, none⟩ = some (.int .u8 (f1 : Int)) ∧ V.cell? ⟨bx, 1, none⟩ = some (.string t1) ∧ V.cell? ⟨bx, 2, none⟩ = some (.slice A1 n1 c1)) ∧ V.cell? ⟨by_, 0, none⟩ = some (.int .u8 (f2 : Int)) ∧ V.cell? ⟨by_, 1, none⟩ = some (.string t2) ∧ V.cell? ⟨by_, 2, none⟩ = some (.slice A2 n2 c2)) := Lib.hid (fun V hV => ⟨⟨(hV.cell hbc).trans k1, (hV.cell hbc).trans k2⟩, ⟨(hV.cell hbx).trans x1, (hV.cell hbx).trans x2, (hV.cell hbx).trans x3⟩, (hV.cell hby).trans y1, (hV.cell hby).trans y2, (hV.cell hby).trans y3⟩)
  go_region_held3 (fun V => (V.cell? ⟨w.heap.size, 0, none⟩ = some (.int .u64 (p0 : Int)) ∧ V.cell? ⟨w.heap.size, 1, none⟩ = some (.slice A n c)) ∧ (V.cell? ⟨bx, 0, none⟩ = some (.int .u8 (f1 : Int)) ∧ V.cell? ⟨bx, 1, none⟩ = some (.string t1) ∧ V.cell? ⟨bx, 2, none⟩ = some (.slice A1 n1 c1)) ∧ V.cell? ⟨by_, 0, none⟩ = some (.int .u8 (f2 : Int)) ∧ V.cell? ⟨by_, 1, none⟩ = some (.string t2) ∧ V.cell? ⟨by_, 2, none⟩ = some (.slice A2 n2 c2)) (first | go_keep | assumption | exact HK.out _ (by (repeat (first | exact Below.refl _ _ | assumption | apply bel_drew | apply bel_alloc)))) (first
    | (go_at_call 7; (with_reducible refine (L1 _ ?_).mono ?_); (repeat (first | exact Below.refl _ _ | assumption | apply bel_drew | apply bel_alloc)); rintro e V ⟨rfl, bv⟩; have hcV := HK.out V bv)
    | (go_at_call 8; (with_reducible refine (L2 _ ?_).mono ?_); (repeat (first | exact Below.refl _ _ | assumption | apply bel_drew | apply bel_alloc)); rintro e V ⟨rfl, bv⟩; have hcV := HK.out V bv)
    | (go_at_call 9; (with_reducible refine (L3 _ _ _ ?_ ?_ ?_ ?_ ?_ ?_ ?_).mono ?_); (repeat (first | exact Below.refl _ _ | assumption | apply bel_drew | apply bel_alloc)); (focus (simp [go_sem]; done)); (focus (simp [go_sem]; done)); (focus (simp [go_sem]; done)); (focus (simp [go_sem]; done)); (focus (simp [go_sem]; done)); (focus (simp [go_sem]; done)); rintro e V ⟨rfl, bv⟩; have hcV := HK.out V bv)
    | (go_at_call 10; (with_reducible refine (L4 _ ?_).mono ?_); (repeat (first | exact Below.refl _ _ | assumption | apply bel_drew | apply bel_alloc)); rintro e V ⟨rfl, bv⟩; have hcV := HK.out V bv)
    | (go_at_call 11; (with_reducible refine (L5 _ ?_).mono ?_); (repeat (first | exact Below.refl _ _ | assumption | apply bel_drew | apply bel_alloc)); rintro e V ⟨rfl, bv⟩; have hcV := HK.out V bv)
    | (go_at_call 12; (with_reducible refine (L6 _ ?_).mono ?_); (repeat (first | exact Below.refl _ _ | assumption | apply bel_drew | apply bel_alloc)); rintro e V ⟨rfl, bv⟩; have hcV := HK.out V bv)
    | (go_at_call 13; (with_reducible refine (L7 _ ?_).mono ?_); (repeat (first | exact Below.refl _ _ | assumption | apply bel_drew | apply bel_alloc)); rintro e V ⟨rfl, bv⟩; have hcV := HK.out V bv)
    | (go_at_call 14; (with_reducible refine (L8 _ ?_).mono ?_); (repeat (first | exact Below.refl _ _ | assumption | apply bel_drew | apply bel_alloc)); rintro e V ⟨rfl, bv⟩; have hcV := HK.out V bv))
  all_goals (go_wp2; go_ret; exact ⟨rfl, HBw2.out.trans (Below.mono (by assumption) HBw2.out.size)⟩)
end Go.Proofs.Ytlndhooiapomlaa.Kd
