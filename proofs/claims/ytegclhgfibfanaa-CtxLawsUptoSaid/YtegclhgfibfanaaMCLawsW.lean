/- CtxLaws: the law's walk. Its region whose order is drawn bears guards that come out false: walked by hand, operation by operation (region.py, gen_region.py, gen-claws.py printed it). -/
import Derived.Test.YtegclhgfibfanaaMCTellsW
namespace Go.Proofs.Ytegclhgfibfanaa.Cx
open Go.ChangeShapes Go.WideShapes Go.ChangeAt Go.RowKit
set_option linter.unusedVariables false

set_option maxHeartbeats 16000000 in
theorem laws_t (P : PCtx) (w : World) (A1 A2 : Option Addr) (a b : List Part) (n1 n2 c1 c2 : Nat) (d : Dot) (ha : CtxAt w A1 a n1 c1) (hb : CtxAt w A2 b n2 c2) (wa : Wide 1048576 a) (wb : Wide 1048576 b) (hd : d.1 < 65536 ∧ d.2 < 18446744073709551616) (hha : hasC a d = true) :
    Calls Try.prog 3 #[.slice A1 n1 c1, .slice A2 n2 c2, .agg #[.int .u16 (d.1 : Int), .int .u64 (d.2 : Int)]] w fun e w' => e = .returned (.bool true) ∧ Below w.heap.size w w' := by
  have HB : Hid (Below w.heap.size w (w.alloc (.cells #[.int .u16 (d.1 : Int), .int .u64 (d.2 : Int)] 27))) := Lib.hid (Dt.below_new _ _)
  have HX := Lib.hid (box_at w d)
  have F1 := Lib.hid ha.fit
  have F2 := Lib.hid hb.fit
  have W1 : Wide 67108864 a := wa.more (by decide)
  have W2 : Wide 67108864 b := wb.more (by decide)
  have WJ4 : Wide 4194304 (setC a b 0) := wide_set F1.out F2.out wa wb 0 (.inl rfl)
  have WM4 : Wide 4194304 (setC a b 1) := wide_set F1.out F2.out wa wb 1 (.inr (.inl rfl))
  have WX4 : Wide 4194304 (setC a b 2) := wide_set F1.out F2.out wa wb 2 (.inr (.inr rfl))
  have WJ : Wide 67108864 (setC a b 0) := WJ4.more (by decide)
  have WM : Wide 67108864 (setC a b 1) := WM4.more (by decide)
  have WX : Wide 67108864 (setC a b 2) := WX4.more (by decide)
  have WU : Wide 67108864 (setC (setC a b 2) (setC a b 1) 0) := (wide_set (fit_set F1.out F2.out 2) (fit_set F1.out F2.out 1) WX4 WM4 0 (.inl rfl)).more (by decide)
  have Ha0 := Lib.hid (ha.up HB.out)
  have Hb0 := Lib.hid (hb.up HB.out)
  have HD := Lib.hid hd
  have HHA := Lib.hid hha
  clear ha hb wa wb hd hha WJ4 WM4 WX4
  go_enter Try.func3, Try.ntmps3
  go_wp2_with fail
  generalize w.alloc (.cells #[.int .u16 (d.1 : Int), .int .u64 (d.2 : Int)] 27) = W0 at HB HX Ha0 Hb0 ⊢
  have C11 := Lib.hid (P.join W0 A1 A2 a b n1 n2 c1 c2 Ha0.out Hb0.out W1 W2)
  skip
  refine C11.out.mono ?_
  rintro e w11 ⟨A11, n11, c11, rfl, a11, b11⟩
  have HW11 : Hid (Below W0.heap.size W0 w11) := Lib.hid b11
  have Ha11 := Lib.hid (Ha0.out.up b11)
  have Hb11 := Lib.hid (Hb0.out.up b11)
  have HJ11 := Lib.hid a11
  clear a11
  clear C11 b11  Ha0 Hb0
  have C12 := Lib.hid (P.meet w11 A1 A2 a b n1 n2 c1 c2 Ha11.out Hb11.out W1 W2)
  go_wp2_with fail
  refine C12.out.mono ?_
  rintro e w12 ⟨A12, n12, c12, rfl, a12, b12⟩
  have HW12 : Hid (Below W0.heap.size W0 w12) := Lib.hid (HW11.out.trans (b12.mono HW11.out.size))
  have Ha12 := Lib.hid (Ha11.out.up b12)
  have Hb12 := Lib.hid (Hb11.out.up b12)
  have HJ12 := Lib.hid (HJ11.out.up b12)
  have HM12 := Lib.hid a12
  clear a12
  clear C12 b12 HW11 Ha11 Hb11 HJ11
  have C13 := Lib.hid (P.minus w12 A1 A2 a b n1 n2 c1 c2 Ha12.out Hb12.out W1 W2)
  go_wp2_with fail
  refine C13.out.mono ?_
  rintro e w13 ⟨A13, n13, c13, rfl, a13, b13⟩
  have HW13 : Hid (Below W0.heap.size W0 w13) := Lib.hid (HW12.out.trans (b13.mono HW12.out.size))
  have Ha13 := Lib.hid (Ha12.out.up b13)
  have Hb13 := Lib.hid (Hb12.out.up b13)
  have HJ13 := Lib.hid (HJ12.out.up b13)
  have HM13 := Lib.hid (HM12.out.up b13)
  have HX13 := Lib.hid a13
  clear a13
  clear C13 b13 HW12 Ha12 Hb12 HJ12 HM12
  have HX1 : Hid (∀ V, Below w13.heap.size w13 V → V.cell? ⟨w.heap.size, 0, none⟩ = some (.int .u16 (d.1 : Int)) ∧ V.cell? ⟨w.heap.size, 1, none⟩ = some (.int .u64 (d.2 : Int))) := Lib.hid (fun V hV => HX.out V (HW13.out.trans (hV.mono HW13.out.size)))
  have A19J := fun W (hW : Below w13.heap.size w13 W) => later hW (P.has W A11 (setC a b 0) n11 c11 d (HJ13.out.up hW) WJ HD.out)
  have A19M := fun W (hW : Below w13.heap.size w13 W) => later hW (P.has W A12 (setC a b 1) n12 c12 d (HM13.out.up hW) WM HD.out)
  have A19X := fun W (hW : Below w13.heap.size w13 W) => later hW (P.has W A13 (setC a b 2) n13 c13 d (HX13.out.up hW) WX HD.out)
  have A19a := fun W (hW : Below w13.heap.size w13 W) => later hW (P.has W A1 a n1 c1 d (Ha13.out.up hW) W1 HD.out)
  have A19b := fun W (hW : Below w13.heap.size w13 W) => later hW (P.has W A2 b n2 c2 d (Hb13.out.up hW) W2 HD.out)
  rw [has_join F1.out F2.out, HHA.out] at A19J
  rw [has_meet F1.out F2.out, HHA.out] at A19M
  rw [has_minus F1.out F2.out, HHA.out] at A19X
  rw [HHA.out] at A19a
  simp only [Bool.true_or] at A19J
  simp only [Bool.true_and] at A19M A19X
  generalize hasC b d = hbd at A19J A19M A19X A19b
  go_wp2_with fail
  refine wp_region_noPanic ?_
  refine wp_region_held_drew (S := fun V => V.cell? ⟨w.heap.size, 0, none⟩ = some (.int .u16 (d.1 : Int)) ∧ V.cell? ⟨w.heap.size, 1, none⟩ = some (.int .u64 (d.2 : Int))) (by kernel_rfl) (HX1.out _ (bel_drew (Below.refl _ _))) (fun hHeld => ?_)
  refine wpAnyH_take (i := 0) (oi := { dst := some 19, op := Op.move (Operand.tmp 7), type := 23, pos := "law.go:41", after := #[], guard := none }) (v := ?_) rfl (by kernel_rfl) (by kernel_rfl) (by kernel_rfl) (fun _ _ _ h => h) (Or.inl ⟨by rfl, ?_⟩) (by assumption) ?_
  rotate_left
  · (intro w hSw; (try dsimp only at hSw); go_simp <;> (with_reducible rfl))
  try simp only [Act.put, List.setIfInBounds_toArray, List.set_cons_zero, List.set_cons_succ]
  refine wpAnyH_take (i := 1) (oi := { dst := some 20, op := Op.load 27 (Operand.tmp 5), type := 27, pos := "law.go:41", after := #[], guard := none }) (v := ?_) rfl (by kernel_rfl) (by kernel_rfl) (by kernel_rfl) (fun _ _ _ h => h) (Or.inl ⟨by rfl, ?_⟩) (by assumption) ?_
  rotate_left
  · (intro w hSw; (try dsimp only at hSw); go_simp <;> (with_reducible rfl))
  try simp only [Act.put, List.setIfInBounds_toArray, List.set_cons_zero, List.set_cons_succ]
  refine wpAnyH_take (i := 3) (oi := { dst := some 22, op := Op.move (Operand.tmp 0), type := 23, pos := "law.go:41", after := #[], guard := none }) (v := ?_) rfl (by kernel_rfl) (by kernel_rfl) (by kernel_rfl) (fun _ _ _ h => h) (Or.inl ⟨by rfl, ?_⟩) (by assumption) ?_
  rotate_left
  · (intro w hSw; (try dsimp only at hSw); go_simp <;> (with_reducible rfl))
  try simp only [Act.put, List.setIfInBounds_toArray, List.set_cons_zero, List.set_cons_succ]
  refine wpAnyH_take (i := 4) (oi := { dst := some 23, op := Op.load 27 (Operand.tmp 5), type := 27, pos := "law.go:41", after := #[], guard := none }) (v := ?_) rfl (by kernel_rfl) (by kernel_rfl) (by kernel_rfl) (fun _ _ _ h => h) (Or.inl ⟨by rfl, ?_⟩) (by assumption) ?_
  rotate_left
  · (intro w hSw; (try dsimp only at hSw); go_simp <;> (with_reducible rfl))
  try simp only [Act.put, List.setIfInBounds_toArray, List.set_cons_zero, List.set_cons_succ]
  refine wpAnyH_ready (rs := [2]) (by kernel_rfl) (by simp) ?_
  refine AllReadyH.cons (o := { dst := some 21, op := Op.call { callee := Callee.value (Operand.func 8), args := #[Operand.tmp 19, Operand.tmp 20], argTypes := #[23, 27] }, type := 4, pos := "law.go:41", after := #[{ on := 0, ground := Ground.data }, { on := 1, ground := Ground.data }], guard := none }) rfl (fun K hK => ?_) AllReadyH.nil
  go_simp
  go_at_call 8; (with_reducible refine (A19J _ ?_).mono ?_); (focus (repeat (first | exact Below.refl _ _ | assumption | apply bel_drew | apply bel_alloc))); rintro e V ⟨rfl, bv⟩; have hcV := HX1.out V bv
  refine hK.out _ _ (by assumption) (fun hH => ?_)
  clear hHeld hK K
  have hHeld := hH
  clear hH
  try simp only [Act.put, List.setIfInBounds_toArray, List.set_cons_zero, List.set_cons_succ]
  refine wpAnyH_ready (rs := [5]) (by kernel_rfl) (by simp) ?_
  refine AllReadyH.cons (o := { dst := some 24, op := Op.call { callee := Callee.value (Operand.func 8), args := #[Operand.tmp 22, Operand.tmp 23], argTypes := #[23, 27] }, type := 4, pos := "law.go:41", after := #[{ on := 3, ground := Ground.data }, { on := 4, ground := Ground.data }, { on := 2, ground := Ground.chain }], guard := none }) rfl (fun K hK => ?_) AllReadyH.nil
  go_simp
  go_at_call 8; (with_reducible refine (A19a _ ?_).mono ?_); (focus (repeat (first | exact Below.refl _ _ | assumption | apply bel_drew | apply bel_alloc))); rintro e V ⟨rfl, bv⟩; have hcV := HX1.out V bv
  refine hK.out _ _ (by assumption) (fun hH => ?_)
  clear hHeld hK K
  have hHeld := hH
  clear hH
  try simp only [Act.put, List.setIfInBounds_toArray, List.set_cons_zero, List.set_cons_succ]
  refine wpAnyH_take (i := 6) (oi := { dst := some 25, op := Op.move (Operand.tmp 24), type := 4, pos := "law.go:41", after := #[{ on := 5, ground := Ground.data }, { on := 5, ground := Ground.chain }], guard := none }) (v := ?_) rfl (by kernel_rfl) (by kernel_rfl) (by kernel_rfl) (fun _ _ _ h => h) (Or.inl ⟨by rfl, ?_⟩) (by assumption) ?_
  rotate_left
  · (intro w hSw; (try dsimp only at hSw); go_simp <;> (with_reducible rfl))
  try simp only [Act.put, List.setIfInBounds_toArray, List.set_cons_zero, List.set_cons_succ]
  refine wpAnyH_take (i := 7) (oi := { dst := some 26, op := Op.move (Operand.tmp 1), type := 23, pos := "law.go:41", after := #[{ on := 6, ground := Ground.guard }], guard := some (6, false) }) (v := undef) rfl (by kernel_rfl) (by kernel_rfl) (by kernel_rfl) (fun _ _ _ h => h) (Or.inr ⟨by rfl, rfl⟩) (by assumption) ?_
  try simp only [Act.put, List.setIfInBounds_toArray, List.set_cons_zero, List.set_cons_succ]
  refine wpAnyH_take (i := 8) (oi := { dst := some 27, op := Op.load 27 (Operand.tmp 5), type := 27, pos := "law.go:41", after := #[{ on := 6, ground := Ground.guard }], guard := some (6, false) }) (v := undef) rfl (by kernel_rfl) (by kernel_rfl) (by kernel_rfl) (fun _ _ _ h => h) (Or.inr ⟨by rfl, rfl⟩) (by assumption) ?_
  try simp only [Act.put, List.setIfInBounds_toArray, List.set_cons_zero, List.set_cons_succ]
  refine wpAnyH_ready (rs := [9]) (by kernel_rfl) (by simp) ?_
  refine AllReadyH.cons (o := { dst := some 28, op := Op.call { callee := Callee.value (Operand.func 8), args := #[Operand.tmp 26, Operand.tmp 27], argTypes := #[23, 27] }, type := 4, pos := "law.go:41", after := #[{ on := 7, ground := Ground.data }, { on := 8, ground := Ground.data }, { on := 6, ground := Ground.chain }, { on := 6, ground := Ground.guard }], guard := some (6, false) }) rfl (fun K hK => ?_) AllReadyH.nil
  go_simp
  refine hK.out _ _ (by assumption) (fun hH => ?_)
  clear hHeld hK K
  have hHeld := hH
  clear hH
  try simp only [Act.put, List.setIfInBounds_toArray, List.set_cons_zero, List.set_cons_succ]
  refine wpAnyH_take (i := 10) (oi := { dst := some 29, op := Op.pick (Operand.tmp 25) (Operand.const (Value.bool true)) (Operand.tmp 28), type := 4, pos := "law.go:41", after := #[{ on := 6, ground := Ground.data }, { on := 9, ground := Ground.data }], guard := none }) (v := ?_) rfl (by kernel_rfl) (by kernel_rfl) (by kernel_rfl) (fun _ _ _ h => h) (Or.inl ⟨by rfl, ?_⟩) (by assumption) ?_
  rotate_left
  · (intro w hSw; (try dsimp only at hSw); go_simp <;> (with_reducible rfl))
  try simp only [Act.put, List.setIfInBounds_toArray, List.set_cons_zero, List.set_cons_succ]
  refine wpAnyH_take (i := 11) (oi := { dst := some 30, op := Op.binOp BinOp.neq 4 (Operand.tmp 21) (Operand.tmp 29) 4, type := 4, pos := "law.go:41", after := #[{ on := 2, ground := Ground.data }, { on := 10, ground := Ground.data }], guard := none }) (v := ?_) rfl (by kernel_rfl) (by kernel_rfl) (by kernel_rfl) (fun _ _ _ h => h) (Or.inl ⟨by rfl, ?_⟩) (by assumption) ?_
  rotate_left
  · (intro w hSw; (try dsimp only at hSw); go_simp <;> (with_reducible rfl))
  try simp only [Act.put, List.setIfInBounds_toArray, List.set_cons_zero, List.set_cons_succ]
  refine wpAnyH_take (i := 12) (oi := { dst := some 31, op := Op.move (Operand.tmp 30), type := 4, pos := "law.go:41", after := #[{ on := 11, ground := Ground.data }, { on := 9, ground := Ground.chain }], guard := none }) (v := ?_) rfl (by kernel_rfl) (by kernel_rfl) (by kernel_rfl) (fun _ _ _ h => h) (Or.inl ⟨by rfl, ?_⟩) (by assumption) ?_
  rotate_left
  · (intro w hSw; (try dsimp only at hSw); go_simp <;> (with_reducible rfl))
  try simp only [Act.put, List.setIfInBounds_toArray, List.set_cons_zero, List.set_cons_succ]
  refine wpAnyH_take (i := 13) (oi := { dst := some 32, op := Op.move (Operand.tmp 8), type := 23, pos := "law.go:41", after := #[{ on := 12, ground := Ground.guard }], guard := some (12, false) }) (v := ?_) rfl (by kernel_rfl) (by kernel_rfl) (by kernel_rfl) (fun _ _ _ h => h) (Or.inl ⟨by rfl, ?_⟩) (by assumption) ?_
  rotate_left
  · (intro w hSw; (try dsimp only at hSw); go_simp <;> (with_reducible rfl))
  try simp only [Act.put, List.setIfInBounds_toArray, List.set_cons_zero, List.set_cons_succ]
  refine wpAnyH_take (i := 14) (oi := { dst := some 33, op := Op.load 27 (Operand.tmp 5), type := 27, pos := "law.go:41", after := #[{ on := 12, ground := Ground.guard }], guard := some (12, false) }) (v := ?_) rfl (by kernel_rfl) (by kernel_rfl) (by kernel_rfl) (fun _ _ _ h => h) (Or.inl ⟨by rfl, ?_⟩) (by assumption) ?_
  rotate_left
  · (intro w hSw; (try dsimp only at hSw); go_simp <;> (with_reducible rfl))
  try simp only [Act.put, List.setIfInBounds_toArray, List.set_cons_zero, List.set_cons_succ]
  refine wpAnyH_take (i := 16) (oi := { dst := some 35, op := Op.move (Operand.tmp 0), type := 23, pos := "law.go:41", after := #[{ on := 12, ground := Ground.guard }], guard := some (12, false) }) (v := ?_) rfl (by kernel_rfl) (by kernel_rfl) (by kernel_rfl) (fun _ _ _ h => h) (Or.inl ⟨by rfl, ?_⟩) (by assumption) ?_
  rotate_left
  · (intro w hSw; (try dsimp only at hSw); go_simp <;> (with_reducible rfl))
  try simp only [Act.put, List.setIfInBounds_toArray, List.set_cons_zero, List.set_cons_succ]
  refine wpAnyH_take (i := 17) (oi := { dst := some 36, op := Op.load 27 (Operand.tmp 5), type := 27, pos := "law.go:41", after := #[{ on := 12, ground := Ground.guard }], guard := some (12, false) }) (v := ?_) rfl (by kernel_rfl) (by kernel_rfl) (by kernel_rfl) (fun _ _ _ h => h) (Or.inl ⟨by rfl, ?_⟩) (by assumption) ?_
  rotate_left
  · (intro w hSw; (try dsimp only at hSw); go_simp <;> (with_reducible rfl))
  try simp only [Act.put, List.setIfInBounds_toArray, List.set_cons_zero, List.set_cons_succ]
  refine wpAnyH_ready (rs := [15]) (by kernel_rfl) (by simp) ?_
  refine AllReadyH.cons (o := { dst := some 34, op := Op.call { callee := Callee.value (Operand.func 8), args := #[Operand.tmp 32, Operand.tmp 33], argTypes := #[23, 27] }, type := 4, pos := "law.go:41", after := #[{ on := 13, ground := Ground.data }, { on := 14, ground := Ground.data }, { on := 12, ground := Ground.chain }, { on := 12, ground := Ground.guard }], guard := some (12, false) }) rfl (fun K hK => ?_) AllReadyH.nil
  go_simp
  go_at_call 8; (with_reducible refine (A19M _ ?_).mono ?_); (focus (repeat (first | exact Below.refl _ _ | assumption | apply bel_drew | apply bel_alloc))); rintro e V ⟨rfl, bv⟩; have hcV := HX1.out V bv
  refine hK.out _ _ (by assumption) (fun hH => ?_)
  clear hHeld hK K
  have hHeld := hH
  clear hH
  try simp only [Act.put, List.setIfInBounds_toArray, List.set_cons_zero, List.set_cons_succ]
  refine wpAnyH_ready (rs := [18]) (by kernel_rfl) (by simp) ?_
  refine AllReadyH.cons (o := { dst := some 37, op := Op.call { callee := Callee.value (Operand.func 8), args := #[Operand.tmp 35, Operand.tmp 36], argTypes := #[23, 27] }, type := 4, pos := "law.go:41", after := #[{ on := 16, ground := Ground.data }, { on := 17, ground := Ground.data }, { on := 15, ground := Ground.chain }, { on := 12, ground := Ground.guard }], guard := some (12, false) }) rfl (fun K hK => ?_) AllReadyH.nil
  go_simp
  go_at_call 8; (with_reducible refine (A19a _ ?_).mono ?_); (focus (repeat (first | exact Below.refl _ _ | assumption | apply bel_drew | apply bel_alloc))); rintro e V ⟨rfl, bv⟩; have hcV := HX1.out V bv
  refine hK.out _ _ (by assumption) (fun hH => ?_)
  clear hHeld hK K
  have hHeld := hH
  clear hH
  try simp only [Act.put, List.setIfInBounds_toArray, List.set_cons_zero, List.set_cons_succ]
  refine wpAnyH_take (i := 19) (oi := { dst := some 38, op := Op.move (Operand.tmp 37), type := 4, pos := "law.go:41", after := #[{ on := 18, ground := Ground.data }, { on := 18, ground := Ground.chain }, { on := 12, ground := Ground.guard }], guard := some (12, false) }) (v := ?_) rfl (by kernel_rfl) (by kernel_rfl) (by kernel_rfl) (fun _ _ _ h => h) (Or.inl ⟨by rfl, ?_⟩) (by assumption) ?_
  rotate_left
  · (intro w hSw; (try dsimp only at hSw); go_simp <;> (with_reducible rfl))
  try simp only [Act.put, List.setIfInBounds_toArray, List.set_cons_zero, List.set_cons_succ]
  refine wpAnyH_take (i := 20) (oi := { dst := some 39, op := Op.move (Operand.tmp 1), type := 23, pos := "law.go:41", after := #[{ on := 19, ground := Ground.guard }], guard := some (19, true) }) (v := ?_) rfl (by kernel_rfl) (by kernel_rfl) (by kernel_rfl) (fun _ _ _ h => h) (Or.inl ⟨by rfl, ?_⟩) (by assumption) ?_
  rotate_left
  · (intro w hSw; (try dsimp only at hSw); go_simp <;> (with_reducible rfl))
  try simp only [Act.put, List.setIfInBounds_toArray, List.set_cons_zero, List.set_cons_succ]
  refine wpAnyH_take (i := 21) (oi := { dst := some 40, op := Op.load 27 (Operand.tmp 5), type := 27, pos := "law.go:41", after := #[{ on := 19, ground := Ground.guard }], guard := some (19, true) }) (v := ?_) rfl (by kernel_rfl) (by kernel_rfl) (by kernel_rfl) (fun _ _ _ h => h) (Or.inl ⟨by rfl, ?_⟩) (by assumption) ?_
  rotate_left
  · (intro w hSw; (try dsimp only at hSw); go_simp <;> (with_reducible rfl))
  try simp only [Act.put, List.setIfInBounds_toArray, List.set_cons_zero, List.set_cons_succ]
  refine wpAnyH_ready (rs := [22]) (by kernel_rfl) (by simp) ?_
  refine AllReadyH.cons (o := { dst := some 41, op := Op.call { callee := Callee.value (Operand.func 8), args := #[Operand.tmp 39, Operand.tmp 40], argTypes := #[23, 27] }, type := 4, pos := "law.go:41", after := #[{ on := 20, ground := Ground.data }, { on := 21, ground := Ground.data }, { on := 19, ground := Ground.chain }, { on := 19, ground := Ground.guard }], guard := some (19, true) }) rfl (fun K hK => ?_) AllReadyH.nil
  go_simp
  go_at_call 8; (with_reducible refine (A19b _ ?_).mono ?_); (focus (repeat (first | exact Below.refl _ _ | assumption | apply bel_drew | apply bel_alloc))); rintro e V ⟨rfl, bv⟩; have hcV := HX1.out V bv
  refine hK.out _ _ (by assumption) (fun hH => ?_)
  clear hHeld hK K
  have hHeld := hH
  clear hH
  try simp only [Act.put, List.setIfInBounds_toArray, List.set_cons_zero, List.set_cons_succ]
  refine wpAnyH_take (i := 23) (oi := { dst := some 42, op := Op.pick (Operand.tmp 38) (Operand.tmp 41) (Operand.const (Value.bool false)), type := 4, pos := "law.go:41", after := #[{ on := 19, ground := Ground.data }, { on := 22, ground := Ground.data }, { on := 12, ground := Ground.guard }], guard := some (12, false) }) (v := ?_) rfl (by kernel_rfl) (by kernel_rfl) (by kernel_rfl) (fun _ _ _ h => h) (Or.inl ⟨by rfl, ?_⟩) (by assumption) ?_
  rotate_left
  · (intro w hSw; (try dsimp only at hSw); go_simp <;> (with_reducible rfl))
  try simp only [Act.put, List.setIfInBounds_toArray, List.set_cons_zero, List.set_cons_succ]
  refine wpAnyH_take (i := 24) (oi := { dst := some 43, op := Op.binOp BinOp.neq 4 (Operand.tmp 34) (Operand.tmp 42) 4, type := 4, pos := "law.go:41", after := #[{ on := 15, ground := Ground.data }, { on := 23, ground := Ground.data }, { on := 12, ground := Ground.guard }], guard := some (12, false) }) (v := ?_) rfl (by kernel_rfl) (by kernel_rfl) (by kernel_rfl) (fun _ _ _ h => h) (Or.inl ⟨by rfl, ?_⟩) (by assumption) ?_
  rotate_left
  · (intro w hSw; (try dsimp only at hSw); go_simp <;> (with_reducible rfl))
  try simp only [Act.put, List.setIfInBounds_toArray, List.set_cons_zero, List.set_cons_succ]
  refine wpAnyH_take (i := 25) (oi := { dst := some 44, op := Op.pick (Operand.tmp 31) (Operand.const (Value.bool true)) (Operand.tmp 43), type := 4, pos := "law.go:41", after := #[{ on := 12, ground := Ground.data }, { on := 24, ground := Ground.data }], guard := none }) (v := ?_) rfl (by kernel_rfl) (by kernel_rfl) (by kernel_rfl) (fun _ _ _ h => h) (Or.inl ⟨by rfl, ?_⟩) (by assumption) ?_
  rotate_left
  · (intro w hSw; (try dsimp only at hSw); go_simp <;> (with_reducible rfl))
  try simp only [Act.put, List.setIfInBounds_toArray, List.set_cons_zero, List.set_cons_succ]
  refine wpAnyH_take (i := 26) (oi := { dst := some 45, op := Op.move (Operand.tmp 44), type := 4, pos := "law.go:41", after := #[{ on := 25, ground := Ground.data }, { on := 22, ground := Ground.chain }], guard := none }) (v := ?_) rfl (by kernel_rfl) (by kernel_rfl) (by kernel_rfl) (fun _ _ _ h => h) (Or.inl ⟨by rfl, ?_⟩) (by assumption) ?_
  rotate_left
  · (intro w hSw; (try dsimp only at hSw); go_simp <;> (with_reducible rfl))
  try simp only [Act.put, List.setIfInBounds_toArray, List.set_cons_zero, List.set_cons_succ]
  refine wpAnyH_take (i := 27) (oi := { dst := some 46, op := Op.move (Operand.tmp 9), type := 23, pos := "law.go:41", after := #[{ on := 26, ground := Ground.guard }], guard := some (26, false) }) (v := ?_) rfl (by kernel_rfl) (by kernel_rfl) (by kernel_rfl) (fun _ _ _ h => h) (Or.inl ⟨by rfl, ?_⟩) (by assumption) ?_
  rotate_left
  · (intro w hSw; (try dsimp only at hSw); go_simp <;> (with_reducible rfl))
  try simp only [Act.put, List.setIfInBounds_toArray, List.set_cons_zero, List.set_cons_succ]
  refine wpAnyH_take (i := 28) (oi := { dst := some 47, op := Op.load 27 (Operand.tmp 5), type := 27, pos := "law.go:41", after := #[{ on := 26, ground := Ground.guard }], guard := some (26, false) }) (v := ?_) rfl (by kernel_rfl) (by kernel_rfl) (by kernel_rfl) (fun _ _ _ h => h) (Or.inl ⟨by rfl, ?_⟩) (by assumption) ?_
  rotate_left
  · (intro w hSw; (try dsimp only at hSw); go_simp <;> (with_reducible rfl))
  try simp only [Act.put, List.setIfInBounds_toArray, List.set_cons_zero, List.set_cons_succ]
  refine wpAnyH_take (i := 30) (oi := { dst := some 49, op := Op.move (Operand.tmp 0), type := 23, pos := "law.go:41", after := #[{ on := 26, ground := Ground.guard }], guard := some (26, false) }) (v := ?_) rfl (by kernel_rfl) (by kernel_rfl) (by kernel_rfl) (fun _ _ _ h => h) (Or.inl ⟨by rfl, ?_⟩) (by assumption) ?_
  rotate_left
  · (intro w hSw; (try dsimp only at hSw); go_simp <;> (with_reducible rfl))
  try simp only [Act.put, List.setIfInBounds_toArray, List.set_cons_zero, List.set_cons_succ]
  refine wpAnyH_take (i := 31) (oi := { dst := some 50, op := Op.load 27 (Operand.tmp 5), type := 27, pos := "law.go:41", after := #[{ on := 26, ground := Ground.guard }], guard := some (26, false) }) (v := ?_) rfl (by kernel_rfl) (by kernel_rfl) (by kernel_rfl) (fun _ _ _ h => h) (Or.inl ⟨by rfl, ?_⟩) (by assumption) ?_
  rotate_left
  · (intro w hSw; (try dsimp only at hSw); go_simp <;> (with_reducible rfl))
  try simp only [Act.put, List.setIfInBounds_toArray, List.set_cons_zero, List.set_cons_succ]
  refine wpAnyH_ready (rs := [29]) (by kernel_rfl) (by simp) ?_
  refine AllReadyH.cons (o := { dst := some 48, op := Op.call { callee := Callee.value (Operand.func 8), args := #[Operand.tmp 46, Operand.tmp 47], argTypes := #[23, 27] }, type := 4, pos := "law.go:41", after := #[{ on := 27, ground := Ground.data }, { on := 28, ground := Ground.data }, { on := 26, ground := Ground.chain }, { on := 26, ground := Ground.guard }], guard := some (26, false) }) rfl (fun K hK => ?_) AllReadyH.nil
  go_simp
  go_at_call 8; (with_reducible refine (A19X _ ?_).mono ?_); (focus (repeat (first | exact Below.refl _ _ | assumption | apply bel_drew | apply bel_alloc))); rintro e V ⟨rfl, bv⟩; have hcV := HX1.out V bv
  refine hK.out _ _ (by assumption) (fun hH => ?_)
  clear hHeld hK K
  have hHeld := hH
  clear hH
  try simp only [Act.put, List.setIfInBounds_toArray, List.set_cons_zero, List.set_cons_succ]
  refine wpAnyH_ready (rs := [32]) (by kernel_rfl) (by simp) ?_
  refine AllReadyH.cons (o := { dst := some 51, op := Op.call { callee := Callee.value (Operand.func 8), args := #[Operand.tmp 49, Operand.tmp 50], argTypes := #[23, 27] }, type := 4, pos := "law.go:41", after := #[{ on := 30, ground := Ground.data }, { on := 31, ground := Ground.data }, { on := 29, ground := Ground.chain }, { on := 26, ground := Ground.guard }], guard := some (26, false) }) rfl (fun K hK => ?_) AllReadyH.nil
  go_simp
  go_at_call 8; (with_reducible refine (A19a _ ?_).mono ?_); (focus (repeat (first | exact Below.refl _ _ | assumption | apply bel_drew | apply bel_alloc))); rintro e V ⟨rfl, bv⟩; have hcV := HX1.out V bv
  refine hK.out _ _ (by assumption) (fun hH => ?_)
  clear hHeld hK K
  have hHeld := hH
  clear hH
  try simp only [Act.put, List.setIfInBounds_toArray, List.set_cons_zero, List.set_cons_succ]
  refine wpAnyH_take (i := 33) (oi := { dst := some 52, op := Op.move (Operand.tmp 51), type := 4, pos := "law.go:41", after := #[{ on := 32, ground := Ground.data }, { on := 32, ground := Ground.chain }, { on := 26, ground := Ground.guard }], guard := some (26, false) }) (v := ?_) rfl (by kernel_rfl) (by kernel_rfl) (by kernel_rfl) (fun _ _ _ h => h) (Or.inl ⟨by rfl, ?_⟩) (by assumption) ?_
  rotate_left
  · (intro w hSw; (try dsimp only at hSw); go_simp <;> (with_reducible rfl))
  try simp only [Act.put, List.setIfInBounds_toArray, List.set_cons_zero, List.set_cons_succ]
  refine wpAnyH_take (i := 34) (oi := { dst := some 53, op := Op.move (Operand.tmp 1), type := 23, pos := "law.go:41", after := #[{ on := 33, ground := Ground.guard }], guard := some (33, true) }) (v := ?_) rfl (by kernel_rfl) (by kernel_rfl) (by kernel_rfl) (fun _ _ _ h => h) (Or.inl ⟨by rfl, ?_⟩) (by assumption) ?_
  rotate_left
  · (intro w hSw; (try dsimp only at hSw); go_simp <;> (with_reducible rfl))
  try simp only [Act.put, List.setIfInBounds_toArray, List.set_cons_zero, List.set_cons_succ]
  refine wpAnyH_take (i := 35) (oi := { dst := some 54, op := Op.load 27 (Operand.tmp 5), type := 27, pos := "law.go:41", after := #[{ on := 33, ground := Ground.guard }], guard := some (33, true) }) (v := ?_) rfl (by kernel_rfl) (by kernel_rfl) (by kernel_rfl) (fun _ _ _ h => h) (Or.inl ⟨by rfl, ?_⟩) (by assumption) ?_
  rotate_left
  · (intro w hSw; (try dsimp only at hSw); go_simp <;> (with_reducible rfl))
  try simp only [Act.put, List.setIfInBounds_toArray, List.set_cons_zero, List.set_cons_succ]
  refine wpAnyH_ready (rs := [36]) (by kernel_rfl) (by simp) ?_
  refine AllReadyH.cons (o := { dst := some 55, op := Op.call { callee := Callee.value (Operand.func 8), args := #[Operand.tmp 53, Operand.tmp 54], argTypes := #[23, 27] }, type := 4, pos := "law.go:41", after := #[{ on := 34, ground := Ground.data }, { on := 35, ground := Ground.data }, { on := 33, ground := Ground.chain }, { on := 33, ground := Ground.guard }], guard := some (33, true) }) rfl (fun K hK => ?_) AllReadyH.nil
  go_simp
  go_at_call 8; (with_reducible refine (A19b _ ?_).mono ?_); (focus (repeat (first | exact Below.refl _ _ | assumption | apply bel_drew | apply bel_alloc))); rintro e V ⟨rfl, bv⟩; have hcV := HX1.out V bv
  refine hK.out _ _ (by assumption) (fun hH => ?_)
  clear hHeld hK K
  have hHeld := hH
  clear hH
  try simp only [Act.put, List.setIfInBounds_toArray, List.set_cons_zero, List.set_cons_succ]
  refine wpAnyH_take (i := 37) (oi := { dst := some 56, op := Op.unOp UnOp.not 4 (Operand.tmp 55), type := 4, pos := "law.go:41", after := #[{ on := 36, ground := Ground.data }, { on := 33, ground := Ground.guard }], guard := some (33, true) }) (v := ?_) rfl (by kernel_rfl) (by kernel_rfl) (by kernel_rfl) (fun _ _ _ h => h) (Or.inl ⟨by rfl, ?_⟩) (by assumption) ?_
  rotate_left
  · (intro w hSw; (try dsimp only at hSw); go_simp <;> (with_reducible rfl))
  try simp only [Act.put, List.setIfInBounds_toArray, List.set_cons_zero, List.set_cons_succ]
  refine wpAnyH_take (i := 38) (oi := { dst := some 57, op := Op.pick (Operand.tmp 52) (Operand.tmp 56) (Operand.const (Value.bool false)), type := 4, pos := "law.go:41", after := #[{ on := 33, ground := Ground.data }, { on := 37, ground := Ground.data }, { on := 26, ground := Ground.guard }], guard := some (26, false) }) (v := ?_) rfl (by kernel_rfl) (by kernel_rfl) (by kernel_rfl) (fun _ _ _ h => h) (Or.inl ⟨by rfl, ?_⟩) (by assumption) ?_
  rotate_left
  · (intro w hSw; (try dsimp only at hSw); go_simp <;> (with_reducible rfl))
  try simp only [Act.put, List.setIfInBounds_toArray, List.set_cons_zero, List.set_cons_succ]
  refine wpAnyH_take (i := 39) (oi := { dst := some 58, op := Op.binOp BinOp.neq 4 (Operand.tmp 48) (Operand.tmp 57) 4, type := 4, pos := "law.go:41", after := #[{ on := 29, ground := Ground.data }, { on := 38, ground := Ground.data }, { on := 26, ground := Ground.guard }], guard := some (26, false) }) (v := ?_) rfl (by kernel_rfl) (by kernel_rfl) (by kernel_rfl) (fun _ _ _ h => h) (Or.inl ⟨by rfl, ?_⟩) (by assumption) ?_
  rotate_left
  · (intro w hSw; (try dsimp only at hSw); go_simp <;> (with_reducible rfl))
  try simp only [Act.put, List.setIfInBounds_toArray, List.set_cons_zero, List.set_cons_succ]
  refine wpAnyH_take (i := 40) (oi := { dst := some 59, op := Op.pick (Operand.tmp 45) (Operand.const (Value.bool true)) (Operand.tmp 58), type := 4, pos := "law.go:41", after := #[{ on := 26, ground := Ground.data }, { on := 39, ground := Ground.data }], guard := none }) (v := ?_) rfl (by kernel_rfl) (by kernel_rfl) (by kernel_rfl) (fun _ _ _ h => h) (Or.inl ⟨by rfl, ?_⟩) (by assumption) ?_
  rotate_left
  · (intro w hSw; (try dsimp only at hSw); go_simp <;> (with_reducible rfl))
  try simp only [Act.put, List.setIfInBounds_toArray, List.set_cons_zero, List.set_cons_succ]
  refine wpAnyH_done (by kernel_rfl) ?_ _
  refine NoPanic.normal ?_
  have HV : Hid (Below W0.heap.size W0 V) := Lib.hid (HW13.out.trans (bv.mono HW13.out.size))
  have HJ9 := Lib.hid (HJ13.out.up bv)
  have HM9 := Lib.hid (HM13.out.up bv)
  have HX9 := Lib.hid (HX13.out.up bv)
  have Ha9 := Lib.hid (Ha13.out.up bv)
  have Hb9 := Lib.hid (Hb13.out.up bv)
  clear hHeld hcV A19J A19M A19X A19a A19b HX1 HX bv HJ13 HM13 HX13 Ha13 Hb13 HW13
  obtain ⟨zJ, hzJ⟩ : ∃ z : Int, ((sizeC (setC a b 0) : Nat) : Int) = z := ⟨_, rfl⟩
  obtain ⟨zM, hzM⟩ : ∃ z : Int, ((sizeC (setC a b 1) : Nat) : Int) = z := ⟨_, rfl⟩
  obtain ⟨zA, hzA⟩ : ∃ z : Int, ((sizeC a : Nat) : Int) = z := ⟨_, rfl⟩
  obtain ⟨zB, hzB⟩ : ∃ z : Int, ((sizeC b : Nat) : Int) = z := ⟨_, rfl⟩
  have hsum : zJ + zM = zA + zB := by rw [← hzJ, ← hzM, ← hzA, ← hzB]; have := sizes F1.out F2.out; omega
  have hz : (IntKind.u64.wrap (zJ + zM) == IntKind.u64.wrap (zA + zB)) = true := by rw [hsum]; exact beq_self_eq_true _
  have HPJ : Hid (setC b a 0 = setC a b 0) := Lib.hid (join_turn a b)
  have HPM : Hid (setC b a 1 = setC a b 1) := Lib.hid (meet_turn a b)
  have HPS := Lib.hid (both_parts F1.out F2.out)
  have HPW := Lib.hid (within_meet F1.out F2.out)
  have HPV := Lib.hid (within_join F1.out F2.out)
  have HPG := Lib.hid (ord_good (ord_set F1.out F2.out 0))
  have HPH := Lib.hid (ord_good (ord_set F1.out F2.out 2))
  have HZJ := Lib.hid hzJ
  have HZM := Lib.hid hzM
  have HZA := Lib.hid hzA
  have HZB := Lib.hid hzB
  clear hzJ hzM hzA hzB hsum
  have C21 := Lib.hid (P.size V A11 (setC a b 0) n11 c11 HJ9.out WJ)
  rw [HZJ.out] at C21
  go_wp2_with fail
  refine C21.out.mono ?_
  rintro e w21 ⟨rfl, b21⟩
  have HW21 : Hid (Below W0.heap.size W0 w21) := Lib.hid (HV.out.trans (b21.mono HV.out.size))
  have Ha21 := Lib.hid (Ha9.out.up b21)
  have Hb21 := Lib.hid (Hb9.out.up b21)
  have HJ21 := Lib.hid (HJ9.out.up b21)
  have HM21 := Lib.hid (HM9.out.up b21)
  have HX21 := Lib.hid (HX9.out.up b21)
  clear C21 b21 HV Ha9 Hb9 HJ9 HM9 HX9
  have C22 := Lib.hid (P.size w21 A12 (setC a b 1) n12 c12 HM21.out WM)
  rw [HZM.out] at C22
  go_wp2_with fail
  refine C22.out.mono ?_
  rintro e w22 ⟨rfl, b22⟩
  have HW22 : Hid (Below W0.heap.size W0 w22) := Lib.hid (HW21.out.trans (b22.mono HW21.out.size))
  have Ha22 := Lib.hid (Ha21.out.up b22)
  have Hb22 := Lib.hid (Hb21.out.up b22)
  have HJ22 := Lib.hid (HJ21.out.up b22)
  have HM22 := Lib.hid (HM21.out.up b22)
  have HX22 := Lib.hid (HX21.out.up b22)
  clear C22 b22 HW21 Ha21 Hb21 HJ21 HM21 HX21
  have C23 := Lib.hid (P.size w22 A1 a n1 c1 Ha22.out W1)
  rw [HZA.out] at C23
  go_wp2_with fail
  refine C23.out.mono ?_
  rintro e w23 ⟨rfl, b23⟩
  have HW23 : Hid (Below W0.heap.size W0 w23) := Lib.hid (HW22.out.trans (b23.mono HW22.out.size))
  have Ha23 := Lib.hid (Ha22.out.up b23)
  have Hb23 := Lib.hid (Hb22.out.up b23)
  have HJ23 := Lib.hid (HJ22.out.up b23)
  have HM23 := Lib.hid (HM22.out.up b23)
  have HX23 := Lib.hid (HX22.out.up b23)
  clear C23 b23 HW22 Ha22 Hb22 HJ22 HM22 HX22
  have C24 := Lib.hid (P.size w23 A2 b n2 c2 Hb23.out W2)
  rw [HZB.out] at C24
  go_wp2_with fail
  refine C24.out.mono ?_
  rintro e w24 ⟨rfl, b24⟩
  have HW24 : Hid (Below W0.heap.size W0 w24) := Lib.hid (HW23.out.trans (b24.mono HW23.out.size))
  have Ha24 := Lib.hid (Ha23.out.up b24)
  have Hb24 := Lib.hid (Hb23.out.up b24)
  have HJ24 := Lib.hid (HJ23.out.up b24)
  have HM24 := Lib.hid (HM23.out.up b24)
  have HX24 := Lib.hid (HX23.out.up b24)
  clear C24 b24 HW23 Ha23 Hb23 HJ23 HM23 HX23
  have C25 := Lib.hid (P.join w24 A2 A1 b a n2 n1 c2 c1 Hb24.out Ha24.out W2 W1)
  rw [HPJ.out] at C25
  go_wp2_with fail
  refine C25.out.mono ?_
  rintro e w25 ⟨A25, n25, c25, rfl, a25, b25⟩
  have HW25 : Hid (Below W0.heap.size W0 w25) := Lib.hid (HW24.out.trans (b25.mono HW24.out.size))
  have Ha25 := Lib.hid (Ha24.out.up b25)
  have Hb25 := Lib.hid (Hb24.out.up b25)
  have HJ25 := Lib.hid (HJ24.out.up b25)
  have HM25 := Lib.hid (HM24.out.up b25)
  have HX25 := Lib.hid (HX24.out.up b25)
  have Hp25 := Lib.hid a25
  clear a25
  clear C25 b25 HW24 Ha24 Hb24 HJ24 HM24 HX24
  have C26 := Lib.hid (eq_true w25 A25 A11 (setC a b 0) n25 n11 c25 c11 Hp25.out HJ25.out)
  go_wp2_with fail
  refine C26.out.mono ?_
  rintro e w26 ⟨rfl, b26⟩
  have HW26 : Hid (Below W0.heap.size W0 w26) := Lib.hid (HW25.out.trans (b26.mono HW25.out.size))
  clear Hp25
  have Ha26 := Lib.hid (Ha25.out.up b26)
  have Hb26 := Lib.hid (Hb25.out.up b26)
  have HJ26 := Lib.hid (HJ25.out.up b26)
  have HM26 := Lib.hid (HM25.out.up b26)
  have HX26 := Lib.hid (HX25.out.up b26)
  clear C26 b26 HW25 Ha25 Hb25 HJ25 HM25 HX25
  have C27 := Lib.hid (P.meet w26 A2 A1 b a n2 n1 c2 c1 Hb26.out Ha26.out W2 W1)
  rw [HPM.out] at C27
  go_wp2_with fail
  refine C27.out.mono ?_
  rintro e w27 ⟨A27, n27, c27, rfl, a27, b27⟩
  have HW27 : Hid (Below W0.heap.size W0 w27) := Lib.hid (HW26.out.trans (b27.mono HW26.out.size))
  have Ha27 := Lib.hid (Ha26.out.up b27)
  have Hb27 := Lib.hid (Hb26.out.up b27)
  have HJ27 := Lib.hid (HJ26.out.up b27)
  have HM27 := Lib.hid (HM26.out.up b27)
  have HX27 := Lib.hid (HX26.out.up b27)
  have Hp27 := Lib.hid a27
  clear a27
  clear C27 b27 HW26 Ha26 Hb26 HJ26 HM26 HX26
  have C28 := Lib.hid (eq_true w27 A27 A12 (setC a b 1) n27 n12 c27 c12 Hp27.out HM27.out)
  go_wp2_with fail
  refine C28.out.mono ?_
  rintro e w28 ⟨rfl, b28⟩
  have HW28 : Hid (Below W0.heap.size W0 w28) := Lib.hid (HW27.out.trans (b28.mono HW27.out.size))
  clear Hp27
  have Ha28 := Lib.hid (Ha27.out.up b28)
  have Hb28 := Lib.hid (Hb27.out.up b28)
  have HJ28 := Lib.hid (HJ27.out.up b28)
  have HM28 := Lib.hid (HM27.out.up b28)
  have HX28 := Lib.hid (HX27.out.up b28)
  clear C28 b28 HW27 Ha27 Hb27 HJ27 HM27 HX27
  have C29 := Lib.hid (P.join w28 A13 A12 (setC a b 2) (setC a b 1) n13 n12 c13 c12 HX28.out HM28.out WX WM)
  go_wp2_with fail
  refine C29.out.mono ?_
  rintro e w29 ⟨A29, n29, c29, rfl, a29, b29⟩
  have HW29 : Hid (Below W0.heap.size W0 w29) := Lib.hid (HW28.out.trans (b29.mono HW28.out.size))
  have Ha29 := Lib.hid (Ha28.out.up b29)
  have Hb29 := Lib.hid (Hb28.out.up b29)
  have HJ29 := Lib.hid (HJ28.out.up b29)
  have HM29 := Lib.hid (HM28.out.up b29)
  have HX29 := Lib.hid (HX28.out.up b29)
  have Hp29 := Lib.hid a29
  clear a29
  clear C29 b29 HW28 Ha28 Hb28 HJ28 HM28 HX28
  have C30 := Lib.hid (P.same w29 A29 A1 (setC (setC a b 2) (setC a b 1) 0) a n29 n1 c29 c1 Hp29.out Ha29.out WU W1)
  rw [HPS.out] at C30
  go_wp2_with fail
  refine C30.out.mono ?_
  rintro e w30 ⟨rfl, b30⟩
  have HW30 : Hid (Below W0.heap.size W0 w30) := Lib.hid (HW29.out.trans (b30.mono HW29.out.size))
  clear Hp29
  clear Ha29
  have Hb30 := Lib.hid (Hb29.out.up b30)
  have HJ30 := Lib.hid (HJ29.out.up b30)
  have HM30 := Lib.hid (HM29.out.up b30)
  have HX30 := Lib.hid (HX29.out.up b30)
  clear C30 b30 HW29 Hb29 HJ29 HM29 HX29
  have C31 := Lib.hid (P.within w30 A12 A2 (setC a b 1) b n12 n2 c12 c2 HM30.out Hb30.out WM W2)
  rw [HPW.out] at C31
  go_wp2_with fail
  refine C31.out.mono ?_
  rintro e w31 ⟨rfl, b31⟩
  have HW31 : Hid (Below W0.heap.size W0 w31) := Lib.hid (HW30.out.trans (b31.mono HW30.out.size))
  clear HM30
  have Hb31 := Lib.hid (Hb30.out.up b31)
  have HJ31 := Lib.hid (HJ30.out.up b31)
  have HX31 := Lib.hid (HX30.out.up b31)
  clear C31 b31 HW30 Hb30 HJ30 HX30
  have C32 := Lib.hid (P.within w31 A2 A11 b (setC a b 0) n2 n11 c2 c11 Hb31.out HJ31.out W2 WJ)
  rw [HPV.out] at C32
  go_wp2_with fail
  refine C32.out.mono ?_
  rintro e w32 ⟨rfl, b32⟩
  have HW32 : Hid (Below W0.heap.size W0 w32) := Lib.hid (HW31.out.trans (b32.mono HW31.out.size))
  clear Hb31
  have HJ32 := Lib.hid (HJ31.out.up b32)
  have HX32 := Lib.hid (HX31.out.up b32)
  clear C32 b32 HW31 HJ31 HX31
  have C33 := Lib.hid (P.good w32 A11 (setC a b 0) n11 c11 HJ32.out WJ)
  rw [HPG.out] at C33
  go_wp2_with fail
  refine C33.out.mono ?_
  rintro e w33 ⟨rfl, b33⟩
  have HW33 : Hid (Below W0.heap.size W0 w33) := Lib.hid (HW32.out.trans (b33.mono HW32.out.size))
  clear HJ32
  have HX33 := Lib.hid (HX32.out.up b33)
  clear C33 b33 HW32 HX32
  have C34 := Lib.hid (P.good w33 A13 (setC a b 2) n13 c13 HX33.out WX)
  rw [HPH.out] at C34
  go_wp2_with fail
  refine C34.out.mono ?_
  rintro e w34 ⟨rfl, b34⟩
  have HW34 : Hid (Below W0.heap.size W0 w34) := Lib.hid (HW33.out.trans (b34.mono HW33.out.size))
  clear HX33
  clear C34 b34 HW33
  have C35 := Lib.hid (works_any P w34)
  go_wp2_with fail
  refine C35.out.mono ?_
  rintro e w35 ⟨rfl, b35⟩
  have HW35 : Hid (Below W0.heap.size W0 w35) := Lib.hid (HW34.out.trans (b35.mono HW34.out.size))
  clear C35 b35 HW34
  have HE : Hid (Below w.heap.size w w35) := Lib.hid (HB.out.trans (HW35.out.mono HB.out.size))
  go_wp2
  go_ret
  exact ⟨rfl, HE.out⟩
set_option maxHeartbeats 16000000 in
theorem laws_f (P : PCtx) (w : World) (A1 A2 : Option Addr) (a b : List Part) (n1 n2 c1 c2 : Nat) (d : Dot) (ha : CtxAt w A1 a n1 c1) (hb : CtxAt w A2 b n2 c2) (wa : Wide 1048576 a) (wb : Wide 1048576 b) (hd : d.1 < 65536 ∧ d.2 < 18446744073709551616) (hha : hasC a d = false) :
    Calls Try.prog 3 #[.slice A1 n1 c1, .slice A2 n2 c2, .agg #[.int .u16 (d.1 : Int), .int .u64 (d.2 : Int)]] w fun e w' => e = .returned (.bool true) ∧ Below w.heap.size w w' := by
  have HB : Hid (Below w.heap.size w (w.alloc (.cells #[.int .u16 (d.1 : Int), .int .u64 (d.2 : Int)] 27))) := Lib.hid (Dt.below_new _ _)
  have HX := Lib.hid (box_at w d)
  have F1 := Lib.hid ha.fit
  have F2 := Lib.hid hb.fit
  have W1 : Wide 67108864 a := wa.more (by decide)
  have W2 : Wide 67108864 b := wb.more (by decide)
  have WJ4 : Wide 4194304 (setC a b 0) := wide_set F1.out F2.out wa wb 0 (.inl rfl)
  have WM4 : Wide 4194304 (setC a b 1) := wide_set F1.out F2.out wa wb 1 (.inr (.inl rfl))
  have WX4 : Wide 4194304 (setC a b 2) := wide_set F1.out F2.out wa wb 2 (.inr (.inr rfl))
  have WJ : Wide 67108864 (setC a b 0) := WJ4.more (by decide)
  have WM : Wide 67108864 (setC a b 1) := WM4.more (by decide)
  have WX : Wide 67108864 (setC a b 2) := WX4.more (by decide)
  have WU : Wide 67108864 (setC (setC a b 2) (setC a b 1) 0) := (wide_set (fit_set F1.out F2.out 2) (fit_set F1.out F2.out 1) WX4 WM4 0 (.inl rfl)).more (by decide)
  have Ha0 := Lib.hid (ha.up HB.out)
  have Hb0 := Lib.hid (hb.up HB.out)
  have HD := Lib.hid hd
  have HHA := Lib.hid hha
  clear ha hb wa wb hd hha WJ4 WM4 WX4
  go_enter Try.func3, Try.ntmps3
  go_wp2_with fail
  generalize w.alloc (.cells #[.int .u16 (d.1 : Int), .int .u64 (d.2 : Int)] 27) = W0 at HB HX Ha0 Hb0 ⊢
  have C11 := Lib.hid (P.join W0 A1 A2 a b n1 n2 c1 c2 Ha0.out Hb0.out W1 W2)
  skip
  refine C11.out.mono ?_
  rintro e w11 ⟨A11, n11, c11, rfl, a11, b11⟩
  have HW11 : Hid (Below W0.heap.size W0 w11) := Lib.hid b11
  have Ha11 := Lib.hid (Ha0.out.up b11)
  have Hb11 := Lib.hid (Hb0.out.up b11)
  have HJ11 := Lib.hid a11
  clear a11
  clear C11 b11  Ha0 Hb0
  have C12 := Lib.hid (P.meet w11 A1 A2 a b n1 n2 c1 c2 Ha11.out Hb11.out W1 W2)
  go_wp2_with fail
  refine C12.out.mono ?_
  rintro e w12 ⟨A12, n12, c12, rfl, a12, b12⟩
  have HW12 : Hid (Below W0.heap.size W0 w12) := Lib.hid (HW11.out.trans (b12.mono HW11.out.size))
  have Ha12 := Lib.hid (Ha11.out.up b12)
  have Hb12 := Lib.hid (Hb11.out.up b12)
  have HJ12 := Lib.hid (HJ11.out.up b12)
  have HM12 := Lib.hid a12
  clear a12
  clear C12 b12 HW11 Ha11 Hb11 HJ11
  have C13 := Lib.hid (P.minus w12 A1 A2 a b n1 n2 c1 c2 Ha12.out Hb12.out W1 W2)
  go_wp2_with fail
  refine C13.out.mono ?_
  rintro e w13 ⟨A13, n13, c13, rfl, a13, b13⟩
  have HW13 : Hid (Below W0.heap.size W0 w13) := Lib.hid (HW12.out.trans (b13.mono HW12.out.size))
  have Ha13 := Lib.hid (Ha12.out.up b13)
  have Hb13 := Lib.hid (Hb12.out.up b13)
  have HJ13 := Lib.hid (HJ12.out.up b13)
  have HM13 := Lib.hid (HM12.out.up b13)
  have HX13 := Lib.hid a13
  clear a13
  clear C13 b13 HW12 Ha12 Hb12 HJ12 HM12
  have HX1 : Hid (∀ V, Below w13.heap.size w13 V → V.cell? ⟨w.heap.size, 0, none⟩ = some (.int .u16 (d.1 : Int)) ∧ V.cell? ⟨w.heap.size, 1, none⟩ = some (.int .u64 (d.2 : Int))) := Lib.hid (fun V hV => HX.out V (HW13.out.trans (hV.mono HW13.out.size)))
  have A19J := fun W (hW : Below w13.heap.size w13 W) => later hW (P.has W A11 (setC a b 0) n11 c11 d (HJ13.out.up hW) WJ HD.out)
  have A19M := fun W (hW : Below w13.heap.size w13 W) => later hW (P.has W A12 (setC a b 1) n12 c12 d (HM13.out.up hW) WM HD.out)
  have A19X := fun W (hW : Below w13.heap.size w13 W) => later hW (P.has W A13 (setC a b 2) n13 c13 d (HX13.out.up hW) WX HD.out)
  have A19a := fun W (hW : Below w13.heap.size w13 W) => later hW (P.has W A1 a n1 c1 d (Ha13.out.up hW) W1 HD.out)
  have A19b := fun W (hW : Below w13.heap.size w13 W) => later hW (P.has W A2 b n2 c2 d (Hb13.out.up hW) W2 HD.out)
  rw [has_join F1.out F2.out, HHA.out] at A19J
  rw [has_meet F1.out F2.out, HHA.out] at A19M
  rw [has_minus F1.out F2.out, HHA.out] at A19X
  rw [HHA.out] at A19a
  simp only [Bool.false_or] at A19J
  simp only [Bool.false_and] at A19M A19X
  generalize hasC b d = hbd at A19J A19M A19X A19b
  go_wp2_with fail
  refine wp_region_noPanic ?_
  refine wp_region_held_drew (S := fun V => V.cell? ⟨w.heap.size, 0, none⟩ = some (.int .u16 (d.1 : Int)) ∧ V.cell? ⟨w.heap.size, 1, none⟩ = some (.int .u64 (d.2 : Int))) (by kernel_rfl) (HX1.out _ (bel_drew (Below.refl _ _))) (fun hHeld => ?_)
  refine wpAnyH_take (i := 0) (oi := { dst := some 19, op := Op.move (Operand.tmp 7), type := 23, pos := "law.go:41", after := #[], guard := none }) (v := ?_) rfl (by kernel_rfl) (by kernel_rfl) (by kernel_rfl) (fun _ _ _ h => h) (Or.inl ⟨by rfl, ?_⟩) (by assumption) ?_
  rotate_left
  · (intro w hSw; (try dsimp only at hSw); go_simp <;> (with_reducible rfl))
  try simp only [Act.put, List.setIfInBounds_toArray, List.set_cons_zero, List.set_cons_succ]
  refine wpAnyH_take (i := 1) (oi := { dst := some 20, op := Op.load 27 (Operand.tmp 5), type := 27, pos := "law.go:41", after := #[], guard := none }) (v := ?_) rfl (by kernel_rfl) (by kernel_rfl) (by kernel_rfl) (fun _ _ _ h => h) (Or.inl ⟨by rfl, ?_⟩) (by assumption) ?_
  rotate_left
  · (intro w hSw; (try dsimp only at hSw); go_simp <;> (with_reducible rfl))
  try simp only [Act.put, List.setIfInBounds_toArray, List.set_cons_zero, List.set_cons_succ]
  refine wpAnyH_take (i := 3) (oi := { dst := some 22, op := Op.move (Operand.tmp 0), type := 23, pos := "law.go:41", after := #[], guard := none }) (v := ?_) rfl (by kernel_rfl) (by kernel_rfl) (by kernel_rfl) (fun _ _ _ h => h) (Or.inl ⟨by rfl, ?_⟩) (by assumption) ?_
  rotate_left
  · (intro w hSw; (try dsimp only at hSw); go_simp <;> (with_reducible rfl))
  try simp only [Act.put, List.setIfInBounds_toArray, List.set_cons_zero, List.set_cons_succ]
  refine wpAnyH_take (i := 4) (oi := { dst := some 23, op := Op.load 27 (Operand.tmp 5), type := 27, pos := "law.go:41", after := #[], guard := none }) (v := ?_) rfl (by kernel_rfl) (by kernel_rfl) (by kernel_rfl) (fun _ _ _ h => h) (Or.inl ⟨by rfl, ?_⟩) (by assumption) ?_
  rotate_left
  · (intro w hSw; (try dsimp only at hSw); go_simp <;> (with_reducible rfl))
  try simp only [Act.put, List.setIfInBounds_toArray, List.set_cons_zero, List.set_cons_succ]
  refine wpAnyH_ready (rs := [2]) (by kernel_rfl) (by simp) ?_
  refine AllReadyH.cons (o := { dst := some 21, op := Op.call { callee := Callee.value (Operand.func 8), args := #[Operand.tmp 19, Operand.tmp 20], argTypes := #[23, 27] }, type := 4, pos := "law.go:41", after := #[{ on := 0, ground := Ground.data }, { on := 1, ground := Ground.data }], guard := none }) rfl (fun K hK => ?_) AllReadyH.nil
  go_simp
  go_at_call 8; (with_reducible refine (A19J _ ?_).mono ?_); (focus (repeat (first | exact Below.refl _ _ | assumption | apply bel_drew | apply bel_alloc))); rintro e V ⟨rfl, bv⟩; have hcV := HX1.out V bv
  refine hK.out _ _ (by assumption) (fun hH => ?_)
  clear hHeld hK K
  have hHeld := hH
  clear hH
  try simp only [Act.put, List.setIfInBounds_toArray, List.set_cons_zero, List.set_cons_succ]
  refine wpAnyH_ready (rs := [5]) (by kernel_rfl) (by simp) ?_
  refine AllReadyH.cons (o := { dst := some 24, op := Op.call { callee := Callee.value (Operand.func 8), args := #[Operand.tmp 22, Operand.tmp 23], argTypes := #[23, 27] }, type := 4, pos := "law.go:41", after := #[{ on := 3, ground := Ground.data }, { on := 4, ground := Ground.data }, { on := 2, ground := Ground.chain }], guard := none }) rfl (fun K hK => ?_) AllReadyH.nil
  go_simp
  go_at_call 8; (with_reducible refine (A19a _ ?_).mono ?_); (focus (repeat (first | exact Below.refl _ _ | assumption | apply bel_drew | apply bel_alloc))); rintro e V ⟨rfl, bv⟩; have hcV := HX1.out V bv
  refine hK.out _ _ (by assumption) (fun hH => ?_)
  clear hHeld hK K
  have hHeld := hH
  clear hH
  try simp only [Act.put, List.setIfInBounds_toArray, List.set_cons_zero, List.set_cons_succ]
  refine wpAnyH_take (i := 6) (oi := { dst := some 25, op := Op.move (Operand.tmp 24), type := 4, pos := "law.go:41", after := #[{ on := 5, ground := Ground.data }, { on := 5, ground := Ground.chain }], guard := none }) (v := ?_) rfl (by kernel_rfl) (by kernel_rfl) (by kernel_rfl) (fun _ _ _ h => h) (Or.inl ⟨by rfl, ?_⟩) (by assumption) ?_
  rotate_left
  · (intro w hSw; (try dsimp only at hSw); go_simp <;> (with_reducible rfl))
  try simp only [Act.put, List.setIfInBounds_toArray, List.set_cons_zero, List.set_cons_succ]
  refine wpAnyH_take (i := 7) (oi := { dst := some 26, op := Op.move (Operand.tmp 1), type := 23, pos := "law.go:41", after := #[{ on := 6, ground := Ground.guard }], guard := some (6, false) }) (v := ?_) rfl (by kernel_rfl) (by kernel_rfl) (by kernel_rfl) (fun _ _ _ h => h) (Or.inl ⟨by rfl, ?_⟩) (by assumption) ?_
  rotate_left
  · (intro w hSw; (try dsimp only at hSw); go_simp <;> (with_reducible rfl))
  try simp only [Act.put, List.setIfInBounds_toArray, List.set_cons_zero, List.set_cons_succ]
  refine wpAnyH_take (i := 8) (oi := { dst := some 27, op := Op.load 27 (Operand.tmp 5), type := 27, pos := "law.go:41", after := #[{ on := 6, ground := Ground.guard }], guard := some (6, false) }) (v := ?_) rfl (by kernel_rfl) (by kernel_rfl) (by kernel_rfl) (fun _ _ _ h => h) (Or.inl ⟨by rfl, ?_⟩) (by assumption) ?_
  rotate_left
  · (intro w hSw; (try dsimp only at hSw); go_simp <;> (with_reducible rfl))
  try simp only [Act.put, List.setIfInBounds_toArray, List.set_cons_zero, List.set_cons_succ]
  refine wpAnyH_ready (rs := [9]) (by kernel_rfl) (by simp) ?_
  refine AllReadyH.cons (o := { dst := some 28, op := Op.call { callee := Callee.value (Operand.func 8), args := #[Operand.tmp 26, Operand.tmp 27], argTypes := #[23, 27] }, type := 4, pos := "law.go:41", after := #[{ on := 7, ground := Ground.data }, { on := 8, ground := Ground.data }, { on := 6, ground := Ground.chain }, { on := 6, ground := Ground.guard }], guard := some (6, false) }) rfl (fun K hK => ?_) AllReadyH.nil
  go_simp
  go_at_call 8; (with_reducible refine (A19b _ ?_).mono ?_); (focus (repeat (first | exact Below.refl _ _ | assumption | apply bel_drew | apply bel_alloc))); rintro e V ⟨rfl, bv⟩; have hcV := HX1.out V bv
  refine hK.out _ _ (by assumption) (fun hH => ?_)
  clear hHeld hK K
  have hHeld := hH
  clear hH
  try simp only [Act.put, List.setIfInBounds_toArray, List.set_cons_zero, List.set_cons_succ]
  refine wpAnyH_take (i := 10) (oi := { dst := some 29, op := Op.pick (Operand.tmp 25) (Operand.const (Value.bool true)) (Operand.tmp 28), type := 4, pos := "law.go:41", after := #[{ on := 6, ground := Ground.data }, { on := 9, ground := Ground.data }], guard := none }) (v := ?_) rfl (by kernel_rfl) (by kernel_rfl) (by kernel_rfl) (fun _ _ _ h => h) (Or.inl ⟨by rfl, ?_⟩) (by assumption) ?_
  rotate_left
  · (intro w hSw; (try dsimp only at hSw); go_simp <;> (with_reducible rfl))
  try simp only [Act.put, List.setIfInBounds_toArray, List.set_cons_zero, List.set_cons_succ]
  refine wpAnyH_take (i := 11) (oi := { dst := some 30, op := Op.binOp BinOp.neq 4 (Operand.tmp 21) (Operand.tmp 29) 4, type := 4, pos := "law.go:41", after := #[{ on := 2, ground := Ground.data }, { on := 10, ground := Ground.data }], guard := none }) (v := ?_) rfl (by kernel_rfl) (by kernel_rfl) (by kernel_rfl) (fun _ _ _ h => h) (Or.inl ⟨by rfl, ?_⟩) (by assumption) ?_
  rotate_left
  · (intro w hSw; (try dsimp only at hSw); go_simp <;> (with_reducible rfl))
  try simp only [Act.put, List.setIfInBounds_toArray, List.set_cons_zero, List.set_cons_succ]
  refine wpAnyH_take (i := 12) (oi := { dst := some 31, op := Op.move (Operand.tmp 30), type := 4, pos := "law.go:41", after := #[{ on := 11, ground := Ground.data }, { on := 9, ground := Ground.chain }], guard := none }) (v := ?_) rfl (by kernel_rfl) (by kernel_rfl) (by kernel_rfl) (fun _ _ _ h => h) (Or.inl ⟨by rfl, ?_⟩) (by assumption) ?_
  rotate_left
  · (intro w hSw; (try dsimp only at hSw); go_simp <;> (with_reducible rfl))
  try simp only [Act.put, List.setIfInBounds_toArray, List.set_cons_zero, List.set_cons_succ]
  refine wpAnyH_take (i := 13) (oi := { dst := some 32, op := Op.move (Operand.tmp 8), type := 23, pos := "law.go:41", after := #[{ on := 12, ground := Ground.guard }], guard := some (12, false) }) (v := ?_) rfl (by kernel_rfl) (by kernel_rfl) (by kernel_rfl) (fun _ _ _ h => h) (Or.inl ⟨by rfl, ?_⟩) (by assumption) ?_
  rotate_left
  · (intro w hSw; (try dsimp only at hSw); go_simp <;> (with_reducible rfl))
  try simp only [Act.put, List.setIfInBounds_toArray, List.set_cons_zero, List.set_cons_succ]
  refine wpAnyH_take (i := 14) (oi := { dst := some 33, op := Op.load 27 (Operand.tmp 5), type := 27, pos := "law.go:41", after := #[{ on := 12, ground := Ground.guard }], guard := some (12, false) }) (v := ?_) rfl (by kernel_rfl) (by kernel_rfl) (by kernel_rfl) (fun _ _ _ h => h) (Or.inl ⟨by rfl, ?_⟩) (by assumption) ?_
  rotate_left
  · (intro w hSw; (try dsimp only at hSw); go_simp <;> (with_reducible rfl))
  try simp only [Act.put, List.setIfInBounds_toArray, List.set_cons_zero, List.set_cons_succ]
  refine wpAnyH_take (i := 16) (oi := { dst := some 35, op := Op.move (Operand.tmp 0), type := 23, pos := "law.go:41", after := #[{ on := 12, ground := Ground.guard }], guard := some (12, false) }) (v := ?_) rfl (by kernel_rfl) (by kernel_rfl) (by kernel_rfl) (fun _ _ _ h => h) (Or.inl ⟨by rfl, ?_⟩) (by assumption) ?_
  rotate_left
  · (intro w hSw; (try dsimp only at hSw); go_simp <;> (with_reducible rfl))
  try simp only [Act.put, List.setIfInBounds_toArray, List.set_cons_zero, List.set_cons_succ]
  refine wpAnyH_take (i := 17) (oi := { dst := some 36, op := Op.load 27 (Operand.tmp 5), type := 27, pos := "law.go:41", after := #[{ on := 12, ground := Ground.guard }], guard := some (12, false) }) (v := ?_) rfl (by kernel_rfl) (by kernel_rfl) (by kernel_rfl) (fun _ _ _ h => h) (Or.inl ⟨by rfl, ?_⟩) (by assumption) ?_
  rotate_left
  · (intro w hSw; (try dsimp only at hSw); go_simp <;> (with_reducible rfl))
  try simp only [Act.put, List.setIfInBounds_toArray, List.set_cons_zero, List.set_cons_succ]
  refine wpAnyH_ready (rs := [15]) (by kernel_rfl) (by simp) ?_
  refine AllReadyH.cons (o := { dst := some 34, op := Op.call { callee := Callee.value (Operand.func 8), args := #[Operand.tmp 32, Operand.tmp 33], argTypes := #[23, 27] }, type := 4, pos := "law.go:41", after := #[{ on := 13, ground := Ground.data }, { on := 14, ground := Ground.data }, { on := 12, ground := Ground.chain }, { on := 12, ground := Ground.guard }], guard := some (12, false) }) rfl (fun K hK => ?_) AllReadyH.nil
  go_simp
  go_at_call 8; (with_reducible refine (A19M _ ?_).mono ?_); (focus (repeat (first | exact Below.refl _ _ | assumption | apply bel_drew | apply bel_alloc))); rintro e V ⟨rfl, bv⟩; have hcV := HX1.out V bv
  refine hK.out _ _ (by assumption) (fun hH => ?_)
  clear hHeld hK K
  have hHeld := hH
  clear hH
  try simp only [Act.put, List.setIfInBounds_toArray, List.set_cons_zero, List.set_cons_succ]
  refine wpAnyH_ready (rs := [18]) (by kernel_rfl) (by simp) ?_
  refine AllReadyH.cons (o := { dst := some 37, op := Op.call { callee := Callee.value (Operand.func 8), args := #[Operand.tmp 35, Operand.tmp 36], argTypes := #[23, 27] }, type := 4, pos := "law.go:41", after := #[{ on := 16, ground := Ground.data }, { on := 17, ground := Ground.data }, { on := 15, ground := Ground.chain }, { on := 12, ground := Ground.guard }], guard := some (12, false) }) rfl (fun K hK => ?_) AllReadyH.nil
  go_simp
  go_at_call 8; (with_reducible refine (A19a _ ?_).mono ?_); (focus (repeat (first | exact Below.refl _ _ | assumption | apply bel_drew | apply bel_alloc))); rintro e V ⟨rfl, bv⟩; have hcV := HX1.out V bv
  refine hK.out _ _ (by assumption) (fun hH => ?_)
  clear hHeld hK K
  have hHeld := hH
  clear hH
  try simp only [Act.put, List.setIfInBounds_toArray, List.set_cons_zero, List.set_cons_succ]
  refine wpAnyH_take (i := 19) (oi := { dst := some 38, op := Op.move (Operand.tmp 37), type := 4, pos := "law.go:41", after := #[{ on := 18, ground := Ground.data }, { on := 18, ground := Ground.chain }, { on := 12, ground := Ground.guard }], guard := some (12, false) }) (v := ?_) rfl (by kernel_rfl) (by kernel_rfl) (by kernel_rfl) (fun _ _ _ h => h) (Or.inl ⟨by rfl, ?_⟩) (by assumption) ?_
  rotate_left
  · (intro w hSw; (try dsimp only at hSw); go_simp <;> (with_reducible rfl))
  try simp only [Act.put, List.setIfInBounds_toArray, List.set_cons_zero, List.set_cons_succ]
  refine wpAnyH_take (i := 20) (oi := { dst := some 39, op := Op.move (Operand.tmp 1), type := 23, pos := "law.go:41", after := #[{ on := 19, ground := Ground.guard }], guard := some (19, true) }) (v := undef) rfl (by kernel_rfl) (by kernel_rfl) (by kernel_rfl) (fun _ _ _ h => h) (Or.inr ⟨by rfl, rfl⟩) (by assumption) ?_
  try simp only [Act.put, List.setIfInBounds_toArray, List.set_cons_zero, List.set_cons_succ]
  refine wpAnyH_take (i := 21) (oi := { dst := some 40, op := Op.load 27 (Operand.tmp 5), type := 27, pos := "law.go:41", after := #[{ on := 19, ground := Ground.guard }], guard := some (19, true) }) (v := undef) rfl (by kernel_rfl) (by kernel_rfl) (by kernel_rfl) (fun _ _ _ h => h) (Or.inr ⟨by rfl, rfl⟩) (by assumption) ?_
  try simp only [Act.put, List.setIfInBounds_toArray, List.set_cons_zero, List.set_cons_succ]
  refine wpAnyH_ready (rs := [22]) (by kernel_rfl) (by simp) ?_
  refine AllReadyH.cons (o := { dst := some 41, op := Op.call { callee := Callee.value (Operand.func 8), args := #[Operand.tmp 39, Operand.tmp 40], argTypes := #[23, 27] }, type := 4, pos := "law.go:41", after := #[{ on := 20, ground := Ground.data }, { on := 21, ground := Ground.data }, { on := 19, ground := Ground.chain }, { on := 19, ground := Ground.guard }], guard := some (19, true) }) rfl (fun K hK => ?_) AllReadyH.nil
  go_simp
  refine hK.out _ _ (by assumption) (fun hH => ?_)
  clear hHeld hK K
  have hHeld := hH
  clear hH
  try simp only [Act.put, List.setIfInBounds_toArray, List.set_cons_zero, List.set_cons_succ]
  refine wpAnyH_take (i := 23) (oi := { dst := some 42, op := Op.pick (Operand.tmp 38) (Operand.tmp 41) (Operand.const (Value.bool false)), type := 4, pos := "law.go:41", after := #[{ on := 19, ground := Ground.data }, { on := 22, ground := Ground.data }, { on := 12, ground := Ground.guard }], guard := some (12, false) }) (v := ?_) rfl (by kernel_rfl) (by kernel_rfl) (by kernel_rfl) (fun _ _ _ h => h) (Or.inl ⟨by rfl, ?_⟩) (by assumption) ?_
  rotate_left
  · (intro w hSw; (try dsimp only at hSw); go_simp <;> (with_reducible rfl))
  try simp only [Act.put, List.setIfInBounds_toArray, List.set_cons_zero, List.set_cons_succ]
  refine wpAnyH_take (i := 24) (oi := { dst := some 43, op := Op.binOp BinOp.neq 4 (Operand.tmp 34) (Operand.tmp 42) 4, type := 4, pos := "law.go:41", after := #[{ on := 15, ground := Ground.data }, { on := 23, ground := Ground.data }, { on := 12, ground := Ground.guard }], guard := some (12, false) }) (v := ?_) rfl (by kernel_rfl) (by kernel_rfl) (by kernel_rfl) (fun _ _ _ h => h) (Or.inl ⟨by rfl, ?_⟩) (by assumption) ?_
  rotate_left
  · (intro w hSw; (try dsimp only at hSw); go_simp <;> (with_reducible rfl))
  try simp only [Act.put, List.setIfInBounds_toArray, List.set_cons_zero, List.set_cons_succ]
  refine wpAnyH_take (i := 25) (oi := { dst := some 44, op := Op.pick (Operand.tmp 31) (Operand.const (Value.bool true)) (Operand.tmp 43), type := 4, pos := "law.go:41", after := #[{ on := 12, ground := Ground.data }, { on := 24, ground := Ground.data }], guard := none }) (v := ?_) rfl (by kernel_rfl) (by kernel_rfl) (by kernel_rfl) (fun _ _ _ h => h) (Or.inl ⟨by rfl, ?_⟩) (by assumption) ?_
  rotate_left
  · (intro w hSw; (try dsimp only at hSw); go_simp <;> (with_reducible rfl))
  try simp only [Act.put, List.setIfInBounds_toArray, List.set_cons_zero, List.set_cons_succ]
  refine wpAnyH_take (i := 26) (oi := { dst := some 45, op := Op.move (Operand.tmp 44), type := 4, pos := "law.go:41", after := #[{ on := 25, ground := Ground.data }, { on := 22, ground := Ground.chain }], guard := none }) (v := ?_) rfl (by kernel_rfl) (by kernel_rfl) (by kernel_rfl) (fun _ _ _ h => h) (Or.inl ⟨by rfl, ?_⟩) (by assumption) ?_
  rotate_left
  · (intro w hSw; (try dsimp only at hSw); go_simp <;> (with_reducible rfl))
  try simp only [Act.put, List.setIfInBounds_toArray, List.set_cons_zero, List.set_cons_succ]
  refine wpAnyH_take (i := 27) (oi := { dst := some 46, op := Op.move (Operand.tmp 9), type := 23, pos := "law.go:41", after := #[{ on := 26, ground := Ground.guard }], guard := some (26, false) }) (v := ?_) rfl (by kernel_rfl) (by kernel_rfl) (by kernel_rfl) (fun _ _ _ h => h) (Or.inl ⟨by rfl, ?_⟩) (by assumption) ?_
  rotate_left
  · (intro w hSw; (try dsimp only at hSw); go_simp <;> (with_reducible rfl))
  try simp only [Act.put, List.setIfInBounds_toArray, List.set_cons_zero, List.set_cons_succ]
  refine wpAnyH_take (i := 28) (oi := { dst := some 47, op := Op.load 27 (Operand.tmp 5), type := 27, pos := "law.go:41", after := #[{ on := 26, ground := Ground.guard }], guard := some (26, false) }) (v := ?_) rfl (by kernel_rfl) (by kernel_rfl) (by kernel_rfl) (fun _ _ _ h => h) (Or.inl ⟨by rfl, ?_⟩) (by assumption) ?_
  rotate_left
  · (intro w hSw; (try dsimp only at hSw); go_simp <;> (with_reducible rfl))
  try simp only [Act.put, List.setIfInBounds_toArray, List.set_cons_zero, List.set_cons_succ]
  refine wpAnyH_take (i := 30) (oi := { dst := some 49, op := Op.move (Operand.tmp 0), type := 23, pos := "law.go:41", after := #[{ on := 26, ground := Ground.guard }], guard := some (26, false) }) (v := ?_) rfl (by kernel_rfl) (by kernel_rfl) (by kernel_rfl) (fun _ _ _ h => h) (Or.inl ⟨by rfl, ?_⟩) (by assumption) ?_
  rotate_left
  · (intro w hSw; (try dsimp only at hSw); go_simp <;> (with_reducible rfl))
  try simp only [Act.put, List.setIfInBounds_toArray, List.set_cons_zero, List.set_cons_succ]
  refine wpAnyH_take (i := 31) (oi := { dst := some 50, op := Op.load 27 (Operand.tmp 5), type := 27, pos := "law.go:41", after := #[{ on := 26, ground := Ground.guard }], guard := some (26, false) }) (v := ?_) rfl (by kernel_rfl) (by kernel_rfl) (by kernel_rfl) (fun _ _ _ h => h) (Or.inl ⟨by rfl, ?_⟩) (by assumption) ?_
  rotate_left
  · (intro w hSw; (try dsimp only at hSw); go_simp <;> (with_reducible rfl))
  try simp only [Act.put, List.setIfInBounds_toArray, List.set_cons_zero, List.set_cons_succ]
  refine wpAnyH_ready (rs := [29]) (by kernel_rfl) (by simp) ?_
  refine AllReadyH.cons (o := { dst := some 48, op := Op.call { callee := Callee.value (Operand.func 8), args := #[Operand.tmp 46, Operand.tmp 47], argTypes := #[23, 27] }, type := 4, pos := "law.go:41", after := #[{ on := 27, ground := Ground.data }, { on := 28, ground := Ground.data }, { on := 26, ground := Ground.chain }, { on := 26, ground := Ground.guard }], guard := some (26, false) }) rfl (fun K hK => ?_) AllReadyH.nil
  go_simp
  go_at_call 8; (with_reducible refine (A19X _ ?_).mono ?_); (focus (repeat (first | exact Below.refl _ _ | assumption | apply bel_drew | apply bel_alloc))); rintro e V ⟨rfl, bv⟩; have hcV := HX1.out V bv
  refine hK.out _ _ (by assumption) (fun hH => ?_)
  clear hHeld hK K
  have hHeld := hH
  clear hH
  try simp only [Act.put, List.setIfInBounds_toArray, List.set_cons_zero, List.set_cons_succ]
  refine wpAnyH_ready (rs := [32]) (by kernel_rfl) (by simp) ?_
  refine AllReadyH.cons (o := { dst := some 51, op := Op.call { callee := Callee.value (Operand.func 8), args := #[Operand.tmp 49, Operand.tmp 50], argTypes := #[23, 27] }, type := 4, pos := "law.go:41", after := #[{ on := 30, ground := Ground.data }, { on := 31, ground := Ground.data }, { on := 29, ground := Ground.chain }, { on := 26, ground := Ground.guard }], guard := some (26, false) }) rfl (fun K hK => ?_) AllReadyH.nil
  go_simp
  go_at_call 8; (with_reducible refine (A19a _ ?_).mono ?_); (focus (repeat (first | exact Below.refl _ _ | assumption | apply bel_drew | apply bel_alloc))); rintro e V ⟨rfl, bv⟩; have hcV := HX1.out V bv
  refine hK.out _ _ (by assumption) (fun hH => ?_)
  clear hHeld hK K
  have hHeld := hH
  clear hH
  try simp only [Act.put, List.setIfInBounds_toArray, List.set_cons_zero, List.set_cons_succ]
  refine wpAnyH_take (i := 33) (oi := { dst := some 52, op := Op.move (Operand.tmp 51), type := 4, pos := "law.go:41", after := #[{ on := 32, ground := Ground.data }, { on := 32, ground := Ground.chain }, { on := 26, ground := Ground.guard }], guard := some (26, false) }) (v := ?_) rfl (by kernel_rfl) (by kernel_rfl) (by kernel_rfl) (fun _ _ _ h => h) (Or.inl ⟨by rfl, ?_⟩) (by assumption) ?_
  rotate_left
  · (intro w hSw; (try dsimp only at hSw); go_simp <;> (with_reducible rfl))
  try simp only [Act.put, List.setIfInBounds_toArray, List.set_cons_zero, List.set_cons_succ]
  refine wpAnyH_take (i := 34) (oi := { dst := some 53, op := Op.move (Operand.tmp 1), type := 23, pos := "law.go:41", after := #[{ on := 33, ground := Ground.guard }], guard := some (33, true) }) (v := undef) rfl (by kernel_rfl) (by kernel_rfl) (by kernel_rfl) (fun _ _ _ h => h) (Or.inr ⟨by rfl, rfl⟩) (by assumption) ?_
  try simp only [Act.put, List.setIfInBounds_toArray, List.set_cons_zero, List.set_cons_succ]
  refine wpAnyH_take (i := 35) (oi := { dst := some 54, op := Op.load 27 (Operand.tmp 5), type := 27, pos := "law.go:41", after := #[{ on := 33, ground := Ground.guard }], guard := some (33, true) }) (v := undef) rfl (by kernel_rfl) (by kernel_rfl) (by kernel_rfl) (fun _ _ _ h => h) (Or.inr ⟨by rfl, rfl⟩) (by assumption) ?_
  try simp only [Act.put, List.setIfInBounds_toArray, List.set_cons_zero, List.set_cons_succ]
  refine wpAnyH_ready (rs := [36]) (by kernel_rfl) (by simp) ?_
  refine AllReadyH.cons (o := { dst := some 55, op := Op.call { callee := Callee.value (Operand.func 8), args := #[Operand.tmp 53, Operand.tmp 54], argTypes := #[23, 27] }, type := 4, pos := "law.go:41", after := #[{ on := 34, ground := Ground.data }, { on := 35, ground := Ground.data }, { on := 33, ground := Ground.chain }, { on := 33, ground := Ground.guard }], guard := some (33, true) }) rfl (fun K hK => ?_) AllReadyH.nil
  go_simp
  refine hK.out _ _ (by assumption) (fun hH => ?_)
  clear hHeld hK K
  have hHeld := hH
  clear hH
  try simp only [Act.put, List.setIfInBounds_toArray, List.set_cons_zero, List.set_cons_succ]
  refine wpAnyH_take (i := 37) (oi := { dst := some 56, op := Op.unOp UnOp.not 4 (Operand.tmp 55), type := 4, pos := "law.go:41", after := #[{ on := 36, ground := Ground.data }, { on := 33, ground := Ground.guard }], guard := some (33, true) }) (v := undef) rfl (by kernel_rfl) (by kernel_rfl) (by kernel_rfl) (fun _ _ _ h => h) (Or.inr ⟨by rfl, rfl⟩) (by assumption) ?_
  try simp only [Act.put, List.setIfInBounds_toArray, List.set_cons_zero, List.set_cons_succ]
  refine wpAnyH_take (i := 38) (oi := { dst := some 57, op := Op.pick (Operand.tmp 52) (Operand.tmp 56) (Operand.const (Value.bool false)), type := 4, pos := "law.go:41", after := #[{ on := 33, ground := Ground.data }, { on := 37, ground := Ground.data }, { on := 26, ground := Ground.guard }], guard := some (26, false) }) (v := ?_) rfl (by kernel_rfl) (by kernel_rfl) (by kernel_rfl) (fun _ _ _ h => h) (Or.inl ⟨by rfl, ?_⟩) (by assumption) ?_
  rotate_left
  · (intro w hSw; (try dsimp only at hSw); go_simp <;> (with_reducible rfl))
  try simp only [Act.put, List.setIfInBounds_toArray, List.set_cons_zero, List.set_cons_succ]
  refine wpAnyH_take (i := 39) (oi := { dst := some 58, op := Op.binOp BinOp.neq 4 (Operand.tmp 48) (Operand.tmp 57) 4, type := 4, pos := "law.go:41", after := #[{ on := 29, ground := Ground.data }, { on := 38, ground := Ground.data }, { on := 26, ground := Ground.guard }], guard := some (26, false) }) (v := ?_) rfl (by kernel_rfl) (by kernel_rfl) (by kernel_rfl) (fun _ _ _ h => h) (Or.inl ⟨by rfl, ?_⟩) (by assumption) ?_
  rotate_left
  · (intro w hSw; (try dsimp only at hSw); go_simp <;> (with_reducible rfl))
  try simp only [Act.put, List.setIfInBounds_toArray, List.set_cons_zero, List.set_cons_succ]
  refine wpAnyH_take (i := 40) (oi := { dst := some 59, op := Op.pick (Operand.tmp 45) (Operand.const (Value.bool true)) (Operand.tmp 58), type := 4, pos := "law.go:41", after := #[{ on := 26, ground := Ground.data }, { on := 39, ground := Ground.data }], guard := none }) (v := ?_) rfl (by kernel_rfl) (by kernel_rfl) (by kernel_rfl) (fun _ _ _ h => h) (Or.inl ⟨by rfl, ?_⟩) (by assumption) ?_
  rotate_left
  · (intro w hSw; (try dsimp only at hSw); go_simp <;> (with_reducible rfl))
  try simp only [Act.put, List.setIfInBounds_toArray, List.set_cons_zero, List.set_cons_succ]
  refine wpAnyH_done (by kernel_rfl) ?_ _
  refine NoPanic.normal ?_
  have HV : Hid (Below W0.heap.size W0 V) := Lib.hid (HW13.out.trans (bv.mono HW13.out.size))
  have HJ9 := Lib.hid (HJ13.out.up bv)
  have HM9 := Lib.hid (HM13.out.up bv)
  have HX9 := Lib.hid (HX13.out.up bv)
  have Ha9 := Lib.hid (Ha13.out.up bv)
  have Hb9 := Lib.hid (Hb13.out.up bv)
  clear hHeld hcV A19J A19M A19X A19a A19b HX1 HX bv HJ13 HM13 HX13 Ha13 Hb13 HW13
  obtain ⟨zJ, hzJ⟩ : ∃ z : Int, ((sizeC (setC a b 0) : Nat) : Int) = z := ⟨_, rfl⟩
  obtain ⟨zM, hzM⟩ : ∃ z : Int, ((sizeC (setC a b 1) : Nat) : Int) = z := ⟨_, rfl⟩
  obtain ⟨zA, hzA⟩ : ∃ z : Int, ((sizeC a : Nat) : Int) = z := ⟨_, rfl⟩
  obtain ⟨zB, hzB⟩ : ∃ z : Int, ((sizeC b : Nat) : Int) = z := ⟨_, rfl⟩
  have hsum : zJ + zM = zA + zB := by rw [← hzJ, ← hzM, ← hzA, ← hzB]; have := sizes F1.out F2.out; omega
  have hz : (IntKind.u64.wrap (zJ + zM) == IntKind.u64.wrap (zA + zB)) = true := by rw [hsum]; exact beq_self_eq_true _
  have HPJ : Hid (setC b a 0 = setC a b 0) := Lib.hid (join_turn a b)
  have HPM : Hid (setC b a 1 = setC a b 1) := Lib.hid (meet_turn a b)
  have HPS := Lib.hid (both_parts F1.out F2.out)
  have HPW := Lib.hid (within_meet F1.out F2.out)
  have HPV := Lib.hid (within_join F1.out F2.out)
  have HPG := Lib.hid (ord_good (ord_set F1.out F2.out 0))
  have HPH := Lib.hid (ord_good (ord_set F1.out F2.out 2))
  have HZJ := Lib.hid hzJ
  have HZM := Lib.hid hzM
  have HZA := Lib.hid hzA
  have HZB := Lib.hid hzB
  clear hzJ hzM hzA hzB hsum
  have C21 := Lib.hid (P.size V A11 (setC a b 0) n11 c11 HJ9.out WJ)
  rw [HZJ.out] at C21
  go_wp2_with fail
  refine C21.out.mono ?_
  rintro e w21 ⟨rfl, b21⟩
  have HW21 : Hid (Below W0.heap.size W0 w21) := Lib.hid (HV.out.trans (b21.mono HV.out.size))
  have Ha21 := Lib.hid (Ha9.out.up b21)
  have Hb21 := Lib.hid (Hb9.out.up b21)
  have HJ21 := Lib.hid (HJ9.out.up b21)
  have HM21 := Lib.hid (HM9.out.up b21)
  have HX21 := Lib.hid (HX9.out.up b21)
  clear C21 b21 HV Ha9 Hb9 HJ9 HM9 HX9
  have C22 := Lib.hid (P.size w21 A12 (setC a b 1) n12 c12 HM21.out WM)
  rw [HZM.out] at C22
  go_wp2_with fail
  refine C22.out.mono ?_
  rintro e w22 ⟨rfl, b22⟩
  have HW22 : Hid (Below W0.heap.size W0 w22) := Lib.hid (HW21.out.trans (b22.mono HW21.out.size))
  have Ha22 := Lib.hid (Ha21.out.up b22)
  have Hb22 := Lib.hid (Hb21.out.up b22)
  have HJ22 := Lib.hid (HJ21.out.up b22)
  have HM22 := Lib.hid (HM21.out.up b22)
  have HX22 := Lib.hid (HX21.out.up b22)
  clear C22 b22 HW21 Ha21 Hb21 HJ21 HM21 HX21
  have C23 := Lib.hid (P.size w22 A1 a n1 c1 Ha22.out W1)
  rw [HZA.out] at C23
  go_wp2_with fail
  refine C23.out.mono ?_
  rintro e w23 ⟨rfl, b23⟩
  have HW23 : Hid (Below W0.heap.size W0 w23) := Lib.hid (HW22.out.trans (b23.mono HW22.out.size))
  have Ha23 := Lib.hid (Ha22.out.up b23)
  have Hb23 := Lib.hid (Hb22.out.up b23)
  have HJ23 := Lib.hid (HJ22.out.up b23)
  have HM23 := Lib.hid (HM22.out.up b23)
  have HX23 := Lib.hid (HX22.out.up b23)
  clear C23 b23 HW22 Ha22 Hb22 HJ22 HM22 HX22
  have C24 := Lib.hid (P.size w23 A2 b n2 c2 Hb23.out W2)
  rw [HZB.out] at C24
  go_wp2_with fail
  refine C24.out.mono ?_
  rintro e w24 ⟨rfl, b24⟩
  have HW24 : Hid (Below W0.heap.size W0 w24) := Lib.hid (HW23.out.trans (b24.mono HW23.out.size))
  have Ha24 := Lib.hid (Ha23.out.up b24)
  have Hb24 := Lib.hid (Hb23.out.up b24)
  have HJ24 := Lib.hid (HJ23.out.up b24)
  have HM24 := Lib.hid (HM23.out.up b24)
  have HX24 := Lib.hid (HX23.out.up b24)
  clear C24 b24 HW23 Ha23 Hb23 HJ23 HM23 HX23
  have C25 := Lib.hid (P.join w24 A2 A1 b a n2 n1 c2 c1 Hb24.out Ha24.out W2 W1)
  rw [HPJ.out] at C25
  go_wp2_with fail
  refine C25.out.mono ?_
  rintro e w25 ⟨A25, n25, c25, rfl, a25, b25⟩
  have HW25 : Hid (Below W0.heap.size W0 w25) := Lib.hid (HW24.out.trans (b25.mono HW24.out.size))
  have Ha25 := Lib.hid (Ha24.out.up b25)
  have Hb25 := Lib.hid (Hb24.out.up b25)
  have HJ25 := Lib.hid (HJ24.out.up b25)
  have HM25 := Lib.hid (HM24.out.up b25)
  have HX25 := Lib.hid (HX24.out.up b25)
  have Hp25 := Lib.hid a25
  clear a25
  clear C25 b25 HW24 Ha24 Hb24 HJ24 HM24 HX24
  have C26 := Lib.hid (eq_true w25 A25 A11 (setC a b 0) n25 n11 c25 c11 Hp25.out HJ25.out)
  go_wp2_with fail
  refine C26.out.mono ?_
  rintro e w26 ⟨rfl, b26⟩
  have HW26 : Hid (Below W0.heap.size W0 w26) := Lib.hid (HW25.out.trans (b26.mono HW25.out.size))
  clear Hp25
  have Ha26 := Lib.hid (Ha25.out.up b26)
  have Hb26 := Lib.hid (Hb25.out.up b26)
  have HJ26 := Lib.hid (HJ25.out.up b26)
  have HM26 := Lib.hid (HM25.out.up b26)
  have HX26 := Lib.hid (HX25.out.up b26)
  clear C26 b26 HW25 Ha25 Hb25 HJ25 HM25 HX25
  have C27 := Lib.hid (P.meet w26 A2 A1 b a n2 n1 c2 c1 Hb26.out Ha26.out W2 W1)
  rw [HPM.out] at C27
  go_wp2_with fail
  refine C27.out.mono ?_
  rintro e w27 ⟨A27, n27, c27, rfl, a27, b27⟩
  have HW27 : Hid (Below W0.heap.size W0 w27) := Lib.hid (HW26.out.trans (b27.mono HW26.out.size))
  have Ha27 := Lib.hid (Ha26.out.up b27)
  have Hb27 := Lib.hid (Hb26.out.up b27)
  have HJ27 := Lib.hid (HJ26.out.up b27)
  have HM27 := Lib.hid (HM26.out.up b27)
  have HX27 := Lib.hid (HX26.out.up b27)
  have Hp27 := Lib.hid a27
  clear a27
  clear C27 b27 HW26 Ha26 Hb26 HJ26 HM26 HX26
  have C28 := Lib.hid (eq_true w27 A27 A12 (setC a b 1) n27 n12 c27 c12 Hp27.out HM27.out)
  go_wp2_with fail
  refine C28.out.mono ?_
  rintro e w28 ⟨rfl, b28⟩
  have HW28 : Hid (Below W0.heap.size W0 w28) := Lib.hid (HW27.out.trans (b28.mono HW27.out.size))
  clear Hp27
  have Ha28 := Lib.hid (Ha27.out.up b28)
  have Hb28 := Lib.hid (Hb27.out.up b28)
  have HJ28 := Lib.hid (HJ27.out.up b28)
  have HM28 := Lib.hid (HM27.out.up b28)
  have HX28 := Lib.hid (HX27.out.up b28)
  clear C28 b28 HW27 Ha27 Hb27 HJ27 HM27 HX27
  have C29 := Lib.hid (P.join w28 A13 A12 (setC a b 2) (setC a b 1) n13 n12 c13 c12 HX28.out HM28.out WX WM)
  go_wp2_with fail
  refine C29.out.mono ?_
  rintro e w29 ⟨A29, n29, c29, rfl, a29, b29⟩
  have HW29 : Hid (Below W0.heap.size W0 w29) := Lib.hid (HW28.out.trans (b29.mono HW28.out.size))
  have Ha29 := Lib.hid (Ha28.out.up b29)
  have Hb29 := Lib.hid (Hb28.out.up b29)
  have HJ29 := Lib.hid (HJ28.out.up b29)
  have HM29 := Lib.hid (HM28.out.up b29)
  have HX29 := Lib.hid (HX28.out.up b29)
  have Hp29 := Lib.hid a29
  clear a29
  clear C29 b29 HW28 Ha28 Hb28 HJ28 HM28 HX28
  have C30 := Lib.hid (P.same w29 A29 A1 (setC (setC a b 2) (setC a b 1) 0) a n29 n1 c29 c1 Hp29.out Ha29.out WU W1)
  rw [HPS.out] at C30
  go_wp2_with fail
  refine C30.out.mono ?_
  rintro e w30 ⟨rfl, b30⟩
  have HW30 : Hid (Below W0.heap.size W0 w30) := Lib.hid (HW29.out.trans (b30.mono HW29.out.size))
  clear Hp29
  clear Ha29
  have Hb30 := Lib.hid (Hb29.out.up b30)
  have HJ30 := Lib.hid (HJ29.out.up b30)
  have HM30 := Lib.hid (HM29.out.up b30)
  have HX30 := Lib.hid (HX29.out.up b30)
  clear C30 b30 HW29 Hb29 HJ29 HM29 HX29
  have C31 := Lib.hid (P.within w30 A12 A2 (setC a b 1) b n12 n2 c12 c2 HM30.out Hb30.out WM W2)
  rw [HPW.out] at C31
  go_wp2_with fail
  refine C31.out.mono ?_
  rintro e w31 ⟨rfl, b31⟩
  have HW31 : Hid (Below W0.heap.size W0 w31) := Lib.hid (HW30.out.trans (b31.mono HW30.out.size))
  clear HM30
  have Hb31 := Lib.hid (Hb30.out.up b31)
  have HJ31 := Lib.hid (HJ30.out.up b31)
  have HX31 := Lib.hid (HX30.out.up b31)
  clear C31 b31 HW30 Hb30 HJ30 HX30
  have C32 := Lib.hid (P.within w31 A2 A11 b (setC a b 0) n2 n11 c2 c11 Hb31.out HJ31.out W2 WJ)
  rw [HPV.out] at C32
  go_wp2_with fail
  refine C32.out.mono ?_
  rintro e w32 ⟨rfl, b32⟩
  have HW32 : Hid (Below W0.heap.size W0 w32) := Lib.hid (HW31.out.trans (b32.mono HW31.out.size))
  clear Hb31
  have HJ32 := Lib.hid (HJ31.out.up b32)
  have HX32 := Lib.hid (HX31.out.up b32)
  clear C32 b32 HW31 HJ31 HX31
  have C33 := Lib.hid (P.good w32 A11 (setC a b 0) n11 c11 HJ32.out WJ)
  rw [HPG.out] at C33
  go_wp2_with fail
  refine C33.out.mono ?_
  rintro e w33 ⟨rfl, b33⟩
  have HW33 : Hid (Below W0.heap.size W0 w33) := Lib.hid (HW32.out.trans (b33.mono HW32.out.size))
  clear HJ32
  have HX33 := Lib.hid (HX32.out.up b33)
  clear C33 b33 HW32 HX32
  have C34 := Lib.hid (P.good w33 A13 (setC a b 2) n13 c13 HX33.out WX)
  rw [HPH.out] at C34
  go_wp2_with fail
  refine C34.out.mono ?_
  rintro e w34 ⟨rfl, b34⟩
  have HW34 : Hid (Below W0.heap.size W0 w34) := Lib.hid (HW33.out.trans (b34.mono HW33.out.size))
  clear HX33
  clear C34 b34 HW33
  have C35 := Lib.hid (works_any P w34)
  go_wp2_with fail
  refine C35.out.mono ?_
  rintro e w35 ⟨rfl, b35⟩
  have HW35 : Hid (Below W0.heap.size W0 w35) := Lib.hid (HW34.out.trans (b35.mono HW34.out.size))
  clear C35 b35 HW34
  have HE : Hid (Below w.heap.size w w35) := Lib.hid (HB.out.trans (HW35.out.mono HB.out.size))
  go_wp2
  go_ret
  exact ⟨rfl, HE.out⟩
theorem laws_walk (P : PCtx) (w : World) (A1 A2 : Option Addr) (a b : List Part) (n1 n2 c1 c2 : Nat) (d : Dot) (ha : CtxAt w A1 a n1 c1) (hb : CtxAt w A2 b n2 c2) (wa : Wide 1048576 a) (wb : Wide 1048576 b) (hd : d.1 < 65536 ∧ d.2 < 18446744073709551616) :
    Calls Try.prog 3 #[.slice A1 n1 c1, .slice A2 n2 c2, .agg #[.int .u16 (d.1 : Int), .int .u64 (d.2 : Int)]] w fun e w' => e = .returned (.bool true) ∧ Below w.heap.size w w' := by
  cases hha : hasC a d with
  | true => exact laws_t P w A1 A2 a b n1 n2 c1 c2 d ha hb wa wb hd hha
  | false => exact laws_f P w A1 A2 a b n1 n2 c1 c2 d ha hb wa wb hd hha
end Go.Proofs.Ytegclhgfibfanaa.Cx
