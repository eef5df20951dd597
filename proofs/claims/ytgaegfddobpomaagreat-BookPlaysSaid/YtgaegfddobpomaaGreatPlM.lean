/- Words and contracts that the proofs of this seat stand on, part 13 of 30. -/
import Derived.Test.YtgaegfddobpomaaGreatPlL

namespace Go.Proofs.YtgaegfddobpomaaGreat.Bk
open Go.ChangeShapes Go.WideShapes Go.ChangeAt Go.RowKit Go.Proofs.YtgaegfddobpomaaGreat.Kl
set_option linter.unusedVariables false
set_option maxRecDepth 4000
theorem bdw1 : Bd 1 (wc1, [wX]) := ⟨(Cx.wt_nil.set (Cx.wt_of fit1)).more (by decide) (by decide), by decide, by decide⟩
theorem bdw2 : Bd 2 (wc2, [wZ]) := ⟨(((Cx.wt_nil.set (Cx.wt_of fit1)).set (Cx.wt_of fit2))).more (by decide) (by decide), by decide, by decide⟩
theorem bdw3 : Bd 2 (wc2, []) := ⟨bdw2.ctx, by decide, fun y hy => by cases hy⟩
theorem fits_w (x : Ev.Evt) (h : x = wX ∨ x = wY) : Ev.Fits x := by
 rcases h with rfl | rfl <;> exact ⟨⟨by decide, by decide⟩, by decide, by decide, by decide, by unfold Ev.Short; decide⟩
theorem is_x (w : World) : Ev.EventIs w w.heap.size ⟨1, 1, 1, 281474976710657, 1, ⟨#[97]⟩, none, 0, 0⟩ wX := ⟨rfl, rfl, rfl, rfl, rfl, rfl, fits_w _ (.inl rfl), Ev.DotsAt.none_ _ _⟩
theorem is_y (w : World) : Ev.EventIs w w.heap.size ⟨1, 2, 2, 281474976710657, 0, ⟨#[]⟩, none, 0, 0⟩ wY := ⟨rfl, rfl, rfl, rfl, rfl, rfl, fits_w _ (.inr rfl), Ev.DotsAt.none_ _ _⟩
theorem lies_dot1 (V : World) (d : Dt.Dot) (T : TypeId) : Dt.Lies (V.alloc (.cells #[.int .u16 (d.1 : Int), .int .u64 (d.2 : Int)] T)) (V.alloc (.cells #[.int .u16 (d.1 : Int), .int .u64 (d.2 : Int)] T)).heap.size (some ⟨V.heap.size, 0, none⟩) (Dt.dv [d]) := fun _ => by
 refine ⟨_, rfl, by rw [Ev.alloc_size]; exact Nat.lt_succ_self _, fun j u hu => ?_⟩
 rw [Dt.zero_add, World.cell?_alloc_new]
 have e : Dt.dv [d] = [.int .u16 (d.1 : Int), .int .u64 (d.2 : Int)] := by simp [Dt.dv]
 rw [e] at hu
 simpa using hu
theorem lies_drew {W : World} {A : Option Addr} {vs : List Value} (h : Dt.Lies W W.heap.size A vs) : Dt.Lies W.drew W.drew.heap.size A vs := (h.below (Ev.bel_drew (Below.refl _ _))).more (Nat.le_refl _)
theorem of12 (V : World) (T : TypeId) : Calls Tryz.prog 41 #[.slice (some ⟨V.heap.size, 0, none⟩) 1 1] (V.alloc (.cells #[.int .u16 1, .int .u64 2] T)).drew (CxOut (V.alloc (.cells #[.int .u16 1, .int .u64 2] T)).drew (Cx.ofC [(1, 2)])) := by
 have h := lies_drew (lies_dot1 V (1, 2) T)
 refine (of_later (w := (V.alloc (.cells #[.int .u16 1, .int .u64 2] T)).drew) (l := [(1, 2)]) ⟨rfl, (fun e => by cases e), Nat.le_refl _, by decide, by decide, fun r hr => by rw [List.mem_singleton.1 hr]; exact ⟨by decide, by decide⟩, h⟩ (by decide) (Below.refl _ _)).mono ?_
 rintro e W ⟨A5, n5, c5, h1, h2, h3, h4⟩
 exact ⟨A5, n5, c5, h1, h2, h4⟩
theorem few12 : Cx.fewC (Cx.ofC [(1, 2)]) = true := by
 have h := Cx.wt_of (l := [((1 : Nat), (2 : Nat))]) (fun r hr => by rw [List.mem_singleton.1 hr]; exact ⟨by decide, by decide⟩)
 refine decide_eq_true ⟨Nat.le_trans h.parts (by decide), fun x hx => ?_⟩
 have h2 := Cx.mem_sum hx
 have h3 := h.runs
 have h4 : [((1 : Nat), (2 : Nat))].length = 1 := rfl
 omega
theorem bel_step {w W V : World} (h : Below w.heap.size w W) (b : Below W.heap.size W V) : Below w.heap.size w V := h.trans (b.mono h.size)
theorem box_dot {V : World} {g : Nat} {q : Ev.EV} {T : TypeId} (h : At V g T (ebox q)) {a b : Nat} (ha : q.dev = a) (hb : q.num = b) : V.cell? ⟨g, 0, none⟩ = some (.int .u16 (a : Int)) ∧ V.cell? ⟨g, 1, none⟩ = some (.int .u64 (b : Int)) := by
 subst ha hb
 exact ⟨h.cell 0, h.cell 1⟩
set_option maxHeartbeats 16000000 in
theorem works_any {R : Lay} (P : PBk R) (w : World) : Calls Tryz.prog 8 #[] w fun e w' => e = .returned (.bool true) ∧ Below w.heap.size w w' := by
 go_enter Tryz.func8, Tryz.ntmps8
 go_wp2_with fail
 refine (P.new w).mono ?_
 rintro r w1 ⟨p, rfl, T1, hr1, ht1, hb1⟩
 have HB1 := Lib.hid hb1
 have HR1 := Lib.hid hr1
 have HT1 := Lib.hid ht1
 clear hr1 ht1 hb1
 have CM : Calls Tryz.prog 12 #[.pointer (some ⟨p, 0, none⟩), .agg #[.int .u16 1, .int .u64 1, .int .u8 1, .int .u64 281474976710657, .int .u8 1, .string ⟨#[97]⟩, .slice none 0 0]] w1 (MkPost w1 (wX, 0)) := by
   have h := P.make w1 p T1 ([], []) _ wX HR1.out (bd_nil.lim (by decide)) (is_x w1)
   rw [wk1] at h
   exact h
 go_wp2_with fail
 refine CM.mono ?_
 rintro r w2 ⟨q, rfl, hq, hb2⟩
 clear CM
 have hbx := Ev.below_new w2 (.cells (ebox q) 38)
 have HB2 := Lib.hid (HB1.out.trans ((hb2.trans (hbx.mono hb2.size)).mono HB1.out.size))
 have HR2 := Lib.hid (P.up HR1.out (hb2.trans (hbx.mono hb2.size)))
 have AX2 := Lib.hid (At.new w2 38 (ebox q))
 have HQ2 := Lib.hid (hq.up hbx)
 have hg : w1.heap.size ≤ w2.heap.size := hb2.size
 have HNX : Hid (¬ T1 w2.heap.size) := Lib.hid (fun h => by have := (P.dom _ _ _ _ HR1.out).2 _ h; omega)
 have HGX : Hid (w.heap.size ≤ w2.heap.size) := Lib.hid (Nat.le_trans HB1.out.size hg)
 clear hq hb2 hbx hg HB1 HR1
 simp only [ebox] at HB2 HR2 HQ2 AX2
 go_wp2_with fail
 generalize w2.alloc (.cells #[.int .u16 (q.dev : Int), .int .u64 (q.num : Int), .int .u8 (q.kind : Int), .int .u64 (q.cid : Int), .int .u8 (q.fld : Int), .string q.txt, .slice q.adr q.len q.cap] 38) = w3 at *
 have CP := P.put w3 p T1 ([], []) q wX HR2.out (bd_nil.lim (by decide)) HQ2.out
 rw [wk2] at CP
 refine CP.mono ?_
 rintro r w4 ⟨rfl, hwent⟩
 obtain ⟨T2, hr4, ht4, K⟩ := hwent.kept
 have HR4 := Lib.hid hr4
 have AX4 := Lib.hid (K.at_ _ _ _ AX2.out HNX.out)
 have HNX4 : Hid (¬ T2 w2.heap.size) := Lib.hid (fun h => (ht4 _ h).elim HNX.out (fun h2 => by have := AX2.out.lt; omega))
 have HB4 := Lib.hid (K.below w HB2.out HT1.out)
 have HT4 : Hid (∀ k, T2 k → w.heap.size ≤ k) := Lib.hid (fun k h => (ht4 _ h).elim (HT1.out k) (fun h2 => Nat.le_trans HB2.out.size h2))
 have HQD := Lib.hid (show q.dev = 1 from HQ2.out.dev)
 have HQN := Lib.hid (show q.num = 1 from HQ2.out.num)
 clear CP hwent hr4 ht4 K HR2 AX2 HNX HB2 HT1 HQ2
 have CM : Calls Tryz.prog 12 #[.pointer (some ⟨p, 0, none⟩), .agg #[.int .u16 1, .int .u64 2, .int .u8 2, .int .u64 281474976710657, .int .u8 0, .string ⟨#[]⟩, .slice none 0 0]] w4 (MkPost w4 (wZ, 0)) := by
   have h := P.make w4 p T2 (wc1, [wX]) _ wY HR4.out (bdw1.lim (by decide)) (is_y w4)
   rw [wk3] at h
   exact h
 go_wp2_with fail
 refine CM.mono ?_
 rintro r w5 ⟨z, rfl, hz, hb5⟩
 clear CM
 have hbx := Ev.below_new w5 (.cells (ebox z) 38)
 have hb6 := hb5.trans (hbx.mono hb5.size)
 have HB6 := Lib.hid (HB4.out.trans (hb6.mono HB4.out.size))
 have HR6 := Lib.hid (P.up HR4.out hb6)
 have AX6 := Lib.hid (AX4.out.below hb6 AX4.out.lt)
 have AZ6 := Lib.hid (At.new w5 38 (ebox z))
 have HZ6 := Lib.hid (hz.up hbx)
 have hg : w4.heap.size ≤ w5.heap.size := hb5.size
 have HNZ : Hid (¬ T2 w5.heap.size) := Lib.hid (fun h => by have := (P.dom _ _ _ _ HR4.out).2 _ h; omega)
 have HGZ : Hid (w.heap.size ≤ w5.heap.size) := Lib.hid (Nat.le_trans HB4.out.size hg)
 clear hz hb5 hbx hg hb6 HB4 HR4 AX4
 simp only [ebox] at HB6 HR6 HZ6 AX6 AZ6
 go_wp2_with fail
 generalize w5.alloc (.cells #[.int .u16 (z.dev : Int), .int .u64 (z.num : Int), .int .u8 (z.kind : Int), .int .u64 (z.cid : Int), .int .u8 (z.fld : Int), .string z.txt, .slice z.adr z.len z.cap] 38) = w6 at *
 have CP := P.put w6 p T2 (wc1, [wX]) z wZ HR6.out (bdw1.lim (by decide)) HZ6.out
 rw [wk4] at CP
 refine CP.mono ?_
 rintro r w7 ⟨rfl, hwent⟩
 obtain ⟨T3, hr7, ht7, K⟩ := hwent.kept
 have HR7 := Lib.hid hr7
 have AX7 := Lib.hid (K.at_ _ _ _ AX6.out HNX4.out)
 have AZ7 := Lib.hid (K.at_ _ _ _ AZ6.out HNZ.out)
 have HNX7 : Hid (¬ T3 w2.heap.size) := Lib.hid (fun h => (ht7 _ h).elim HNX4.out (fun h2 => by have := AX6.out.lt; omega))
 have HNZ7 : Hid (¬ T3 w5.heap.size) := Lib.hid (fun h => (ht7 _ h).elim HNZ.out (fun h2 => by have := AZ6.out.lt; omega))
 have HB7 := Lib.hid (K.below w HB6.out HT4.out)
 have HT7 : Hid (∀ k, T3 k → w.heap.size ≤ k) := Lib.hid (fun k h => (ht7 _ h).elim (HT4.out k) (fun h2 => Nat.le_trans HB6.out.size h2))
 have HZD := Lib.hid (show z.dev = 1 from HZ6.out.dev)
 have HZN := Lib.hid (show z.num = 2 from HZ6.out.num)
 have hzl : z.len = 1 := HZ6.out.kills.len.symm
 clear CP hwent hr7 ht7 K HR6 AX6 AZ6 HNX4 HNZ HB6 HT4 HZ6
 have z6 := AZ7.out.cell 6
 simp at z6
 go_wp2_with fail
 refine (P.live w7 p T3 (wc2, [wZ]) HR7.out (bdw2.lim (by decide))).mono ?_
 rintro r w8 ⟨A8, n8, c8, rfl, h8, b8⟩
 have hn8 : n8 = 0 := h8.len.symm
 have B8 := Lib.hid b8
 have HB8 := Lib.hid (HB7.out.trans (b8.mono HB7.out.size))
 have HR8 := Lib.hid (P.up HR7.out b8)
 clear h8 b8
 go_wp2_with fail
 refine (P.tombs w8 p T3 (wc2, [wZ]) HR8.out (bdw2.lim (by decide))).mono ?_
 rintro r w9 ⟨A9, n9, c9, rfl, h9, b9⟩
 have hn9 : n9 = 1 := h9.len.symm
 have HB9 := Lib.hid (HB8.out.trans (b9.mono HB8.out.size))
 have HR9 := Lib.hid (P.up HR8.out b9)
 have B9 := B8.out.trans (b9.mono B8.out.size)
 have HX9 : Hid (∀ V, Below w9.heap.size w9 V → V.cell? ⟨w2.heap.size, 0, none⟩ = some (.int .u16 1) ∧ V.cell? ⟨w2.heap.size, 1, none⟩ = some (.int .u64 1) ∧ V.cell? ⟨w5.heap.size, 0, none⟩ = some (.int .u16 1) ∧ V.cell? ⟨w5.heap.size, 1, none⟩ = some (.int .u64 2)) := Lib.hid (fun V hV => by
   have hb := B9.trans (hV.mono B9.size)
   have h1 := box_dot (AX7.out.below hb AX7.out.lt) HQD.out HQN.out
   have h2 := box_dot (AZ7.out.below hb AZ7.out.lt) HZD.out HZN.out
   exact ⟨h1.1, h1.2, h2.1, h2.2⟩)
 clear h9 b9 B9 B8 HR7 HR8 HB7 HB8 AX7 AZ7 HQD HQN HZD HZN z6
 go_upto_region 8 with fail
 have CPR := fun V A n k (hV : Below w9.heap.size w9 V) (hc : Cx.CtxAt V A (Cx.ofC [(1, 2)]) n k) => P.prune V p T3 (wc2, [wZ]) A _ n k (P.up HR9.out hV) (bdw2.lim (by decide)) hc few12
 rw [wk5] at CPR
 have CHX : ∀ V A n k, Cx.CtxAt V A wc2 n k → Calls Tryz.prog 31 #[.slice A n k, .agg #[.int .u16 1, .int .u64 1]] V (fun e w' => e = .returned (.bool true) ∧ Below V.heap.size V w') := fun V A n k h => by
   have h2 := Cx.rhas_any V A wc2 n k (1, 1) h (bdw2.lim (by decide)).ctx ⟨by decide, by decide⟩
   rw [wh1] at h2
   exact h2
 have CHZ : ∀ V A n k, Cx.CtxAt V A wc2 n k → Calls Tryz.prog 31 #[.slice A n k, .agg #[.int .u16 1, .int .u64 2]] V (fun e w' => e = .returned (.bool true) ∧ Below V.heap.size V w') := fun V A n k h => by
   have h2 := Cx.rhas_any V A wc2 n k (1, 2) h (bdw2.lim (by decide)).ctx ⟨by decide, by decide⟩
   rw [wh2] at h2
   exact h2
 obtain ⟨x0, x1, x2, x3⟩ := HX9.out w9 (Below.refl _ _)
 go_region_held3 (fun V => V.cell? ⟨w2.heap.size, 0, none⟩ = some (.int .u16 1) ∧ V.cell? ⟨w2.heap.size, 1, none⟩ = some (.int .u64 1) ∧ V.cell? ⟨w5.heap.size, 0, none⟩ = some (.int .u16 1) ∧ V.cell? ⟨w5.heap.size, 1, none⟩ = some (.int .u64 2)) (first | exact ⟨x0, x1, x2, x3⟩ | assumption | exact HX9.out _ (by (repeat (first | exact Below.refl _ _ | assumption | apply Ev.bel_drew | apply Ev.bel_alloc)))) (first
   | (go_at_call 29; (with_reducible refine (P.ctx _ p T4 _ hRe (bdw3.lim (by decide))).mono ?_); rintro r Vf ⟨Af, nf, cf, rfl, hf, b5⟩; have hcf := (⟨Ev.stays b5 hce.1, Ev.stays b5 hce.2.1, Ev.stays b5 hce.2.2.1, Ev.stays b5 hce.2.2.2⟩ : Vf.cell? ⟨w2.heap.size, 0, none⟩ = some (.int .u16 1) ∧ Vf.cell? ⟨w2.heap.size, 1, none⟩ = some (.int .u64 1) ∧ Vf.cell? ⟨w5.heap.size, 0, none⟩ = some (.int .u16 1) ∧ Vf.cell? ⟨w5.heap.size, 1, none⟩ = some (.int .u64 2)); have hBf := bel_step hBe b5)
   | (go_at_call 31; (with_reducible refine (CHZ _ _ _ _ hf).mono ?_); rintro r Vg ⟨rfl, b6⟩; have hcg := (⟨Ev.stays b6 hcf.1, Ev.stays b6 hcf.2.1, Ev.stays b6 hcf.2.2.1, Ev.stays b6 hcf.2.2.2⟩ : Vg.cell? ⟨w2.heap.size, 0, none⟩ = some (.int .u16 1) ∧ Vg.cell? ⟨w2.heap.size, 1, none⟩ = some (.int .u64 1) ∧ Vg.cell? ⟨w5.heap.size, 0, none⟩ = some (.int .u16 1) ∧ Vg.cell? ⟨w5.heap.size, 1, none⟩ = some (.int .u64 2)); have hBg := bel_step hBf b6)
   | (go_at_call 29; (with_reducible refine (P.ctx _ p T4 _ hRc (bdw3.lim (by decide))).mono ?_); rintro r Vd ⟨Ad, nd, cd, rfl, hd, b3⟩; have hcd := (⟨Ev.stays b3 hcc.1, Ev.stays b3 hcc.2.1, Ev.stays b3 hcc.2.2.1, Ev.stays b3 hcc.2.2.2⟩ : Vd.cell? ⟨w2.heap.size, 0, none⟩ = some (.int .u16 1) ∧ Vd.cell? ⟨w2.heap.size, 1, none⟩ = some (.int .u64 1) ∧ Vd.cell? ⟨w5.heap.size, 0, none⟩ = some (.int .u16 1) ∧ Vd.cell? ⟨w5.heap.size, 1, none⟩ = some (.int .u64 2)); have hBd := bel_step hBc b3; have hRd := P.up hRc b3)
   | (go_at_call 31; (with_reducible refine (CHX _ _ _ _ hd).mono ?_); rintro r Ve ⟨rfl, b4⟩; have hce := (⟨Ev.stays b4 hcd.1, Ev.stays b4 hcd.2.1, Ev.stays b4 hcd.2.2.1, Ev.stays b4 hcd.2.2.2⟩ : Ve.cell? ⟨w2.heap.size, 0, none⟩ = some (.int .u16 1) ∧ Ve.cell? ⟨w2.heap.size, 1, none⟩ = some (.int .u64 1) ∧ Ve.cell? ⟨w5.heap.size, 0, none⟩ = some (.int .u16 1) ∧ Ve.cell? ⟨w5.heap.size, 1, none⟩ = some (.int .u64 2)); have hBe := bel_step hBd b4; have hRe := P.up hRd b4)
   | (go_at_call 30; (with_reducible refine (P.all _ p T4 (wc2, []) hr4 (bdw3.lim (by decide))).mono ?_); rintro r Vc ⟨Ac, nc, cc, rfl, hc0, b2⟩; have hnc : nc = 0 := hc0.at_.len.symm; have hcc := (⟨Ev.stays b2 hcb.1, Ev.stays b2 hcb.2.1, Ev.stays b2 hcb.2.2.1, Ev.stays b2 hcb.2.2.2⟩ : Vc.cell? ⟨w2.heap.size, 0, none⟩ = some (.int .u16 1) ∧ Vc.cell? ⟨w2.heap.size, 1, none⟩ = some (.int .u64 1) ∧ Vc.cell? ⟨w5.heap.size, 0, none⟩ = some (.int .u16 1) ∧ Vc.cell? ⟨w5.heap.size, 1, none⟩ = some (.int .u64 2)); have hBc := bel_step hBb b2; have hRc := P.up hr4 b2)
   | (go_at_call 18; (with_reducible refine (CPR _ _ _ _ bva ha).mono ?_); rintro r Vb ⟨rfl, hwent⟩; obtain ⟨T4, hr4, ht4, K⟩ := hwent.kept; have hcb := (⟨K.cell _ _ hca.1 HNX7.out, K.cell _ _ hca.2.1 HNX7.out, K.cell _ _ hca.2.2.1 HNZ7.out, K.cell _ _ hca.2.2.2 HNZ7.out⟩ : Vb.cell? ⟨w2.heap.size, 0, none⟩ = some (.int .u16 1) ∧ Vb.cell? ⟨w2.heap.size, 1, none⟩ = some (.int .u64 1) ∧ Vb.cell? ⟨w5.heap.size, 0, none⟩ = some (.int .u16 1) ∧ Vb.cell? ⟨w5.heap.size, 1, none⟩ = some (.int .u64 2)); have hBb := K.below w (bel_step HB9.out bva) HT7.out)
   | (go_at_call 41; (refine (of12 _ _).mono ?_); rintro r Va ⟨Aa, na, ca, rfl, ha, b1⟩; have bva := bel_step (w := w9) (by (repeat (first | exact Below.refl _ _ | apply Ev.bel_drew | apply Ev.bel_alloc))) b1; have hca := HX9.out Va bva))
 all_goals
   have HV := Lib.hid hBg
   go_wp2
   go_ret
   exact ⟨rfl, HV.out⟩
end Go.Proofs.YtgaegfddobpomaaGreat.Bk
