import Derived.Test.YtbaiiidkffafmaaEOwn
namespace Go.Proofs.Ytbaiiidkffafmaa.Ev
open Go.ChangeShapes Go.WideShapes Go.ChangeAt Go.RowKit
set_option linter.unusedVariables false

theorem bel_trans {a b c : World} (h : Below a.heap.size a b) (k : Below b.heap.size b c) : Below a.heap.size a c := h.trans (k.mono h.size)
theorem same_self (w : World) (p q : EV) (x : Evt) (h1 : EventIs w w.heap.size p x) (h2 : EventIs w w.heap.size q x) :
    Calls Try.prog 11 #[p.val, q.val] w fun e w' => e = .returned (.bool true) ∧ Below w.heap.size w w' := by
  have h := rsame_any w p q x x h1 h2
  rw [decide_eq_true rfl] at h
  exact h
theorem psame_self (P : PEvent) (w : World) (p q : EV) (x : Evt) (h1 : EventIs w w.heap.size p x) (h2 : EventIs w w.heap.size q x) :
    Calls Try.prog 10 #[p.val, q.val] w fun e w' => e = .returned (.bool true) ∧ Below w.heap.size w w' := by
  have h := P.same w p q x x h1 h2
  rw [decide_eq_true rfl] at h
  exact h
/-- the events that the law asks at its end. -/
structure Three (W : World) (b1 b2 b4 : Nat) (p r q : EV) (x : Evt) : Prop where
  e : CellsAt W ⟨b1, 0, none⟩ p
  v : CellsAt W ⟨b2, 0, none⟩ r
  c : CellsAt W ⟨b4, 0, none⟩ q
  ie : EventIs W W.heap.size p x
  iv : EventIs W W.heap.size r x
  ic : EventIs W W.heap.size q x
theorem Three.kept {w W : World} {b1 b2 b4 : Nat} {p v q : EV} {x : Evt} (h : Three w b1 b2 b4 p v q x) (hb : Below w.heap.size w W) : Three W b1 b2 b4 p v q x :=
  ⟨h.e.kept hb, h.v.kept hb, h.c.kept hb, h.ie.up hb, h.iv.up hb, h.ic.up hb⟩
theorem EventIs.apart {g : Nat} {w W : World} {p : EV} {x : Evt} (h : EventIs w w.heap.size p x) (hb : Apart g w W) (ha : Off g p.adr p.len) : EventIs W W.heap.size p x := by
  rw [hb.size]
  exact ⟨h.dev, h.num, h.kind, h.cid, h.fld, h.txt, h.fits, h.kills.apart hb ha⟩
theorem Three.apart {g : Nat} {w W : World} {b1 b2 b4 : Nat} {p v q : EV} {x : Evt} (h : Three w b1 b2 b4 p v q x) (hb : Apart g w W) (h1 : b1 ≠ g) (h2 : b2 ≠ g) (h4 : b4 ≠ g) (o1 : Off g p.adr p.len) (o2 : Off g v.adr v.len) (o4 : Off g q.adr q.len) : Three W b1 b2 b4 p v q x :=
  ⟨h.e.apart hb h1, h.v.apart hb h2, h.c.apart hb h4, h.ie.apart hb o1, h.iv.apart hb o2, h.ic.apart hb o4⟩
set_option maxHeartbeats 16000000 in
theorem own_walk (P : PEvent) (w : World) (p : EV) (x : Evt) (hp : EventIs w w.heap.size p x) (hsp : p.len ≤ 8796093021952) :
    Calls Try.prog 5 #[p.val] w fun e w' => e = .returned (.bool true) ∧ Below w.heap.size w w' := by
  have HB0 := Lib.hid (below_new3 w p.box p.box (.cells #[] 25))
  have HP0 := Lib.hid (hp.up HB0.out)
  have HO := Lib.hid (out_new ((w.alloc p.box).alloc p.box))
  simp only [alloc_size] at HO
  have HW := Lib.hid (fun A1 c1 w1 => @own_was w w1 p x A1 c1 hp)
  have HPP := Lib.hid hp
  obtain ⟨p1, p2, p3, p4, p5, p6, pA, pn, pc⟩ := p
  simp only [EV.val]
  simp only [EV.box] at HB0 HP0 HO HW
  have HSP := Lib.hid hsp
  clear hp hsp
  go_enter Try.func5, Try.ntmps5
  go_upto_region 3 with (
    (at_builtin
     refine wpList_out rfl (.tmp 12) (.tmp 14) rfl rfl _ (w.heap.size + 1 + 1) (w.heap.size + 1 + 1) pA x.kills pn pc rfl rfl HO.out HP0.out.kills (by simp [go_sem]) ?_
     intro A1 c1 w1 ho1 hg1
     obtain ⟨zf, zc, he, hw, hk, hb⟩ := HW.out A1 c1 w1 ho1 hg1
     have HE := Lib.hid he
     have HV := Lib.hid hw
     have HK := Lib.hid hk
     have HB := Lib.hid hb
     clear ho1 hg1 he hw hk hb))
  generalize w1.setCell _ _ = w2 at *
  have hb1 : w.heap.size < w2.heap.size := World.block_lt_of_cell? _ _ HE.out.c0
  have hb2 : w.heap.size + 1 < w2.heap.size := World.block_lt_of_cell? _ _ HV.out.c0
  clear zf zc HB0 HP0 HO HW
  have HP := Lib.hid (HPP.out.up HB.out)
  obtain ⟨k0, k1, k2, k3, k4, k5, k6⟩ := HE.out.all
  have CC := P.copy w2 _ x HP.out
  go_wp2_with fail
  refine CC.mono ?_
  rintro e w3 ⟨q, rfl, hq, hfq, hB3⟩
  clear CC
  have HQ := Lib.hid hq
  have HFQ := Lib.hid hfq
  have HB3 := Lib.hid hB3
  clear hq hfq hB3
  obtain ⟨q1, q2, q3, q4, q5, q6, qA, qn, qc⟩ := q
  have l0 := stays HB3.out k0
  have l1 := stays HB3.out k1
  have l2 := stays HB3.out k2
  have l3 := stays HB3.out k3
  have l4 := stays HB3.out k4
  have l5 := stays HB3.out k5
  have l6 := stays HB3.out k6
  clear k0 k1 k2 k3 k4 k5 k6
  go_upto_region 4 with fail
  have HB4 := Lib.hid (below_new w3 (.cells #[.int .u16 (q1 : Int), .int .u64 (q2 : Int), .int .u8 (q3 : Int), .int .u64 (q4 : Int), .int .u8 (q5 : Int), .string q6, .slice qA qn qc] 28))
  have hs4 := Lib.hid (alloc_size w3 (.cells #[.int .u16 (q1 : Int), .int .u64 (q2 : Int), .int .u8 (q3 : Int), .int .u64 (q4 : Int), .int .u8 (q5 : Int), .string q6, .slice qA qn qc] 28))
  have HC4 := Lib.hid (box_new w3 ⟨q1, q2, q3, q4, q5, q6, qA, qn, qc⟩ (w3.alloc (.cells #[.int .u16 (q1 : Int), .int .u64 (q2 : Int), .int .u8 (q3 : Int), .int .u64 (q4 : Int), .int .u8 (q5 : Int), .string q6, .slice qA qn qc] 28)) (Below.refl _ _))
  generalize w3.alloc _ = w4 at *
  have k0 := stays HB4.out l0
  have k1 := stays HB4.out l1
  have k2 := stays HB4.out l2
  have k3 := stays HB4.out l3
  have k4 := stays HB4.out l4
  have k5 := stays HB4.out l5
  have k6 := stays HB4.out l6
  clear l0 l1 l2 l3 l4 l5 l6
  have CC := P.copy w4 _ x ((HP.out.up HB3.out).up HB4.out)
  go_wp2_with fail
  refine CC.mono ?_
  rintro e w5 ⟨r, rfl, hr, hfr, hB5⟩
  clear CC
  have HR := Lib.hid hr
  have HFR := Lib.hid hfr
  have HB5 := Lib.hid hB5
  clear hr hfr hB5
  obtain ⟨r1, r2, r3, r4, r5, r6, rA, rn, rc⟩ := r
  have l0 := stays HB5.out k0
  have l1 := stays HB5.out k1
  have l2 := stays HB5.out k2
  have l3 := stays HB5.out k3
  have l4 := stays HB5.out k4
  have l5 := stays HB5.out k5
  have l6 := stays HB5.out k6
  clear k0 k1 k2 k3 k4 k5 k6
  go_upto_region 5 with fail
  have HB6 := Lib.hid (below_new w5 (.cells #[.int .u16 (r1 : Int), .int .u64 (r2 : Int), .int .u8 (r3 : Int), .int .u64 (r4 : Int), .int .u8 (r5 : Int), .string r6, .slice rA rn rc] 28))
  have hs6 := Lib.hid (alloc_size w5 (.cells #[.int .u16 (r1 : Int), .int .u64 (r2 : Int), .int .u8 (r3 : Int), .int .u64 (r4 : Int), .int .u8 (r5 : Int), .string r6, .slice rA rn rc] 28))
  have HC6 := Lib.hid (box_new w5 ⟨r1, r2, r3, r4, r5, r6, rA, rn, rc⟩ (w5.alloc (.cells #[.int .u16 (r1 : Int), .int .u64 (r2 : Int), .int .u8 (r3 : Int), .int .u64 (r4 : Int), .int .u8 (r5 : Int), .string r6, .slice rA rn rc] 28)) (Below.refl _ _))
  generalize w5.alloc _ = w6 at *
  have k0 := stays HB6.out l0
  have k1 := stays HB6.out l1
  have k2 := stays HB6.out l2
  have k3 := stays HB6.out l3
  have k4 := stays HB6.out l4
  have k5 := stays HB6.out l5
  have k6 := stays HB6.out l6
  clear l0 l1 l2 l3 l4 l5 l6
  have HP6 := Lib.hid ((((HP.out.up HB3.out).up HB4.out).up HB5.out).up HB6.out)
  have HB7 := Lib.hid (below_new w6 (EV.box ⟨p1, p2, p3, p4, p5, p6, pA, pn, pc⟩))
  have hs7 := Lib.hid (alloc_size w6 (EV.box ⟨p1, p2, p3, p4, p5, p6, pA, pn, pc⟩))
  have HC7 := Lib.hid (box_new w6 ⟨p1, p2, p3, p4, p5, p6, pA, pn, pc⟩ (w6.alloc (EV.box ⟨p1, p2, p3, p4, p5, p6, pA, pn, pc⟩)) (Below.refl _ _))
  have CS := P.sort _ _ [x] 1 1 (evt_row (HP6.out.up HB7.out) HC7.out) (by decide)
  rw [sort_one] at CS
  simp only [EV.box] at HB7 hs7 HC7 CS
  go_wp2_with fail
  generalize w6.alloc _ = w7 at *
  refine CS.mono ?_
  rintro e w8 ⟨lA, ln, lc, rfl, hl, hfl, hB8⟩
  clear CS
  obtain rfl : 1 = ln := hl.len
  have HL := Lib.hid hl
  have HFL := Lib.hid hfl
  have HB8 := Lib.hid hB8
  clear hl hfl hB8
  have l0 := stays HB8.out (stays HB7.out k0)
  have l1 := stays HB8.out (stays HB7.out k1)
  have l2 := stays HB8.out (stays HB7.out k2)
  have l3 := stays HB8.out (stays HB7.out k3)
  have l4 := stays HB8.out (stays HB7.out k4)
  have l5 := stays HB8.out (stays HB7.out k5)
  have l6 := stays HB8.out (stays HB7.out k6)
  clear k0 k1 k2 k3 k4 k5 k6
  clear l0 l1 l2 l3 l4 l5 l6
  have B68 : Hid (Below w6.heap.size w6 w8) := Lib.hid (bel_trans HB7.out HB8.out)
  have B48 : Hid (Below w4.heap.size w4 w8) := Lib.hid (bel_trans HB5.out (bel_trans HB6.out B68.out))
  have B28 : Hid (Below w2.heap.size w2 w8) := Lib.hid (bel_trans HB3.out (bel_trans HB4.out B48.out))
  have T8 := Lib.hid (Three.mk (HE.out.kept B28.out) (HV.out.kept B28.out) (HC4.out.kept B48.out) (HP.out.up B28.out) (HK.out.up B28.out) ((HQ.out.up HB4.out).up B48.out))
  have HC8 := Lib.hid (HC6.out.kept B68.out)
  obtain ⟨a, s, x', hlA, ha, hx', hs, hc⟩ := HL.out.at_ (k := 0) (by decide)
  obtain rfl : x' = x := by simpa using hx'.symm
  subst hlA
  obtain ⟨s1, s2, s3, s4, s5, s6, sA, sn, sc⟩ := s
  have HS := Lib.hid hs
  have HCS : Hid (CellsAt w8 a ⟨s1, s2, s3, s4, s5, s6, sA, sn, sc⟩) := Lib.hid hc
  have HK2 := HK
  clear ha hx' hs hc HE HV HK HC4 HC6 HP6 HC7 HP
  have HKK : Hid (∀ V, Below w8.heap.size w8 V → (V.cell? ⟨w.heap.size, 0, none⟩ = some (.int .u16 (p1 : Int)) ∧ V.cell? ⟨w.heap.size, 1, none⟩ = some (.int .u64 (p2 : Int)) ∧ V.cell? ⟨w.heap.size, 2, none⟩ = some (.int .u8 (p3 : Int)) ∧ V.cell? ⟨w.heap.size, 3, none⟩ = some (.int .u64 (p4 : Int)) ∧ V.cell? ⟨w.heap.size, 4, none⟩ = some (.int .u8 (p5 : Int)) ∧ V.cell? ⟨w.heap.size, 5, none⟩ = some (.string p6) ∧ V.cell? ⟨w.heap.size, 6, none⟩ = some (.slice pA pn pc)) ∧ (V.cell? ⟨w3.heap.size, 0, none⟩ = some (.int .u16 (q1 : Int)) ∧ V.cell? ⟨w3.heap.size, 1, none⟩ = some (.int .u64 (q2 : Int)) ∧ V.cell? ⟨w3.heap.size, 2, none⟩ = some (.int .u8 (q3 : Int)) ∧ V.cell? ⟨w3.heap.size, 3, none⟩ = some (.int .u64 (q4 : Int)) ∧ V.cell? ⟨w3.heap.size, 4, none⟩ = some (.int .u8 (q5 : Int)) ∧ V.cell? ⟨w3.heap.size, 5, none⟩ = some (.string q6) ∧ V.cell? ⟨w3.heap.size, 6, none⟩ = some (.slice qA qn qc)) ∧ (V.cell? a = some (.int .u16 (s1 : Int)) ∧ V.cell? ⟨a.block, a.off + 1, none⟩ = some (.int .u64 (s2 : Int)) ∧ V.cell? ⟨a.block, a.off + 2, none⟩ = some (.int .u8 (s3 : Int)) ∧ V.cell? ⟨a.block, a.off + 3, none⟩ = some (.int .u64 (s4 : Int)) ∧ V.cell? ⟨a.block, a.off + 4, none⟩ = some (.int .u8 (s5 : Int)) ∧ V.cell? ⟨a.block, a.off + 5, none⟩ = some (.string s6) ∧ V.cell? ⟨a.block, a.off + 6, none⟩ = some (.slice sA sn sc))) := Lib.hid (fun V hV => ⟨(T8.out.e.kept hV).all, (T8.out.c.kept hV).all, ⟨(HCS.out.kept hV).c0, (HCS.out.kept hV).c1, (HCS.out.kept hV).c2, (HCS.out.kept hV).c3, (HCS.out.kept hV).c4, (HCS.out.kept hV).c5, (HCS.out.kept hV).c6⟩⟩)
  have L1 := fun W (hW : Below w8.heap.size w8 W) => later hW (same_self W ⟨q1, q2, q3, q4, q5, q6, qA, qn, qc⟩ ⟨p1, p2, p3, p4, p5, p6, pA, pn, pc⟩ x' (T8.out.ic.up hW) (T8.out.ie.up hW))
  have L2 := fun W (hW : Below w8.heap.size w8 W) => later hW (same_self W ⟨s1, s2, s3, s4, s5, s6, sA, sn, sc⟩ ⟨p1, p2, p3, p4, p5, p6, pA, pn, pc⟩ x' (HS.out.up hW) (T8.out.ie.up hW))
  simp only [EV.val] at L1 L2
  go_upto_region 6 with fail
  obtain ⟨⟨k0, k1, k2, k3, k4, k5, k6⟩, ⟨m0, m1, m2, m3, m4, m5, m6⟩, ⟨n0, n1, n2, n3, n4, n5, n6⟩⟩ := HKK.out w8 (Below.refl _ _)
  go_region_held3 (fun V => (V.cell? ⟨w.heap.size, 0, none⟩ = some (.int .u16 (p1 : Int)) ∧ V.cell? ⟨w.heap.size, 1, none⟩ = some (.int .u64 (p2 : Int)) ∧ V.cell? ⟨w.heap.size, 2, none⟩ = some (.int .u8 (p3 : Int)) ∧ V.cell? ⟨w.heap.size, 3, none⟩ = some (.int .u64 (p4 : Int)) ∧ V.cell? ⟨w.heap.size, 4, none⟩ = some (.int .u8 (p5 : Int)) ∧ V.cell? ⟨w.heap.size, 5, none⟩ = some (.string p6) ∧ V.cell? ⟨w.heap.size, 6, none⟩ = some (.slice pA pn pc)) ∧ (V.cell? ⟨w3.heap.size, 0, none⟩ = some (.int .u16 (q1 : Int)) ∧ V.cell? ⟨w3.heap.size, 1, none⟩ = some (.int .u64 (q2 : Int)) ∧ V.cell? ⟨w3.heap.size, 2, none⟩ = some (.int .u8 (q3 : Int)) ∧ V.cell? ⟨w3.heap.size, 3, none⟩ = some (.int .u64 (q4 : Int)) ∧ V.cell? ⟨w3.heap.size, 4, none⟩ = some (.int .u8 (q5 : Int)) ∧ V.cell? ⟨w3.heap.size, 5, none⟩ = some (.string q6) ∧ V.cell? ⟨w3.heap.size, 6, none⟩ = some (.slice qA qn qc)) ∧ (V.cell? a = some (.int .u16 (s1 : Int)) ∧ V.cell? ⟨a.block, a.off + 1, none⟩ = some (.int .u64 (s2 : Int)) ∧ V.cell? ⟨a.block, a.off + 2, none⟩ = some (.int .u8 (s3 : Int)) ∧ V.cell? ⟨a.block, a.off + 3, none⟩ = some (.int .u64 (s4 : Int)) ∧ V.cell? ⟨a.block, a.off + 4, none⟩ = some (.int .u8 (s5 : Int)) ∧ V.cell? ⟨a.block, a.off + 5, none⟩ = some (.string s6) ∧ V.cell? ⟨a.block, a.off + 6, none⟩ = some (.slice sA sn sc))) (first | assumption | ((with_reducible refine HKK.out _ ?_); (repeat (first | (with_reducible exact Below.refl _ _) | (with_reducible assumption) | (with_reducible apply bel_drew) | (with_reducible apply bel_alloc))); done) | go_keep) (first
    | (go_at_call 11; (with_reducible refine (L1 _ ?_).mono ?_); (repeat (first | (with_reducible exact Below.refl _ _) | (with_reducible assumption) | (with_reducible apply bel_drew) | (with_reducible apply bel_alloc))); rintro e V ⟨rfl, bv⟩; have hcV := HKK.out V bv)
    | (go_at_call 11; (with_reducible refine (L2 _ ?_).mono ?_); (repeat (first | (with_reducible exact Below.refl _ _) | (with_reducible assumption) | (with_reducible apply bel_drew) | (with_reducible apply bel_alloc))); rintro e V ⟨rfl, bv⟩; have hcV := HKK.out V bv))
  rename_i V8 bv8 hc8
  have HB9 : Hid (Below w8.heap.size w8 V) := Lib.hid bv
  clear hcV bv hc8 bv8 k0 k1 k2 k3 k4 k5 k6 m0 m1 m2 m3 m4 m5 m6 n0 n1 n2 n3 n4 n5 n6 L1 L2 HKK
  generalize V = w9 at *
  have hz : w.heap.size < w2.heap.size ∧ w.heap.size + 1 < w2.heap.size ∧ w2.heap.size ≤ w3.heap.size ∧ w4.heap.size = w3.heap.size + 1 ∧ w4.heap.size ≤ w5.heap.size ∧ w6.heap.size = w5.heap.size + 1 ∧ w7.heap.size = w6.heap.size + 1 ∧ w7.heap.size ≤ w8.heap.size ∧ w8.heap.size ≤ w9.heap.size := ⟨hb1, hb2, HB3.out.size, hs4.out, HB5.out.size, hs6.out, hs7.out, HB8.out.size, HB9.out.size⟩
  have HZ := Lib.hid hz
  clear hz hb1 hb2
  have T9 := Lib.hid (T8.out.kept HB9.out)
  have HC9 := Lib.hid (HC8.out.kept HB9.out)
  have HL9 := Lib.hid (HCS.out.kept HB9.out)
  have HS9 : Hid (DotsAt w9 w9.heap.size sA x'.kills sn sc) := Lib.hid (HS.out.up HB9.out).kills
  have HR9 : Hid (DotsAt w9 w9.heap.size rA x'.kills rn rc) := Lib.hid ((HR.out.up HB6.out).up (bel_trans B68.out HB9.out)).kills
  have HF9 : Hid (Free w9 w4.heap.size rA rn) := Lib.hid (HFR.out.kept HR.out.kills (bel_trans HB6.out (bel_trans B68.out HB9.out)))
  obtain ⟨a', s', e1, hwa, hc6, hfs, hne⟩ := HFL.out 0 (by decide)
  obtain rfl := Option.some.inj e1
  have e2 := hc6.symm.trans HCS.out.c6
  simp only [Option.some.injEq, Value.slice.injEq] at e2
  obtain ⟨e3, e4, e5⟩ := e2
  rw [e3, e4] at hfs
  rw [e3, e4] at hne
  have HFS : Hid (Free w8 w7.heap.size sA sn) := Lib.hid hfs
  have HNE : Hid (∀ a2, sA = some a2 → 0 < sn → a2.block ≠ a.block) := Lib.hid hne
  have HAL : Hid (w7.heap.size ≤ a.block ∧ a.block < w8.heap.size) := Lib.hid ⟨hwa, World.block_lt_of_cell? _ _ HCS.out.c0⟩
  clear hwa hc6 hfs hne e1 e3 e4 e5
  have HFS9 : Hid (Free w9 w7.heap.size sA sn) := Lib.hid (HFS.out.kept HS.out.kills HB9.out)
  obtain ⟨g, hg1, hg2, hg3⟩ := own_block (V := w9.heap.size) HR.out.kills HFR.out (by have := HZ.out; omega) (by have := HZ.out; omega)
  have HG := Lib.hid hg1
  have HGB : Hid (w4.heap.size ≤ g ∧ (g < w5.heap.size ∨ g = w9.heap.size)) := Lib.hid ⟨hg2, hg3.imp And.left id⟩
  clear hg1 hg2 hg3
  have HT : Hid (∀ W, Apart g w9 W → Three W w.heap.size (w.heap.size + 1) w3.heap.size ⟨p1, p2, p3, p4, p5, p6, pA, pn, pc⟩ ⟨p1, p2, p3, p4, p5, p6, A1, pn, c1⟩ ⟨q1, q2, q3, q4, q5, q6, qA, qn, qc⟩ x' ∧ CellsAt W ⟨w5.heap.size, 0, none⟩ ⟨r1, r2, r3, r4, r5, r6, rA, rn, rc⟩ ∧ CellsAt W a ⟨s1, s2, s3, s4, s5, s6, sA, sn, sc⟩ ∧ DotsAt W W.heap.size sA x'.kills sn sc ∧ Free W w7.heap.size sA sn) := Lib.hid (fun W hW => by
    have h1 := HZ.out
    have h2 := HGB.out
    have h3 := HAL.out
    have o5 : Off g sA sn := by
      rcases h2.2 with h | h
      · exact off_above HFS.out (by omega)
      · exact off_below HS.out.kills (by omega)
    exact ⟨T9.out.apart hW (by omega) (by omega) (by omega) (off_below HPP.out.kills (by omega)) (off_below HK2.out.kills (by omega)) (off_below HQ.out.kills (by omega)), HC9.out.apart hW (by show w5.heap.size ≠ g; omega), HL9.out.apart hW (by omega), by rw [hW.size]; exact HS9.out.apart hW o5, HFS9.out.apart hW o5⟩)
  have HR1 := Lib.hid (turn_start (g := g) HR9.out HF9.out)
  obtain ⟨k0, k1, k2, k3, k4, k5, k6⟩ := HC9.out.all
  go_wp2_with fail
  clear k0 k1 k2 k3 k4 k5 k6
  go_loopw [44] (fun i wr => TurnL g w9 rA rn rc i wr) (fun i _ => rn - (intOf i).toNat)
  case atStart => exact HR1.out
  case round =>
    clear HR1
    obtain ⟨k, m, hk, rfl, hap, hd, hf⟩ := hrel
    have HREL := Lib.hid (And.intro hap (And.intro hd hf))
    clear hap hd hf
    by_cases hlt : k < rn
    · obtain ⟨ad, y1, y2, rfl, hy, hy1, hy2, d1, d2, f1, f2⟩ := turn_at hlt HREL.out.2.1 HREL.out.2.2
      obtain ⟨_, _, _, _, _, _, k6⟩ := (HT.out wr HREL.out.1).2.1.all
      obtain ⟨z, hz⟩ : ∃ z, z = (y2 + 1) % 18446744073709551616 := ⟨_, rfl⟩
      have hzI : IntKind.u64.wrap ((y2 : Int) + 1) = (z : Int) := by simp [IntKind.wrap, IntKind.bits, IntKind.signed]; omega
      have hkw := HREL.out.2.1.wide
      have hkI : wrap64 ((k : Int) + 1) = (k : Int) + 1 := by unfold wrap64; omega
      have HST := Lib.hid (turn_num (z := z) hlt (HG.out ad rfl (by omega)) HREL.out.1 HREL.out.2.1 HREL.out.2.2 hy (by omega))
      clear hy hz
      go_wp2
      go_roundw
      case rel => exact HST.out
      case measure => simp [intOf]; omega
    · have ek : k = rn := by omega
      have T10 := Lib.hid (HT.out wr HREL.out.1)
      have BW10 : Hid (Below w.heap.size w wr) := Lib.hid ((bel_trans HB.out (bel_trans B28.out HB9.out)).trans (HREL.out.1.below (by have := HZ.out; have := HGB.out; omega)))
      have hs10 := Lib.hid HREL.out.1.size
      clear HREL HT HG HGB T8 T9 HC9 HL9 HS9 HR9 HF9 HC8 hk
      obtain ⟨g2, hg1, hg2, hg3⟩ := own_block (V := wr.heap.size) T10.out.2.2.2.1 T10.out.2.2.2.2 (Nat.le_refl _) (by have := HZ.out; have := hs10.out; omega)
      have HG2 := Lib.hid hg1
      have HGB2 : Hid (w7.heap.size ≤ g2 ∧ a.block ≠ g2) := Lib.hid ⟨hg2, fun e => by
        rcases hg3 with h | h
        · obtain ⟨ad, e1, _⟩ := T10.out.2.2.2.2 0 h.2
          exact HNE.out ad e1 h.2 ((hg1 ad e1 h.2).trans e.symm)
        · have := HZ.out
          have := HAL.out
          have := hs10.out
          omega⟩
      clear hg1 hg2 hg3
      have HT2 : Hid (∀ W, Apart g2 wr W → Three W w.heap.size (w.heap.size + 1) w3.heap.size ⟨p1, p2, p3, p4, p5, p6, pA, pn, pc⟩ ⟨p1, p2, p3, p4, p5, p6, A1, pn, c1⟩ ⟨q1, q2, q3, q4, q5, q6, qA, qn, qc⟩ x' ∧ CellsAt W a ⟨s1, s2, s3, s4, s5, s6, sA, sn, sc⟩) := Lib.hid (fun W hW => by
        have h1 := HZ.out
        have h2 := HGB2.out
        exact ⟨T10.out.1.apart hW (by omega) (by omega) (by omega) (off_below HPP.out.kills (by omega)) (off_below HK2.out.kills (by omega)) (off_below HQ.out.kills (by omega)), T10.out.2.2.1.apart hW h2.2⟩)
      have HR2 := Lib.hid (turn_start (g := g2) T10.out.2.2.2.1 T10.out.2.2.2.2)
      have k6 := T10.out.2.2.1.c6
      generalize wr = w10 at *
      subst ek
      go_wp2_with fail
      clear k6
      go_loopw [62] (fun i wr => TurnL g2 w10 sA sn sc i wr) (fun i _ => sn - (intOf i).toNat)
      case atStart => exact HR2.out
      case round =>
        clear HR2
        obtain ⟨k, m, hk, rfl, hap, hd, hf⟩ := hrel
        have HREL := Lib.hid (And.intro hap (And.intro hd hf))
        clear hap hd hf
        by_cases hlt : k < sn
        · obtain ⟨ad, y1, y2, rfl, hy, hy1, hy2, d1, d2, f1, f2⟩ := turn_at hlt HREL.out.2.1 HREL.out.2.2
          have k6 := (HT2.out wr HREL.out.1).2.c6
          obtain ⟨z, hz⟩ : ∃ z, z = (y1 + 1) % 65536 := ⟨_, rfl⟩
          have hzI : IntKind.u16.wrap ((y1 : Int) + 1) = (z : Int) := by simp [IntKind.wrap, IntKind.bits, IntKind.signed]; omega
          have hkw := HREL.out.2.1.wide
          have hkI : wrap64 ((k : Int) + 1) = (k : Int) + 1 := by unfold wrap64; omega
          have HST := Lib.hid (turn_dev (z := z) hlt (HG2.out ad rfl (by omega)) HREL.out.1 HREL.out.2.1 HREL.out.2.2 hy (by omega))
          clear hy hz
          go_wp2
          go_roundw
          case rel => exact HST.out
          case measure => simp [intOf]; omega
        · have ek : k = sn := by omega
          have T11 := Lib.hid (HT2.out wr HREL.out.1).1
          have BW11 : Hid (Below w.heap.size w wr) := Lib.hid (BW10.out.trans (HREL.out.1.below (by have := HZ.out; have := HGB2.out; omega)))
          have HS11 : Hid (w9.heap.size ≤ wr.heap.size) := Lib.hid (by have h1 := hs10.out; have h2 := HREL.out.1.size; omega)
          clear HREL HT2 HG2 HGB2 T10 hk
          generalize wr = w11 at *
          subst ek
          obtain ⟨k0, k1, k2, k3, k4, k5, k6⟩ := T11.out.e.all
          have HB12 := Lib.hid (below_new w11 (EV.box ⟨p1, p2, p3, p4, p5, p6, pA, pn, pc⟩))
          have HC12 := Lib.hid (box_new w11 ⟨p1, p2, p3, p4, p5, p6, pA, pn, pc⟩ (w11.alloc (EV.box ⟨p1, p2, p3, p4, p5, p6, pA, pn, pc⟩)) (Below.refl _ _))
          have CS := P.dots _ _ [x'] 1 1 (evt_row (T11.out.ie.up HB12.out) HC12.out) (by decide) (by
            have h1 := HPP.out.kills.len
            have h2 := HSP.out
            simp only at h1 h2
            simp [manyE]
            omega)
          simp only [EV.box] at HB12 HC12 CS
          go_wp2_with fail
          refine CS.mono ?_
          rintro e w13 ⟨dA, dn, dc, rfl, hd, hf, hb⟩
          have HD := Lib.hid hd
          have HFD := Lib.hid hf
          have HB13 : Hid (Below w11.heap.size w11 w13) := Lib.hid (bel_trans HB12.out hb)
          have hs12 := Lib.hid (alloc_size w11 (.cells #[.int .u16 (p1 : Int), .int .u64 (p2 : Int), .int .u8 (p3 : Int), .int .u64 (p4 : Int), .int .u8 (p5 : Int), .string p6, .slice pA pn pc] 28))
          have hs13 := Lib.hid hb.size
          clear CS hd hf hb HC12 HB12 k0 k1 k2 k3 k4 k5 k6
          have hs11 : Hid (w9.heap.size ≤ w11.heap.size) := HS11
          have T13 := Lib.hid (T11.out.kept HB13.out)
          have BW13 : Hid (Below w.heap.size w w13) := Lib.hid (BW11.out.trans (HB13.out.mono BW11.out.size))
          obtain ⟨g3, hg1, hg2, hg3⟩ := own_block (V := w13.heap.size) HD.out HFD.out (Nat.le_refl _) hs13.out
          have HG3 := Lib.hid hg1
          have HGB3 : Hid (w11.heap.size + 1 ≤ g3) := Lib.hid (Nat.le_trans (Nat.le_of_eq hs12.out.symm) hg2)
          have HR3 := Lib.hid (turn_start (g := g3) HD.out HFD.out)
          clear hg1 hg2 hg3
          have HT3 : Hid (∀ W, Apart g3 w13 W → Three W w.heap.size (w.heap.size + 1) w3.heap.size ⟨p1, p2, p3, p4, p5, p6, pA, pn, pc⟩ ⟨p1, p2, p3, p4, p5, p6, A1, pn, c1⟩ ⟨q1, q2, q3, q4, q5, q6, qA, qn, qc⟩ x') := Lib.hid (fun W hW => by
            have h1 := HZ.out
            have h2 := HGB3.out
            have h3 := hs11.out
            exact T13.out.apart hW (by omega) (by omega) (by omega) (off_below HPP.out.kills (by omega)) (off_below HK2.out.kills (by omega)) (off_below HQ.out.kills (by omega)))
          clear T11 BW11 HB13 hs12 hs13 HD HFD
          go_wp2_with fail
          go_loopw [82] (fun i wr => TurnL g3 w13 dA dn dc i wr) (fun i _ => dn - (intOf i).toNat)
          case atStart => exact HR3.out
          case round =>
            clear HR3
            obtain ⟨k, m, hk, rfl, hap, hd, hf⟩ := hrel
            have HREL := Lib.hid (And.intro hap (And.intro hd hf))
            clear hap hd hf
            by_cases hlt : k < dn
            · obtain ⟨ad, y1, y2, rfl, hy, hy1, hy2, d1, d2, f1, f2⟩ := turn_at hlt HREL.out.2.1 HREL.out.2.2
              obtain ⟨z, hz⟩ : ∃ z, z = (y2 + 1) % 18446744073709551616 := ⟨_, rfl⟩
              have hzI : IntKind.u64.wrap ((y2 : Int) + 1) = (z : Int) := by simp [IntKind.wrap, IntKind.bits, IntKind.signed]; omega
              have hkw := HREL.out.2.1.wide
              have hkI : wrap64 ((k : Int) + 1) = (k : Int) + 1 := by unfold wrap64; omega
              have HST := Lib.hid (turn_num (z := z) hlt (HG3.out ad rfl (by omega)) HREL.out.1 HREL.out.2.1 HREL.out.2.2 hy (by omega))
              clear hy hz
              go_wp2
              go_roundw
              case rel => exact HST.out
              case measure => simp [intOf]; omega
            · have ek : k = dn := by omega
              have T14 := Lib.hid (HT3.out wr HREL.out.1)
              have BW14 : Hid (Below w.heap.size w wr) := Lib.hid (BW13.out.trans (HREL.out.1.below (by have := HZ.out; have := HGB3.out; have := hs11.out; omega)))
              clear HREL HT3 HG3 HGB3 T13 BW13 hk
              generalize wr = w14 at *
              subst ek
              have HKK : Hid (∀ V, Below w14.heap.size w14 V → (V.cell? ⟨w.heap.size, 0, none⟩ = some (.int .u16 (p1 : Int)) ∧ V.cell? ⟨w.heap.size, 1, none⟩ = some (.int .u64 (p2 : Int)) ∧ V.cell? ⟨w.heap.size, 2, none⟩ = some (.int .u8 (p3 : Int)) ∧ V.cell? ⟨w.heap.size, 3, none⟩ = some (.int .u64 (p4 : Int)) ∧ V.cell? ⟨w.heap.size, 4, none⟩ = some (.int .u8 (p5 : Int)) ∧ V.cell? ⟨w.heap.size, 5, none⟩ = some (.string p6) ∧ V.cell? ⟨w.heap.size, 6, none⟩ = some (.slice pA pn pc)) ∧ (V.cell? ⟨w.heap.size + 1, 0, none⟩ = some (.int .u16 (p1 : Int)) ∧ V.cell? ⟨w.heap.size + 1, 1, none⟩ = some (.int .u64 (p2 : Int)) ∧ V.cell? ⟨w.heap.size + 1, 2, none⟩ = some (.int .u8 (p3 : Int)) ∧ V.cell? ⟨w.heap.size + 1, 3, none⟩ = some (.int .u64 (p4 : Int)) ∧ V.cell? ⟨w.heap.size + 1, 4, none⟩ = some (.int .u8 (p5 : Int)) ∧ V.cell? ⟨w.heap.size + 1, 5, none⟩ = some (.string p6) ∧ V.cell? ⟨w.heap.size + 1, 6, none⟩ = some (.slice A1 pn c1)) ∧ (V.cell? ⟨w3.heap.size, 0, none⟩ = some (.int .u16 (q1 : Int)) ∧ V.cell? ⟨w3.heap.size, 1, none⟩ = some (.int .u64 (q2 : Int)) ∧ V.cell? ⟨w3.heap.size, 2, none⟩ = some (.int .u8 (q3 : Int)) ∧ V.cell? ⟨w3.heap.size, 3, none⟩ = some (.int .u64 (q4 : Int)) ∧ V.cell? ⟨w3.heap.size, 4, none⟩ = some (.int .u8 (q5 : Int)) ∧ V.cell? ⟨w3.heap.size, 5, none⟩ = some (.string q6) ∧ V.cell? ⟨w3.heap.size, 6, none⟩ = some (.slice qA qn qc))) := Lib.hid (fun V hV => ⟨(T14.out.e.kept hV).all, (T14.out.v.kept hV).all, (T14.out.c.kept hV).all⟩)
              have L1 := fun W (hW : Below w14.heap.size w14 W) => later hW (same_self W ⟨p1, p2, p3, p4, p5, p6, pA, pn, pc⟩ ⟨p1, p2, p3, p4, p5, p6, A1, pn, c1⟩ x' (T14.out.ie.up hW) (T14.out.iv.up hW))
              have L2 := fun W (hW : Below w14.heap.size w14 W) => later hW (same_self W ⟨q1, q2, q3, q4, q5, q6, qA, qn, qc⟩ ⟨p1, p2, p3, p4, p5, p6, A1, pn, c1⟩ x' (T14.out.ic.up hW) (T14.out.iv.up hW))
              have L3 := fun W (hW : Below w14.heap.size w14 W) => later hW (psame_self P W ⟨q1, q2, q3, q4, q5, q6, qA, qn, qc⟩ ⟨p1, p2, p3, p4, p5, p6, pA, pn, pc⟩ x' (T14.out.ic.up hW) (T14.out.ie.up hW))
              have L4 := fun W (hW : Below w14.heap.size w14 W) => later hW (works_any P W)
              simp only [EV.val] at L1 L2 L3
              obtain ⟨⟨k0, k1, k2, k3, k4, k5, k6⟩, ⟨m0, m1, m2, m3, m4, m5, m6⟩, ⟨n0, n1, n2, n3, n4, n5, n6⟩⟩ := HKK.out w14 (Below.refl _ _)
              have CS := L1 w14 (Below.refl _ _)
              go_wp2_with fail
              refine CS.mono ?_
              rintro e w15 ⟨rfl, b15⟩
              have HB15 := Lib.hid b15
              clear CS b15 k0 k1 k2 k3 k4 k5 k6 m0 m1 m2 m3 m4 m5 m6 n0 n1 n2 n3 n4 n5 n6
              obtain ⟨⟨k0, k1, k2, k3, k4, k5, k6⟩, ⟨m0, m1, m2, m3, m4, m5, m6⟩, ⟨n0, n1, n2, n3, n4, n5, n6⟩⟩ := HKK.out w15 HB15.out
              have CS := L2 w15 HB15.out
              go_wp2_with fail
              refine CS.mono ?_
              rintro e w16 ⟨rfl, b16⟩
              have HB16 := Lib.hid b16
              clear CS b16 k0 k1 k2 k3 k4 k5 k6 m0 m1 m2 m3 m4 m5 m6 n0 n1 n2 n3 n4 n5 n6
              obtain ⟨⟨k0, k1, k2, k3, k4, k5, k6⟩, ⟨m0, m1, m2, m3, m4, m5, m6⟩, ⟨n0, n1, n2, n3, n4, n5, n6⟩⟩ := HKK.out w16 HB16.out
              have CS := L3 w16 HB16.out
              go_wp2_with fail
              refine CS.mono ?_
              rintro e w17 ⟨rfl, b17⟩
              have HB17 := Lib.hid b17
              clear CS b17 k0 k1 k2 k3 k4 k5 k6 m0 m1 m2 m3 m4 m5 m6 n0 n1 n2 n3 n4 n5 n6
              have CS := L4 w17 HB17.out
              go_wp2_with fail
              refine CS.mono ?_
              rintro e w18 ⟨rfl, b18⟩
              have HB18 := Lib.hid b18
              clear CS b18
              go_wp2
              go_ret
              exact ⟨rfl, BW14.out.trans (Below.mono HB18.out BW14.out.size)⟩
end Go.Proofs.Ytbaiiidkffafmaa.Ev
