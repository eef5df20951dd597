/- Words and contracts that the proofs of this seat stand on, part 12 of 14. -/
import Derived.Test.YtblgbbpbhcaodaaGreatMgK
import Derived.Test.YtblgbbpbhcaodaaGreatMgG
import Derived.Test.YtblgbbpbhcaodaaGreatMgJ
import Derived.Test.YtblgbbpbhcaodaaGreatMgC
import Derived.Lib.SlicesCompact
import Derived.Lib.SliceRun

/- The contract of the program's Decode of layer ecode (gen-ldec.py printed it). -/
namespace Go.Proofs.YtblgbbpbhcaodaaGreat.Ec
open Go.ChangeShapes Go.WideShapes Go.ChangeAt Go.RowKit Go.Proofs.YtblgbbpbhcaodaaGreat.Dc
set_option linter.unusedVariables false
set_option maxRecDepth 4000

theorem pdec_done {w V : World} {q : Ev.EV} {x : Evt} (hb : Below w.heap.size w V) (o : EO (w.heap.size + 1) V q x) (u0 u1 u2 u3 u4 u5 u6 : Value) :
    EO w.heap.size (((((((V.setCell ⟨w.heap.size, 0, none⟩ u0).setCell ⟨w.heap.size, 1, none⟩ u1).setCell ⟨w.heap.size, 2, none⟩ u2).setCell ⟨w.heap.size, 3, none⟩ u3).setCell ⟨w.heap.size, 4, none⟩ u4).setCell ⟨w.heap.size, 5, none⟩ u5).setCell ⟨w.heap.size, 6, none⟩ u6) q x ∧
      Below w.heap.size w (((((((V.setCell ⟨w.heap.size, 0, none⟩ u0).setCell ⟨w.heap.size, 1, none⟩ u1).setCell ⟨w.heap.size, 2, none⟩ u2).setCell ⟨w.heap.size, 3, none⟩ u3).setCell ⟨w.heap.size, 4, none⟩ u4).setCell ⟨w.heap.size, 5, none⟩ u5).setCell ⟨w.heap.size, 6, none⟩ u6) := by
  have st : ∀ (V : World) (i : Nat) (u : Value), Below w.heap.size w V → EO (w.heap.size + 1) V q x → Below w.heap.size w (V.setCell ⟨w.heap.size, i, none⟩ u) ∧ EO (w.heap.size + 1) (V.setCell ⟨w.heap.size, i, none⟩ u) q x :=
    fun V i u h1 h2 => ⟨h1.setCell (Nat.le_refl _) u, h2.turn (Nu.turn_set V w.heap.size i u) (fun b e => by have e2 := Option.some.inj e; omega)⟩
  obtain ⟨a0, c0⟩ := st _ 0 u0 hb o
  obtain ⟨a1, c1⟩ := st _ 1 u1 a0 c0
  obtain ⟨a2, c2⟩ := st _ 2 u2 a1 c1
  obtain ⟨a3, c3⟩ := st _ 3 u3 a2 c2
  obtain ⟨a4, c4⟩ := st _ 4 u4 a3 c3
  obtain ⟨a5, c5⟩ := st _ 5 u5 a4 c4
  obtain ⟨a6, c6⟩ := st _ 6 u6 a5 c5
  exact ⟨c6.less (Nat.le_succ _), a6⟩
theorem pbox_cells {V : World} {g : Nat} {q : Ev.EV} (h : Nu.At V g 42 #[.int .u16 (q.dev : Int), .int .u64 (q.num : Int), .int .u8 (q.kind : Int), .int .u64 (q.cid : Int), .int .u8 (q.fld : Int), .string q.txt, .slice q.adr q.len q.cap]) :
    V.cell? ⟨g, 0, none⟩ = some (.int .u16 (q.dev : Int)) ∧ V.cell? ⟨g, 1, none⟩ = some (.int .u64 (q.num : Int)) ∧ V.cell? ⟨g, 2, none⟩ = some (.int .u8 (q.kind : Int)) ∧ V.cell? ⟨g, 3, none⟩ = some (.int .u64 (q.cid : Int)) ∧ V.cell? ⟨g, 4, none⟩ = some (.int .u8 (q.fld : Int)) ∧ V.cell? ⟨g, 5, none⟩ = some (.string q.txt) ∧ V.cell? ⟨g, 6, none⟩ = some (.slice q.adr q.len q.cap) :=
  ⟨h.cell 0, h.cell 1, h.cell 2, h.cell 3, h.cell 4, h.cell 5, h.cell 6⟩
set_option maxHeartbeats 8000000 in
theorem pdec_any (w : World) (A : Option Addr) (b : List Nat) (n c : Nat) (h : BL w A b n c) (hn : n ≤ 1048576) :
    Calls Tryz.prog 11 #[.slice A n c] w (DecOut w b) := by
  have hb0 := below_new w zbox
  have HB0 := Lib.hid hb0
  have Z0 := Lib.hid (Nu.At.new w 42 zcells)
  have CN := Nu.new_any (w.alloc zbox) A b n c h.len h.nil (h.up hb0).at_ (by omega)
  have hlb : b.length ≤ 1048576 := by rw [h.len]; exact hn
  have hs0 := alloc_size w zbox
  obtain ⟨D, hD⟩ : ∃ D, evtR (b, 0) = D := ⟨_, rfl⟩
  have hdec : decE b = if endN D.2 = 0 then (D.1, 0) else (evtZ, endN D.2) := by rw [← hD]; rfl
  have HD := Lib.hid hdec
  have HDD := Lib.hid hD
  clear h hD hdec hb0
  unfold DecOut
  obtain ⟨E, hE⟩ : ∃ E, decE b = E := ⟨_, rfl⟩
  rw [hE] at HD ⊢
  clear hE
  go_enter Tryz.func11, Tryz.ntmps11
  go_wp2_with fail
  refine CN.mono ?_
  rintro e w1 ⟨g, rfl, hg, p1, b1⟩
  have hgw : w.heap.size < g := by omega
  have K1 : Hid (RP g g w1 (b, 0)) := Lib.hid p1
  have B1 := Lib.hid (HB0.out.trans (b1.mono HB0.out.size))
  have Z1 := Lib.hid (Z0.out.below b1 Z0.out.lt)
  have CC := pget_any w1 g g (b, 0) K1.out (Nat.le_refl _) hlb
  rw [HDD.out] at CC
  clear CN p1 b1 Z0 hg
  go_wp2_with fail
  refine CC.mono ?_
  rintro e w2 ⟨q, rfl, o2, k2, g2⟩
  have hw1 : g < w1.heap.size := (rp_rdr (Nat.le_refl _)).lt K1.out
  have B2 := Lib.hid (Nu.below_two (rb := none) (two_grown g2) (B := w.heap.size) (by omega) (fun k e => by cases e) B1.out.size)
  have B2' := Lib.hid (B1.out.trans B2.out)
  have Z2 := Lib.hid ((Z1.out.kept g2 (fun e => by have e2 := Option.some.inj e; omega)).below (below_new w2 q.box) (Nu.At.lt (Z1.out.kept g2 (fun e => by have e2 := Option.some.inj e; omega))))
  have O2 := Lib.hid (o2.below (below_new w2 q.box))
  have K2 := Lib.hid ((rp_rdr (Nat.le_refl _)).new k2 q.box)
  have V2 := Lib.hid (Nu.At.new w2 42 #[.int .u16 (q.dev : Int), .int .u64 (q.num : Int), .int .u8 (q.kind : Int), .int .u64 (q.cid : Int), .int .u8 (q.fld : Int), .string q.txt, .slice q.adr q.len q.cap])
  have BX := Lib.hid (bel_alloc q.box B2'.out)
  have hgs : w1.heap.size ≤ w2.heap.size := g2.size
  have CE := Nu.end_any (w2.alloc q.box) g g D.2.1 D.2.2 K2.out (Nat.le_refl _)
  have hen : Nu.endE D.2.1 D.2.2 = endN D.2 := rfl
  rw [hen] at CE
  clear o2 k2 g2 CC Z1 B1 K1 B2 B2' hen
  go_wp2_with fail
  generalize w2.alloc q.box = w3 at *
  refine CE.mono ?_
  rintro e w4 ⟨rfl, k4, g4⟩
  have Z4 := Lib.hid (Z2.out.kept g4 (fun e => by have e2 := Option.some.inj e; omega))
  have O4 := Lib.hid ((O2.out.turn g4 (fun t e => by have e2 := Option.some.inj e; omega)).less (show w.heap.size + 1 ≤ _ by omega))
  have B4 := Lib.hid (BX.out.trans (Nu.below_two (rb := none) (two_grown g4) (B := w.heap.size) (by omega) (fun k e => by cases e) BX.out.size))
  have V4 := Lib.hid (V2.out.kept g4 (fun e => by have e2 := Option.some.inj e; omega))
  obtain ⟨x0, x1, x2, x3, x4, x5, x6⟩ := pbox_cells V4.out
  generalize endN D.2 = en at *
  clear k4 g4 CE K2 Z2 O2 BX V2
  by_cases he : en = 0
  · subst he
    have hd : Hid (E = (D.1, 0)) := Lib.hid (by rw [HD.out]; rfl)
    have Q1 := Z4.out.set 0 (.int .u16 (q.dev : Int))
    have Q2 := Q1.set 1 (.int .u64 (q.num : Int))
    have Q3 := Q2.set 2 (.int .u8 (q.kind : Int))
    have Q4 := Q3.set 3 (.int .u64 (q.cid : Int))
    have Q5 := Q4.set 4 (.int .u8 (q.fld : Int))
    have Q6 := Q5.set 5 (.string q.txt)
    have Q7 := Q6.set 6 (.slice q.adr q.len q.cap)
    have z0 := Z4.out.cell 0
    have f0 := Z4.out.frozen 0
    have z1 := Q1.cell 1
    have f1 := Q1.frozen 1
    have z2 := Q2.cell 2
    have f2 := Q2.frozen 2
    have z3 := Q3.cell 3
    have f3 := Q3.frozen 3
    have z4 := Q4.cell 4
    have f4 := Q4.frozen 4
    have z5 := Q5.cell 5
    have f5 := Q5.frozen 5
    have z6 := Q6.cell 6
    have f6 := Q6.frozen 6
    have y0 := Q7.cell 0
    have y1 := Q7.cell 1
    have y2 := Q7.cell 2
    have y3 := Q7.cell 3
    have y4 := Q7.cell 4
    have y5 := Q7.cell 5
    have y6 := Q7.cell 6
    simp at z0 z1 z2 z3 z4 z5 z6 y0 y1 y2 y3 y4 y5 y6
    clear Q1 Q2 Q3 Q4 Q5 Q6 Q7
    have HG := Lib.hid (pdec_done B4.out O4.out (.int .u16 (q.dev : Int)) (.int .u64 (q.num : Int)) (.int .u8 (q.kind : Int)) (.int .u64 (q.cid : Int)) (.int .u8 (q.fld : Int)) (.string q.txt) (.slice q.adr q.len q.cap))
    go_wp2
    refine bodyPost_ret (v := .tuple #[q.val, .int .i64 0]) ?_ rfl ?_
    · simp [results, Tryz.f11, go_sem, y0, y1, y2, y3, y4, y5, y6]
    · rw [hd.out]
      exact ⟨q, rfl, HG.out.1, HG.out.2⟩
  · have hd : Hid (E = (evtZ, en)) := Lib.hid (by rw [HD.out, if_neg he])
    have hi : ((en : Int) == 0) = false := by rw [beq_eq_false_iff_ne]; omega
    have hj : ((en : Int) != 0) = true := by rw [bne, hi]; rfl
    have hk : ¬ (en : Int) = 0 := by omega
    have Q1 := Z4.out.set 0 (.int .u16 0)
    have Q2 := Q1.set 1 (.int .u64 0)
    have Q3 := Q2.set 2 (.int .u8 0)
    have Q4 := Q3.set 3 (.int .u64 0)
    have Q5 := Q4.set 4 (.int .u8 0)
    have Q6 := Q5.set 5 (.string ⟨#[]⟩)
    have Q7 := Q6.set 6 (.slice none 0 0)
    have z0 := Z4.out.cell 0
    have f0 := Z4.out.frozen 0
    have z1 := Q1.cell 1
    have f1 := Q1.frozen 1
    have z2 := Q2.cell 2
    have f2 := Q2.frozen 2
    have z3 := Q3.cell 3
    have f3 := Q3.frozen 3
    have z4 := Q4.cell 4
    have f4 := Q4.frozen 4
    have z5 := Q5.cell 5
    have f5 := Q5.frozen 5
    have z6 := Q6.cell 6
    have f6 := Q6.frozen 6
    have y0 := Q7.cell 0
    have y1 := Q7.cell 1
    have y2 := Q7.cell 2
    have y3 := Q7.cell 3
    have y4 := Q7.cell 4
    have y5 := Q7.cell 5
    have y6 := Q7.cell 6
    simp at z0 z1 z2 z3 z4 z5 z6 y0 y1 y2 y3 y4 y5 y6
    clear Q1 Q2 Q3 Q4 Q5 Q6 Q7
    have HG := Lib.hid (pdec_done B4.out (EO.none_ (w.heap.size + 1) w4) (.int .u16 0) (.int .u64 0) (.int .u8 0) (.int .u64 0) (.int .u8 0) (.string ⟨#[]⟩) (.slice none 0 0))
    go_wp2
    refine bodyPost_ret (v := .tuple #[Ev.EV.val ⟨0, 0, 0, 0, 0, ⟨#[]⟩, none, 0, 0⟩, .int .i64 (en : Int)]) ?_ rfl ?_
    · simp [results, Tryz.f11, go_sem, y0, y1, y2, y3, y4, y5, y6]
    · rw [hd.out]
      exact ⟨_, rfl, HG.out.1, HG.out.2⟩
end Go.Proofs.YtblgbbpbhcaodaaGreat.Ec

/- The contracts of the program's PutDot, putPart, PutCtx and Encode of layer dcode. -/
namespace Go.Proofs.YtblgbbpbhcaodaaGreat.Dc
open Go.ChangeShapes Go.WideShapes Go.ChangeAt Go.RowKit
set_option linter.unusedVariables false
set_option maxRecDepth 4000

/-- a number more. -/
theorem ws_num {w V : World} {B g : Nat} {rb : Option Nat} {m : List Nat} (h : WS w V B g rb m) (x : Nat) (hx : x < big) (hm : m.length ≤ 70368744177664) :
    Calls Tryz.prog 58 #[.pointer (some ⟨g, 0, none⟩), .int .u64 (x : Int)] V fun e U => e = .returned (.tuple #[]) ∧ WS w U B g rb (m ++ Nu.enc x) :=
  h.step fun r hr => Nu.wnum_any V B g r m x hr hx hm
theorem pputdot_any (w : World) (B g : Nat) (rb : Option Nat) (m : List Nat) (d : Dot) (h : Nu.PW w B g rb m) (hd : d.1 < 65536) (hd2 : d.2 < big) (hm : m.length ≤ 35184372088832) :
    Calls Tryz.prog 56 #[.pointer (some ⟨g, 0, none⟩), dval d] w (Nu.WPost w B g rb (m ++ dotB d)) := by
  have HB := Lib.hid (below_new w (dbox d))
  obtain ⟨r, hr, ht, s0⟩ := side_new (WS.start h) (dbox d)
  have S0 := Lib.hid s0
  have HT := Lib.hid ht
  have HRR := Lib.hid hr
  have hw : (IntKind.u64.wrap (d.1 : Int)) = (d.1 : Int) := by rw [IntKind.wrap_u64]; omega
  obtain ⟨k0, k1⟩ := dbox_new w d (w.alloc (dbox d)) (by rw [← alloc_size w (dbox d)]; exact Below.refl _ _)
  have hb1 : d.1 < big := by show d.1 < 18446744073709551616; omega
  have hl := enc_le d.1
  clear h s0 ht hr
  go_enter Tryz.func56, Tryz.ntmps56
  go_wp2_with fail
  obtain ⟨bx, hbx⟩ : ∃ bx, w.heap.size = bx := ⟨_, rfl⟩
  rw [hbx] at S0 k0 k1 ⊢
  generalize w.alloc (dbox d) = w1 at *
  refine (ws_num S0.out.ws d.1 hb1 (by omega)).mono ?_
  rintro e w2 ⟨rfl, q2⟩
  have S1 : Hid (Side w1 w2 B g bx (m ++ Nu.enc d.1) r) := Lib.hid ⟨q2, S0.out.g_ne, S0.out.r_ne, S0.out.lt⟩
  have e1 := (S1.out.cell 1).trans k1
  clear q2 S0 k0 k1
  go_wp2_with fail
  refine (ws_num S1.out.ws d.2 hd2 (by rw [List.length_append]; omega)).mono ?_
  rintro e w3 ⟨rfl, q3⟩
  have W3 := Lib.hid (WS.join HRR.out HT.out q3)
  clear q3 S1 e1
  go_wp2
  go_end0
  unfold dotB
  rw [← List.append_assoc]
  exact W3.out.post
end Go.Proofs.YtblgbbpbhcaodaaGreat.Dc

/- The contract of slices.Compact at dots. For every list of one's own. -/
namespace Go.Proofs.YtblgbbpbhcaodaaGreat.Dt
open Go.ChangeShapes Go.WideShapes Go.ChangeAt Go.RowKit Go.Lib
set_option linter.unusedVariables false

theorem dv_set {l : List Dot} {k : Nat} (r : Dot) : dv (l.set k r) = ((dv l).set (k * 2) (.int .u16 (r.1 : Int))).set (k * 2 + 1) (.int .u64 (r.2 : Int)) := by
  induction l generalizing k with
  | nil => simp [dv]
  | cons x l ih =>
    cases k with
    | zero => rfl
    | succ k =>
      have e : ∀ (y : Dot) (m : List Dot), dv (y :: m) = .int .u16 (y.1 : Int) :: .int .u64 (y.2 : Int) :: dv m := fun _ _ => rfl
      have e1 : (k + 1) * 2 = k * 2 + 2 := by omega
      rw [List.set_cons_succ, e, e, ih, e1]
      rfl
theorem dv_at {l : List Dot} {k : Nat} (hk : k < l.length) : (dv l)[k * 2]? = some (.int .u16 ((l.toArray[k]!).1 : Int)) ∧ (dv l)[k * 2 + 1]? = some (.int .u64 ((l.toArray[k]!).2 : Int)) := by
  have e : l.toArray[k]! = l[k] := by rw [getElem!_pos _ _ (by simpa using hk)]; simp
  rw [e]
  exact dv_get (List.getElem?_eq_getElem hk)
/-- the cells of a row of dots, and that they may be written. -/
theorem row_at {w : World} {B g n cap : Nat} {d : List Dot} (h : w.ownsRow B 39 2 (.slice (some ⟨g, 0, none⟩) n cap) n (dv d)) (hd : d.length = n) {k : Nat} (hk : k < n) :
    (w.cell? ⟨g, k * 2, none⟩ = some (.int .u16 ((d.toArray[k]!).1 : Int)) ∧ w.cell? ⟨g, k * 2 + 1, none⟩ = some (.int .u64 ((d.toArray[k]!).2 : Int))) ∧ w.frozen? ⟨g, k * 2, none⟩ = false ∧ w.frozen? ⟨g, k * 2 + 1, none⟩ = false := by
  obtain ⟨h1, h2⟩ := dv_at (l := d) (k := k) (by omega)
  exact ⟨⟨(h.cellAt _ (by omega)).trans h1, (h.cellAt _ (by omega)).trans h2⟩, h.frozenAt _, h.frozenAt _⟩

theorem dv_cons (y : Dot) (m : List Dot) : dv (y :: m) = .int .u16 (y.1 : Int) :: .int .u64 (y.2 : Int) :: dv m := rfl
theorem dv_take (l : List Dot) (k : Nat) : (dv l).take (k * 2) = dv (l.take k) := by
  induction l generalizing k with
  | nil => simp [dv]
  | cons x l ih =>
    cases k with
    | zero => simp [dv]
    | succ k =>
      have e1 : (k + 1) * 2 = k * 2 + 2 := by omega
      rw [List.take_succ_cons, dv_cons, dv_cons, e1, List.take_succ_cons, List.take_succ_cons, ih]
/-- a row of one's own, cut. -/
theorem own_take {w : World} {B g n cap k : Nat} {xs : List Value} (h : w.ownsRow B 39 2 (.slice (some ⟨g, 0, none⟩) n cap) n xs) (hk : k ≤ n) : w.ownsRow B 39 2 (.slice (some ⟨g, 0, none⟩) k cap) k (xs.take (k * 2)) := by
  refine ⟨by rw [List.length_take, h.1]; omega, ?_⟩
  rcases h.2 with ⟨h', _⟩ | ⟨g', cap', cur, h', hb, hg, hnc, hcm, hcs, htake⟩
  · simp at h'
  · simp only [Value.slice.injEq, Option.some.injEq, Addr.mk.injEq, and_true, true_and] at h'
    obtain ⟨rfl, rfl⟩ := h'
    exact .inr ⟨g, cap, cur, rfl, hb, hg, by omega, hcm, hcs, by rw [← htake, List.take_take]; congr 1; omega⟩
/-- cells written into a row from a place on: what lies ahead of it stays. -/
theorem own_cells {w : World} {B g n cap : Nat} {xs : List Value} (o : Nat) (vs : List Value) (h : w.ownsRow B 39 2 (.slice (some ⟨g, 0, none⟩) n cap) n xs) : ∃ ys : List Value, (w.setCells g o vs).ownsRow B 39 2 (.slice (some ⟨g, 0, none⟩) n cap) n ys ∧ ys.take o = xs.take o ∧ w.grownBy (w.setCells g o vs) (some g) := by
  induction vs generalizing w xs o with
  | nil => exact ⟨xs, h, rfl, turn_refl _ _⟩
  | cons v vs ih =>
    obtain ⟨h1, h2⟩ := h.stored o v
    obtain ⟨ys, h3, h4, h5⟩ := ih (o + 1) h1
    refine ⟨ys, h3, ?_, h2.trans h5⟩
    have h6 := congrArg (List.take o) h4
    rw [List.take_take, List.take_take, show min o (o + 1) = o by omega] at h6
    rw [h6, List.take_set_of_le (Nat.le_refl _)]
theorem zeros_len (m : Nat) : (Builtin.zeroCells #[.int .u16 0, .int .u64 0] m).size = m * 2 := by simp [Builtin.zeroCells]
theorem zeros_one (m : Nat) : ∀ v ∈ (Builtin.zeroCells #[.int .u16 0, .int .u64 0] m).toList, v.oneCell' = true := by
  intro v hv
  simp [Builtin.zeroCells] at hv
  obtain ⟨i, _, rfl⟩ := hv
  rcases Nat.mod_two_eq_zero_or_one i with h | h <;> simp [h] <;> rfl
/-- clear of the end of a row of one's own. -/
theorem run_clear {w : World} {B g n cap k : Nat} {xs : List Value} (h : w.ownsRow B 39 2 (.slice (some ⟨g, 0, none⟩) n cap) n xs) (hk : k < n) (c' : Nat) (ty : TypeId) :
    (Builtin.clear_ #[40] ty #[.slice (some ⟨g, k * 2, none⟩) (n - k) c']).run Tryz.prog w = .ok (.tuple #[]) (w.setCells g (k * 2) (Builtin.zeroCells #[.int .u16 0, .int .u64 0] (n - k)).toList) := by
  have hl : (Builtin.zeroCells #[.int .u16 0, .int .u64 0] (n - k)).toList.length = (n - k) * 2 := by rw [Array.length_toList, zeros_len]
  have hst := run_storeCells_cells (P := Tryz.prog) g (k * 2) (Builtin.zeroCells #[.int .u16 0, .int .u64 0] (n - k)).toList 0 w
    (fun j hj => by
      rw [hl] at hj
      have h1 := h.1
      rw [h.cellAt _ (by omega), List.getElem?_eq_getElem (by omega)]; rfl)
    (fun j hj => h.frozenAt _) (zeros_one _)
  simp only [Nat.add_zero] at hst
  obtain ⟨m, hm⟩ : ∃ m, n - k = m + 1 := ⟨n - k - 1, by omega⟩
  rw [hm] at hst ⊢
  simp [Builtin.clear_, run_underlying Tryz.underlying40, Value.cells, hst]

theorem comp_take {d : Array Dot} {n kk : Nat} {dk : List Dot} (h : CompInv d n kk dk.toArray) (hk : kk ≤ dk.length) : dk.take kk = compactUpTo d n := by
  apply List.ext_getElem?
  intro j
  rw [List.getElem?_take]
  by_cases hj : j < kk
  · rw [if_pos hj, h.low j hj, getElem!_pos dk.toArray j (by simpa using Nat.lt_of_lt_of_le hj hk), List.getElem?_eq_getElem (by omega)]
    simp
  · rw [if_neg hj, List.getElem?_eq_none (by rw [h.len]; omega)]
theorem grown_drew {w wr : World} {r : Option Nat} (h : w.grownBy wr r) (q : Nat) : w.grownBy (wr.drewN q) r := h.trans ⟨rfl, rfl, rfl, Nat.le_refl _, fun _ _ _ => rfl⟩
set_option maxHeartbeats 4000000 in
theorem pcompact_any (w : World) (B g cap n : Nat) (d : List Dot) (hn : d.length = n) (h62 : n < 4611686018427387904) (h : w.ownsRow B 39 2 (.slice (some ⟨g, 0, none⟩) n cap) n (dv d)) :
    Calls Tryz.prog 85 #[.slice (some ⟨g, 0, none⟩) n cap] w fun e w' => ∃ k, e = .returned (.slice (some ⟨g, 0, none⟩) k cap) ∧ k = (compactUpTo d.toArray n).length ∧ w'.ownsRow B 39 2 (.slice (some ⟨g, 0, none⟩) k cap) k (dv (compactUpTo d.toArray n)) ∧ w.grownBy w' (some g) := by
  have H := Lib.hid h
  have HN := Lib.hid hn
  have hcap := (own_len h).1
  clear h hn
  by_cases h2 : n < 2
  · have d2 : decide ((n : Int) < 2) = true := decide_eq_true (by omega)
    have e : compactUpTo d.toArray n = d := by
      rw [compactUpTo_all d.toArray n (fun j hj => keeps_lt_one _ j (by omega))]
      have := range_map_get d.toArray
      simp only [List.size_toArray, HN.out] at this
      rw [this]
    rw [e]
    go_enter Tryz.func85, Tryz.ntmps85
    go_wp2
    go_ret
    exact ⟨n, rfl, HN.out.symm, H.out, turn_refl _ _⟩
  · have d2 : decide ((n : Int) < 2) = false := decide_eq_false (by omega)
    go_enter Tryz.func85, Tryz.ntmps85
    go_wp2
    go_loopw [3] (fun i wr => ∃ k q : Nat, i = .int .i64 (k : Int) ∧ 1 ≤ k ∧ k ≤ n ∧ wr = w.drewN q ∧ ∀ j, j < k → keeps d.toArray j = true) (fun i _ => n - (intOf i).toNat)
    case atStart => exact ⟨1, 0, rfl, Nat.le_refl _, by omega, rfl, keeps_lt_one _⟩
    case round =>
      obtain ⟨k, q, rfl, hk1, hk, rfl, hall⟩ := hrel
      have A := Lib.hid hall
      clear hall
      by_cases hlt : k < n
      · obtain ⟨⟨c1, c2⟩, _, _⟩ := row_at H.out HN.out hlt
        obtain ⟨⟨c3, c4⟩, _, _⟩ := row_at H.out HN.out (k := k - 1) (by omega)
        generalize hx : d.toArray[k]! = x at c1 c2
        generalize hy : d.toArray[k - 1]! = y at c3 c4
        obtain ⟨x1, x2⟩ := x
        obtain ⟨y1, y2⟩ := y
        have BB := Lib.hid (And.intro hx hy)
        clear hx hy
        obtain ⟨i, rfl⟩ : ∃ i, k = i + 1 := ⟨k - 1, by omega⟩
        have ei : i + 1 - 1 = i := by omega
        rw [ei] at c3 c4
        clear ei
        by_cases hxy : x1 = y1 ∧ x2 = y2
        · obtain ⟨rfl, rfl⟩ := hxy
          have HS := Lib.hid (CompInv.start A.out (keeps_neg (d := d.toArray) (m := i + 1) (by omega) (by rw [BB.out.1, BB.out.2])))
          have hcap1 : i + 1 < cap := by omega
          have HCap := Lib.hid hcap
          clear hk1 hk hcap
          go_wp2_with fail
          go_quiet (fail)
          clear c1 c2 c3 c4
          go_wp2
          go_loopw [3, 5] (fun s3 s5 wr => ∃ (kk j : Nat) (dk : List Dot), s3 = .int .i64 (kk : Int) ∧ s5 = .int .i64 ((j : Int) + 1) ∧ i + 1 + (j + 1) ≤ n ∧ wr.ownsRow B 39 2 (.slice (some ⟨g, 0, none⟩) n cap) n (dv dk) ∧ dk.length = n ∧ CompInv d.toArray (i + 1 + (j + 1)) kk dk.toArray ∧ w.grownBy wr (some g)) (fun _ s5 _ => n - (intOf s5).toNat)
          case atStart => exact ⟨i + 1, 0, d, rfl, rfl, by omega, H.out, HN.out, HS.out, ⟨rfl, rfl, rfl, Nat.le_refl _, fun _ _ _ => rfl⟩⟩
          case round =>
            obtain ⟨kk, j, dk, rfl, rfl, hle, hw, hl, hI, hg⟩ := hrel
            have hkk := hI.lt
            have W := Lib.hid hw
            have L := Lib.hid hl
            have I := Lib.hid hI
            have G := Lib.hid hg
            clear hw hl hI hg
            by_cases hlt2 : i + 1 + (j + 1) < n
            · obtain ⟨⟨a1, a2⟩, _, _⟩ := row_at W.out L.out hlt2
              obtain ⟨⟨a3, a4⟩, _, _⟩ := row_at W.out L.out (k := i + 1 + j) (by omega)
              obtain ⟨⟨a5, a6⟩, f5, f6⟩ := row_at W.out L.out (k := kk) (by omega)
              rw [I.out.high (i + 1 + (j + 1)) (by omega), show (i + 1 + (j + 1)) * 2 = (i + 1) * 2 + (j + 1) * 2 by omega] at a1 a2
              rw [I.out.high (i + 1 + j) (by omega), show (i + 1 + j) * 2 = (i + 1) * 2 + j * 2 by omega] at a3 a4
              generalize hu : d.toArray[i + 1 + (j + 1)]! = u at a1 a2
              generalize hv : d.toArray[i + 1 + j]! = v at a3 a4
              generalize dk.toArray[kk]! = old at a5 a6
              have C := Lib.hid (And.intro hu hv)
              clear hu hv
              obtain ⟨u1, u2⟩ := u
              obtain ⟨v1, v2⟩ := v
              by_cases huv : u1 = v1 ∧ u2 = v2
              · obtain ⟨rfl, rfl⟩ := huv
                go_wp2_with fail
                go_quiet (fail)
                go_wp2
                go_roundw
                case rel => exact ⟨kk, j + 1, dk, rfl, by go_num, by omega, W.out, L.out, I.out.skip (keeps_neg (by omega) (by rw [C.out.1]; exact C.out.2.symm)), grown_drew G.out _⟩
                case measure => simp [intOf]; omega
              · have HK : Hid (CompInv d.toArray (i + 1 + (j + 1 + 1)) (kk + 1) (dk.set kk (u1, u2)).toArray) := by
                  have h1 := I.out.keep (by simp only [List.size_toArray]; rw [HN.out]; exact hlt2) (keeps_pos (by
                    rw [C.out.1]
                    intro e
                    have h2 := C.out.2
                    rw [show i + 1 + (j + 1) - 1 = i + 1 + j by omega] at e
                    rw [h2] at e
                    cases e
                    exact huv ⟨rfl, rfl⟩))
                  rw [C.out.1] at h1
                  have h3 : (dk.set kk (u1, u2)).toArray = dk.toArray.setIfInBounds kk (u1, u2) := by simp
                  rw [h3]
                  exact h1
                have HW : Hid (∀ q, ∃ V, V = ((wr.drewN q).setCell ⟨g, kk * 2, none⟩ (.int .u16 (u1 : Int))).setCell ⟨g, kk * 2 + 1, none⟩ (.int .u64 (u2 : Int)) ∧ V.ownsRow B 39 2 (.slice (some ⟨g, 0, none⟩) n cap) n (dv (dk.set kk (u1, u2))) ∧ w.grownBy V (some g)) := fun q => by
                  have h0 : (wr.drewN q).ownsRow B 39 2 (.slice (some ⟨g, 0, none⟩) n cap) n (dv dk) := W.out
                  obtain ⟨h1, g1⟩ := h0.stored (kk * 2) (.int .u16 (u1 : Int))
                  obtain ⟨h2, g2⟩ := h1.stored (kk * 2 + 1) (.int .u64 (u2 : Int))
                  exact ⟨_, rfl, by rw [dv_set]; exact h2, ((grown_drew G.out q).trans g1).trans g2⟩
                have hkn : kk < n := by omega
                have key : ((u1 : Int) == (v1 : Int)) = false ∨ (u1 = v1 ∧ ((u2 : Int) == (v2 : Int)) = false) := by
                  by_cases e : u1 = v1
                  · refine .inr ⟨e, ?_⟩; rw [beq_eq_false_iff_ne]; intro e2; exact huv ⟨e, by omega⟩
                  · refine .inl ?_; rw [beq_eq_false_iff_ne]; omega
                clear huv C hkk
                rcases key with k1 | ⟨rfl, k1⟩
                all_goals
                  go_wp2_with fail
                  go_quiet (fail)
                  go_wp2
                  go_roundw
                  case rel =>
                    obtain ⟨V, rfl, h1, h2⟩ := HW.out nq
                    exact ⟨kk + 1, j + 1, dk.set kk (u1, u2), by go_num, by go_num, by omega, h1, by rw [List.length_set]; exact L.out, HK.out, h2⟩
                  case measure => simp [intOf]; omega
            · have hend : i + 1 + (j + 1) = n := by omega
              have hkn : kk < n := by omega
              have hkc : kk < cap := Nat.lt_of_lt_of_le hkn HCap.out
              have hI := I.out
              rw [hend] at hI
              have HT := Lib.hid (comp_take hI (by rw [L.out]; omega))
              have HL := Lib.hid hI.len
              have hcl := fun ty => run_clear W.out hkn (cap - kk) ty
              obtain ⟨ys, hy1, hy2, hy3⟩ := own_cells (kk * 2) (Builtin.zeroCells #[.int .u16 0, .int .u64 0] (n - kk)).toList W.out
              have HY : Hid ((wr.setCells g (kk * 2) (Builtin.zeroCells #[.int .u16 0, .int .u64 0] (n - kk)).toList).ownsRow B 39 2 (.slice (some ⟨g, 0, none⟩) kk cap) kk (dv (compactUpTo d.toArray n))) := by
                have h1 := own_take hy1 (k := kk) (by omega)
                rw [hy2, dv_take, HT.out] at h1
                exact h1
              have HG := Lib.hid (G.out.trans hy3)
              clear hI hy1 hy2 hy3 hkk
              generalize wr.setCells g (kk * 2) (Builtin.zeroCells #[.int .u16 0, .int .u64 0] (n - kk)).toList = wz at hcl HY HG
              go_wp2
              go_ret
              exact ⟨kk, rfl, HL.out.symm, HY.out, HG.out⟩
        · have key : ((x1 : Int) == (y1 : Int)) = false ∨ (x1 = y1 ∧ ((x2 : Int) == (y2 : Int)) = false) := by
            by_cases e : x1 = y1
            · refine .inr ⟨e, ?_⟩; rw [beq_eq_false_iff_ne]; intro e2; exact hxy ⟨e, by omega⟩
            · refine .inl ?_; rw [beq_eq_false_iff_ne]; omega
          have HK : Hid (∀ j, j < i + 1 + 1 → keeps d.toArray j = true) := fun j hj => by
            by_cases e : j = i + 1
            · subst e
              refine keeps_pos ?_
              rw [BB.out.1, BB.out.2]
              intro e
              cases e
              exact hxy ⟨rfl, rfl⟩
            · exact A.out j (by omega)
          clear hxy hcap
          rcases key with k1 | ⟨rfl, k1⟩
          all_goals
            go_wp2_with fail
            go_quiet (fail)
            go_wp2
            go_roundw
            case rel => exact ⟨i + 1 + 1, _, by go_num, by omega, by omega, rfl, HK.out⟩
            case measure => simp [intOf]; omega
      · have e : compactUpTo d.toArray n = d := by
          obtain rfl : k = n := by omega
          rw [compactUpTo_all d.toArray k A.out]
          have := range_map_get d.toArray
          simp only [List.size_toArray, HN.out] at this
          rw [this]
        have E := Lib.hid e
        clear e
        go_wp2
        go_ret
        rw [E.out]
        exact ⟨n, rfl, HN.out.symm, H.out, ⟨rfl, rfl, rfl, Nat.le_refl _, fun _ _ _ => rfl⟩⟩
end Go.Proofs.YtblgbbpbhcaodaaGreat.Dt
