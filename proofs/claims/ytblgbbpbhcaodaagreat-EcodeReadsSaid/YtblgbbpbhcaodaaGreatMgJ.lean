/- Words and contracts that the proofs of this seat stand on, part 10 of 14. -/
import Derived.Test.YtblgbbpbhcaodaaGreatMgI
import Derived.Test.YtblgbbpbhcaodaaGreatMgH
import Derived.Test.YtblgbbpbhcaodaaGreatMgG
import Derived.Deep.RegionHeld3
import Derived.Test.YtblgbbpbhcaodaaGreatMgC

/- The contract of the document's Decode of layer ecode (gen-dec.py printed it). -/
namespace Go.Proofs.YtblgbbpbhcaodaaGreat.Ec
open Go.ChangeShapes Go.WideShapes Go.ChangeAt Go.RowKit Go.Proofs.YtblgbbpbhcaodaaGreat.Dc
set_option linter.unusedVariables false
set_option maxRecDepth 4000

/-- what is decoded. -/
def DecGot (w : World) (b : List Nat) (r : Ending) (V : World) : Prop := ∃ q : Ev.EV, r = .returned (.tuple #[q.val, .int .i64 ((decE b).2 : Int)]) ∧ EO w.heap.size V q (decE b).1 ∧ Below w.heap.size w V
theorem dec_done {w V : World} {q : Ev.EV} {x : Evt} (hb : Below w.heap.size w V) (o : EO (w.heap.size + 1) V q x) (u0 u1 u2 u3 u4 u5 u6 : Value) :
    EO w.heap.size (((((((V.setCell ⟨w.heap.size, 0, none⟩ u0).setCell ⟨w.heap.size, 1, none⟩ u1).setCell ⟨w.heap.size, 2, none⟩ u2).setCell ⟨w.heap.size, 3, none⟩ u3).setCell ⟨w.heap.size, 4, none⟩ u4).setCell ⟨w.heap.size, 5, none⟩ u5).setCell ⟨w.heap.size, 6, none⟩ u6) q x ∧
      Below w.heap.size w (((((((V.setCell ⟨w.heap.size, 0, none⟩ u0).setCell ⟨w.heap.size, 1, none⟩ u1).setCell ⟨w.heap.size, 2, none⟩ u2).setCell ⟨w.heap.size, 3, none⟩ u3).setCell ⟨w.heap.size, 4, none⟩ u4).setCell ⟨w.heap.size, 5, none⟩ u5).setCell ⟨w.heap.size, 6, none⟩ u6) := by
  have st : ∀ (V : World) (i : Nat) (u : Value), Below w.heap.size w V → EO (w.heap.size + 1) V q x → Below w.heap.size w (V.setCell ⟨w.heap.size, i, none⟩ u) ∧ EO (w.heap.size + 1) (V.setCell ⟨w.heap.size, i, none⟩ u) q x :=
    fun V i u h1 h2 => ⟨h1.setCell (Nat.le_refl _) u, h2.turn (Nu.turn_set V w.heap.size i u) (fun b e => by have e2 := Option.some.inj e; omega)⟩
  obtain ⟨a0, c0⟩ := st _ 0 u0 hb o
  obtain ⟨a1, c1⟩ := st _ 1 u1 a0 c0
  obtain ⟨a2, c2⟩ := st _ 2 u2 a1 c1
  obtain ⟨a3, c3⟩ := st _ 3 u3 a2 c2
  obtain ⟨a4, c4⟩ := st _ 4 u4 a3 c3
  obtain ⟨a5, c5⟩ := st _ 5 u5 a4 c4
  obtain ⟨a6, c6⟩ := st _ 6 u6 a5 c5
  exact ⟨c6.less (Nat.le_succ _), a6⟩
theorem two_grown' {w V : World} {h : Nat} {rb : Option Nat} (hg : w.grownBy V (some h)) : Nu.Two w V h rb := ⟨hg.os, hg.tape, hg.output, hg.size, fun k hk h1 _ => hg.block k hk (fun e => by cases e; exact h1 rfl)⟩
/-- a reader of the document's in a new block. -/
abbrev rdbox (A : Option Addr) (n c : Nat) : Obj := .cells #[.slice A n c, .int .i64 0, .int .i64 0] 28
theorem rd_start {w : World} {A : Option Addr} {b : List Nat} {n c : Nat} (h : BL w A b n c) (hn : n ≤ 9223372036854775807) : RD w.heap.size w.heap.size A n c b (w.alloc (rdbox A n c)) (b, 0) :=
  ⟨0, Nu.At.new w _ _, h.at_.below (below_new w _), h.len, hn, h.cap, (fun e => (h.nil e).2), Nat.zero_le _, (fun _ => rfl), fun e => absurd rfl e⟩
theorem rend_st (w : World) (h B : Nat) (A : Option Addr) (n c : Nat) (b : List Nat) (s : St) (k : RD h B A n c b w s) (hB : B ≤ h) :
    Calls Tryz.prog 10 #[.pointer (some ⟨h, 0, none⟩)] w fun r V => r = .returned (.int .i64 ((endN s : Nat) : Int)) ∧ RD h B A n c b V ([], endN s) ∧ w.grownBy V (some h) := Nu.rend_any w h B A n c b s.1 s.2 k hB

set_option maxHeartbeats 8000000 in
theorem rdec_any (w : World) (A : Option Addr) (b : List Nat) (n c : Nat) (h : BL w A b n c) (hn : n ≤ 1048576) :
    Calls Tryz.prog 12 #[.slice A n c] w (DecGot w b) := by
  have hb0 := below_new w zbox
  have HR := Lib.hid (rd_start (h.up hb0) (by omega))
  have Z0 := Lib.hid ((Nu.At.new w 42 zcells).below (below_new (w.alloc zbox) (rdbox A n c)) (by rw [alloc_size]; omega))
  have B0 := Lib.hid (hb0.trans ((below_new (w.alloc zbox) (rdbox A n c)).mono hb0.size))
  have hs0 := alloc_size w zbox
  have hs1 := alloc_size (w.alloc zbox) (rdbox A n c)
  have CC := rget_any ((w.alloc zbox).alloc (rdbox A n c)) (w.alloc zbox).heap.size (w.alloc zbox).heap.size A n c b (b, 0) HR.out (Nat.le_refl _) h.max (by rw [h.len]; omega)
  obtain ⟨D, hD⟩ : ∃ D, evtR (b, 0) = D := ⟨_, rfl⟩
  have hdec : decE b = if endN D.2 = 0 then (D.1, 0) else (evtZ, endN D.2) := by rw [← hD]; rfl
  rw [hD] at CC
  have HD := Lib.hid hdec
  clear h hD hdec hb0
  unfold DecGot
  obtain ⟨E, hE⟩ : ∃ E, decE b = E := ⟨_, rfl⟩
  rw [hE] at HD ⊢
  clear hE
  have HS0 := Lib.hid hs0
  have HS1 := Lib.hid hs1
  rw [hs0] at CC HR
  clear hs0 hs1
  go_enter Tryz.func12, Tryz.ntmps12
  go_wp2_with fail
  refine CC.mono ?_
  rintro e w2 ⟨q, rfl, o2, k2, g2⟩
  have HW1 : Hid (((w.alloc zbox).alloc (rdbox A n c)).heap.size = w.heap.size + 2) := Lib.hid (by rw [HS1.out, HS0.out])
  rw [HW1.out] at o2
  have B2 := Lib.hid (B0.out.trans ((Nu.below_two (rb := none) (two_grown' g2) (Nat.le_succ _) (fun k e => by cases e) (by rw [HW1.out]; omega))))
  have Z2 := Lib.hid ((Z0.out.kept g2 (fun e => by have e2 := Option.some.inj e; omega)).below (below_new w2 q.box) (Nu.At.lt (Z0.out.kept g2 (fun e => by have e2 := Option.some.inj e; omega))))
  have O2 := Lib.hid (o2.below (below_new w2 q.box))
  have K2 := Lib.hid ((rd_rdr (Nat.le_refl _)).new k2 q.box)
  have V2 := Lib.hid (Nu.At.new w2 42 #[.int .u16 (q.dev : Int), .int .u64 (q.num : Int), .int .u8 (q.kind : Int), .int .u64 (q.cid : Int), .int .u8 (q.fld : Int), .string q.txt, .slice q.adr q.len q.cap])
  have BX := Lib.hid (bel_alloc q.box B2.out)
  have hgs : w.heap.size + 2 ≤ w2.heap.size := by rw [← HW1.out]; exact g2.size
  have CE := rend_st (w2.alloc q.box) _ _ A n c b _ K2.out (Nat.le_refl _)
  clear o2 k2 g2 CC Z0 B0 HR
  go_wp2_with fail
  generalize w2.alloc q.box = w3 at *
  refine CE.mono ?_
  rintro e w4 ⟨rfl, k4, g4⟩
  have Z4 := Lib.hid (Z2.out.kept g4 (fun e => by have e2 := Option.some.inj e; omega))
  have O4 := Lib.hid ((O2.out.turn g4 (fun t e => by have e2 := Option.some.inj e; omega)).less (Nat.le_succ _))
  have B4 := Lib.hid (BX.out.trans (Nu.below_two (rb := none) (two_grown' g4) (Nat.le_succ _) (fun k e => by cases e) BX.out.size))
  have V4 := Lib.hid (V2.out.kept g4 (fun e => by have e2 := Option.some.inj e; omega))
  obtain ⟨x0, x1, x2, x3, x4, x5, x6⟩ := box_cells V4.out
  generalize endN D.2 = en at *
  clear k4 g4 CE K2 Z2 O2 BX V2 B2
  by_cases he : en = 0
  · subst he
    have hd : Hid (E = (D.1, 0)) := Lib.hid (by rw [HD.out]; rfl)
    have Q1 := Z4.out.set 0 (.int .u16 (q.dev : Int))
    have Q2 := Q1.set 1 (.int .u64 (q.num : Int))
    have Q3 := Q2.set 2 (.int .u8 (q.kind : Int))
    have Q4 := Q3.set 3 (.int .u64 (q.cid : Int))
    have Q5 := Q4.set 4 (.int .u8 (q.fld : Int))
    have Q6 := Q5.set 5 (.string q.txt)
    have Q7 := Q6.set 6 (.slice q.adr q.len q.cap)
    have z0 := Z4.out.cell 0
    have f0 := Z4.out.frozen 0
    have z1 := Q1.cell 1
    have f1 := Q1.frozen 1
    have z2 := Q2.cell 2
    have f2 := Q2.frozen 2
    have z3 := Q3.cell 3
    have f3 := Q3.frozen 3
    have z4 := Q4.cell 4
    have f4 := Q4.frozen 4
    have z5 := Q5.cell 5
    have f5 := Q5.frozen 5
    have z6 := Q6.cell 6
    have f6 := Q6.frozen 6
    have y0 := Q7.cell 0
    have y1 := Q7.cell 1
    have y2 := Q7.cell 2
    have y3 := Q7.cell 3
    have y4 := Q7.cell 4
    have y5 := Q7.cell 5
    have y6 := Q7.cell 6
    simp at z0 z1 z2 z3 z4 z5 z6 y0 y1 y2 y3 y4 y5 y6
    clear Q1 Q2 Q3 Q4 Q5 Q6 Q7
    have HG := Lib.hid (dec_done B4.out O4.out (.int .u16 (q.dev : Int)) (.int .u64 (q.num : Int)) (.int .u8 (q.kind : Int)) (.int .u64 (q.cid : Int)) (.int .u8 (q.fld : Int)) (.string q.txt) (.slice q.adr q.len q.cap))
    go_wp2
    refine bodyPost_ret (v := .tuple #[q.val, .int .i64 0]) ?_ rfl ?_
    · simp [results, Tryz.f12, go_sem, y0, y1, y2, y3, y4, y5, y6]
    · rw [hd.out]
      exact ⟨q, rfl, HG.out.1, HG.out.2⟩
  · have hd : Hid (E = (evtZ, en)) := Lib.hid (by rw [HD.out, if_neg he])
    have hi : ((en : Int) == 0) = false := by rw [beq_eq_false_iff_ne]; omega
    have hj : ((en : Int) != 0) = true := by rw [bne, hi]; rfl
    have hk : ¬ (en : Int) = 0 := by omega
    have Q1 := Z4.out.set 0 (.int .u16 0)
    have Q2 := Q1.set 1 (.int .u64 0)
    have Q3 := Q2.set 2 (.int .u8 0)
    have Q4 := Q3.set 3 (.int .u64 0)
    have Q5 := Q4.set 4 (.int .u8 0)
    have Q6 := Q5.set 5 (.string ⟨#[]⟩)
    have Q7 := Q6.set 6 (.slice none 0 0)
    have z0 := Z4.out.cell 0
    have f0 := Z4.out.frozen 0
    have z1 := Q1.cell 1
    have f1 := Q1.frozen 1
    have z2 := Q2.cell 2
    have f2 := Q2.frozen 2
    have z3 := Q3.cell 3
    have f3 := Q3.frozen 3
    have z4 := Q4.cell 4
    have f4 := Q4.frozen 4
    have z5 := Q5.cell 5
    have f5 := Q5.frozen 5
    have z6 := Q6.cell 6
    have f6 := Q6.frozen 6
    have y0 := Q7.cell 0
    have y1 := Q7.cell 1
    have y2 := Q7.cell 2
    have y3 := Q7.cell 3
    have y4 := Q7.cell 4
    have y5 := Q7.cell 5
    have y6 := Q7.cell 6
    simp at z0 z1 z2 z3 z4 z5 z6 y0 y1 y2 y3 y4 y5 y6
    clear Q1 Q2 Q3 Q4 Q5 Q6 Q7
    have HG := Lib.hid (dec_done B4.out (EO.none_ (w.heap.size + 1) w4) (.int .u16 0) (.int .u64 0) (.int .u8 0) (.int .u64 0) (.int .u8 0) (.string ⟨#[]⟩) (.slice none 0 0))
    clear x0 x1 x2 x3 x4 x5 x6
    go_wp2
    refine bodyPost_ret (v := .tuple #[Ev.EV.val ⟨0, 0, 0, 0, 0, ⟨#[]⟩, none, 0, 0⟩, .int .i64 (en : Int)]) ?_ rfl ?_
    · simp [results, Tryz.f12, go_sem, y0, y1, y2, y3, y4, y5, y6]
    · rw [hd.out]
      exact ⟨_, rfl, HG.out.1, HG.out.2⟩
end Go.Proofs.YtblgbbpbhcaodaaGreat.Ec

/- EcodeReads: the law's walk. -/
namespace Go.Proofs.YtblgbbpbhcaodaaGreat.Ec
open Go.ChangeShapes Go.WideShapes Go.ChangeAt Go.RowKit Go.Proofs.YtblgbbpbhcaodaaGreat.Dc
set_option linter.unusedVariables false
set_option maxRecDepth 4000

/-- two readers, the program's in block g, the document's in block h. -/
structure Both (w V : World) (g h : Nat) (A : Option Addr) (n c : Nat) (b : List Nat) (s t : St) : Prop where
  pr : RP g g V s
  rr : RD h w.heap.size A n c b V t
  gr : Below w.heap.size w V
  gh : g < h
  wg : w.heap.size ≤ g
theorem Both.prog {w V U : World} {g h n c : Nat} {A : Option Addr} {b : List Nat} {s s' t : St} (k : Both w V g h A n c b s t) (hp : RP g g U s') (hg : V.grownBy U (some g)) : Both w U g h A n c b s' t :=
  ⟨hp, Nu.RR.kept k.rr hg k.gr.size (fun e => by have := k.gh; cases e; omega) (fun q e => by cases e; exact k.wg), k.gr.grown hg k.gr.size (fun q e => by cases e; exact k.wg), k.gh, k.wg⟩
theorem Both.doc {w V U : World} {g h n c : Nat} {A : Option Addr} {b : List Nat} {s t t' : St} (k : Both w V g h A n c b s t) (hr : RD h w.heap.size A n c b U t') (hg : V.grownBy U (some h)) : Both w U g h A n c b s t' :=
  ⟨Nu.PR.kept k.pr hg (Nat.le_of_lt (Nu.PR.lt k.pr)) (fun e => by have := k.gh; cases e; omega) (fun q e => by cases e; exact Nat.le_of_lt k.gh), hr, k.gr.grown hg k.gr.size (fun q e => by cases e; exact Nat.le_trans k.wg (Nat.le_of_lt k.gh)), k.gh, k.wg⟩
theorem Both.more {w V U : World} {g h n c : Nat} {A : Option Addr} {b : List Nat} {s t : St} (k : Both w V g h A n c b s t) (hb : Below V.heap.size V U) : Both w U g h A n c b s t :=
  ⟨Nu.PR.kept k.pr (Nu.turn_below hb none) (Nat.le_of_lt (Nu.PR.lt k.pr)) (fun e => by cases e) (fun q e => by cases e), Nu.RR.kept k.rr (Nu.turn_below hb none) k.gr.size (fun e => by cases e) (fun q e => by cases e), k.gr.trans (hb.mono k.gr.size), k.gh, k.wg⟩
theorem Both.at_ {w V : World} {g h n c : Nat} {A : Option Addr} {b : List Nat} {s t : St} (k : Both w V g h A n c b s t) : g < V.heap.size ∧ h < V.heap.size := ⟨Nu.PR.lt k.pr, Nu.RR.lt k.rr⟩
theorem Both.le {w V : World} {g h n c : Nat} {A : Option Addr} {b : List Nat} {s t : St} (k : Both w V g h A n c b s t) : w.heap.size ≤ h := Nat.le_trans k.wg (Nat.le_of_lt k.gh)
theorem both_new {w w1 : World} {g n c : Nat} {A : Option Addr} {b : List Nat} (h : BL w A b n c) (hn : n ≤ 9223372036854775807) (hg : w.heap.size ≤ g) (hp : Nu.PR w1 g g b 0) (hb : Below w.heap.size w w1) : Both w (w1.alloc (rdbox A n c)) g w1.heap.size A n c b (b, 0) (b, 0) :=
  ⟨hp.kept (Nu.turn_below (below_new w1 _) none) (Nat.le_of_lt hp.lt) (fun e => by cases e) (fun q e => by cases e),
   ⟨0, Nu.At.new w1 _ _, (h.at_.below hb).below ((Below.refl _ _).alloc hb.size _), h.len, hn, h.cap, (fun e => (h.nil e).2), Nat.zero_le _, (fun _ => rfl), fun e => absurd rfl e⟩,
   hb.alloc hb.size _, hp.lt, hg⟩

/-- two events in their boxes. -/
abbrev Held2 (g8 g9 : Nat) (q8 q9 : Ev.EV) (V : World) : Prop := (V.cell? ⟨g8, 0, none⟩ = some (.int .u16 (q8.dev : Int)) ∧ V.cell? ⟨g8, 1, none⟩ = some (.int .u64 (q8.num : Int)) ∧ V.cell? ⟨g8, 2, none⟩ = some (.int .u8 (q8.kind : Int)) ∧ V.cell? ⟨g8, 3, none⟩ = some (.int .u64 (q8.cid : Int)) ∧ V.cell? ⟨g8, 4, none⟩ = some (.int .u8 (q8.fld : Int)) ∧ V.cell? ⟨g8, 5, none⟩ = some (.string q8.txt) ∧ V.cell? ⟨g8, 6, none⟩ = some (.slice q8.adr q8.len q8.cap)) ∧ (V.cell? ⟨g9, 0, none⟩ = some (.int .u16 (q9.dev : Int)) ∧ V.cell? ⟨g9, 1, none⟩ = some (.int .u64 (q9.num : Int)) ∧ V.cell? ⟨g9, 2, none⟩ = some (.int .u8 (q9.kind : Int)) ∧ V.cell? ⟨g9, 3, none⟩ = some (.int .u64 (q9.cid : Int)) ∧ V.cell? ⟨g9, 4, none⟩ = some (.int .u8 (q9.fld : Int)) ∧ V.cell? ⟨g9, 5, none⟩ = some (.string q9.txt) ∧ V.cell? ⟨g9, 6, none⟩ = some (.slice q9.adr q9.len q9.cap))
set_option maxHeartbeats 16000000 in
theorem reads_walk (P : PEc) (w : World) (A : Option Addr) (b : List Nat) (n c : Nat) (most : Int) (hb : BL w A b n c) (m1 : -9223372036854775808 ≤ most) (m2 : most < 9223372036854775808) :
    Calls Tryz.prog 3 #[.slice A n c, .int .i64 most] w fun e w' => e = .returned (.bool true) ∧ Below w.heap.size w w' := by
  by_cases hn : 1000 < n
  · have d1 : decide ((1000 : Int) < (n : Int)) = true := decide_eq_true (by omega)
    clear hb
    go_enter Tryz.func3, Tryz.ntmps3
    go_wp2_with fail
    refine (works_any P _).mono ?_
    rintro e w1 ⟨rfl, b1⟩
    have HE := Lib.hid b1
    clear b1
    go_wp2
    go_ret
    exact ⟨rfl, HE.out⟩
  · have d1 : decide ((1000 : Int) < (n : Int)) = false := decide_eq_false (by omega)
    have H := Lib.hid hb
    have CN := Lib.hid (Nu.new_any w A b n c hb.len hb.nil hb.at_ (by omega))
    have hlb : b.length ≤ 1000 := by rw [hb.len]; omega
    clear hb
    obtain ⟨D1, hD1⟩ : ∃ D, evtsR most.toNat (b, 0) = D := ⟨_, rfl⟩
    obtain ⟨D2, hD2⟩ : ∃ D, evtR (b, 0) = D := ⟨_, rfl⟩
    have X1 := Lib.hid hD1
    have X2 := Lib.hid hD2
    clear hD1 hD2
    go_enter Tryz.func3, Tryz.ntmps3
    go_wp2_with fail
    refine CN.out.mono ?_
    rintro r w1 ⟨g, rfl, hg, hp, hb1⟩
    have K0 := Lib.hid (both_new H.out (by omega) hg hp hb1)
    clear CN hg hp hb1
    go_wp2_with fail
    obtain ⟨h, hh⟩ : ∃ h, w1.heap.size = h := ⟨_, rfl⟩
    rw [hh] at K0 ⊢
    generalize w1.alloc (rdbox A n c) = w2 at *
    have C1 := P.getall w2 g g (b, 0) most K0.out.pr (Nat.le_refl _) (by show b.length ≤ _; omega) m1 m2
    rw [X1.out] at C1
    refine C1.mono ?_
    rintro e w3 ⟨A5, n5, c5, rfl, l5, p3, g3⟩
    have hlt := K0.out.at_
    have K1 := Lib.hid (K0.out.prog p3 g3)
    have L5 := Lib.hid l5
    clear C1 K0 p3 g3 l5
    go_wp2_with fail
    have C2 := rgetall_any w3 h w.heap.size A n c b (b, 0) most K1.out.rr K1.out.le H.out.max (by show b.length ≤ _; omega) m1 m2
    rw [X1.out] at C2
    refine C2.mono ?_
    rintro e w4 ⟨A6, n6, c6, rfl, l6, p4, g4⟩
    have K2 := Lib.hid (K1.out.doc p4 g4)
    have L5' := Lib.hid (L5.out.turn g4 (fun t e => by cases e; exact hlt.2))
    have C3 := Ev.rall_any w4 A5 A6 D1.1 D1.1 n5 n6 c5 c6 L5'.out.at_ l6.at_
    rw [decide_eq_true rfl] at C3
    clear C2 K1 p4 g4 L5 l6 hlt L5'
    go_wp2_with fail
    refine C3.mono ?_
    rintro e w5 ⟨rfl, b5⟩
    have K3 := Lib.hid (K2.out.more b5)
    clear C3 K2 b5
    go_wp2_with fail
    refine (Nu.end_any w5 g g D1.2.1 D1.2.2 K3.out.pr (Nat.le_refl _)).mono ?_
    rintro e w6 ⟨rfl, p6, g6⟩
    have K4 := Lib.hid (K3.out.prog (s' := ([], endN D1.2)) p6 g6)
    clear K3 p6 g6
    go_wp2_with fail
    refine (rend_st w6 h w.heap.size A n c b D1.2 K4.out.rr K4.out.le).mono ?_
    rintro e w7 ⟨rfl, p7, g7⟩
    have B7 := Lib.hid (K4.out.doc p7 g7).gr
    have hen : endN D1.2 = Nu.endE D1.2.1 D1.2.2 := rfl
    clear K4 p7 g7
    rw [← hen]
    clear hen
    generalize endN D1.2 = en at *
    go_wp2_with fail
    refine (P.decode w7 A b n c (H.out.up B7.out) (by omega)).mono ?_
    rintro e w8 ⟨q8, rfl, o8, b8⟩
    have O8 := Lib.hid (o8.below (below_new w8 q8.box))
    have B8 := Lib.hid (B7.out.trans (b8.mono B7.out.size))
    have B8' := Lib.hid (bel_alloc q8.box B8.out)
    have V8 := Lib.hid (Nu.At.new w8 42 #[.int .u16 (q8.dev : Int), .int .u64 (q8.num : Int), .int .u8 (q8.kind : Int), .int .u64 (q8.cid : Int), .int .u8 (q8.fld : Int), .string q8.txt, .slice q8.adr q8.len q8.cap])
    clear o8 b8 B7
    go_wp2_with fail
    generalize w8.alloc q8.box = v8 at *
    generalize w8.heap.size = g8 at *
    refine (rdec_any v8 A b n c (H.out.up B8'.out) (by omega)).mono ?_
    rintro e w9 ⟨q9, rfl, o9, b9⟩
    have O9 := Lib.hid (o9.below (below_new w9 q9.box))
    have O8' := Lib.hid ((O8.out.below b9).below (below_new w9 q9.box))
    have B9 := Lib.hid (B8'.out.trans (b9.mono B8'.out.size))
    have B9' := Lib.hid (bel_alloc q9.box B9.out)
    have V8' := Lib.hid ((V8.out.below b9 V8.out.lt).below (below_new w9 q9.box) (V8.out.below b9 V8.out.lt).lt)
    have V9 := Lib.hid (Nu.At.new w9 42 #[.int .u16 (q9.dev : Int), .int .u64 (q9.num : Int), .int .u8 (q9.kind : Int), .int .u64 (q9.cid : Int), .int .u8 (q9.fld : Int), .string q9.txt, .slice q9.adr q9.len q9.cap])
    clear o9 b9 B8 B8' O8 V8
    go_wp2_with fail
    generalize w9.alloc q9.box = v9 at *
    generalize w9.heap.size = g9 at *
    have CN2 := Nu.new_any v9 A b n c H.out.len H.out.nil (H.out.up B9'.out).at_ (by omega)
    refine CN2.mono ?_
    rintro r w10 ⟨g2, rfl, hg2, hp2, hb10⟩
    have K10 := Lib.hid (both_new (H.out.up B9'.out) (by omega) hg2 hp2 hb10)
    have hb11 := hb10.alloc hb10.size (rdbox A n c)
    have V8b := Lib.hid (V8'.out.below hb11 V8'.out.lt)
    have V9b := Lib.hid (V9.out.below hb11 V9.out.lt)
    have O8b := Lib.hid (O8'.out.below hb11)
    have O9b := Lib.hid (O9.out.below hb11)
    clear CN2 hg2 hp2 hb10 hb11 O8' O9 V8b V9b
    go_upto_region 9 with fail
    generalize w10.alloc (rdbox A n c) = w11 at *
    generalize w10.heap.size = h2 at *
    have HS : Hid (∀ V (t : St) (s : St), Both v9 V g2 h2 A n c b s t → Held2 g8 g9 q8 q9 V) := Lib.hid (fun V t s hk => ⟨box_cells (V8'.out.below hk.gr V8'.out.lt), box_cells (V9.out.below hk.gr V9.out.lt)⟩)
    have hS0 := HS.out w11 _ _ K10.out
    have CS1 : ∀ W, Below w11.heap.size w11 W → Calls Tryz.prog 13 #[q8.val, q9.val] W fun e V => e = .returned (.bool true) ∧ Below w11.heap.size w11 V := fun W hW => by
      have h := Ev.rsame_any W q8 q9 (decE b).1 (decE b).1 (O8b.out.is.up hW) (O9b.out.is.up hW)
      rw [decide_eq_true rfl] at h
      exact h.mono fun e V ⟨h1, h2⟩ => ⟨h1, hW.trans (h2.mono hW.size)⟩
    have CG1 : ∀ W, Below w11.heap.size w11 W → Calls Tryz.prog 14 #[.pointer (some ⟨g2, 0, none⟩)] W fun e V => ∃ qa : Ev.EV, e = .returned qa.val ∧ EO w11.heap.size V qa D2.1 ∧ Both v9 V g2 h2 A n c b D2.2 (b, 0) := fun W hW => by
      have hk := K10.out.more hW
      have h := P.get W g2 g2 (b, 0) hk.pr (Nat.le_refl _) (by show b.length ≤ _; omega)
      rw [X2.out] at h
      refine h.mono ?_
      rintro e V ⟨qa, rfl, oa, pa, ga⟩
      exact ⟨qa, rfl, oa.less hW.size, hk.prog pa ga⟩
    have CG2 : ∀ (W : World) (qa : Ev.EV), EO w11.heap.size W qa D2.1 → Both v9 W g2 h2 A n c b D2.2 (b, 0) → Calls Tryz.prog 15 #[.pointer (some ⟨h2, 0, none⟩)] W fun e V => ∃ qb : Ev.EV, e = .returned qb.val ∧ Ev.EventIs V V.heap.size qa D2.1 ∧ Ev.EventIs V V.heap.size qb D2.1 ∧ Both v9 V g2 h2 A n c b D2.2 D2.2 := fun W qa oa hk => by
      have h := rget_any W h2 v9.heap.size A n c b (b, 0) hk.rr hk.le H.out.max (by show b.length ≤ _; omega)
      rw [X2.out] at h
      refine h.mono ?_
      rintro e V ⟨qb, rfl, ob, pb, gb⟩
      exact ⟨qb, rfl, (oa.turn gb (fun t e => by cases e; exact K10.out.at_.2)).is, ob.is, hk.doc pb gb⟩
    have CS2 : ∀ (W : World) (qa qb : Ev.EV), Ev.EventIs W W.heap.size qa D2.1 → Ev.EventIs W W.heap.size qb D2.1 → Both v9 W g2 h2 A n c b D2.2 D2.2 → Calls Tryz.prog 13 #[qa.val, qb.val] W fun e V => e = .returned (.bool true) ∧ Both v9 V g2 h2 A n c b D2.2 D2.2 := fun W qa qb ha hb hk => by
      have h := Ev.rsame_any W qa qb D2.1 D2.1 ha hb
      rw [decide_eq_true rfl] at h
      exact h.mono fun e V ⟨h1, h2⟩ => ⟨h1, hk.more h2⟩
    have hei : (((decE b).2 : Int) == ((decE b).2 : Int)) = true := by simp
    generalize (decE b).2 = eb at *
    refine wp_region_noPanic ?_
    refine wp_region_held_drew (S := fun V => (V.cell? ⟨g8, 0, none⟩ = some (.int .u16 (q8.dev : Int)) ∧ V.cell? ⟨g8, 1, none⟩ = some (.int .u64 (q8.num : Int)) ∧ V.cell? ⟨g8, 2, none⟩ = some (.int .u8 (q8.kind : Int)) ∧ V.cell? ⟨g8, 3, none⟩ = some (.int .u64 (q8.cid : Int)) ∧ V.cell? ⟨g8, 4, none⟩ = some (.int .u8 (q8.fld : Int)) ∧ V.cell? ⟨g8, 5, none⟩ = some (.string q8.txt) ∧ V.cell? ⟨g8, 6, none⟩ = some (.slice q8.adr q8.len q8.cap)) ∧ (V.cell? ⟨g9, 0, none⟩ = some (.int .u16 (q9.dev : Int)) ∧ V.cell? ⟨g9, 1, none⟩ = some (.int .u64 (q9.num : Int)) ∧ V.cell? ⟨g9, 2, none⟩ = some (.int .u8 (q9.kind : Int)) ∧ V.cell? ⟨g9, 3, none⟩ = some (.int .u64 (q9.cid : Int)) ∧ V.cell? ⟨g9, 4, none⟩ = some (.int .u8 (q9.fld : Int)) ∧ V.cell? ⟨g9, 5, none⟩ = some (.string q9.txt) ∧ V.cell? ⟨g9, 6, none⟩ = some (.slice q9.adr q9.len q9.cap))) (by kernel_rfl) (HS.out _ _ _ (K10.out.more (bel_drew (Below.refl _ _)))) (fun hHeld => ?_)
    refine wpAnyH_take (i := 0) (oi := { dst := some 52, op := Op.load 42 (Operand.tmp 7), type := 42, pos := "law.go:59", after := #[], guard := none }) (v := ?_) rfl (by kernel_rfl) (by kernel_rfl) (by kernel_rfl) (fun _ _ _ h => h) (Or.inl ⟨by rfl, ?_⟩) (by assumption) ?_
    rotate_left
    · (intro w hSw; (try dsimp only at hSw); go_simp <;> (with_reducible rfl))
    try simp only [Act.put, List.setIfInBounds_toArray, List.set_cons_zero, List.set_cons_succ]
    refine wpAnyH_take (i := 1) (oi := { dst := some 53, op := Op.load 42 (Operand.tmp 9), type := 42, pos := "law.go:59", after := #[], guard := none }) (v := ?_) rfl (by kernel_rfl) (by kernel_rfl) (by kernel_rfl) (fun _ _ _ h => h) (Or.inl ⟨by rfl, ?_⟩) (by assumption) ?_
    rotate_left
    · (intro w hSw; (try dsimp only at hSw); go_simp <;> (with_reducible rfl))
    try simp only [Act.put, List.setIfInBounds_toArray, List.set_cons_zero, List.set_cons_succ]
    refine wpAnyH_ready (rs := [2]) (by kernel_rfl) (by simp) ?_
    refine AllReadyH.cons (o := { dst := some 54, op := Op.call { callee := Callee.value (Operand.func 13), args := #[Operand.tmp 52, Operand.tmp 53], argTypes := #[42, 42] }, type := 4, pos := "law.go:59", after := #[{ on := 0, ground := Ground.data }, { on := 1, ground := Ground.data }], guard := none }) rfl (fun K hK => ?_) AllReadyH.nil
    go_simp
    go_at_call 13; (with_reducible refine (CS1 _ ?_).mono ?_); (focus (repeat (first | exact Below.refl _ _ | assumption | apply bel_drew))); rintro e V1 ⟨rfl, bv1⟩; have hc1 := HS.out V1 _ _ (K10.out.more bv1)
    refine hK.out _ _ (by assumption) (fun hH => ?_)
    clear hHeld hK K
    have hHeld := hH
    clear hH
    try simp only [Act.put, List.setIfInBounds_toArray, List.set_cons_zero, List.set_cons_succ]
    refine wpAnyH_take (i := 3) (oi := { dst := some 55, op := Op.move (Operand.tmp 54), type := 4, pos := "law.go:59", after := #[{ on := 2, ground := Ground.data }, { on := 2, ground := Ground.chain }], guard := none }) (v := ?_) rfl (by kernel_rfl) (by kernel_rfl) (by kernel_rfl) (fun _ _ _ h => h) (Or.inl ⟨by rfl, ?_⟩) (by assumption) ?_
    rotate_left
    · (intro w hSw; (try dsimp only at hSw); go_simp <;> (with_reducible rfl))
    try simp only [Act.put, List.setIfInBounds_toArray, List.set_cons_zero, List.set_cons_succ]
    refine wpAnyH_take (i := 4) (oi := { dst := some 56, op := Op.move (Operand.tmp 8), type := 33, pos := "law.go:59", after := #[{ on := 3, ground := Ground.guard }], guard := some (3, true) }) (v := ?_) rfl (by kernel_rfl) (by kernel_rfl) (by kernel_rfl) (fun _ _ _ h => h) (Or.inl ⟨by rfl, ?_⟩) (by assumption) ?_
    rotate_left
    · (intro w hSw; (try dsimp only at hSw); go_simp <;> (with_reducible rfl))
    try simp only [Act.put, List.setIfInBounds_toArray, List.set_cons_zero, List.set_cons_succ]
    refine wpAnyH_take (i := 5) (oi := { dst := some 57, op := Op.move (Operand.tmp 10), type := 3, pos := "law.go:59", after := #[{ on := 3, ground := Ground.guard }], guard := some (3, true) }) (v := ?_) rfl (by kernel_rfl) (by kernel_rfl) (by kernel_rfl) (fun _ _ _ h => h) (Or.inl ⟨by rfl, ?_⟩) (by assumption) ?_
    rotate_left
    · (intro w hSw; (try dsimp only at hSw); go_simp <;> (with_reducible rfl))
    try simp only [Act.put, List.setIfInBounds_toArray, List.set_cons_zero, List.set_cons_succ]
    refine wpAnyH_take (i := 6) (oi := { dst := some 58, op := Op.binOp BinOp.eql 3 (Operand.tmp 56) (Operand.tmp 57) 3, type := 4, pos := "law.go:59", after := #[{ on := 4, ground := Ground.data }, { on := 5, ground := Ground.data }, { on := 3, ground := Ground.guard }], guard := some (3, true) }) (v := ?_) rfl (by kernel_rfl) (by kernel_rfl) (by kernel_rfl) (fun _ _ _ h => h) (Or.inl ⟨by rfl, ?_⟩) (by assumption) ?_
    rotate_left
    · (intro w hSw; (try dsimp only at hSw); go_simp <;> (with_reducible rfl))
    try simp only [Act.put, List.setIfInBounds_toArray, List.set_cons_zero, List.set_cons_succ]
    refine wpAnyH_take (i := 7) (oi := { dst := some 59, op := Op.pick (Operand.tmp 55) (Operand.tmp 58) (Operand.const (Value.bool false)), type := 4, pos := "law.go:59", after := #[{ on := 3, ground := Ground.data }, { on := 6, ground := Ground.data }], guard := none }) (v := ?_) rfl (by kernel_rfl) (by kernel_rfl) (by kernel_rfl) (fun _ _ _ h => h) (Or.inl ⟨by rfl, ?_⟩) (by assumption) ?_
    rotate_left
    · (intro w hSw; (try dsimp only at hSw); go_simp <;> (with_reducible rfl))
    try simp only [Act.put, List.setIfInBounds_toArray, List.set_cons_zero, List.set_cons_succ]
    refine wpAnyH_take (i := 8) (oi := { dst := some 60, op := Op.move (Operand.tmp 59), type := 4, pos := "law.go:59", after := #[{ on := 7, ground := Ground.data }, { on := 3, ground := Ground.chain }], guard := none }) (v := ?_) rfl (by kernel_rfl) (by kernel_rfl) (by kernel_rfl) (fun _ _ _ h => h) (Or.inl ⟨by rfl, ?_⟩) (by assumption) ?_
    rotate_left
    · (intro w hSw; (try dsimp only at hSw); go_simp <;> (with_reducible rfl))
    try simp only [Act.put, List.setIfInBounds_toArray, List.set_cons_zero, List.set_cons_succ]
    refine wpAnyH_take (i := 9) (oi := { dst := some 61, op := Op.move (Operand.tmp 11), type := 24, pos := "law.go:59", after := #[{ on := 8, ground := Ground.guard }], guard := some (8, true) }) (v := ?_) rfl (by kernel_rfl) (by kernel_rfl) (by kernel_rfl) (fun _ _ _ h => h) (Or.inl ⟨by rfl, ?_⟩) (by assumption) ?_
    rotate_left
    · (intro w hSw; (try dsimp only at hSw); go_simp <;> (with_reducible rfl))
    try simp only [Act.put, List.setIfInBounds_toArray, List.set_cons_zero, List.set_cons_succ]
    refine wpAnyH_take (i := 11) (oi := { dst := some 63, op := Op.move (Operand.tmp 12), type := 26, pos := "law.go:59", after := #[{ on := 8, ground := Ground.guard }], guard := some (8, true) }) (v := ?_) rfl (by kernel_rfl) (by kernel_rfl) (by kernel_rfl) (fun _ _ _ h => h) (Or.inl ⟨by rfl, ?_⟩) (by assumption) ?_
    rotate_left
    · (intro w hSw; (try dsimp only at hSw); go_simp <;> (with_reducible rfl))
    try simp only [Act.put, List.setIfInBounds_toArray, List.set_cons_zero, List.set_cons_succ]
    refine wpAnyH_ready (rs := [10]) (by kernel_rfl) (by simp) ?_
    refine AllReadyH.cons (o := { dst := some 62, op := Op.call { callee := Callee.value (Operand.func 14), args := #[Operand.tmp 61], argTypes := #[24] }, type := 42, pos := "law.go:59", after := #[{ on := 9, ground := Ground.data }, { on := 8, ground := Ground.chain }, { on := 8, ground := Ground.guard }], guard := some (8, true) }) rfl (fun K hK => ?_) AllReadyH.nil
    go_simp
    go_at_call 14; (with_reducible refine (CG1 _ ?_).mono ?_); (focus (repeat (first | exact Below.refl _ _ | assumption | apply bel_drew))); rintro e V2 ⟨qa, rfl, oa, ka⟩; have hc2 := HS.out V2 _ _ ka
    refine hK.out _ _ (by assumption) (fun hH => ?_)
    clear hHeld hK K
    have hHeld := hH
    clear hH
    try simp only [Act.put, List.setIfInBounds_toArray, List.set_cons_zero, List.set_cons_succ]
    refine wpAnyH_ready (rs := [12]) (by kernel_rfl) (by simp) ?_
    refine AllReadyH.cons (o := { dst := some 64, op := Op.call { callee := Callee.value (Operand.func 15), args := #[Operand.tmp 63], argTypes := #[26] }, type := 42, pos := "law.go:59", after := #[{ on := 11, ground := Ground.data }, { on := 10, ground := Ground.chain }, { on := 8, ground := Ground.guard }], guard := some (8, true) }) rfl (fun K hK => ?_) AllReadyH.nil
    go_simp
    go_at_call 15; (with_reducible refine (CG2 _ qa oa ka).mono ?_); rintro e V3 ⟨qb, rfl, ia, ib, kb⟩; have hc3 := HS.out V3 _ _ kb
    refine hK.out _ _ (by assumption) (fun hH => ?_)
    clear hHeld hK K
    have hHeld := hH
    clear hH
    try simp only [Act.put, List.setIfInBounds_toArray, List.set_cons_zero, List.set_cons_succ]
    refine wpAnyH_ready (rs := [13]) (by kernel_rfl) (by simp) ?_
    refine AllReadyH.cons (o := { dst := some 65, op := Op.call { callee := Callee.value (Operand.func 13), args := #[Operand.tmp 62, Operand.tmp 64], argTypes := #[42, 42] }, type := 4, pos := "law.go:59", after := #[{ on := 10, ground := Ground.data }, { on := 12, ground := Ground.data }, { on := 12, ground := Ground.chain }, { on := 8, ground := Ground.guard }], guard := some (8, true) }) rfl (fun K hK => ?_) AllReadyH.nil
    go_simp
    go_at_call 13; (with_reducible refine (CS2 _ qa qb ia ib kb).mono ?_); rintro e V4 ⟨rfl, kc⟩; have hc4 := HS.out V4 _ _ kc; have hb4 : V4.cell? ⟨h2, 2, none⟩ = some (.int .i64 (D2.2.2 : Int)) := Nu.RR.bad kc.rr; have kpr : Nu.PR V4 g2 g2 D2.2.1 D2.2.2 := kc.pr
    refine hK.out _ _ (by assumption) (fun hH => ?_)
    clear hHeld hK K
    have hHeld := hH
    clear hH
    try simp only [Act.put, List.setIfInBounds_toArray, List.set_cons_zero, List.set_cons_succ]
    refine wpAnyH_take (i := 14) (oi := { dst := some 66, op := Op.pick (Operand.tmp 60) (Operand.tmp 65) (Operand.const (Value.bool false)), type := 4, pos := "law.go:59", after := #[{ on := 8, ground := Ground.data }, { on := 13, ground := Ground.data }], guard := none }) (v := ?_) rfl (by kernel_rfl) (by kernel_rfl) (by kernel_rfl) (fun _ _ _ h => h) (Or.inl ⟨by rfl, ?_⟩) (by assumption) ?_
    rotate_left
    · (intro w hSw; (try dsimp only at hSw); go_simp <;> (with_reducible rfl))
    try simp only [Act.put, List.setIfInBounds_toArray, List.set_cons_zero, List.set_cons_succ]
    refine wpAnyH_take (i := 15) (oi := { dst := some 67, op := Op.move (Operand.tmp 66), type := 4, pos := "law.go:59", after := #[{ on := 14, ground := Ground.data }, { on := 13, ground := Ground.chain }], guard := none }) (v := ?_) rfl (by kernel_rfl) (by kernel_rfl) (by kernel_rfl) (fun _ _ _ h => h) (Or.inl ⟨by rfl, ?_⟩) (by assumption) ?_
    rotate_left
    · (intro w hSw; (try dsimp only at hSw); go_simp <;> (with_reducible rfl))
    try simp only [Act.put, List.setIfInBounds_toArray, List.set_cons_zero, List.set_cons_succ]
    refine wpAnyH_take (i := 16) (oi := { dst := some 68, op := Op.move (Operand.tmp 11), type := 24, pos := "law.go:59", after := #[{ on := 15, ground := Ground.guard }], guard := some (15, true) }) (v := ?_) rfl (by kernel_rfl) (by kernel_rfl) (by kernel_rfl) (fun _ _ _ h => h) (Or.inl ⟨by rfl, ?_⟩) (by assumption) ?_
    rotate_left
    · (intro w hSw; (try dsimp only at hSw); go_simp <;> (with_reducible rfl))
    try simp only [Act.put, List.setIfInBounds_toArray, List.set_cons_zero, List.set_cons_succ]
    refine wpAnyH_take (i := 18) (oi := { dst := some 70, op := Op.move (Operand.tmp 12), type := 26, pos := "law.go:59", after := #[{ on := 15, ground := Ground.guard }], guard := some (15, true) }) (v := ?_) rfl (by kernel_rfl) (by kernel_rfl) (by kernel_rfl) (fun _ _ _ h => h) (Or.inl ⟨by rfl, ?_⟩) (by assumption) ?_
    rotate_left
    · (intro w hSw; (try dsimp only at hSw); go_simp <;> (with_reducible rfl))
    try simp only [Act.put, List.setIfInBounds_toArray, List.set_cons_zero, List.set_cons_succ]
    refine wpAnyH_take (i := 19) (oi := { dst := some 71, op := Op.nilCheck (Operand.tmp 70), type := 0, pos := "law.go:59", after := #[{ on := 18, ground := Ground.data }, { on := 15, ground := Ground.guard }], guard := some (15, true) }) (v := ?_) rfl (by kernel_rfl) (by kernel_rfl) (by kernel_rfl) (fun _ _ _ h => h) (Or.inl ⟨by rfl, ?_⟩) (by assumption) ?_
    rotate_left
    · (intro w hSw; (try dsimp only at hSw); go_simp <;> (with_reducible rfl))
    try simp only [Act.put, List.setIfInBounds_toArray, List.set_cons_zero, List.set_cons_succ]
    refine wpAnyH_take (i := 20) (oi := { dst := some 72, op := Op.fieldAddr 28 (Operand.tmp 71) 2, type := 0, pos := "law.go:59", after := #[{ on := 19, ground := Ground.data }, { on := 15, ground := Ground.guard }], guard := some (15, true) }) (v := ?_) rfl (by kernel_rfl) (by kernel_rfl) (by kernel_rfl) (fun _ _ _ h => h) (Or.inl ⟨by rfl, ?_⟩) (by assumption) ?_
    rotate_left
    · (intro w hSw; (try dsimp only at hSw); go_simp <;> (with_reducible rfl))
    try simp only [Act.put, List.setIfInBounds_toArray, List.set_cons_zero, List.set_cons_succ]
    refine wpAnyH_ready (rs := [17, 21]) (by kernel_rfl) (by simp) ?_
    refine AllReadyH.cons (o := { dst := some 69, op := Op.call { callee := Callee.value (Operand.func 16), args := #[Operand.tmp 68], argTypes := #[24] }, type := 33, pos := "law.go:59", after := #[{ on := 16, ground := Ground.data }, { on := 15, ground := Ground.chain }, { on := 15, ground := Ground.guard }], guard := some (15, true) }) rfl (fun K hK => ?_) (AllReadyH.cons (o := { dst := some 73, op := Op.load 3 (Operand.tmp 72), type := 3, pos := "law.go:59", after := #[{ on := 20, ground := Ground.data }, { on := 15, ground := Ground.guard }], guard := some (15, true) }) rfl (fun K hK => ?_) AllReadyH.nil)
    · go_simp
      go_at_call 16; (with_reducible refine (Nu.err_any _ g2 g2 D2.2.1 D2.2.2 kpr).mono ?_); rintro e V5 ⟨rfl, rfl⟩
      refine hK.out _ _ (by assumption) (fun hH => ?_)
      clear hHeld hK K
      have hHeld := hH
      clear hH
      try simp only [Act.put, List.setIfInBounds_toArray, List.set_cons_zero, List.set_cons_succ]
      refine wpAnyH_ready (rs := [21]) (by kernel_rfl) (by simp) ?_
      refine AllReadyH.cons (o := { dst := some 73, op := Op.load 3 (Operand.tmp 72), type := 3, pos := "law.go:59", after := #[{ on := 20, ground := Ground.data }, { on := 15, ground := Ground.guard }], guard := some (15, true) }) rfl (fun K hK => ?_) AllReadyH.nil
      go_simp
      refine hK.out _ _ (by assumption) (fun hH => ?_)
      clear hHeld hK K
      have hHeld := hH
      clear hH
      try simp only [Act.put, List.setIfInBounds_toArray, List.set_cons_zero, List.set_cons_succ]
      refine wpAnyH_take (i := 22) (oi := { dst := some 74, op := Op.binOp BinOp.eql 3 (Operand.tmp 69) (Operand.tmp 73) 3, type := 4, pos := "law.go:59", after := #[{ on := 17, ground := Ground.data }, { on := 21, ground := Ground.data }, { on := 15, ground := Ground.guard }], guard := some (15, true) }) (v := ?_) rfl (by kernel_rfl) (by kernel_rfl) (by kernel_rfl) (fun _ _ _ h => h) (Or.inl ⟨by rfl, ?_⟩) (by assumption) ?_
      rotate_left
      · (intro w hSw; (try dsimp only at hSw); go_simp <;> (with_reducible rfl))
      try simp only [Act.put, List.setIfInBounds_toArray, List.set_cons_zero, List.set_cons_succ]
      refine wpAnyH_take (i := 23) (oi := { dst := some 75, op := Op.pick (Operand.tmp 67) (Operand.tmp 74) (Operand.const (Value.bool false)), type := 4, pos := "law.go:59", after := #[{ on := 15, ground := Ground.data }, { on := 22, ground := Ground.data }], guard := none }) (v := ?_) rfl (by kernel_rfl) (by kernel_rfl) (by kernel_rfl) (fun _ _ _ h => h) (Or.inl ⟨by rfl, ?_⟩) (by assumption) ?_
      rotate_left
      · (intro w hSw; (try dsimp only at hSw); go_simp <;> (with_reducible rfl))
      try simp only [Act.put, List.setIfInBounds_toArray, List.set_cons_zero, List.set_cons_succ]
      refine wpAnyH_take (i := 24) (oi := { dst := some 76, op := Op.move (Operand.tmp 75), type := 4, pos := "law.go:59", after := #[{ on := 23, ground := Ground.data }, { on := 17, ground := Ground.chain }], guard := none }) (v := ?_) rfl (by kernel_rfl) (by kernel_rfl) (by kernel_rfl) (fun _ _ _ h => h) (Or.inl ⟨by rfl, ?_⟩) (by assumption) ?_
      rotate_left
      · (intro w hSw; (try dsimp only at hSw); go_simp <;> (with_reducible rfl))
      try simp only [Act.put, List.setIfInBounds_toArray, List.set_cons_zero, List.set_cons_succ]
      refine wpAnyH_ready (rs := [25]) (by kernel_rfl) (by simp) ?_
      refine AllReadyH.cons (o := { dst := some 77, op := Op.call { callee := Callee.value (Operand.func 4), args := #[], argTypes := #[] }, type := 4, pos := "law.go:59", after := #[{ on := 24, ground := Ground.chain }, { on := 24, ground := Ground.guard }], guard := some (24, true) }) rfl (fun K hK => ?_) AllReadyH.nil
      go_simp
      go_at_call 4; (with_reducible refine (works_any P _).mono ?_); rintro e V6 ⟨rfl, bv6⟩; have hc6 := HS.out V6 _ _ (kc.more bv6)
      refine hK.out _ _ (by assumption) (fun hH => ?_)
      clear hHeld hK K
      have hHeld := hH
      clear hH
      try simp only [Act.put, List.setIfInBounds_toArray, List.set_cons_zero, List.set_cons_succ]
      refine wpAnyH_take (i := 26) (oi := { dst := some 78, op := Op.pick (Operand.tmp 76) (Operand.tmp 77) (Operand.const (Value.bool false)), type := 4, pos := "law.go:59", after := #[{ on := 24, ground := Ground.data }, { on := 25, ground := Ground.data }], guard := none }) (v := ?_) rfl (by kernel_rfl) (by kernel_rfl) (by kernel_rfl) (fun _ _ _ h => h) (Or.inl ⟨by rfl, ?_⟩) (by assumption) ?_
      rotate_left
      · (intro w hSw; (try dsimp only at hSw); go_simp <;> (with_reducible rfl))
      try simp only [Act.put, List.setIfInBounds_toArray, List.set_cons_zero, List.set_cons_succ]
      refine wpAnyH_take (i := 27) (oi := { dst := some 4, op := Op.assign (Operand.tmp 78), type := 4, pos := "law.go:59", after := #[{ on := 26, ground := Ground.data }, { on := 25, ground := Ground.chain }, { on := 0, ground := Ground.phase }, { on := 1, ground := Ground.phase }, { on := 2, ground := Ground.phase }, { on := 3, ground := Ground.phase }, { on := 4, ground := Ground.phase }, { on := 5, ground := Ground.phase }, { on := 6, ground := Ground.phase }, { on := 7, ground := Ground.phase }, { on := 8, ground := Ground.phase }, { on := 9, ground := Ground.phase }, { on := 10, ground := Ground.phase }, { on := 11, ground := Ground.phase }, { on := 12, ground := Ground.phase }, { on := 13, ground := Ground.phase }, { on := 14, ground := Ground.phase }, { on := 15, ground := Ground.phase }, { on := 16, ground := Ground.phase }, { on := 17, ground := Ground.phase }, { on := 18, ground := Ground.phase }, { on := 19, ground := Ground.phase }, { on := 20, ground := Ground.phase }, { on := 21, ground := Ground.phase }, { on := 22, ground := Ground.phase }, { on := 23, ground := Ground.phase }, { on := 24, ground := Ground.phase }, { on := 25, ground := Ground.phase }, { on := 26, ground := Ground.phase }], guard := none }) (v := ?_) rfl (by kernel_rfl) (by kernel_rfl) (by kernel_rfl) (fun _ _ _ h => h) (Or.inl ⟨by rfl, ?_⟩) (by assumption) ?_
      rotate_left
      · (intro w hSw; (try dsimp only at hSw); go_simp <;> (with_reducible rfl))
      try simp only [Act.put, List.setIfInBounds_toArray, List.set_cons_zero, List.set_cons_succ]
      refine wpAnyH_done (by kernel_rfl) ?_ _
      refine NoPanic.normal ?_
      go_wp2
      go_ret
      exact ⟨rfl, (B9'.out.trans (kc.gr.mono B9'.out.size)).trans (bv6.mono (B9'.out.trans (kc.gr.mono B9'.out.size)).size)⟩
    · go_simp
      refine hK.out _ _ (by assumption) (fun hH => ?_)
      clear hHeld hK K
      have hHeld := hH
      clear hH
      try simp only [Act.put, List.setIfInBounds_toArray, List.set_cons_zero, List.set_cons_succ]
      refine wpAnyH_ready (rs := [17]) (by kernel_rfl) (by simp) ?_
      refine AllReadyH.cons (o := { dst := some 69, op := Op.call { callee := Callee.value (Operand.func 16), args := #[Operand.tmp 68], argTypes := #[24] }, type := 33, pos := "law.go:59", after := #[{ on := 16, ground := Ground.data }, { on := 15, ground := Ground.chain }, { on := 15, ground := Ground.guard }], guard := some (15, true) }) rfl (fun K hK => ?_) AllReadyH.nil
      go_simp
      go_at_call 16; (with_reducible refine (Nu.err_any _ g2 g2 D2.2.1 D2.2.2 kpr).mono ?_); rintro e V5 ⟨rfl, rfl⟩
      refine hK.out _ _ (by assumption) (fun hH => ?_)
      clear hHeld hK K
      have hHeld := hH
      clear hH
      try simp only [Act.put, List.setIfInBounds_toArray, List.set_cons_zero, List.set_cons_succ]
      refine wpAnyH_take (i := 22) (oi := { dst := some 74, op := Op.binOp BinOp.eql 3 (Operand.tmp 69) (Operand.tmp 73) 3, type := 4, pos := "law.go:59", after := #[{ on := 17, ground := Ground.data }, { on := 21, ground := Ground.data }, { on := 15, ground := Ground.guard }], guard := some (15, true) }) (v := ?_) rfl (by kernel_rfl) (by kernel_rfl) (by kernel_rfl) (fun _ _ _ h => h) (Or.inl ⟨by rfl, ?_⟩) (by assumption) ?_
      rotate_left
      · (intro w hSw; (try dsimp only at hSw); go_simp <;> (with_reducible rfl))
      try simp only [Act.put, List.setIfInBounds_toArray, List.set_cons_zero, List.set_cons_succ]
      refine wpAnyH_take (i := 23) (oi := { dst := some 75, op := Op.pick (Operand.tmp 67) (Operand.tmp 74) (Operand.const (Value.bool false)), type := 4, pos := "law.go:59", after := #[{ on := 15, ground := Ground.data }, { on := 22, ground := Ground.data }], guard := none }) (v := ?_) rfl (by kernel_rfl) (by kernel_rfl) (by kernel_rfl) (fun _ _ _ h => h) (Or.inl ⟨by rfl, ?_⟩) (by assumption) ?_
      rotate_left
      · (intro w hSw; (try dsimp only at hSw); go_simp <;> (with_reducible rfl))
      try simp only [Act.put, List.setIfInBounds_toArray, List.set_cons_zero, List.set_cons_succ]
      refine wpAnyH_take (i := 24) (oi := { dst := some 76, op := Op.move (Operand.tmp 75), type := 4, pos := "law.go:59", after := #[{ on := 23, ground := Ground.data }, { on := 17, ground := Ground.chain }], guard := none }) (v := ?_) rfl (by kernel_rfl) (by kernel_rfl) (by kernel_rfl) (fun _ _ _ h => h) (Or.inl ⟨by rfl, ?_⟩) (by assumption) ?_
      rotate_left
      · (intro w hSw; (try dsimp only at hSw); go_simp <;> (with_reducible rfl))
      try simp only [Act.put, List.setIfInBounds_toArray, List.set_cons_zero, List.set_cons_succ]
      refine wpAnyH_ready (rs := [25]) (by kernel_rfl) (by simp) ?_
      refine AllReadyH.cons (o := { dst := some 77, op := Op.call { callee := Callee.value (Operand.func 4), args := #[], argTypes := #[] }, type := 4, pos := "law.go:59", after := #[{ on := 24, ground := Ground.chain }, { on := 24, ground := Ground.guard }], guard := some (24, true) }) rfl (fun K hK => ?_) AllReadyH.nil
      go_simp
      go_at_call 4; (with_reducible refine (works_any P _).mono ?_); rintro e V6 ⟨rfl, bv6⟩; have hc6 := HS.out V6 _ _ (kc.more bv6)
      refine hK.out _ _ (by assumption) (fun hH => ?_)
      clear hHeld hK K
      have hHeld := hH
      clear hH
      try simp only [Act.put, List.setIfInBounds_toArray, List.set_cons_zero, List.set_cons_succ]
      refine wpAnyH_take (i := 26) (oi := { dst := some 78, op := Op.pick (Operand.tmp 76) (Operand.tmp 77) (Operand.const (Value.bool false)), type := 4, pos := "law.go:59", after := #[{ on := 24, ground := Ground.data }, { on := 25, ground := Ground.data }], guard := none }) (v := ?_) rfl (by kernel_rfl) (by kernel_rfl) (by kernel_rfl) (fun _ _ _ h => h) (Or.inl ⟨by rfl, ?_⟩) (by assumption) ?_
      rotate_left
      · (intro w hSw; (try dsimp only at hSw); go_simp <;> (with_reducible rfl))
      try simp only [Act.put, List.setIfInBounds_toArray, List.set_cons_zero, List.set_cons_succ]
      refine wpAnyH_take (i := 27) (oi := { dst := some 4, op := Op.assign (Operand.tmp 78), type := 4, pos := "law.go:59", after := #[{ on := 26, ground := Ground.data }, { on := 25, ground := Ground.chain }, { on := 0, ground := Ground.phase }, { on := 1, ground := Ground.phase }, { on := 2, ground := Ground.phase }, { on := 3, ground := Ground.phase }, { on := 4, ground := Ground.phase }, { on := 5, ground := Ground.phase }, { on := 6, ground := Ground.phase }, { on := 7, ground := Ground.phase }, { on := 8, ground := Ground.phase }, { on := 9, ground := Ground.phase }, { on := 10, ground := Ground.phase }, { on := 11, ground := Ground.phase }, { on := 12, ground := Ground.phase }, { on := 13, ground := Ground.phase }, { on := 14, ground := Ground.phase }, { on := 15, ground := Ground.phase }, { on := 16, ground := Ground.phase }, { on := 17, ground := Ground.phase }, { on := 18, ground := Ground.phase }, { on := 19, ground := Ground.phase }, { on := 20, ground := Ground.phase }, { on := 21, ground := Ground.phase }, { on := 22, ground := Ground.phase }, { on := 23, ground := Ground.phase }, { on := 24, ground := Ground.phase }, { on := 25, ground := Ground.phase }, { on := 26, ground := Ground.phase }], guard := none }) (v := ?_) rfl (by kernel_rfl) (by kernel_rfl) (by kernel_rfl) (fun _ _ _ h => h) (Or.inl ⟨by rfl, ?_⟩) (by assumption) ?_
      rotate_left
      · (intro w hSw; (try dsimp only at hSw); go_simp <;> (with_reducible rfl))
      try simp only [Act.put, List.setIfInBounds_toArray, List.set_cons_zero, List.set_cons_succ]
      refine wpAnyH_done (by kernel_rfl) ?_ _
      refine NoPanic.normal ?_
      go_wp2
      go_ret
      exact ⟨rfl, (B9'.out.trans (kc.gr.mono B9'.out.size)).trans (bv6.mono (B9'.out.trans (kc.gr.mono B9'.out.size)).size)⟩
end Go.Proofs.YtblgbbpbhcaodaaGreat.Ec

/- Walks over a writer, step by step, beside what another call made; a context that came out apart. -/
namespace Go.Proofs.YtblgbbpbhcaodaaGreat.Dc
open Go.ChangeShapes Go.WideShapes Go.ChangeAt Go.RowKit
set_option linter.unusedVariables false
set_option maxRecDepth 4000

/-- a writer that began in world w, and what it has by now. -/
structure WS (w V : World) (B g : Nat) (rb : Option Nat) (m : List Nat) : Prop where
  now : ∃ r, Nu.PW V B g r m ∧ (r = rb ∨ ∀ k, r = some k → w.heap.size ≤ k)
  two : Nu.Two w V g rb
theorem WS.start {w : World} {B g : Nat} {rb : Option Nat} {m : List Nat} (h : Nu.PW w B g rb m) : WS w w B g rb m := ⟨⟨rb, h, .inl rfl⟩, ⟨rfl, rfl, rfl, Nat.le_refl _, fun _ _ _ _ => rfl⟩⟩
theorem two_below {w V : World} {g : Nat} {rb : Option Nat} (h : Below w.heap.size w V) : Nu.Two w V g rb := ⟨h.os, h.tape, h.output, h.size, fun k hk _ _ => h.block k hk⟩
theorem WS.more {w V U : World} {B g : Nat} {rb : Option Nat} {m : List Nat} (h : WS w V B g rb m) (hb : Below V.heap.size V U) : WS w U B g rb m := by
  obtain ⟨r, h1, h2⟩ := h.now
  exact ⟨⟨r, pw_up h1 hb, h2⟩, Nu.two_trans h.two (two_below (g := g) (rb := rb) hb) (.inl rfl)⟩
/-- a call of the writer's. -/
theorem WS.step {w V : World} {B g f : Nat} {rb : Option Nat} {m m2 : List Nat} {args : Array Value} (h : WS w V B g rb m) (hc : ∀ r, Nu.PW V B g r m → Calls Tryz.prog f args V (Nu.WPost V B g r m2)) :
    Calls Tryz.prog f args V fun e U => e = .returned (.tuple #[]) ∧ WS w U B g rb m2 := by
  obtain ⟨r, h1, h2⟩ := h.now
  refine (hc r h1).mono ?_
  rintro e U ⟨rfl, r', k1, k2, k3⟩
  refine ⟨rfl, ⟨r', k1, ?_⟩, Nu.two_trans h.two k3 h2⟩
  rcases k2 with rfl | k2
  · exact h2
  · exact .inr fun k e => Nat.le_trans h.two.size (k2 k e)
theorem WS.post {w V : World} {B g : Nat} {rb : Option Nat} {m : List Nat} (h : WS w V B g rb m) : Nu.WPost w B g rb m (.returned (.tuple #[])) V := by
  obtain ⟨r, h1, h2⟩ := h.now
  exact ⟨rfl, r, h1, h2, h.two⟩
/-- what was made first, told from the world ahead of it. -/
theorem WS.from {w w1 V : World} {B g : Nat} {rb : Option Nat} {m : List Nat} (h : WS w1 V B g rb m) (hb : Below w.heap.size w w1) : WS w V B g rb m := by
  obtain ⟨r, h1, h2⟩ := h.now
  refine ⟨⟨r, h1, ?_⟩, Nu.two_trans (two_below hb) h.two (.inl rfl)⟩
  rcases h2 with h2 | h2
  · exact .inl h2
  · exact .inr fun k e => Nat.le_trans hb.size (h2 k e)
theorem WS.pw {w V : World} {B g : Nat} {rb : Option Nat} {m : List Nat} (h : WS w V B g rb m) : ∃ r, Nu.PW V B g r m := by
  obtain ⟨r, h1, _⟩ := h.now
  exact ⟨r, h1⟩
theorem lies_two {w V : World} {g : Nat} {rb : Option Nat} {A : Option Addr} {vs : List Value} (h : Dt.Lies w w.heap.size A vs) (ht : Nu.Two w V g rb) (hg : ∀ ad, A = some ad → ad.block ≠ g ∧ some ad.block ≠ rb) : Dt.Lies V V.heap.size A vs := fun hl => by
  obtain ⟨ad, e, hB, hc⟩ := h hl
  refine ⟨ad, e, Nat.lt_of_lt_of_le hB ht.size, fun j u hu => ?_⟩
  obtain ⟨h1, h2⟩ := hg ad e
  have hb := ht.block ad.block hB h1 h2
  have hc := hc j u hu
  have : V.cell? (ad.add j) = w.cell? (ad.add j) := by
    have e2 : (ad.add j).block = ad.block := Dt.block_add ..
    unfold World.cell?
    rw [e2, hb]
  rw [this]
  exact hc
theorem DL.two {B0 n c g : Nat} {rb : Option Nat} {V U : World} {A : Option Addr} {l : List Dot} (h : DL B0 V A l n c) (ht : Nu.Two V U g rb) (hB : g < B0) (hr : ∀ k, rb = some k → k < B0) : DL B0 U A l n c :=
  ⟨h.len, h.nil, h.cap, h.max, ⟨h.dots.1, lies_two h.dots.2 ht (fun ad e => by have := h.far ad e; exact ⟨by omega, fun e => by have := hr _ e.symm; omega⟩)⟩, h.far⟩
/-- calls told from a world in between. -/
theorem WS.join {w V U : World} {B g : Nat} {rb r : Option Nat} {m2 : List Nat} (h2 : r = rb ∨ ∀ k, r = some k → w.heap.size ≤ k) (ht : Nu.Two w V g rb) (k : WS V U B g r m2) : WS w U B g rb m2 := by
  obtain ⟨r', k1, k2⟩ := k.now
  refine ⟨⟨r', k1, ?_⟩, Nu.two_trans ht k.two h2⟩
  rcases k2 with rfl | k2
  · exact h2
  · exact .inr fun q e => Nat.le_trans ht.size (k2 q e)
/-- cells of a block that is neither the writer's nor its row. -/
theorem two_cell {w V : World} {g bx : Nat} {rb : Option Nat} (ht : Nu.Two w V g rb) (hb : bx < w.heap.size) (h1 : bx ≠ g) (h2 : some bx ≠ rb) (i : Nat) : V.cell? ⟨bx, i, none⟩ = w.cell? ⟨bx, i, none⟩ := by
  unfold World.cell?
  rw [ht.block bx hb h1 h2]
/-- a writer at hand, and a new box beside it: all that a few calls with the box need. -/
structure Side (w V : World) (B g bx : Nat) (m : List Nat) (r : Option Nat) : Prop where
  ws : WS w V B g r m
  g_ne : bx ≠ g
  r_ne : some bx ≠ r
  lt : bx < w.heap.size
theorem Side.cell {w V : World} {B g bx : Nat} {m : List Nat} {r : Option Nat} (h : Side w V B g bx m r) (i : Nat) : V.cell? ⟨bx, i, none⟩ = w.cell? ⟨bx, i, none⟩ := two_cell h.ws.two h.lt h.g_ne h.r_ne i
theorem side_new {w V : World} {B g : Nat} {rb : Option Nat} {m : List Nat} (h : WS w V B g rb m) (o : Obj) : ∃ r, (r = rb ∨ ∀ k, r = some k → w.heap.size ≤ k) ∧ Nu.Two w (V.alloc o) g rb ∧ Side (V.alloc o) (V.alloc o) B g V.heap.size m r := by
  obtain ⟨r, h1, h2⟩ := h.now
  refine ⟨r, h2, (h.more (below_new V o)).two, WS.start (pw_up h1 (below_new V o)), ?_, fun e => ?_, by rw [alloc_size]; omega⟩
  · have := h1.base.2; omega
  · have := (h1.row _ e.symm).2; omega
theorem pr_new {w : World} {h B e : Nat} {l : List Nat} (k : Nu.PR w h B l e) (hB : B ≤ h) (o : Obj) : Nu.PR (w.alloc o) h B l e :=
  k.kept (Nu.turn_below (below_new w o) none) (Nat.le_of_lt (Nat.lt_of_le_of_lt hB k.lt)) (fun e => by cases e) (fun q e => by cases e)
theorem pr_below {w V : World} {h B e : Nat} {l : List Nat} (k : Nu.PR w h B l e) (hB : B ≤ h) (hb : Below w.heap.size w V) : Nu.PR V h B l e :=
  k.kept (Nu.turn_below hb none) (Nat.le_of_lt (Nat.lt_of_le_of_lt hB k.lt)) (fun e => by cases e) (fun q e => by cases e)
theorem pr_set {w : World} {h B e g : Nat} {l : List Nat} (k : Nu.PR w h B l e) (hB : B ≤ h) (hg : h < g) (i : Nat) (u : Value) : Nu.PR (w.setCell ⟨g, i, none⟩ u) h B l e :=
  k.kept (Nu.turn_set w g i u) (Nat.le_of_lt (Nat.lt_of_le_of_lt hB k.lt)) (fun e => by cases e; omega) (fun k hk => by cases hk; omega)
theorem pr_row {w V : World} {h B e : Nat} {l : List Nat} {row : Option Nat} (k : Nu.PR w h B l e) (hB : B ≤ h) (hg : w.grownBy V row) (hr : ∀ q, row = some q → h < q) : Nu.PR V h B l e :=
  k.kept hg (Nat.le_of_lt (Nat.lt_of_le_of_lt hB k.lt)) (fun e => by have := hr h e.symm; omega) (fun q e => Nat.le_trans hB (Nat.le_of_lt (hr q e)))
end Go.Proofs.YtblgbbpbhcaodaaGreat.Dc

/- Words for the program's reading, and the contract of its device. -/
namespace Go.Proofs.YtblgbbpbhcaodaaGreat.Dt
open Go.ChangeShapes Go.WideShapes Go.ChangeAt Go.RowKit
set_option maxRecDepth 4000
theorem pgood_x (w : World) (d : Dot) :
    Calls Tryz.prog 46 #[.agg #[.int .u16 (d.1 : Int), .int .u64 (d.2 : Int)]] w fun e w' => e = .returned (.bool (mayD d)) ∧ w' = w.alloc (.cells #[.int .u16 (d.1 : Int), .int .u64 (d.2 : Int)] 39) := by
  obtain ⟨a, n⟩ := d
  by_cases c1 : 1 ≤ a
  · have d1 : ((a : Int) != 0) = true := by rw [bne_iff_ne]; omega
    by_cases c2 : 1 ≤ n
    · have d2 : ((n : Int) != 0) = true := by rw [bne_iff_ne]; omega
      have hd : mayD (a, n) = decide ((n : Int) ≤ 281474976710655) := decide_eq_decide.2 ⟨fun h => by have := h.2.2; simp at this; omega, fun h => ⟨c1, c2, by simp; omega⟩⟩
      rw [hd]
      clear hd
      go_enter Tryz.func46, Tryz.ntmps46
      go_wp2
      go_ret
      exact ⟨rfl, rfl⟩
    · have hd : mayD (a, n) = false := decide_eq_false (fun h => c2 h.2.1)
      have d2 : ((n : Int) != 0) = false := by rw [bne_eq_false_iff_eq]; omega
      rw [hd]
      clear hd
      go_enter Tryz.func46, Tryz.ntmps46
      go_wp2
      go_ret
      exact ⟨rfl, rfl⟩
  · have hd : mayD (a, n) = false := decide_eq_false (fun h => c1 h.1)
    have d1 : ((a : Int) != 0) = false := by rw [bne_eq_false_iff_eq]; omega
    rw [hd]
    clear hd
    go_enter Tryz.func46, Tryz.ntmps46
    go_wp2
    go_ret
    exact ⟨rfl, rfl⟩
end Go.Proofs.YtblgbbpbhcaodaaGreat.Dt
namespace Go.Proofs.YtblgbbpbhcaodaaGreat.Dc
open Go.ChangeShapes Go.WideShapes Go.ChangeAt Go.RowKit
set_option linter.unusedVariables false
set_option maxRecDepth 4000

/-- a number there is only where no error is. -/
theorem num_zero {s : St} (hs : Sound s) (h : (numS s).2 ≠ 0) : numN s = 0 := by
  by_cases he : s.2 = 0
  · have h1 : Nu.numE s.1 ≠ 0 := fun e => h (stop_iff.2 ⟨he, e⟩)
    unfold numN
    cases hl : s.1 with
    | nil => rfl
    | cons x r =>
      rw [hl] at h1
      rw [Nu.numV_cons]
      split
      · rename_i hc
        exfalso
        apply h1
        show (if Nu.form x r = true then (if x ≤ r.length then 0 else 2) else 4) = 0
        rw [if_pos hc.1, if_pos hc.2]
      · rfl
  · unfold numN
    rw [hs he]
    rfl
theorem sound_pr {w : World} {h B e : Nat} {l : List Nat} (k : Nu.PR w h B l e) : Sound (l, e) := fun he => by
  obtain ⟨A, n, c, _, _, _, _, _, _, q7⟩ := k
  exact q7 he
theorem fail_self {s : St} (hs : Sound s) (h : s.2 ≠ 0) : failS 4 s = s := by
  obtain ⟨a, e⟩ := s
  show ([], Nu.stopE e 4) = (a, e)
  rw [show a = [] from hs h, stop_nz h]
theorem pdev_any (w : World) (h B : Nat) (s : St) (k : Nu.PR w h B s.1 s.2) (hB : B ≤ h) :
    Calls Tryz.prog 62 #[.pointer (some ⟨h, 0, none⟩)] w (Nu.PPost w h B (.int .u16 ((uptoN 65535 s : Nat) : Int)) (uptoS 65535 s).1 (uptoS 65535 s).2) := by
  have C1 : Calls Tryz.prog 78 #[.pointer (some ⟨h, 0, none⟩), .int .u64 (65535 : Int)] w (Nu.PPost w h B (.int .u64 ((uptoN 65535 s : Nat) : Int)) (uptoS 65535 s).1 (uptoS 65535 s).2) := Nu.upto_any w h B s.1 s.2 65535 k hB
  have hd := uptoN_le 65535 s
  generalize uptoN 65535 s = dev at *
  generalize uptoS 65535 s = s1 at *
  have hw16 : IntKind.u16.wrap (dev : Int) = (dev : Int) := by rw [IntKind.wrap_u16]; omega
  clear k hd
  go_enter Tryz.func62, Tryz.ntmps62
  go_wp2_with fail
  refine C1.mono ?_
  rintro r w1 ⟨rfl, k1, g1⟩
  have K1 := Lib.hid k1
  have G1 := Lib.hid g1
  clear k1 g1 C1
  go_wp2
  go_ret
  exact ⟨rfl, K1.out, G1.out⟩
/-- a number is read. -/
theorem pnum_st (w : World) (h B : Nat) (s : St) (k : Nu.PR w h B s.1 s.2) (hB : B ≤ h) :
    Calls Tryz.prog 20 #[.pointer (some ⟨h, 0, none⟩)] w (Nu.PPost w h B (.int .u64 ((numN s : Nat) : Int)) (numS s).1 (numS s).2) := Nu.num_any w h B s.1 s.2 k hB
end Go.Proofs.YtblgbbpbhcaodaaGreat.Dc
