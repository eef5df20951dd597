/- Words and contracts that the proofs of this seat stand on, part 11 of 30. -/
import Derived.Test.YtgaegfddobpomaaGreatPlJ
import Derived.Test.YtgaegfddobpomaaGreatPlI

namespace Go.Proofs.YtgaegfddobpomaaGreat.Bk
open Go.ChangeShapes Go.WideShapes Go.ChangeAt Go.RowKit Go.Proofs.YtgaegfddobpomaaGreat.Kl
set_option linter.unusedVariables false
set_option maxRecDepth 4000
def bareE (x : Ev.Evt) : Ev.Evt := ⟨x.dot, x.kind, x.cid, x.fld, x.txt, []⟩
def zeroX : Ev.Evt := ⟨(0, 0), 0, 0, 0, ⟨#[]⟩, []⟩
noncomputable def newK (l : List Ev.Evt) (x : Ev.Evt) : List Dt.Dot := if x.kind = 1 then Ev.dotsE ((l.filter (kindB 1)).filter (editB x.cid x.fld)) else Ev.dotsE ((l.filter (kindB 1)).filter (delB x.cid))
noncomputable def makeB (b : Bt) (x : Ev.Evt) : Ev.Evt × Nat :=
 if Ev.goodE (bareE x) = false then (zeroX, 1) else if Cx.hasC b.1 x.dot = true then (zeroX, 7) else if 256 < (newK b.2 x).length then (zeroX, 3) else (⟨x.dot, x.kind, x.cid, x.fld, x.txt, newK b.2 x⟩, 0)
def MkPost (w : World) (r : Ev.Evt × Nat) (e : Ending) (w' : World) : Prop := ∃ q : Ev.EV, e = .returned (.tuple #[q.val, .int .i64 (r.2 : Int)]) ∧ Ev.EventIs w' w'.heap.size q r.1 ∧ Below w.heap.size w w'
theorem zero_is (w : World) (B : Nat) : Ev.EventIs w B ⟨0, 0, 0, 0, 0, ⟨#[]⟩, none, 0, 0⟩ zeroX :=
 ⟨rfl, rfl, rfl, rfl, rfl, rfl, ⟨⟨by decide, by decide⟩, by decide, by decide, by decide, by unfold Ev.Short zeroX; decide⟩, Ev.DotsAt.none_ _ _⟩
theorem at_sub {w : World} {g : Nat} {T : TypeId} {cs ds : Array Value} (h : At w g T cs) (e : cs = ds) : At w g T ds := e ▸ h
theorem fill7 {V : World} {g : Nat} {T : TypeId} {a0 a1 a2 a3 a4 a5 a6 : Value} (h : At V g T #[a0, a1, a2, a3, a4, a5, a6]) (u0 u1 u2 u3 u4 u5 u6 : Value) :
   (V.cell? ⟨g, 0, none⟩ = some a0 ∧ V.frozen? ⟨g, 0, none⟩ = false) ∧
   ((V.setCell ⟨g, 0, none⟩ u0).cell? ⟨g, 1, none⟩ = some a1 ∧ (V.setCell ⟨g, 0, none⟩ u0).frozen? ⟨g, 1, none⟩ = false) ∧
   (((V.setCell ⟨g, 0, none⟩ u0).setCell ⟨g, 1, none⟩ u1).cell? ⟨g, 2, none⟩ = some a2 ∧ ((V.setCell ⟨g, 0, none⟩ u0).setCell ⟨g, 1, none⟩ u1).frozen? ⟨g, 2, none⟩ = false) ∧
   ((((V.setCell ⟨g, 0, none⟩ u0).setCell ⟨g, 1, none⟩ u1).setCell ⟨g, 2, none⟩ u2).cell? ⟨g, 3, none⟩ = some a3 ∧ (((V.setCell ⟨g, 0, none⟩ u0).setCell ⟨g, 1, none⟩ u1).setCell ⟨g, 2, none⟩ u2).frozen? ⟨g, 3, none⟩ = false) ∧
   (((((V.setCell ⟨g, 0, none⟩ u0).setCell ⟨g, 1, none⟩ u1).setCell ⟨g, 2, none⟩ u2).setCell ⟨g, 3, none⟩ u3).cell? ⟨g, 4, none⟩ = some a4 ∧ ((((V.setCell ⟨g, 0, none⟩ u0).setCell ⟨g, 1, none⟩ u1).setCell ⟨g, 2, none⟩ u2).setCell ⟨g, 3, none⟩ u3).frozen? ⟨g, 4, none⟩ = false) ∧
   ((((((V.setCell ⟨g, 0, none⟩ u0).setCell ⟨g, 1, none⟩ u1).setCell ⟨g, 2, none⟩ u2).setCell ⟨g, 3, none⟩ u3).setCell ⟨g, 4, none⟩ u4).cell? ⟨g, 5, none⟩ = some a5 ∧ (((((V.setCell ⟨g, 0, none⟩ u0).setCell ⟨g, 1, none⟩ u1).setCell ⟨g, 2, none⟩ u2).setCell ⟨g, 3, none⟩ u3).setCell ⟨g, 4, none⟩ u4).frozen? ⟨g, 5, none⟩ = false) ∧
   (((((((V.setCell ⟨g, 0, none⟩ u0).setCell ⟨g, 1, none⟩ u1).setCell ⟨g, 2, none⟩ u2).setCell ⟨g, 3, none⟩ u3).setCell ⟨g, 4, none⟩ u4).setCell ⟨g, 5, none⟩ u5).cell? ⟨g, 6, none⟩ = some a6 ∧ ((((((V.setCell ⟨g, 0, none⟩ u0).setCell ⟨g, 1, none⟩ u1).setCell ⟨g, 2, none⟩ u2).setCell ⟨g, 3, none⟩ u3).setCell ⟨g, 4, none⟩ u4).setCell ⟨g, 5, none⟩ u5).frozen? ⟨g, 6, none⟩ = false) ∧
   At (((((((V.setCell ⟨g, 0, none⟩ u0).setCell ⟨g, 1, none⟩ u1).setCell ⟨g, 2, none⟩ u2).setCell ⟨g, 3, none⟩ u3).setCell ⟨g, 4, none⟩ u4).setCell ⟨g, 5, none⟩ u5).setCell ⟨g, 6, none⟩ u6) g T #[u0, u1, u2, u3, u4, u5, u6] := by
 have h0 := at_sub (h.set 0 u0) (ds := #[u0, a1, a2, a3, a4, a5, a6]) (by simp)
 have h1 := at_sub (h0.set 1 u1) (ds := #[u0, u1, a2, a3, a4, a5, a6]) (by simp)
 have h2 := at_sub (h1.set 2 u2) (ds := #[u0, u1, u2, a3, a4, a5, a6]) (by simp)
 have h3 := at_sub (h2.set 3 u3) (ds := #[u0, u1, u2, u3, a4, a5, a6]) (by simp)
 have h4 := at_sub (h3.set 4 u4) (ds := #[u0, u1, u2, u3, u4, a5, a6]) (by simp)
 have h5 := at_sub (h4.set 5 u5) (ds := #[u0, u1, u2, u3, u4, u5, a6]) (by simp)
 have h6 := at_sub (h5.set 6 u6) (ds := #[u0, u1, u2, u3, u4, u5, u6]) (by simp)
 exact ⟨⟨h.cell 0, h.frozen 0⟩, ⟨h0.cell 1, h0.frozen 1⟩, ⟨h1.cell 2, h1.frozen 2⟩, ⟨h2.cell 3, h2.frozen 3⟩, ⟨h3.cell 4, h3.frozen 4⟩, ⟨h4.cell 5, h4.frozen 5⟩, ⟨h5.cell 6, h5.frozen 6⟩, h6⟩
theorem fill7_bel {w V : World} {g : Nat} (hb : Below w.heap.size w V) (hg : w.heap.size ≤ g) (u0 u1 u2 u3 u4 u5 u6 : Value) : Below w.heap.size w (((((((V.setCell ⟨g, 0, none⟩ u0).setCell ⟨g, 1, none⟩ u1).setCell ⟨g, 2, none⟩ u2).setCell ⟨g, 3, none⟩ u3).setCell ⟨g, 4, none⟩ u4).setCell ⟨g, 5, none⟩ u5).setCell ⟨g, 6, none⟩ u6) :=
 bel_set (bel_set (bel_set (bel_set (bel_set (bel_set (bel_set hb hg u0) hg u1) hg u2) hg u3) hg u4) hg u5) hg u6
theorem fill7_dots {V : World} {g : Nat} {A : Option Addr} {l : List Dt.Dot} {n c : Nat} (h : Ev.DotsAt V V.heap.size A l n c) (hf : 0 < n → ∀ ad : Addr, A = some ad → ad.block ≠ g) (u0 u1 u2 u3 u4 u5 u6 : Value) :
   Ev.DotsAt (((((((V.setCell ⟨g, 0, none⟩ u0).setCell ⟨g, 1, none⟩ u1).setCell ⟨g, 2, none⟩ u2).setCell ⟨g, 3, none⟩ u3).setCell ⟨g, 4, none⟩ u4).setCell ⟨g, 5, none⟩ u5).setCell ⟨g, 6, none⟩ u6) (((((((V.setCell ⟨g, 0, none⟩ u0).setCell ⟨g, 1, none⟩ u1).setCell ⟨g, 2, none⟩ u2).setCell ⟨g, 3, none⟩ u3).setCell ⟨g, 4, none⟩ u4).setCell ⟨g, 5, none⟩ u5).setCell ⟨g, 6, none⟩ u6).heap.size A l n c :=
 dots_set (dots_set (dots_set (dots_set (dots_set (dots_set (dots_set h hf 0 u0) hf 1 u1) hf 2 u2) hf 3 u3) hf 4 u4) hf 5 u5) hf 6 u6
theorem live_later {w W : World} {A1 A2 : Option Addr} {l : List Ev.Evt} {n1 c1 n2 c2 : Nat} (h : Ev.EventsAt W W.heap.size A2 l n2 c2) (hn : n2 ≤ 1024) (hW : Below w.heap.size w W) :
   Calls Tryz.prog 52 #[.agg #[.slice A1 n1 c1, .slice A2 n2 c2]] W fun e V => ∃ A5 n5 c5, e = .returned (.slice A5 n5 c5) ∧ Ev.EventsAt V V.heap.size A5 (l.filter (kindB 1)) n5 c5 ∧ Below w.heap.size w V :=
 (rblive_any W A1 A2 l n1 c1 n2 c2 h (by omega)).mono fun e V ⟨A5, n5, c5, h1, h2, h3⟩ => ⟨A5, n5, c5, h1, h2, hW.trans (h3.mono hW.size)⟩
theorem del_later {w W : World} {A : Option Addr} {l : List Ev.Evt} {n c cid : Nat} (h : Ev.EventsAt W W.heap.size A l n c) (hn : n ≤ 1024) (hk : ∀ x ∈ l, x.kills.length ≤ 1024) (hW : Below w.heap.size w W) :
   Calls Tryz.prog 51 #[.slice A n c, .int .u64 (cid : Int)] W fun e V => ∃ A5 n5 c5, e = .returned (.slice A5 n5 c5) ∧ Ev.DotsAt V V.heap.size A5 (Ev.dotsE (l.filter (delB cid))) n5 c5 ∧ (0 < n5 → ∀ ad : Addr, A5 = some ad → w.heap.size ≤ ad.block) ∧ Below w.heap.size w V :=
 (rdel_far W A l n c cid h hn hk).mono fun e V ⟨A5, n5, c5, h1, h2, h3, h4⟩ => ⟨A5, n5, c5, h1, h2, (fun h0 ad e => Nat.le_trans hW.size (h3 h0 ad e)), hW.trans (h4.mono hW.size)⟩
theorem edit_later {w W : World} {A : Option Addr} {l : List Ev.Evt} {n c cid f : Nat} (h : Ev.EventsAt W W.heap.size A l n c) (hn : n ≤ 1024) (hk : ∀ x ∈ l, x.kills.length ≤ 1024) (hW : Below w.heap.size w W) :
   Calls Tryz.prog 53 #[.slice A n c, .int .u64 (cid : Int), .int .u8 (f : Int)] W fun e V => ∃ A5 n5 c5, e = .returned (.slice A5 n5 c5) ∧ Ev.DotsAt V V.heap.size A5 (Ev.dotsE (l.filter (editB cid f))) n5 c5 ∧ (0 < n5 → ∀ ad : Addr, A5 = some ad → w.heap.size ≤ ad.block) ∧ Below w.heap.size w V :=
 (redit_far W A l n c cid f h hn hk).mono fun e V ⟨A5, n5, c5, h1, h2, h3, h4⟩ => ⟨A5, n5, c5, h1, h2, (fun h0 ad e => Nat.le_trans hW.size (h3 h0 ad e)), hW.trans (h4.mono hW.size)⟩
set_option maxHeartbeats 16000000 in
theorem rmake_any (w : World) (A1 A2 : Option Addr) (c : List Cx.Part) (l : List Ev.Evt) (n1 c1 n2 c2 : Nat) (q : Ev.EV) (x : Ev.Evt) (hc : Cx.CtxAt w A1 c n1 c1) (hl : Ev.EventsAt w w.heap.size A2 l n2 c2) (hq : Ev.EventIs w w.heap.size q x) (sc : Cx.Small c) (hn : n2 ≤ 64) (hk : ∀ y ∈ l, y.kills.length ≤ 1024) :
   Calls Tryz.prog 13 #[.agg #[.slice A1 n1 c1, .slice A2 n2 c2], q.val] w (MkPost w (makeB (c, l) x)) := by
 have hb1 := Ev.below_new w (bbox A1 A2 n1 c1 n2 c2)
 have HB2 := Lib.hid ((Ev.bel_alloc (.cells #[.int .u16 0, .int .u64 0, .int .u8 0, .int .u64 0, .int .u8 0, .string ⟨#[]⟩, .slice none 0 0] 38) (Ev.bel_alloc (.cells (ebox q) 38) hb1)))
 have R0 : Hid (At (((w.alloc (bbox A1 A2 n1 c1 n2 c2)).alloc (.cells (ebox q) 38)).alloc (.cells #[.int .u16 0, .int .u64 0, .int .u8 0, .int .u64 0, .int .u8 0, .string ⟨#[]⟩, .slice none 0 0] 38)) w.heap.size 31 #[.slice A1 n1 c1, .slice A2 n2 c2]) := Lib.hid (((At.new w _ _).below (Ev.below_new _ _) (by simp)).below (Ev.below_new _ _) (by simp; omega))
 have R1 : Hid (At (((w.alloc (bbox A1 A2 n1 c1 n2 c2)).alloc (.cells (ebox q) 38)).alloc (.cells #[.int .u16 0, .int .u64 0, .int .u8 0, .int .u64 0, .int .u8 0, .string ⟨#[]⟩, .slice none 0 0] 38)) (w.heap.size + 1) 38 (ebox q)) := Lib.hid (by
   have h := (At.new (w.alloc (bbox A1 A2 n1 c1 n2 c2)) 38 (ebox q)).below (Ev.below_new _ (.cells #[.int .u16 0, .int .u64 0, .int .u8 0, .int .u64 0, .int .u8 0, .string ⟨#[]⟩, .slice none 0 0] 38)) (by simp)
   rw [Ev.alloc_size] at h; exact h)
 have R2 : Hid (At (((w.alloc (bbox A1 A2 n1 c1 n2 c2)).alloc (.cells (ebox q) 38)).alloc (.cells #[.int .u16 0, .int .u64 0, .int .u8 0, .int .u64 0, .int .u8 0, .string ⟨#[]⟩, .slice none 0 0] 38)) (w.heap.size + 1 + 1) 38 #[.int .u16 0, .int .u64 0, .int .u8 0, .int .u64 0, .int .u8 0, .string ⟨#[]⟩, .slice none 0 0]) := Lib.hid (by
   have h := At.new ((w.alloc (bbox A1 A2 n1 c1 n2 c2)).alloc (.cells (ebox q) 38)) 38 #[.int .u16 0, .int .u64 0, .int .u8 0, .int .u64 0, .int .u8 0, .string ⟨#[]⟩, .slice none 0 0]
   rw [Ev.alloc_size, Ev.alloc_size] at h; exact h)
 have hdot := Ev.is_dot hq
 have hfd := hq.fits.dot
 rw [hdot] at hfd
 have HFD := Lib.hid hfd
 have SC := Lib.hid sc
 have HCW := Lib.hid hc
 have HLW := Lib.hid hl
 have HQW := Lib.hid hq
 have HKL : Hid (∀ y ∈ l.filter (kindB 1), y.kills.length ≤ 1024) := Lib.hid (fun y hy => hk y (List.mem_filter.1 hy).1)
 have HP : Hid (makeB (c, l) x = if Ev.goodE (bareE x) = false then (zeroX, 1) else if Cx.hasC c (q.dev, q.num) = true then (zeroX, 7) else if 256 < (newK l x).length then (zeroX, 3) else (⟨x.dot, x.kind, x.cid, x.fld, x.txt, newK l x⟩, 0)) := Lib.hid (by unfold makeB; rw [hdot])
 clear hc hl hq sc hk hb1 hdot hfd
 simp only [bbox, ebox] at HB2 R0 R1 R2
 simp only [Ev.EV.val]
 go_enter Tryz.func13, Tryz.ntmps13
 go_upto_region 1 with fail
 generalize ((w.alloc (.cells #[.slice A1 n1 c1, .slice A2 n2 c2] 31)).alloc (.cells #[.int .u16 (q.dev : Int), .int .u64 (q.num : Int), .int .u8 (q.kind : Int), .int .u64 (q.cid : Int), .int .u8 (q.fld : Int), .string q.txt, .slice q.adr q.len q.cap] 38)).alloc (.cells #[.int .u16 0, .int .u64 0, .int .u8 0, .int .u64 0, .int .u8 0, .string ⟨#[]⟩, .slice none 0 0] 38) = w2 at *
 have x6 := R1.out.cell 6
 have g6 := R1.out.frozen 6
 simp at x6
 have HB : Hid (Below w.heap.size w (w2.setCell ⟨w.heap.size + 1, 6, none⟩ (.slice none 0 0))) := Lib.hid (bel_set HB2.out (Nat.le_succ _) _)
 have Q0 := Lib.hid (R0.out.other (h := w.heap.size + 1) (i := 6) (by omega) (.slice none 0 0))
 have Q1 : Hid (At (w2.setCell ⟨w.heap.size + 1, 6, none⟩ (.slice none 0 0)) (w.heap.size + 1) 38 #[.int .u16 (q.dev : Int), .int .u64 (q.num : Int), .int .u8 (q.kind : Int), .int .u64 (q.cid : Int), .int .u8 (q.fld : Int), .string q.txt, .slice none 0 0]) := Lib.hid (at_sub (R1.out.set 6 (.slice none 0 0)) (by simp))
 have Q2 := Lib.hid (R2.out.other (h := w.heap.size + 1) (i := 6) (by omega) (.slice none 0 0))
 go_upto_region 2 with fail
 generalize w2.setCell ⟨w.heap.size + 1, 6, none⟩ (.slice none 0 0) = w3 at *
 clear x6 g6 R0 R1 R2 HB2
 have hg0 := Q0.out.lt
 have hg1 := Q1.out.lt
 have hg2 := Q2.out.lt
 have HA := Lib.hid (HCW.out.up HB.out)
 have HL := Lib.hid (HLW.out.up HB.out)
 have HQ := Lib.hid (HQW.out.up HB.out)
 have HQB : Hid (Ev.EventIs w3 w3.heap.size ⟨q.dev, q.num, q.kind, q.cid, q.fld, q.txt, none, 0, 0⟩ (bareE x)) := Lib.hid (ev_bare HQ.out)
 have CG := Ev.rgood_any w3 _ _ HQB.out
 simp only [Ev.EV.val] at CG
 have HK0 : Hid (∀ V, Below w3.heap.size w3 V → V.cell? ⟨w.heap.size, 0, none⟩ = some (.slice A1 n1 c1) ∧ V.cell? ⟨w.heap.size, 1, none⟩ = some (.slice A2 n2 c2)) := Lib.hid (fun V hV => ⟨(Q0.out.below hV hg0).cell 0, (Q0.out.below hV hg0).cell 1⟩)
 have HK1 : Hid (∀ V, Below w3.heap.size w3 V → V.cell? ⟨w.heap.size + 1, 0, none⟩ = some (.int .u16 (q.dev : Int)) ∧ V.cell? ⟨w.heap.size + 1, 1, none⟩ = some (.int .u64 (q.num : Int)) ∧ V.cell? ⟨w.heap.size + 1, 2, none⟩ = some (.int .u8 (q.kind : Int)) ∧ V.cell? ⟨w.heap.size + 1, 3, none⟩ = some (.int .u64 (q.cid : Int)) ∧ V.cell? ⟨w.heap.size + 1, 4, none⟩ = some (.int .u8 (q.fld : Int)) ∧ V.cell? ⟨w.heap.size + 1, 5, none⟩ = some (.string q.txt) ∧ V.cell? ⟨w.heap.size + 1, 6, none⟩ = some (.slice none 0 0)) := Lib.hid (fun V hV => ev_cells (q := ⟨q.dev, q.num, q.kind, q.cid, q.fld, q.txt, none, 0, 0⟩) (Q1.out.below hV hg1))
 obtain ⟨x0, x1, x2, x3, x4, x5, x6⟩ := HK1.out w3 (Below.refl _ _)
 cases hgd : Ev.goodE (bareE x) with
 | false =>
   rw [hgd] at CG HP
   rw [if_pos rfl] at HP
   go_wp2_with fail
   refine CG.mono ?_
   rintro e V ⟨rfl, bv⟩
   clear x0 x1 x2 x3 x4 x5 x6 CG
   obtain ⟨⟨z0, f0⟩, ⟨z1, f1⟩, ⟨z2, f2⟩, ⟨z3, f3⟩, ⟨z4, f4⟩, ⟨z5, f5⟩, ⟨z6, f6⟩, hat⟩ := fill7 (Q2.out.below bv hg2) (.int .u16 0) (.int .u64 0) (.int .u8 0) (.int .u64 0) (.int .u8 0) (.string ⟨#[]⟩) (.slice none 0 0)
   obtain ⟨y0, y1, y2, y3, y4, y5, y6⟩ := ev_cells (q := ⟨0, 0, 0, 0, 0, ⟨#[]⟩, none, 0, 0⟩) hat
   simp at y0 y1 y2 y3 y4 y5 y6
   have HF := Lib.hid (fill7_bel (HB.out.trans (bv.mono HB.out.size)) (g := w.heap.size + 1 + 1) (by omega) (.int .u16 0) (.int .u64 0) (.int .u8 0) (.int .u64 0) (.int .u8 0) (.string ⟨#[]⟩) (.slice none 0 0))
   clear hat
   go_wp2
   refine bodyPost_ret (v := .tuple #[.agg #[.int .u16 0, .int .u64 0, .int .u8 0, .int .u64 0, .int .u8 0, .string ⟨#[]⟩, .slice none 0 0], .int .i64 1]) ?_ rfl ?_
   · simp [results, Tryz.f13, go_sem, y0, y1, y2, y3, y4, y5, y6]
   · rw [HP.out]
     exact ⟨⟨0, 0, 0, 0, 0, ⟨#[]⟩, none, 0, 0⟩, rfl, zero_is _ _, HF.out⟩
 | true =>
   rw [hgd] at CG HP
   rw [if_neg (by decide)] at HP
   go_wp2_with fail
   refine CG.mono ?_
   rintro e V ⟨rfl, bv⟩
   have CHS := Cx.rhas_any V A1 c n1 c1 (q.dev, q.num) (HA.out.up bv) SC.out HFD.out
   have HBV := Lib.hid bv
   obtain ⟨y0, y1⟩ := HK0.out V bv
   clear x0 x1 x2 x3 x4 x5 x6 CG bv
   obtain ⟨x0, x1, x2, x3, x4, x5, x6⟩ := HK1.out V HBV.out
   cases hsn : Cx.hasC c (q.dev, q.num) with
   | true =>
     rw [hsn] at CHS HP
     rw [if_pos rfl] at HP
     go_wp2_with fail
     refine CHS.mono ?_
     rintro e V3 ⟨rfl, bv3⟩
     have bv : Below w3.heap.size w3 V3 := HBV.out.trans (bv3.mono HBV.out.size)
     clear x0 x1 x2 x3 x4 x5 x6 y0 y1 CHS bv3
     obtain ⟨⟨z0, f0⟩, ⟨z1, f1⟩, ⟨z2, f2⟩, ⟨z3, f3⟩, ⟨z4, f4⟩, ⟨z5, f5⟩, ⟨z6, f6⟩, hat⟩ := fill7 (Q2.out.below bv hg2) (.int .u16 0) (.int .u64 0) (.int .u8 0) (.int .u64 0) (.int .u8 0) (.string ⟨#[]⟩) (.slice none 0 0)
     obtain ⟨y0, y1, y2, y3, y4, y5, y6⟩ := ev_cells (q := ⟨0, 0, 0, 0, 0, ⟨#[]⟩, none, 0, 0⟩) hat
     simp at y0 y1 y2 y3 y4 y5 y6
     have HF := Lib.hid (fill7_bel (HB.out.trans (bv.mono HB.out.size)) (g := w.heap.size + 1 + 1) (by omega) (.int .u16 0) (.int .u64 0) (.int .u8 0) (.int .u64 0) (.int .u8 0) (.string ⟨#[]⟩) (.slice none 0 0))
     clear hat
     go_wp2
     refine bodyPost_ret (v := .tuple #[.agg #[.int .u16 0, .int .u64 0, .int .u8 0, .int .u64 0, .int .u8 0, .string ⟨#[]⟩, .slice none 0 0], .int .i64 7]) ?_ rfl ?_
     · simp [results, Tryz.f13, go_sem, y0, y1, y2, y3, y4, y5, y6]
     · rw [HP.out]
       exact ⟨⟨0, 0, 0, 0, 0, ⟨#[]⟩, none, 0, 0⟩, rfl, zero_is _ _, HF.out⟩
   | false =>
     rw [hsn] at CHS HP
     rw [if_neg (by decide)] at HP
     go_wp2_with fail
     refine CHS.mono ?_
     rintro e w4 ⟨rfl, bv4⟩
     have HW : Hid (Below w3.heap.size w3 w4) := Lib.hid (HBV.out.trans (bv4.mono HBV.out.size))
     clear x0 x1 x2 x3 x4 x5 x6 y0 y1 CHS bv4 HBV
     have HBB : Hid (Below w.heap.size w w4) := Lib.hid (HB.out.trans (HW.out.mono HB.out.size))
     have T0 := Lib.hid (Q0.out.below HW.out hg0)
     have T1 := Lib.hid (Q1.out.below HW.out hg1)
     have T2 := Lib.hid (Q2.out.below HW.out hg2)
     clear Q0 Q1 Q2 HA HL HQ HQB HK0 HK1 HW HB hg0 hg1 hg2
     have hl0a := T0.out.lt
     have hl1a := T1.out.lt
     have hl2a := T2.out.lt
     have HLBa := Lib.hid (HLW.out.up HBB.out)
     have HKKa : Hid (∀ V, Below w4.heap.size w4 V → (V.cell? ⟨w.heap.size, 0, none⟩ = some (.slice A1 n1 c1) ∧ V.cell? ⟨w.heap.size, 1, none⟩ = some (.slice A2 n2 c2)) ∧ V.cell? ⟨w.heap.size + 1, 3, none⟩ = some (.int .u64 (q.cid : Int)) ∧ V.cell? ⟨w.heap.size + 1, 4, none⟩ = some (.int .u8 (q.fld : Int))) := Lib.hid (fun V hV => ⟨⟨(T0.out.below hV hl0a).cell 0, (T0.out.below hV hl0a).cell 1⟩, (T1.out.below hV hl1a).cell 3, (T1.out.below hV hl1a).cell 4⟩)
     have HKSa : Hid (∀ V u0, Below w4.heap.size w4 V → ((V.setCell ⟨w.heap.size + 1, 6, none⟩ u0).cell? ⟨w.heap.size, 0, none⟩ = some (.slice A1 n1 c1) ∧ (V.setCell ⟨w.heap.size + 1, 6, none⟩ u0).cell? ⟨w.heap.size, 1, none⟩ = some (.slice A2 n2 c2)) ∧ (V.setCell ⟨w.heap.size + 1, 6, none⟩ u0).cell? ⟨w.heap.size + 1, 3, none⟩ = some (.int .u64 (q.cid : Int)) ∧ (V.setCell ⟨w.heap.size + 1, 6, none⟩ u0).cell? ⟨w.heap.size + 1, 4, none⟩ = some (.int .u8 (q.fld : Int))) := Lib.hid (fun V u0 hV => by
       have h0 := (T0.out.below hV hl0a).other (h := w.heap.size + 1) (i := 6) (by omega) u0
       have h1 := (T1.out.below hV hl1a).set 6 u0
       have a3 := h1.cell 3
       have a4 := h1.cell 4
       simp at a3 a4
       exact ⟨⟨h0.cell 0, h0.cell 1⟩, a3, a4⟩)
     have HRRa : Hid (∀ V, Below w4.heap.size w4 V → V.cell? ⟨w.heap.size + 1, 6, none⟩ = some (.slice none 0 0) ∧ V.frozen? ⟨w.heap.size + 1, 6, none⟩ = false) := Lib.hid (fun V hV => ⟨(T1.out.below hV hl1a).cell 6, (T1.out.below hV hl1a).frozen 6⟩)
     obtain ⟨⟨y0, y1⟩, x3, x4⟩ := HKKa.out w4 (Below.refl _ _)
     go_upto_region 6 with fail
     go_region_held3 (fun V => (V.cell? ⟨w.heap.size, 0, none⟩ = some (.slice A1 n1 c1) ∧ V.cell? ⟨w.heap.size, 1, none⟩ = some (.slice A2 n2 c2)) ∧ V.cell? ⟨w.heap.size + 1, 3, none⟩ = some (.int .u64 (q.cid : Int)) ∧ V.cell? ⟨w.heap.size + 1, 4, none⟩ = some (.int .u8 (q.fld : Int))) (first | exact ⟨⟨y0, y1⟩, x3, x4⟩ | assumption | exact HKSa.out _ _ (by assumption) | exact HKKa.out _ (by (repeat (first | exact Below.refl _ _ | assumption | apply Ev.bel_drew | apply Ev.bel_alloc)))) (first
       | (go_at_call 52; refine (live_later (w := w4) (HLBa.out.up ?_) (by omega) ?_).mono ?_; (focus (repeat (first | exact Below.refl _ _ | assumption | apply Ev.bel_drew | apply Ev.bel_alloc))); (focus (repeat (first | exact Below.refl _ _ | assumption | apply Ev.bel_drew | apply Ev.bel_alloc))); rintro r V1 ⟨A5, n5, c5, rfl, hd5, bv1⟩; have hcV1 := HKKa.out V1 bv1; have hn5 : n5 ≤ 1024 := by (have h1 := hd5.len; have h2 := List.length_filter_le (kindB 1) l; have h3 := HLBa.out.len; omega))
       | (go_at_call 51; refine (del_later (w := w4) (cid := q.cid) hd5 hn5 HKL.out ?_).mono ?_; (focus (repeat (first | exact Below.refl _ _ | assumption | apply Ev.bel_drew | apply Ev.bel_alloc))); rintro r V2 ⟨A6, n6, c6, rfl, hd6, hf6, bv2⟩; have hcV2 := HKKa.out V2 bv2; obtain ⟨r0, r1⟩ := HRRa.out V2 bv2))
     all_goals
       have hnea : 0 < n6 → ∀ ad : Addr, A6 = some ad → ad.block ≠ w.heap.size + 1 := fun h0 ad e => by have := hf6 h0 ad e; omega
       have HDa := Lib.hid (dots_set hd6 hnea 6 (.slice A6 n6 c6))
       have HFRa : Hid (0 < n6 → ∀ ad : Addr, A6 = some ad → ad.block ≠ w.heap.size + 1 + 1) := Lib.hid (fun h0 ad e => by have := hf6 h0 ad e; omega)
       have HBWa : Hid (Below w.heap.size w (V2.setCell ⟨w.heap.size + 1, 6, none⟩ (.slice A6 n6 c6))) := Lib.hid (bel_set (HBB.out.trans (bv2.mono HBB.out.size)) (Nat.le_succ _) _)
       have P0a := Lib.hid ((T0.out.below bv2 hl0a).other (h := w.heap.size + 1) (i := 6) (by omega) (.slice A6 n6 c6))
       have P1a : Hid (At (V2.setCell ⟨w.heap.size + 1, 6, none⟩ (.slice A6 n6 c6)) (w.heap.size + 1) 38 #[.int .u16 (q.dev : Int), .int .u64 (q.num : Int), .int .u8 (q.kind : Int), .int .u64 (q.cid : Int), .int .u8 (q.fld : Int), .string q.txt, .slice A6 n6 c6]) := Lib.hid (at_sub ((T1.out.below bv2 hl1a).set 6 (.slice A6 n6 c6)) (by simp))
       have P2a := Lib.hid ((T2.out.below bv2 hl2a).other (h := w.heap.size + 1) (i := 6) (by omega) (.slice A6 n6 c6))
       clear y0 y1 x3 x4 hd5 hd6 hf6 bv1 bv2 hcV1 hcV2 r0 r1 hnea HKKa HKSa HRRa HLBa
       cases hkd : ((q.kind : Int) == 1) with
       | false =>
         have HNK : Hid (newK l x = Ev.dotsE ((l.filter (kindB 1)).filter (delB q.cid))) := Lib.hid (by
           rw [eq_one] at hkd
           unfold newK
           rw [← HQW.out.kind, if_neg (of_decide_eq_false hkd), HQW.out.cid])
         generalize V2.setCell ⟨w.heap.size + 1, 6, none⟩ (.slice A6 n6 c6) = w7 at *
         obtain ⟨x0, x1, x2, x3, x4, x5, x6⟩ := ev_cells (q := ⟨q.dev, q.num, q.kind, q.cid, q.fld, q.txt, A6, n6, c6⟩) P1a.out
         by_cases hlong : 256 < n6
         · have hgt : decide ((256 : Int) < (n6 : Int)) = true := decide_eq_true (by omega)
           rw [if_pos (by rw [HNK.out, HDa.out.len]; exact hlong)] at HP
           clear x0 x1 x3 x4 x5
           obtain ⟨⟨z0, f0⟩, ⟨z1, f1⟩, ⟨z2, f2⟩, ⟨z3, f3⟩, ⟨z4, f4⟩, ⟨z5, f5⟩, ⟨z6, f6⟩, hat⟩ := fill7 P2a.out (.int .u16 0) (.int .u64 0) (.int .u8 0) (.int .u64 0) (.int .u8 0) (.string ⟨#[]⟩) (.slice none 0 0)
           obtain ⟨y0, y1, y2, y3, y4, y5, y6⟩ := ev_cells (q := ⟨0, 0, 0, 0, 0, ⟨#[]⟩, none, 0, 0⟩) hat
           simp at y0 y1 y2 y3 y4 y5 y6
           have HF := Lib.hid (fill7_bel HBWa.out (g := w.heap.size + 1 + 1) (by omega) (.int .u16 0) (.int .u64 0) (.int .u8 0) (.int .u64 0) (.int .u8 0) (.string ⟨#[]⟩) (.slice none 0 0))
           clear hat
           go_wp2
           refine bodyPost_ret (v := .tuple #[.agg #[.int .u16 0, .int .u64 0, .int .u8 0, .int .u64 0, .int .u8 0, .string ⟨#[]⟩, .slice none 0 0], .int .i64 3]) ?_ rfl ?_
           · simp [results, Tryz.f13, go_sem, y0, y1, y2, y3, y4, y5, y6]
           · rw [HP.out]
             exact ⟨⟨0, 0, 0, 0, 0, ⟨#[]⟩, none, 0, 0⟩, rfl, zero_is _ _, HF.out⟩
         · have hgt : decide ((256 : Int) < (n6 : Int)) = false := decide_eq_false (by omega)
           rw [if_neg (by rw [HNK.out, HDa.out.len]; exact hlong)] at HP
           obtain ⟨⟨z0, f0⟩, ⟨z1, f1⟩, ⟨z2, f2⟩, ⟨z3, f3⟩, ⟨z4, f4⟩, ⟨z5, f5⟩, ⟨z6, f6⟩, hat⟩ := fill7 P2a.out (.int .u16 (q.dev : Int)) (.int .u64 (q.num : Int)) (.int .u8 (q.kind : Int)) (.int .u64 (q.cid : Int)) (.int .u8 (q.fld : Int)) (.string q.txt) (.slice A6 n6 c6)
           obtain ⟨v0, v1, v2, v3, v4, v5, v6⟩ := ev_cells (q := ⟨q.dev, q.num, q.kind, q.cid, q.fld, q.txt, A6, n6, c6⟩) hat
           simp at v0 v1 v2 v3 v4 v5 v6
           have HF := Lib.hid (fill7_bel HBWa.out (g := w.heap.size + 1 + 1) (by omega) (.int .u16 (q.dev : Int)) (.int .u64 (q.num : Int)) (.int .u8 (q.kind : Int)) (.int .u64 (q.cid : Int)) (.int .u8 (q.fld : Int)) (.string q.txt) (.slice A6 n6 c6))
           have HDF := Lib.hid (fill7_dots HDa.out HFRa.out (.int .u16 (q.dev : Int)) (.int .u64 (q.num : Int)) (.int .u8 (q.kind : Int)) (.int .u64 (q.cid : Int)) (.int .u8 (q.fld : Int)) (.string q.txt) (.slice A6 n6 c6))
           clear hat
           go_wp2
           refine bodyPost_ret (v := .tuple #[.agg #[.int .u16 (q.dev : Int), .int .u64 (q.num : Int), .int .u8 (q.kind : Int), .int .u64 (q.cid : Int), .int .u8 (q.fld : Int), .string q.txt, .slice A6 n6 c6], .int .i64 0]) ?_ rfl ?_
           · simp [results, Tryz.f13, go_sem, v0, v1, v2, v3, v4, v5, v6]
           · rw [HP.out]
             refine ⟨⟨q.dev, q.num, q.kind, q.cid, q.fld, q.txt, A6, n6, c6⟩, rfl, ⟨HQW.out.dev, HQW.out.num, HQW.out.kind, HQW.out.cid, HQW.out.fld, HQW.out.txt, ⟨HQW.out.fits.dot, HQW.out.fits.kind, HQW.out.fits.cid, HQW.out.fits.fld, HQW.out.fits.txt⟩, ?_⟩, HF.out⟩
             show Ev.DotsAt _ _ A6 (newK l x) n6 c6
             rw [HNK.out]
             exact HDF.out
       | true =>
         have HNK : Hid (newK l x = Ev.dotsE ((l.filter (kindB 1)).filter (editB q.cid q.fld))) := Lib.hid (by
           rw [eq_one] at hkd
           unfold newK
           rw [← HQW.out.kind, if_pos (of_decide_eq_true hkd), HQW.out.cid, HQW.out.fld])
         clear HDa HFRa
         generalize V2.setCell ⟨w.heap.size + 1, 6, none⟩ (.slice A6 n6 c6) = w6 at *
         generalize A6 = B6 at *
         generalize n6 = m6 at *
         generalize c6 = d6 at *
         have x2 := P1a.out.cell 2
         simp at x2
         have hl0b := P0a.out.lt
         have hl1b := P1a.out.lt
         have hl2b := P2a.out.lt
         have HLBb := Lib.hid (HLW.out.up HBWa.out)
         have HKKb : Hid (∀ V, Below w6.heap.size w6 V → (V.cell? ⟨w.heap.size, 0, none⟩ = some (.slice A1 n1 c1) ∧ V.cell? ⟨w.heap.size, 1, none⟩ = some (.slice A2 n2 c2)) ∧ V.cell? ⟨w.heap.size + 1, 3, none⟩ = some (.int .u64 (q.cid : Int)) ∧ V.cell? ⟨w.heap.size + 1, 4, none⟩ = some (.int .u8 (q.fld : Int))) := Lib.hid (fun V hV => ⟨⟨(P0a.out.below hV hl0b).cell 0, (P0a.out.below hV hl0b).cell 1⟩, (P1a.out.below hV hl1b).cell 3, (P1a.out.below hV hl1b).cell 4⟩)
         have HKSb : Hid (∀ V u0, Below w6.heap.size w6 V → ((V.setCell ⟨w.heap.size + 1, 6, none⟩ u0).cell? ⟨w.heap.size, 0, none⟩ = some (.slice A1 n1 c1) ∧ (V.setCell ⟨w.heap.size + 1, 6, none⟩ u0).cell? ⟨w.heap.size, 1, none⟩ = some (.slice A2 n2 c2)) ∧ (V.setCell ⟨w.heap.size + 1, 6, none⟩ u0).cell? ⟨w.heap.size + 1, 3, none⟩ = some (.int .u64 (q.cid : Int)) ∧ (V.setCell ⟨w.heap.size + 1, 6, none⟩ u0).cell? ⟨w.heap.size + 1, 4, none⟩ = some (.int .u8 (q.fld : Int))) := Lib.hid (fun V u0 hV => by
           have h0 := (P0a.out.below hV hl0b).other (h := w.heap.size + 1) (i := 6) (by omega) u0
           have h1 := (P1a.out.below hV hl1b).set 6 u0
           have a3 := h1.cell 3
           have a4 := h1.cell 4
           simp at a3 a4
           exact ⟨⟨h0.cell 0, h0.cell 1⟩, a3, a4⟩)
         have HRRb : Hid (∀ V, Below w6.heap.size w6 V → V.cell? ⟨w.heap.size + 1, 6, none⟩ = some (.slice B6 m6 d6) ∧ V.frozen? ⟨w.heap.size + 1, 6, none⟩ = false) := Lib.hid (fun V hV => ⟨(P1a.out.below hV hl1b).cell 6, (P1a.out.below hV hl1b).frozen 6⟩)
         obtain ⟨⟨y0, y1⟩, x3, x4⟩ := HKKb.out w6 (Below.refl _ _)
         go_upto_region 8 with fail
         go_region_held3 (fun V => (V.cell? ⟨w.heap.size, 0, none⟩ = some (.slice A1 n1 c1) ∧ V.cell? ⟨w.heap.size, 1, none⟩ = some (.slice A2 n2 c2)) ∧ V.cell? ⟨w.heap.size + 1, 3, none⟩ = some (.int .u64 (q.cid : Int)) ∧ V.cell? ⟨w.heap.size + 1, 4, none⟩ = some (.int .u8 (q.fld : Int))) (first | exact ⟨⟨y0, y1⟩, x3, x4⟩ | assumption | exact HKSb.out _ _ (by assumption) | exact HKKb.out _ (by (repeat (first | exact Below.refl _ _ | assumption | apply Ev.bel_drew | apply Ev.bel_alloc)))) (first
           | (go_at_call 52; refine (live_later (w := w6) (HLBb.out.up ?_) (by omega) ?_).mono ?_; (focus (repeat (first | exact Below.refl _ _ | assumption | apply Ev.bel_drew | apply Ev.bel_alloc))); (focus (repeat (first | exact Below.refl _ _ | assumption | apply Ev.bel_drew | apply Ev.bel_alloc))); rintro r V1 ⟨A5, n5, c5, rfl, hd5, bv1⟩; have hcV1 := HKKb.out V1 bv1; have hn5 : n5 ≤ 1024 := by (have h1 := hd5.len; have h2 := List.length_filter_le (kindB 1) l; have h3 := HLBb.out.len; omega))
           | (go_at_call 53; refine (edit_later (w := w6) (cid := q.cid) (f := q.fld) hd5 hn5 HKL.out ?_).mono ?_; (focus (repeat (first | exact Below.refl _ _ | assumption | apply Ev.bel_drew | apply Ev.bel_alloc))); rintro r V2 ⟨A6, n6, c6, rfl, hd6, hf6, bv2⟩; have hcV2 := HKKb.out V2 bv2; obtain ⟨r0, r1⟩ := HRRb.out V2 bv2))
         all_goals
           have hneb : 0 < n6 → ∀ ad : Addr, A6 = some ad → ad.block ≠ w.heap.size + 1 := fun h0 ad e => by have := hf6 h0 ad e; omega
           have HDb := Lib.hid (dots_set hd6 hneb 6 (.slice A6 n6 c6))
           have HFRb : Hid (0 < n6 → ∀ ad : Addr, A6 = some ad → ad.block ≠ w.heap.size + 1 + 1) := Lib.hid (fun h0 ad e => by have := hf6 h0 ad e; omega)
           have HBWb : Hid (Below w.heap.size w (V2.setCell ⟨w.heap.size + 1, 6, none⟩ (.slice A6 n6 c6))) := Lib.hid (bel_set (HBWa.out.trans (bv2.mono HBWa.out.size)) (Nat.le_succ _) _)
           have P0b := Lib.hid ((P0a.out.below bv2 hl0b).other (h := w.heap.size + 1) (i := 6) (by omega) (.slice A6 n6 c6))
           have P1b : Hid (At (V2.setCell ⟨w.heap.size + 1, 6, none⟩ (.slice A6 n6 c6)) (w.heap.size + 1) 38 #[.int .u16 (q.dev : Int), .int .u64 (q.num : Int), .int .u8 (q.kind : Int), .int .u64 (q.cid : Int), .int .u8 (q.fld : Int), .string q.txt, .slice A6 n6 c6]) := Lib.hid (at_sub ((P1a.out.below bv2 hl1b).set 6 (.slice A6 n6 c6)) (by simp))
           have P2b := Lib.hid ((P2a.out.below bv2 hl2b).other (h := w.heap.size + 1) (i := 6) (by omega) (.slice A6 n6 c6))
           clear y0 y1 x3 x4 hd5 hd6 hf6 bv1 bv2 hcV1 hcV2 r0 r1 hneb HKKb HKSb HRRb HLBb
           generalize V2.setCell ⟨w.heap.size + 1, 6, none⟩ (.slice A6 n6 c6) = w7 at *
           obtain ⟨x0, x1, x2, x3, x4, x5, x6⟩ := ev_cells (q := ⟨q.dev, q.num, q.kind, q.cid, q.fld, q.txt, A6, n6, c6⟩) P1b.out
           by_cases hlong : 256 < n6
           · have hgt : decide ((256 : Int) < (n6 : Int)) = true := decide_eq_true (by omega)
             rw [if_pos (by rw [HNK.out, HDb.out.len]; exact hlong)] at HP
             clear x0 x1 x3 x4 x5
             obtain ⟨⟨z0, f0⟩, ⟨z1, f1⟩, ⟨z2, f2⟩, ⟨z3, f3⟩, ⟨z4, f4⟩, ⟨z5, f5⟩, ⟨z6, f6⟩, hat⟩ := fill7 P2b.out (.int .u16 0) (.int .u64 0) (.int .u8 0) (.int .u64 0) (.int .u8 0) (.string ⟨#[]⟩) (.slice none 0 0)
             obtain ⟨y0, y1, y2, y3, y4, y5, y6⟩ := ev_cells (q := ⟨0, 0, 0, 0, 0, ⟨#[]⟩, none, 0, 0⟩) hat
             simp at y0 y1 y2 y3 y4 y5 y6
             have HF := Lib.hid (fill7_bel HBWb.out (g := w.heap.size + 1 + 1) (by omega) (.int .u16 0) (.int .u64 0) (.int .u8 0) (.int .u64 0) (.int .u8 0) (.string ⟨#[]⟩) (.slice none 0 0))
             clear hat
             go_wp2
             refine bodyPost_ret (v := .tuple #[.agg #[.int .u16 0, .int .u64 0, .int .u8 0, .int .u64 0, .int .u8 0, .string ⟨#[]⟩, .slice none 0 0], .int .i64 3]) ?_ rfl ?_
             · simp [results, Tryz.f13, go_sem, y0, y1, y2, y3, y4, y5, y6]
             · rw [HP.out]
               exact ⟨⟨0, 0, 0, 0, 0, ⟨#[]⟩, none, 0, 0⟩, rfl, zero_is _ _, HF.out⟩
           · have hgt : decide ((256 : Int) < (n6 : Int)) = false := decide_eq_false (by omega)
             rw [if_neg (by rw [HNK.out, HDb.out.len]; exact hlong)] at HP
             obtain ⟨⟨z0, f0⟩, ⟨z1, f1⟩, ⟨z2, f2⟩, ⟨z3, f3⟩, ⟨z4, f4⟩, ⟨z5, f5⟩, ⟨z6, f6⟩, hat⟩ := fill7 P2b.out (.int .u16 (q.dev : Int)) (.int .u64 (q.num : Int)) (.int .u8 (q.kind : Int)) (.int .u64 (q.cid : Int)) (.int .u8 (q.fld : Int)) (.string q.txt) (.slice A6 n6 c6)
             obtain ⟨v0, v1, v2, v3, v4, v5, v6⟩ := ev_cells (q := ⟨q.dev, q.num, q.kind, q.cid, q.fld, q.txt, A6, n6, c6⟩) hat
             simp at v0 v1 v2 v3 v4 v5 v6
             have HF := Lib.hid (fill7_bel HBWb.out (g := w.heap.size + 1 + 1) (by omega) (.int .u16 (q.dev : Int)) (.int .u64 (q.num : Int)) (.int .u8 (q.kind : Int)) (.int .u64 (q.cid : Int)) (.int .u8 (q.fld : Int)) (.string q.txt) (.slice A6 n6 c6))
             have HDF := Lib.hid (fill7_dots HDb.out HFRb.out (.int .u16 (q.dev : Int)) (.int .u64 (q.num : Int)) (.int .u8 (q.kind : Int)) (.int .u64 (q.cid : Int)) (.int .u8 (q.fld : Int)) (.string q.txt) (.slice A6 n6 c6))
             clear hat
             go_wp2
             refine bodyPost_ret (v := .tuple #[.agg #[.int .u16 (q.dev : Int), .int .u64 (q.num : Int), .int .u8 (q.kind : Int), .int .u64 (q.cid : Int), .int .u8 (q.fld : Int), .string q.txt, .slice A6 n6 c6], .int .i64 0]) ?_ rfl ?_
             · simp [results, Tryz.f13, go_sem, v0, v1, v2, v3, v4, v5, v6]
             · rw [HP.out]
               refine ⟨⟨q.dev, q.num, q.kind, q.cid, q.fld, q.txt, A6, n6, c6⟩, rfl, ⟨HQW.out.dev, HQW.out.num, HQW.out.kind, HQW.out.cid, HQW.out.fld, HQW.out.txt, ⟨HQW.out.fits.dot, HQW.out.fits.kind, HQW.out.fits.cid, HQW.out.fits.fld, HQW.out.fits.txt⟩, ?_⟩, HF.out⟩
               show Ev.DotsAt _ _ A6 (newK l x) n6 c6
               rw [HNK.out]
               exact HDF.out
end Go.Proofs.YtgaegfddobpomaaGreat.Bk

namespace Go.Proofs.YtgaegfddobpomaaGreat.Kl
open Go.ChangeShapes Go.WideShapes Go.ChangeAt Go.RowKit
set_option linter.unusedVariables false
set_option maxRecDepth 4000
def StPost (w : World) (q : Ev.EV) (y x : Ev.Evt) (e : Ending) (w' : World) : Prop := ∃ q2 : Ev.EV, e = .returned q2.val ∧ (∀ (W : World) (B : Nat), Ev.EventIs W B q y → Ev.EventIs W B q2 x) ∧ Below w.heap.size w w'
set_option maxHeartbeats 8000000 in
theorem rstrip_at (w : World) (A2 : Option Addr) (q : Ev.EV) (e : Ev.Evt) (x : List Cx.Part) (n2 c2 : Nat) (hq : Ev.EventIs w w.heap.size q e) (hx : Cx.CtxAt w A2 x n2 c2) (hs : Cx.Small x) :
   Calls Tryz.prog 56 #[q.val, .slice A2 n2 c2] w (StPost w q e (stripE x e)) := by
 have hdot := Ev.is_dot hq
 have hfd := hq.fits.dot
 rw [hdot] at hfd
 have HS : Hid (stripE x e = if Cx.hasC x (q.dev, q.num) = true then ⟨e.dot, e.kind, e.cid, e.fld, e.txt, []⟩ else e) := Lib.hid (by unfold stripE; rw [hdot])
 have HQ := Lib.hid hq
 have HB := Lib.hid (Ev.bel_alloc (.cells zcells 38) (Ev.below_new w (.cells (ebox q) 38)))
 have HX := Lib.hid (hx.up HB.out)
 have R0 : Hid (At ((w.alloc (.cells (ebox q) 38)).alloc (.cells zcells 38)) w.heap.size 38 (ebox q)) := Lib.hid ((At.new w _ _).below (Ev.below_new _ _) (by simp))
 have R1 : Hid (At ((w.alloc (.cells (ebox q) 38)).alloc (.cells zcells 38)) (w.heap.size + 1) 38 zcells) := Lib.hid (by have h := At.new (w.alloc (.cells (ebox q) 38)) 38 zcells; rw [Ev.alloc_size] at h; exact h)
 have CH := Cx.rhas_any _ A2 x n2 c2 (q.dev, q.num) HX.out hs hfd
 simp only [Ev.EV.val]
 obtain ⟨v, hv⟩ : ∃ v, stripE x e = v := ⟨_, rfl⟩
 rw [hv] at HS ⊢
 clear hq hx hs hdot hfd hv HX
 go_enter Tryz.func56, Tryz.ntmps56
 go_upto_region 1 with fail
 generalize (w.alloc (.cells (ebox q) 38)).alloc (.cells zcells 38) = w2 at *
 obtain ⟨x0, x1, x2, x3, x4, x5, x6⟩ := ev_cells R0.out
 have hlt0 := R0.out.lt
 have hlt1 := R1.out.lt
 cases hb : Cx.hasC x (q.dev, q.num) with
 | true =>
   rw [hb] at CH
   have HV : Hid (v = ⟨e.dot, e.kind, e.cid, e.fld, e.txt, []⟩) := Lib.hid (by rw [HS.out, hb, if_pos rfl])
   go_wp2_with fail
   refine CH.mono ?_
   rintro r V ⟨rfl, hbV⟩
   have S0 := Lib.hid (R0.out.below hbV hlt0)
   have S1 := Lib.hid (R1.out.below hbV hlt1)
   have HW := Lib.hid (HB.out.trans (hbV.mono HB.out.size))
   clear x0 x1 x2 x3 x4 x5 x6 CH hbV R0 R1 HB
   have t6 := S0.out.cell 6
   have g6 := S0.out.frozen 6
   simp at t6
   have W0 : Hid (At (V.setCell ⟨w.heap.size, 6, none⟩ (.slice none 0 0)) w.heap.size 38 (ebox ⟨q.dev, q.num, q.kind, q.cid, q.fld, q.txt, none, 0, 0⟩)) := Lib.hid (S0.out.set 6 (.slice none 0 0))
   have W1 : Hid (At (V.setCell ⟨w.heap.size, 6, none⟩ (.slice none 0 0)) (w.heap.size + 1) 38 zcells) := Lib.hid (S1.out.other (by omega) (.slice none 0 0))
   have HW1 : Hid (Below w.heap.size w (V.setCell ⟨w.heap.size, 6, none⟩ (.slice none 0 0))) := Lib.hid (bel_set HW.out (Nat.le_refl _) _)
   clear S0 S1 HW
   go_upto_region 3 with fail
   generalize V.setCell ⟨w.heap.size, 6, none⟩ (.slice none 0 0) = V1 at *
   clear t6 g6
   obtain ⟨x0, x1, x2, x3, x4, x5, x6⟩ := ev_cells W0.out
   have Q1 := W1.out.set 0 (.int .u16 (q.dev : Int))
   have Q2 := Q1.set 1 (.int .u64 (q.num : Int))
   have Q3 := Q2.set 2 (.int .u8 (q.kind : Int))
   have Q4 := Q3.set 3 (.int .u64 (q.cid : Int))
   have Q5 := Q4.set 4 (.int .u8 (q.fld : Int))
   have Q6 := Q5.set 5 (.string q.txt)
   have Q7 := Q6.set 6 (.slice none 0 0)
   have z0 := W1.out.cell 0
   have f0 := W1.out.frozen 0
   have z1 := Q1.cell 1
   have f1 := Q1.frozen 1
   have z2 := Q2.cell 2
   have f2 := Q2.frozen 2
   have z3 := Q3.cell 3
   have f3 := Q3.frozen 3
   have z4 := Q4.cell 4
   have f4 := Q4.frozen 4
   have z5 := Q5.cell 5
   have f5 := Q5.frozen 5
   have z6 := Q6.cell 6
   have f6 := Q6.frozen 6
   have y0 := Q7.cell 0
   have y1 := Q7.cell 1
   have y2 := Q7.cell 2
   have y3 := Q7.cell 3
   have y4 := Q7.cell 4
   have y5 := Q7.cell 5
   have y6 := Q7.cell 6
   simp at z0 z1 z2 z3 z4 z5 z6 y0 y1 y2 y3 y4 y5 y6
   clear Q1 Q2 Q3 Q4 Q5 Q6 Q7
   have HF := Lib.hid (strip_done HW1.out (.int .u16 (q.dev : Int)) (.int .u64 (q.num : Int)) (.int .u8 (q.kind : Int)) (.int .u64 (q.cid : Int)) (.int .u8 (q.fld : Int)) (.string q.txt) (.slice none 0 0))
   go_wp2
   refine bodyPost_ret (v := Ev.EV.val ⟨q.dev, q.num, q.kind, q.cid, q.fld, q.txt, none, 0, 0⟩) ?_ rfl ?_
   · simp [results, Tryz.f56, go_sem, y0, y1, y2, y3, y4, y5, y6]
   · rw [HV.out]
     exact ⟨⟨q.dev, q.num, q.kind, q.cid, q.fld, q.txt, none, 0, 0⟩, rfl, (fun W B h => ev_bare h), HF.out⟩
 | false =>
   rw [hb] at CH
   have HV : Hid (v = e) := Lib.hid (by rw [HS.out, hb, if_neg (by simp)])
   go_wp2_with fail
   refine CH.mono ?_
   rintro r V ⟨rfl, hbV⟩
   have S0 := Lib.hid (R0.out.below hbV hlt0)
   have S1 := Lib.hid (R1.out.below hbV hlt1)
   have HW := Lib.hid (HB.out.trans (hbV.mono HB.out.size))
   clear x0 x1 x2 x3 x4 x5 x6 CH hbV R0 R1 HB
   obtain ⟨x0, x1, x2, x3, x4, x5, x6⟩ := ev_cells S0.out
   have Q1 := S1.out.set 0 (.int .u16 (q.dev : Int))
   have Q2 := Q1.set 1 (.int .u64 (q.num : Int))
   have Q3 := Q2.set 2 (.int .u8 (q.kind : Int))
   have Q4 := Q3.set 3 (.int .u64 (q.cid : Int))
   have Q5 := Q4.set 4 (.int .u8 (q.fld : Int))
   have Q6 := Q5.set 5 (.string q.txt)
   have Q7 := Q6.set 6 (.slice q.adr q.len q.cap)
   have z0 := S1.out.cell 0
   have f0 := S1.out.frozen 0
   have z1 := Q1.cell 1
   have f1 := Q1.frozen 1
   have z2 := Q2.cell 2
   have f2 := Q2.frozen 2
   have z3 := Q3.cell 3
   have f3 := Q3.frozen 3
   have z4 := Q4.cell 4
   have f4 := Q4.frozen 4
   have z5 := Q5.cell 5
   have f5 := Q5.frozen 5
   have z6 := Q6.cell 6
   have f6 := Q6.frozen 6
   have y0 := Q7.cell 0
   have y1 := Q7.cell 1
   have y2 := Q7.cell 2
   have y3 := Q7.cell 3
   have y4 := Q7.cell 4
   have y5 := Q7.cell 5
   have y6 := Q7.cell 6
   simp at z0 z1 z2 z3 z4 z5 z6 y0 y1 y2 y3 y4 y5 y6
   clear Q1 Q2 Q3 Q4 Q5 Q6 Q7
   have HF := Lib.hid (strip_done HW.out (.int .u16 (q.dev : Int)) (.int .u64 (q.num : Int)) (.int .u8 (q.kind : Int)) (.int .u64 (q.cid : Int)) (.int .u8 (q.fld : Int)) (.string q.txt) (.slice q.adr q.len q.cap))
   go_wp2
   refine bodyPost_ret (v := q.val) ?_ rfl ?_
   · simp [results, Tryz.f56, go_sem, y0, y1, y2, y3, y4, y5, y6]
   · rw [HV.out]
     exact ⟨q, rfl, (fun W B h => h), HF.out⟩
end Go.Proofs.YtgaegfddobpomaaGreat.Kl
namespace Go.Proofs.YtgaegfddobpomaaGreat.Bk
open Go.ChangeShapes Go.WideShapes Go.ChangeAt Go.RowKit Go.Proofs.YtgaegfddobpomaaGreat.Kl
def stayB (c : List Cx.Part) (x : Ev.Evt) : Bool := decide (x.kind = 1) || !Cx.hasC c x.dot
noncomputable def pruneB (b : Bt) (c : List Cx.Part) : Bt × Nat := ((b.1, (b.2.filter (stayB c)).map (stripE c)), b.2.length - (b.2.filter (stayB c)).length)
def PrRel (w : World) (n : Nat) (l : List Ev.Evt) (c : List Cx.Part) (v i : Value) (wr : World) : Prop :=
 ∃ k m A cc ps, k ≤ n ∧ i = .int .i64 ((k : Nat) : Int) ∧ v = .slice A m cc ∧ ps.length = m ∧ Ev.Match w w.heap.size ps (((l.take k).filter (stayB c)).map (stripE c)) ∧ wr.ownsRow w.heap.size 38 7 (.slice A m cc) m (Ev.ev ps) ∧ Below w.heap.size w wr
theorem pr_skip {w wr : World} {n k m cc : Nat} {l : List Ev.Evt} {c : List Cx.Part} {A : Option Addr} {ps : List Ev.EV} {y : Ev.Evt} (hk : k < n) (hy : l[k]? = some y) (hf : stayB c y = false) (hm : ps.length = m) (hma : Ev.Match w w.heap.size ps (((l.take k).filter (stayB c)).map (stripE c))) (ho : wr.ownsRow w.heap.size 38 7 (.slice A m cc) m (Ev.ev ps)) (hb : Below w.heap.size w wr) :
   PrRel w n l c (.slice A m cc) (.int .i64 ((k : Int) + 1)) wr :=
 ⟨k + 1, m, A, cc, ps, hk, by go_num, rfl, hm, by rw [Ev.take_one hy, List.filter_append]; simp only [List.filter_cons, hf, List.filter_nil, Bool.false_eq_true, if_false, List.append_nil]; exact hma, ho, hb⟩
theorem pr_take {w wr : World} {n k m cc : Nat} {l : List Ev.Evt} {c : List Cx.Part} {A : Option Addr} {ps : List Ev.EV} {q : Ev.EV} {y : Ev.Evt} (hk : k < n) (hy : l[k]? = some y) (hf : stayB c y = true) (hq : Ev.EventIs w w.heap.size q (stripE c y)) (hm : ps.length = m) (hma : Ev.Match w w.heap.size ps (((l.take k).filter (stayB c)).map (stripE c))) (ho : wr.ownsRow w.heap.size 38 7 (.slice A (m + 1) cc) (m + 1) (Ev.ev (ps ++ [q]))) (hb : Below w.heap.size w wr) :
   PrRel w n l c (.slice A (m + 1) cc) (.int .i64 ((k : Int) + 1)) wr :=
 ⟨k + 1, m + 1, A, cc, ps ++ [q], hk, by go_num, rfl, by rw [List.length_append, hm]; rfl, by rw [Ev.take_one hy, List.filter_append, List.map_append]; simp only [List.filter_cons, hf, List.filter_nil, if_true, List.map_cons, List.map_nil]; exact hma.snoc hq, ho, hb⟩
theorem pr_long {w : World} {ps : List Ev.EV} {l : List Ev.Evt} {c : List Cx.Part} {k m : Nat} (hm : ps.length = m) (h : Ev.Match w w.heap.size ps (((l.take k).filter (stayB c)).map (stripE c))) : m ≤ k := by
 have h1 := List.length_filter_le (stayB c) (l.take k)
 have h2 := List.length_take_le k l
 have h3 := h.1
 rw [List.length_map] at h3
 omega
set_option maxHeartbeats 16000000 in
theorem rprune_any (w : World) (A1 A2 A3 : Option Addr) (c c3 : List Cx.Part) (l : List Ev.Evt) (n1 c1 n2 c2 n3 k3 : Nat) (hc : Cx.CtxAt w A1 c n1 c1) (hl : Ev.EventsAt w w.heap.size A2 l n2 c2) (h3 : Cx.CtxAt w A3 c3 n3 k3) (s3 : Cx.Small c3) (hn : n2 ≤ 64) :
   Calls Tryz.prog 17 #[.agg #[.slice A1 n1 c1, .slice A2 n2 c2], .slice A3 n3 k3] w (BnPost w (pruneB (c, l) c3)) := by
 have HB := Lib.hid (Ev.bel_alloc (bbox none none 0 0 0 0) (Ev.below_new w (bbox A1 A2 n1 c1 n2 c2)))
 have R0 : Hid (At ((w.alloc (bbox A1 A2 n1 c1 n2 c2)).alloc (bbox none none 0 0 0 0)) w.heap.size 31 #[.slice A1 n1 c1, .slice A2 n2 c2]) := Lib.hid ((At.new w _ _).below (Ev.below_new _ _) (by simp))
 have R1 : Hid (At ((w.alloc (bbox A1 A2 n1 c1 n2 c2)).alloc (bbox none none 0 0 0 0)) (w.heap.size + 1) 31 #[.slice none 0 0, .slice none 0 0]) := Lib.hid (by have h := At.new (w.alloc (bbox A1 A2 n1 c1 n2 c2)) 31 #[.slice none 0 0, .slice none 0 0]; rw [Ev.alloc_size] at h; exact h)
 have HA := Lib.hid (hc.up HB.out)
 have HL := Lib.hid (hl.up HB.out)
 have H3 := Lib.hid (h3.up HB.out)
 have S3 := Lib.hid s3
 have hll := hl.len
 clear hc hl h3 s3
 simp only [bbox] at HB R0 R1 HA HL H3
 go_enter Tryz.func17, Tryz.ntmps17
 go_upto_region 1 with fail
 generalize (w.alloc (.cells #[.slice A1 n1 c1, .slice A2 n2 c2] 31)).alloc (.cells #[.slice none 0 0, .slice none 0 0] 31) = w3 at *
 have hg0 := R0.out.lt
 have hg1 := R1.out.lt
 have HK0 : Hid (∀ V, Below w3.heap.size w3 V → V.cell? ⟨w.heap.size, 0, none⟩ = some (.slice A1 n1 c1) ∧ V.cell? ⟨w.heap.size, 1, none⟩ = some (.slice A2 n2 c2)) := Lib.hid (fun V hV => ⟨(R0.out.below hV hg0).cell 0, (R0.out.below hV hg0).cell 1⟩)
 have HK2 : Hid (∀ V u0, Below w3.heap.size w3 V → V.cell? ⟨w.heap.size + 1, 0, none⟩ = some (.slice none 0 0) ∧ V.frozen? ⟨w.heap.size + 1, 0, none⟩ = false ∧ (V.setCell ⟨w.heap.size + 1, 0, none⟩ u0).cell? ⟨w.heap.size + 1, 1, none⟩ = some (.slice none 0 0) ∧ (V.setCell ⟨w.heap.size + 1, 0, none⟩ u0).frozen? ⟨w.heap.size + 1, 1, none⟩ = false) := Lib.hid (fun V u0 hV => by
   have h := R1.out.below hV hg1
   have h2 := h.set 0 u0
   exact ⟨h.cell 0, h.frozen 0, h2.cell 1, h2.frozen 1⟩)
 go_wp2
 go_loopw [6, 7] (fun v i wr => PrRel w3 n2 l c3 v i wr) (fun _ i _ => n2 - (intOf i).toNat)
 case atStart => exact ⟨0, 0, none, 0, [], Nat.zero_le _, rfl, rfl, rfl, by rw [List.take_zero]; exact Ev.Match.nil_ _ _, World.ownsRow_nil _ _ _ _, Below.refl _ _⟩
 case round =>
   obtain ⟨k, m, A, cc, ps, hk, rfl, rfl, hm, hma, ho, hw⟩ := hrel
   have hmk := pr_long hm hma
   have HM := Lib.hid hm
   have HMA := Lib.hid hma
   have HO := Lib.hid ho
   have HW := Lib.hid hw
   clear hm hma ho hw
   obtain ⟨y0, y1⟩ := HK0.out wr HW.out
   by_cases hlt : k < n2
   · obtain ⟨ad, q9, y, rfl, hB, hly, hqy, cq⟩ := HL.out.at_ hlt
     have HLY := Lib.hid hly
     have HQY := Lib.hid hqy
     have HCE : Hid (∀ V, Below w3.heap.size w3 V → Ev.CellsAt V (ad.add (k * 7)) q9) := Lib.hid (fun V hV => cq.kept hV)
     have hqd := Ev.is_dot hqy
     have hfd := hqy.fits.dot
     rw [hqd] at hfd
     have HF : Hid (stayB c3 y = (((q9.kind : Int) == 1) || !Cx.hasC c3 (q9.dev, q9.num))) := Lib.hid (by rw [eq_one, hqy.kind, ← hqd]; rfl)
     obtain ⟨e0, e1, e2, e3, e4, e5, e6⟩ := HCE.out wr HW.out
     have CH := Cx.rhas_any wr A3 c3 n3 k3 (q9.dev, q9.num) (H3.out.up HW.out) S3.out hfd
     clear hly hqy cq hqd
     cases h1 : ((q9.kind : Int) == 1) with
     | true =>
       have HT : Hid (stayB c3 y = true) := Lib.hid (by rw [HF.out, h1]; rfl)
       have HVV := HW
       have HOV := HO
       clear CH
       go_wp2_with fail
       generalize hVV : wr = VV at *
       clear hVV y0 y1 e0 e1 e2 e3 e4 e5 e6
       have HVK := Lib.hid (HK0.out VV HVV.out)
       have CS := rstrip_at VV A3 q9 y c3 n3 k3 (HQY.out.up HVV.out) (H3.out.up HVV.out) S3.out
       obtain ⟨y0, y1⟩ := HVK.out
       obtain ⟨e0, e1, e2, e3, e4, e5, e6⟩ := HCE.out VV HVV.out
       simp only [Ev.EV.val] at CS
       go_wp2_with fail
       refine CS.mono ?_
       rintro r V5 ⟨q5, rfl, hq5, bv5⟩
       have HQ5 := Lib.hid (hq5 _ _ HQY.out)
       have HV5 := Lib.hid (HVV.out.trans (bv5.mono HVV.out.size))
       have HO5 := Lib.hid (Dt.own_kept HOV.out bv5)
       have HOA := Lib.hid (HO5.out.alloc q5.box)
       have HLO : Hid (m + 1 ≤ 1649267441664) := Lib.hid (by omega)
       have HWA : Hid (Below w3.heap.size w3 (V5.alloc q5.box)) := Lib.hid (Ev.bel_alloc _ HV5.out)
       simp only [Ev.EV.val]
       clear y0 y1 e0 e1 e2 e3 e4 e5 e6 CS hq5 bv5
       go_wp2_with (at_builtin; refine Ev.wpList_evt rfl (.tmp 33) (.tmp 41) rfl rfl _ w3.heap.size m (.slice A m cc) ps (some ⟨V5.heap.size, 0, none⟩) [q5] 1 1 rfl rfl HOA.out (fun h => by cases h) (Ev.lies_evt V5 q5) rfl HLO.out HWA.out.size ?_; intro A9 c9 V9 ho9 hg9; have HR := Lib.hid (pr_take hlt HLY.out HT.out HQ5.out HM.out HMA.out ho9 (Ev.evt_grown HOA.out HWA.out hg9)); clear ho9 hg9)
       go_roundw
       case rel => exact HR.out
       case measure => simp [intOf]; omega
     | false =>
       rw [h1, Bool.false_or] at HF
       cases hh : Cx.hasC c3 (q9.dev, q9.num) with
       | true =>
         rw [hh] at CH HF
         have HT : Hid (stayB c3 y = false) := HF
         go_wp2_with fail
         refine CH.mono ?_
         rintro r VV ⟨rfl, bvv⟩
         have HVV : Hid (Below w3.heap.size w3 VV) := Lib.hid (HW.out.trans (bvv.mono HW.out.size))
         have HOV := Lib.hid (Dt.own_kept HO.out bvv)
         have HR := Lib.hid (pr_skip hlt HLY.out HT.out HM.out HMA.out HOV.out HVV.out)
         clear CH bvv y0 y1 e0 e1 e2 e3 e4 e5 e6
         go_wp2
         go_roundw
         case rel => exact HR.out
         case measure => simp [intOf]; omega
       | false =>
         rw [hh] at CH HF
         have HT : Hid (stayB c3 y = true) := HF
         go_wp2_with fail
         refine CH.mono ?_
         rintro r VV ⟨rfl, bvv⟩
         have HVV : Hid (Below w3.heap.size w3 VV) := Lib.hid (HW.out.trans (bvv.mono HW.out.size))
         have HOV := Lib.hid (Dt.own_kept HO.out bvv)
         clear CH bvv y0 y1 e0 e1 e2 e3 e4 e5 e6
         have HVK := Lib.hid (HK0.out VV HVV.out)
         have CS := rstrip_at VV A3 q9 y c3 n3 k3 (HQY.out.up HVV.out) (H3.out.up HVV.out) S3.out
         obtain ⟨y0, y1⟩ := HVK.out
         obtain ⟨e0, e1, e2, e3, e4, e5, e6⟩ := HCE.out VV HVV.out
         simp only [Ev.EV.val] at CS
         go_wp2_with fail
         refine CS.mono ?_
         rintro r V5 ⟨q5, rfl, hq5, bv5⟩
         have HQ5 := Lib.hid (hq5 _ _ HQY.out)
         have HV5 := Lib.hid (HVV.out.trans (bv5.mono HVV.out.size))
         have HO5 := Lib.hid (Dt.own_kept HOV.out bv5)
         have HOA := Lib.hid (HO5.out.alloc q5.box)
         have HLO : Hid (m + 1 ≤ 1649267441664) := Lib.hid (by omega)
         have HWA : Hid (Below w3.heap.size w3 (V5.alloc q5.box)) := Lib.hid (Ev.bel_alloc _ HV5.out)
         simp only [Ev.EV.val]
         clear y0 y1 e0 e1 e2 e3 e4 e5 e6 CS hq5 bv5
         go_wp2_with (at_builtin; refine Ev.wpList_evt rfl (.tmp 33) (.tmp 41) rfl rfl _ w3.heap.size m (.slice A m cc) ps (some ⟨V5.heap.size, 0, none⟩) [q5] 1 1 rfl rfl HOA.out (fun h => by cases h) (Ev.lies_evt V5 q5) rfl HLO.out HWA.out.size ?_; intro A9 c9 V9 ho9 hg9; have HR := Lib.hid (pr_take hlt HLY.out HT.out HQ5.out HM.out HMA.out ho9 (Ev.evt_grown HOA.out HWA.out hg9)); clear ho9 hg9)
         go_roundw
         case rel => exact HR.out
         case measure => simp [intOf]; omega
   · obtain rfl : k = n2 := by omega
     have htk : l.take k = l := List.take_of_length_le (by rw [hll]; exact Nat.le_refl _)
     rw [htk] at HMA
     have HEA := Lib.hid (Ev.own_events HW.out HMA.out HM.out (by omega) HO.out)
     have HLN : Hid (l.length - (l.filter (stayB c3)).length = k - m) := Lib.hid (by
       have h := HMA.out.1
       rw [List.length_map, HM.out] at h
       rw [hll, ← h])
     have HKS : Hid (∀ V u0 u1, Below w3.heap.size w3 V → ((V.setCell ⟨w.heap.size + 1, 0, none⟩ u0).setCell ⟨w.heap.size + 1, 1, none⟩ u1).cell? ⟨w.heap.size, 0, none⟩ = some (.slice A1 n1 c1) ∧ ((V.setCell ⟨w.heap.size + 1, 0, none⟩ u0).setCell ⟨w.heap.size + 1, 1, none⟩ u1).cell? ⟨w.heap.size, 1, none⟩ = some (.slice A2 k c2)) := Lib.hid (fun V u0 u1 hV => by
       have h := ((R0.out.below hV hg0).other (h := w.heap.size + 1) (i := 0) (by omega) u0).other (h := w.heap.size + 1) (i := 1) (by omega) u1
       exact ⟨h.cell 0, h.cell 1⟩)
     have hWd : Below w3.heap.size w3 wr.drew := Ev.bel_drew HW.out
     obtain ⟨r0, r1, r2, r3⟩ := HK2.out wr.drew (.slice A1 n1 c1) hWd
     have hsb : IntKind.i64.wrap ((k : Int) - (m : Int)) = (k : Int) - (m : Int) := by rw [IntKind.wrap_i64]; omega
     go_upto_region 7 with fail
     have r0' : wr.cell? ⟨w.heap.size + 1, 0, none⟩ = some (.slice none 0 0) := r0
     have r1' : wr.frozen? ⟨w.heap.size + 1, 0, none⟩ = false := r1
     have r2' : (wr.setCell ⟨w.heap.size + 1, 0, none⟩ (.slice A1 n1 c1)).cell? ⟨w.heap.size + 1, 1, none⟩ = some (.slice none 0 0) := r2
     have r3' : (wr.setCell ⟨w.heap.size + 1, 0, none⟩ (.slice A1 n1 c1)).frozen? ⟨w.heap.size + 1, 1, none⟩ = false := r3
     obtain ⟨s0, s1⟩ := HKS.out wr (.slice A1 n1 c1) (.slice A m cc) HW.out
     go_region
     all_goals
       have HV := Lib.hid (Ev.bel_drew (two_set (HB.out.trans (HW.out.mono HB.out.size)) (g := w.heap.size + 1) (by omega) (.slice A1 n1 c1) (.slice A m cc)))
       obtain ⟨hoo, hnn, ht⟩ := two_off (R1.out.below HW.out hg1) A1 A n1 c1 m cc
       have HCF := Lib.hid ((ctx_off hnn hoo (HA.out.up HW.out)).up (Ev.bel_drew (Below.refl _ _)))
       have HLF := Lib.hid ((evts_off hnn hoo HEA.out).up (Ev.bel_drew (Below.refl _ _)))
       have z0 := World.cell?_setCell_same _ _ (.slice A1 n1 c1) r0'
       have z1 := ht.cell 1
       simp at z0 z1
       clear hoo hnn ht hWd r0 r1 r2 r3 r0' r1' r2' r3' s0 s1 R0 R1 HA HL HK0 HK2 HKS HO HW
       go_wp2
       refine bodyPost_ret (v := .tuple #[.agg #[.slice A1 n1 c1, .slice A m cc], .int .i64 ((k : Int) - (m : Int))]) ?_ rfl ?_
       · simp [results, Tryz.f17, go_sem, z0, z1]
       · refine ⟨A1, n1, c1, A, m, cc, ?_, HCF.out, HLF.out, HV.out⟩
         show _ = Ending.returned (.tuple #[_, .int .i64 ((l.length - (l.filter (stayB c3)).length : Nat) : Int)])
         rw [HLN.out, show ((k - m : Nat) : Int) = (k : Int) - (m : Int) by omega]
end Go.Proofs.YtgaegfddobpomaaGreat.Bk

namespace Go.Proofs.YtgaegfddobpomaaGreat.Cx
open Go.ChangeShapes Go.WideShapes Go.ChangeAt Go.RowKit
set_option linter.unusedVariables false
def sizeUpto (c : List Part) (k : Nat) : Nat := ((c.take k).map (fun x => Ru.sizeR x.2)).sum
def lastB (x : Part) : Option Dot := if 1 < Ru.firstR x.2 then some (x.1, Ru.firstR x.2 - 1) else none
theorem base_fold (c : List Part) : baseC c = (normC c).filterMap lastB := rfl
end Go.Proofs.YtgaegfddobpomaaGreat.Cx

namespace Go.Proofs.YtgaegfddobpomaaGreat.Cx
set_option linter.unusedVariables false
def OrdC (c : List Part) : Prop := ∃ f, Tells f ∧ c = listC f
theorem OrdC.fit {c : List Part} (h : OrdC c) : FitC c := by
 obtain ⟨f, h1, rfl⟩ := h
 exact list_fit h1
theorem OrdC.norm {c : List Part} (h : OrdC c) : normC c = c := by
 obtain ⟨f, h1, rfl⟩ := h
 unfold normC
 rw [runs_list h1]
theorem tells_uniq {f g : Nat → List Run} (hf : Tells f) (hg : Tells g) (h : ∀ d n, Ru.has (f d) n = Ru.has (g d) n) : f = g := funext fun d => Ru.uniq (hf.order d) (hg.order d) (h d)
theorem norm_eq {a b : List Part} (ha : FitC a) (hb : FitC b) (h : ∀ d n, Ru.has (runsC a d) n = Ru.has (runsC b d) n) : normC a = normC b := by
 unfold normC
 rw [tells_uniq (tells_runs ha) (tells_runs hb) h]
theorem ord_set {a b : List Part} (ha : FitC a) (hb : FitC b) (how : Int) : OrdC (setC a b how) := ⟨_, tells_both ha hb how, rfl⟩
theorem ord_nil : OrdC [] := ⟨fun _ => [], ⟨rfl, fun _ _ => rfl, fun _ => Ru.order_nil⟩, by
 unfold listC
 induction List.range Dt.topV with
 | nil => rfl
 | cons d l ih => rw [List.filterMap_cons]; exact ih⟩
theorem list_none {f : Nat → List Run} (h : ∀ d, f d = []) : listC f = [] := by
 unfold listC
 induction List.range Dt.topV with
 | nil => rfl
 | cons d l ih => rw [List.filterMap_cons, show oneC f d = none from if_pos (by rw [h]; rfl)]; exact ih
theorem has_set0 {a b : List Part} (ha : FitC a) (hb : FitC b) (d n : Nat) : Ru.has (runsC (setC a b 0) d) n = (Ru.has (runsC a d) n || Ru.has (runsC b d) n) := by rw [runs_set ha hb]; exact Ru.has0 _ _ _
theorem has_set1 {a b : List Part} (ha : FitC a) (hb : FitC b) (d n : Nat) : Ru.has (runsC (setC a b 1) d) n = (Ru.has (runsC a d) n && Ru.has (runsC b d) n) := by rw [runs_set ha hb]; exact Ru.has1 _ _ _
theorem has_set2 {a b : List Part} (ha : FitC a) (hb : FitC b) (d n : Nat) : Ru.has (runsC (setC a b 2) d) n = (Ru.has (runsC a d) n && !Ru.has (runsC b d) n) := by rw [runs_set ha hb]; exact Ru.has2 _ _ _
theorem join_turn (a b : List Part) : setC b a 0 = setC a b 0 := by
 unfold setC
 congr 1
 funext d
 exact Ru.join_turn _ _
theorem within_iff {a b : List Part} (ha : FitC a) (hb : FitC b) (h : ∀ d n, Ru.has (runsC a d) n = true → Ru.has (runsC b d) n = true) : withinC a b = true := by
 refine decide_eq_true (list_none fun d => Ru.empty_of (Ru.set_spec _ _ _).1 fun n => ?_)
 rw [Ru.has2]
 cases h1 : Ru.has (runsC a d) n with
 | false => rfl
 | true => rw [h d n h1]; rfl
/-! Lists of dots as contexts. -/
theorem ord_of {l : List Dot} (hl : Dt.Fit l) : OrdC (ofC l) := by
 obtain ⟨f, h1, h2, _⟩ := (of_whole l hl).form
 exact ⟨f, h1, h2⟩
theorem dot_may {x : Dot} (h : Dt.mayD x = true) : Ru.mayR (x.2, x.2) = true := by
 have := (Dt.may_iff x).1 h
 exact (Ru.may_iff _).2 ⟨by show 1 ≤ x.2; omega, Nat.le_refl _, by show x.2 ≤ _; omega⟩
theorem has_dot {x : Dot} (h : Dt.mayD x = true) (d n : Nat) : Ru.has (runsC (dotC x) d) n = (decide (x.1 = d) && decide (x.2 = n)) := by
 have hx := (Dt.may_iff x).1 h
 rw [runs_has, show dotC x = [(x.1, [(x.2, x.2)])] from rfl, List.any_cons, List.any_nil, Bool.or_false, Ru.has_one, dot_may h, Bool.true_and]
 by_cases h1 : x.1 = d
 · subst h1
   have h2 : x.1 ≠ 0 := by omega
   by_cases h3 : x.2 = n
   · subst h3; simp [h2]
   · have h4 : ¬ n = x.2 := fun e => h3 e.symm
     simp [h3, h4]
 · simp [h1]
def isDot (d n : Nat) (x : Dot) : Bool := Dt.mayD x && (decide (x.1 = d) && decide (x.2 = n))
theorem has_stepO {o : List Part} (ho : FitC o) {x : Dot} (hx : x.1 < 65536 ∧ x.2 < 18446744073709551616) (d n : Nat) : Ru.has (runsC (stepO o x) d) n = (Ru.has (runsC o d) n || isDot d n x) := by
 unfold stepO isDot
 cases h : Dt.mayD x with
 | false => simp
 | true => rw [if_pos rfl, has_set0 ho (fit_dot hx.1 hx.2), has_dot h, Bool.true_and]
theorem has_of_upto {l : List Dot} (hl : Dt.Fit l) (d n k : Nat) : Ru.has (runsC (ofC (l.take k)) d) n = (l.take k).any (isDot d n) := by
 induction k with
 | zero => show Ru.has (runsC [] d) n = false; rw [runs_nil]; rfl
 | succ k ih =>
   by_cases hk : k < l.length
   · have hg := List.getElem?_eq_getElem hk
     rw [of_next hg, has_stepO (of_most l hl k).fit (hl _ (List.getElem_mem hk)), ih, List.take_add_one, hg, List.any_append]
     simp
   · have e : l.take (k + 1) = l.take k := by rw [List.take_of_length_le (by omega), List.take_of_length_le (by omega)]
     rw [e]; exact ih
theorem has_of {l : List Dot} (hl : Dt.Fit l) (d n : Nat) : Ru.has (runsC (ofC l) d) n = l.any (isDot d n) := by
 have := has_of_upto hl d n l.length
 rwa [List.take_length] at this
/-! Bases. -/
def gapV (c : List Part) (d : Nat) : Nat := Ru.firstR (runsC c d) - 1
theorem first_nil : Ru.firstR [] = 1 := rfl
end Go.Proofs.YtgaegfddobpomaaGreat.Cx
