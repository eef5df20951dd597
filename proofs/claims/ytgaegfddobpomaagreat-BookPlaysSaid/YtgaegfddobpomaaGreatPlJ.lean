/- Words and contracts that the proofs of this seat stand on, part 10 of 30. -/
import Derived.Test.YtgaegfddobpomaaGreatPlI
import Derived.Test.YtgaegfddobpomaaGreatPlF
import Derived.Test.YtgaegfddobpomaaGreatPlB
import Derived.Test.YtgaegfddobpomaaGreatPlC

namespace Go.Proofs.YtgaegfddobpomaaGreat.Bk
open Go.ChangeShapes Go.WideShapes Go.ChangeAt Go.RowKit Go.Proofs.YtgaegfddobpomaaGreat.Kl
set_option linter.unusedVariables false
set_option maxRecDepth 4000
abbrev Bt : Type := List Cx.Part × List Ev.Evt
noncomputable def putB (b : Bt) (x : Ev.Evt) : Bt × Nat :=
 if Ev.goodE x = false then (b, 1) else if Cx.hasC b.1 x.dot = true then (b, 7) else ((Cx.setC b.1 (Cx.ofC (Ev.dotsE [x])) 0, Ev.putE (b.2.filter (leftB x)) x), 0)
def BnPost (w : World) (r : Bt × Nat) (e : Ending) (w' : World) : Prop := ∃ A1 n1 c1 A2 n2 c2, e = .returned (.tuple #[.agg #[.slice A1 n1 c1, .slice A2 n2 c2], .int .i64 (r.2 : Int)]) ∧ Cx.CtxAt w' A1 r.1.1 n1 c1 ∧ Ev.EventsAt w' w'.heap.size A2 r.1.2 n2 c2 ∧ Below w.heap.size w w'
theorem has_laterD (w W : World) (A : Option Addr) (l : List Dt.Dot) (n c : Nat) (d : Dt.Dot) (h : Ev.DotsAt W W.heap.size A l n c) (hW : Below w.heap.size w W) :
   Calls Tryz.prog 34 #[.slice A n c, .agg #[.int .u16 (d.1 : Int), .int .u64 (d.2 : Int)]] W fun e V => e = .returned (.bool (decide (d ∈ l))) ∧ Below w.heap.size w V :=
 (Dt.rhas_any W A l n c d h.len h.dots (Nat.le_trans h.wide (by decide))).mono fun e V ⟨h1, h2⟩ => ⟨h1, hW.trans (h2.mono hW.size)⟩
theorem evts_one (W : World) (q : Ev.EV) (x : Ev.Evt) (h : Ev.EventIs W W.heap.size q x) : Ev.EventsAt (W.alloc q.box) (W.alloc q.box).heap.size (some ⟨W.heap.size, 0, none⟩) [x] 1 1 := by
 refine ⟨rfl, (fun e => by cases e), Nat.le_refl _, by decide, by decide, [q], Ev.lies_evt W q, rfl, fun k p y hp hy => ?_⟩
 have hk : k = 0 := by have := (List.getElem?_eq_some_iff.1 hp).1; simp at this; omega
 subst hk
 cases hp; cases hy
 exact h.up (Ev.below_new W _)
theorem good_kills {x : Ev.Evt} (h : Ev.goodE x = true) : x.kills.length ≤ 256 := by
 unfold Ev.goodE at h
 simp only [Bool.and_eq_true, decide_eq_true_eq] at h
 omega
theorem dots_one (x : Ev.Evt) : (Ev.dotsE [x]).length ≤ x.kills.length + 1 := by
 have h1 := Ev.kills_long [] x x.kills.length
 rw [Ev.kills_all rfl] at h1
 have e : Ev.dotsE [x] = Ev.dotsOne [] x := rfl
 rw [e]
 simp only [List.length_nil] at h1
 omega
theorem dots_laterE {w W : World} {A : Option Addr} {x : Ev.Evt} {c : Nat} (h : Ev.EventsAt W W.heap.size A [x] 1 c) (hk : x.kills.length ≤ 256) (hW : Below w.heap.size w W) :
   Calls Tryz.prog 43 #[.slice A 1 c] W fun e V => ∃ A5 n5 c5, e = .returned (.slice A5 n5 c5) ∧ Ev.DotsAt V V.heap.size A5 (Ev.dotsE [x]) n5 c5 ∧ Below w.heap.size w V ∧ Below W.heap.size W V :=
 (Ev.rdots_any W A [x] 1 c h (by decide) (fun y hy => by rw [List.mem_singleton.1 hy]; omega)).mono fun e V ⟨A5, n5, c5, h1, h2, h3⟩ => ⟨A5, n5, c5, h1, h2, hW.trans (h3.mono hW.size), h3⟩
theorem of_later {w W : World} {A : Option Addr} {l : List Dt.Dot} {n c : Nat} (h : Ev.DotsAt W W.heap.size A l n c) (hn : l.length ≤ 281) (hW : Below w.heap.size w W) :
   Calls Tryz.prog 41 #[.slice A n c] W fun e V => ∃ A5 n5 c5, e = .returned (.slice A5 n5 c5) ∧ Cx.CtxAt V A5 (Cx.ofC l) n5 c5 ∧ Below w.heap.size w V ∧ Below W.heap.size W V :=
 (Cx.rof_any W A l n c h.len h.dots (by rw [← h.len]; exact hn)).mono fun e V ⟨A5, n5, c5, h1, h2, h3⟩ => ⟨A5, n5, c5, h1, h2, hW.trans (h3.mono hW.size), h3⟩
theorem join_later {w W : World} {A1 A2 : Option Addr} {a b : List Cx.Part} {n1 n2 c1 c2 : Nat} (h1 : Cx.CtxAt W A1 a n1 c1) (h2 : Cx.CtxAt W A2 b n2 c2) (s1 : Cx.Small a) (s2 : Cx.Small b) (hW : Below w.heap.size w W) :
   Calls Tryz.prog 42 #[.slice A1 n1 c1, .slice A2 n2 c2] W fun e V => ∃ A5 n5 c5, e = .returned (.slice A5 n5 c5) ∧ Cx.CtxAt V A5 (Cx.setC a b 0) n5 c5 ∧ Below w.heap.size w V ∧ Below W.heap.size W V :=
 (Cx.rjoin_any W A1 A2 a b n1 n2 c1 c2 h1 h2 s1 s2).mono fun e V hp => by
   obtain ⟨A5, n5, c5, k1, k2, k3⟩ := Cx.post_ctx hp
   exact ⟨A5, n5, c5, k1, k2, hW.trans (k3.mono hW.size), k3⟩
theorem put_later {w W : World} {A : Option Addr} {l : List Ev.Evt} {n c : Nat} {q : Ev.EV} {x : Ev.Evt} (h : Ev.EventsAt W W.heap.size A l n c) (hq : Ev.EventIs W W.heap.size q x) (hn : n ≤ 1024) (hW : Below w.heap.size w W) :
   Calls Tryz.prog 44 #[.slice A n c, q.val] W fun e V => ∃ A5 n5 c5, e = .returned (.slice A5 n5 c5) ∧ Ev.EventsAt V V.heap.size A5 (Ev.putE l x) n5 c5 ∧ Below w.heap.size w V ∧ Below W.heap.size W V :=
 (Ev.rput_any W A l n c q x h hq (by omega)).mono fun e V ⟨A5, n5, c5, h1, h2, h3⟩ => ⟨A5, n5, c5, h1, h2, hW.trans (h3.mono hW.size), h3⟩
theorem bne_one (a : Nat) : ((a : Int) != 1) = !decide (a = 1) := by rw [bne, eq_one]
set_option maxHeartbeats 16000000 in
theorem rputb_any (w : World) (A1 A2 : Option Addr) (c : List Cx.Part) (l : List Ev.Evt) (n1 c1 n2 c2 : Nat) (q : Ev.EV) (x : Ev.Evt) (hc : Cx.CtxAt w A1 c n1 c1) (hl : Ev.EventsAt w w.heap.size A2 l n2 c2) (hq : Ev.EventIs w w.heap.size q x) (sc : Cx.Small c) (hn : n2 ≤ 64) :
   Calls Tryz.prog 10 #[.agg #[.slice A1 n1 c1, .slice A2 n2 c2], q.val] w (BnPost w (putB (c, l) x)) := by
 have hb1 := Ev.below_new w (bbox A1 A2 n1 c1 n2 c2)
 have HB := Lib.hid ((Ev.bel_alloc (bbox none none 0 0 0 0) (Ev.bel_alloc (.cells (ebox q) 38) hb1)))
 have R0 : Hid (At (((w.alloc (bbox A1 A2 n1 c1 n2 c2)).alloc (.cells (ebox q) 38)).alloc (bbox none none 0 0 0 0)) w.heap.size 31 #[.slice A1 n1 c1, .slice A2 n2 c2]) := Lib.hid (((At.new w _ _).below (Ev.below_new _ _) (by simp)).below (Ev.below_new _ _) (by simp; omega))
 have R1 : Hid (At (((w.alloc (bbox A1 A2 n1 c1 n2 c2)).alloc (.cells (ebox q) 38)).alloc (bbox none none 0 0 0 0)) (w.heap.size + 1) 38 (ebox q)) := Lib.hid (by
   have h := (At.new (w.alloc (bbox A1 A2 n1 c1 n2 c2)) 38 (ebox q)).below (Ev.below_new _ (bbox none none 0 0 0 0)) (by simp)
   rw [Ev.alloc_size] at h; exact h)
 have R2 : Hid (At (((w.alloc (bbox A1 A2 n1 c1 n2 c2)).alloc (.cells (ebox q) 38)).alloc (bbox none none 0 0 0 0)) (w.heap.size + 1 + 1) 31 #[.slice none 0 0, .slice none 0 0]) := Lib.hid (by
   have h := At.new ((w.alloc (bbox A1 A2 n1 c1 n2 c2)).alloc (.cells (ebox q) 38)) 31 #[.slice none 0 0, .slice none 0 0]
   rw [Ev.alloc_size, Ev.alloc_size] at h; exact h)
 have HA := Lib.hid (hc.up HB.out)
 have HL := Lib.hid (hl.up HB.out)
 have HQ := Lib.hid (hq.up HB.out)
 have SC := Lib.hid sc
 have hdot := Ev.is_dot hq
 have hfd := hq.fits.dot
 rw [hdot] at hfd
 have CG := Ev.rgood_any _ q x HQ.out
 have HD := Lib.hid hdot
 have HFD := Lib.hid hfd
 have HP : Hid (putB (c, l) x = if Ev.goodE x = false then ((c, l), 1) else if Cx.hasC c (q.dev, q.num) = true then ((c, l), 7) else ((Cx.setC c (Cx.ofC (Ev.dotsE [x])) 0, Ev.putE (l.filter (leftB x)) x), 0)) := Lib.hid (by unfold putB; rw [hdot])
 clear hc hl hq sc hb1 hdot hfd
 simp only [bbox, ebox] at HB R0 R1 R2 HA HL HQ CG
 simp only [Ev.EV.val] at CG ⊢
 go_enter Tryz.func10, Tryz.ntmps10
 go_upto_region 1 with fail
 generalize ((w.alloc (.cells #[.slice A1 n1 c1, .slice A2 n2 c2] 31)).alloc (.cells #[.int .u16 (q.dev : Int), .int .u64 (q.num : Int), .int .u8 (q.kind : Int), .int .u64 (q.cid : Int), .int .u8 (q.fld : Int), .string q.txt, .slice q.adr q.len q.cap] 38)).alloc (.cells #[.slice none 0 0, .slice none 0 0] 31) = w2 at *
 have hg0 := R0.out.lt
 have hg1 := R1.out.lt
 have hg2 := R2.out.lt
 have HK0 : Hid (∀ V, Below w2.heap.size w2 V → V.cell? ⟨w.heap.size, 0, none⟩ = some (.slice A1 n1 c1) ∧ V.cell? ⟨w.heap.size, 1, none⟩ = some (.slice A2 n2 c2)) := Lib.hid (fun V hV => ⟨(R0.out.below hV hg0).cell 0, (R0.out.below hV hg0).cell 1⟩)
 have HK1 : Hid (∀ V, Below w2.heap.size w2 V → V.cell? ⟨w.heap.size + 1, 0, none⟩ = some (.int .u16 (q.dev : Int)) ∧ V.cell? ⟨w.heap.size + 1, 1, none⟩ = some (.int .u64 (q.num : Int)) ∧ V.cell? ⟨w.heap.size + 1, 2, none⟩ = some (.int .u8 (q.kind : Int)) ∧ V.cell? ⟨w.heap.size + 1, 3, none⟩ = some (.int .u64 (q.cid : Int)) ∧ V.cell? ⟨w.heap.size + 1, 4, none⟩ = some (.int .u8 (q.fld : Int)) ∧ V.cell? ⟨w.heap.size + 1, 5, none⟩ = some (.string q.txt) ∧ V.cell? ⟨w.heap.size + 1, 6, none⟩ = some (.slice q.adr q.len q.cap)) := Lib.hid (fun V hV => ev_cells (R1.out.below hV hg1))
 have HK2 : Hid (∀ V u0, Below w2.heap.size w2 V → V.cell? ⟨w.heap.size + 1 + 1, 0, none⟩ = some (.slice none 0 0) ∧ V.frozen? ⟨w.heap.size + 1 + 1, 0, none⟩ = false ∧ (V.setCell ⟨w.heap.size + 1 + 1, 0, none⟩ u0).cell? ⟨w.heap.size + 1 + 1, 1, none⟩ = some (.slice none 0 0) ∧ (V.setCell ⟨w.heap.size + 1 + 1, 0, none⟩ u0).frozen? ⟨w.heap.size + 1 + 1, 1, none⟩ = false) := Lib.hid (fun V u0 hV => by
   have h := R2.out.below hV hg2
   have h2 := h.set 0 u0
   exact ⟨h.cell 0, h.frozen 0, h2.cell 1, h2.frozen 1⟩)
 obtain ⟨x0, x1, x2, x3, x4, x5, x6⟩ := HK1.out w2 (Below.refl _ _)
 cases hgd : Ev.goodE x with
 | false =>
   rw [hgd] at CG HP
   rw [if_pos rfl] at HP
   go_wp2_with fail
   refine CG.mono ?_
   rintro e V ⟨rfl, bv⟩
   obtain ⟨y0, y1⟩ := HK0.out V bv
   obtain ⟨r0, r1, r2, r3⟩ := HK2.out V (.slice A1 n1 c1) bv
   have HV := Lib.hid (two_set (HB.out.trans (bv.mono HB.out.size)) (g := w.heap.size + 1 + 1) (by omega) (.slice A1 n1 c1) (.slice A2 n2 c2))
   obtain ⟨ho, hnn, ht⟩ := two_off (R2.out.below bv hg2) A1 A2 n1 c1 n2 c2
   have HCF := Lib.hid (ctx_off hnn ho (HA.out.up bv))
   have HLF := Lib.hid (evts_off hnn ho (HL.out.up bv))
   have z0 := ht.cell 0
   have z1 := ht.cell 1
   simp at z0 z1
   clear x0 x1 x2 x3 x4 x5 x6 CG ho hnn ht bv R0 R1 R2 HA HL HQ HK0 HK1 HK2
   go_wp2
   refine bodyPost_ret (v := .tuple #[.agg #[.slice A1 n1 c1, .slice A2 n2 c2], .int .i64 1]) ?_ rfl ?_
   · simp [results, Tryz.f10, go_sem, z0, z1]
   · rw [HP.out]
     exact ⟨A1, n1, c1, A2, n2, c2, rfl, HCF.out, HLF.out, HV.out⟩
 | true =>
   rw [hgd] at CG HP
   rw [if_neg (by decide)] at HP
   go_wp2_with fail
   refine CG.mono ?_
   rintro e V ⟨rfl, bv⟩
   have CHS := Cx.rhas_any V A1 c n1 c1 (q.dev, q.num) (HA.out.up bv) SC.out HFD.out
   have HBV := Lib.hid bv
   obtain ⟨y0, y1⟩ := HK0.out V bv
   clear x0 x1 x2 x3 x4 x5 x6 CG bv
   obtain ⟨x0, x1, x2, x3, x4, x5, x6⟩ := HK1.out V HBV.out
   cases hsn : Cx.hasC c (q.dev, q.num) with
   | true =>
     rw [hsn] at CHS HP
     rw [if_pos rfl] at HP
     go_wp2_with fail
     refine CHS.mono ?_
     rintro e V3 ⟨rfl, bv3⟩
     have bv : Below w2.heap.size w2 V3 := HBV.out.trans (bv3.mono HBV.out.size)
     clear y0 y1
     obtain ⟨y0, y1⟩ := HK0.out V3 bv
     obtain ⟨r0, r1, r2, r3⟩ := HK2.out V3 (.slice A1 n1 c1) bv
     have HV := Lib.hid (two_set (HB.out.trans (bv.mono HB.out.size)) (g := w.heap.size + 1 + 1) (by omega) (.slice A1 n1 c1) (.slice A2 n2 c2))
     obtain ⟨ho, hnn, ht⟩ := two_off (R2.out.below bv hg2) A1 A2 n1 c1 n2 c2
     have HCF := Lib.hid (ctx_off hnn ho (HA.out.up bv))
     have HLF := Lib.hid (evts_off hnn ho (HL.out.up bv))
     have z0 := ht.cell 0
     have z1 := ht.cell 1
     simp at z0 z1
     clear x0 x1 x2 x3 x4 x5 x6 CHS ho hnn ht bv bv3 R0 R1 R2 HA HL HQ HK0 HK1 HK2 HBV
     go_wp2
     refine bodyPost_ret (v := .tuple #[.agg #[.slice A1 n1 c1, .slice A2 n2 c2], .int .i64 7]) ?_ rfl ?_
     · simp [results, Tryz.f10, go_sem, z0, z1]
     · rw [HP.out]
       exact ⟨A1, n1, c1, A2, n2, c2, rfl, HCF.out, HLF.out, HV.out⟩
   | false =>
     rw [hsn] at CHS HP
     rw [if_neg (by decide)] at HP
     go_wp2_with fail
     refine CHS.mono ?_
     rintro e w3 ⟨rfl, bv3⟩
     have HW2 : Hid (Below w2.heap.size w2 w3) := Lib.hid (HBV.out.trans (bv3.mono HBV.out.size))
     have HL3 := Lib.hid (HL.out.up HW2.out)
     have HQ3 := Lib.hid (HQ.out.up HW2.out)
     clear x0 x1 x2 x3 x4 x5 x6 y0 y1 CHS bv3 HBV
     go_wp2
     go_loopw [6, 7] (fun v i wr => SRel w3 n2 l (leftB x) v i wr) (fun _ i _ => n2 - (intOf i).toNat)
     case atStart => exact s_start _ _ _ _
     case round =>
       obtain ⟨k, m, A, cc, ps, hk, rfl, rfl, hm, hma, ho, hw⟩ := hrel
       have hmk := s_long hm hma
       have HM := Lib.hid hm
       have HMA := Lib.hid hma
       have HO := Lib.hid ho
       have HW := Lib.hid hw
       have HWW : Hid (Below w2.heap.size w2 wr) := Lib.hid (HW2.out.trans (hw.mono HW2.out.size))
       clear hm hma ho hw
       obtain ⟨y0, y1⟩ := HK0.out wr HWW.out
       by_cases hlt : k < n2
       · obtain ⟨ad, q9, y, rfl, hB, hly, hqy, cq⟩ := HL3.out.at_ hlt
         have HLY := Lib.hid hly
         have HQY := Lib.hid hqy
         have HCE : Hid (∀ V, Below w3.heap.size w3 V → Ev.CellsAt V (ad.add (k * 7)) q9) := Lib.hid (fun V hV => cq.kept hV)
         have hqd := Ev.is_dot hqy
         have HF : Hid (leftB x y = (((q9.kind : Int) != 1) || !decide ((q9.dev, q9.num) ∈ x.kills))) := Lib.hid (by rw [bne_one, hqy.kind, ← hqd]; rfl)
         obtain ⟨e0, e1, e2, e3, e4, e5, e6⟩ := HCE.out wr HW.out
         obtain ⟨x0, x1, x2, x3, x4, x5, x6⟩ := HK1.out wr HWW.out
         clear hly hqy cq hqd
         cases h1 : ((q9.kind : Int) != 1) with
         | true =>
           have HT : Hid (leftB x y = true) := Lib.hid (by rw [HF.out, h1]; rfl)
           go_wp2_with fail
           go_quiet (fail)
           have HVV : Hid (Below w3.heap.size w3 (wr.drewN nq)) := Lib.hid (Ev.bel_drewN HW.out nq)
           have HOV : Hid ((wr.drewN nq).ownsRow w3.heap.size 38 7 (.slice A m cc) m (Ev.ev ps)) := Lib.hid HO.out
           clear e0 e1 e2 e3 e4 e5 e6 x0 x1 x2 x3 x4 x5 x6 y0 y1 HO HW HWW
           generalize wr.drewN nq = VV at *
           obtain ⟨y0, y1⟩ := HK0.out VV (HW2.out.trans (HVV.out.mono HW2.out.size))
           have HOA := Lib.hid (HOV.out.alloc q9.box)
           have HLO : Hid (m + 1 ≤ 1649267441664) := Lib.hid (by omega)
           have HWA : Hid (Below w3.heap.size w3 (VV.alloc q9.box)) := Lib.hid (Ev.bel_alloc _ HVV.out)
           obtain ⟨e0, e1, e2, e3, e4, e5, e6⟩ := HCE.out VV HVV.out
           go_wp2_with (at_builtin; refine Ev.wpList_evt rfl (.tmp 44) (.tmp 50) rfl rfl _ w3.heap.size m (.slice A m cc) ps (some ⟨VV.heap.size, 0, none⟩) [q9] 1 1 rfl rfl HOA.out (fun h => by cases h) (Ev.lies_evt VV q9) rfl HLO.out HWA.out.size ?_; intro A3 c3 V9 ho9 hg9; have HR := Lib.hid (s_take hlt HLY.out HT.out HQY.out HM.out HMA.out ho9 (Ev.evt_grown HOA.out HWA.out hg9)); clear ho9 hg9)
           go_roundw
           case rel => exact HR.out
           case measure => simp [intOf]; omega
         | false =>
           obtain ⟨b, hb⟩ : ∃ b, decide ((q9.dev, q9.num) ∈ x.kills) = b := ⟨_, rfl⟩
           have HKK : Hid (∀ V, Below wr.heap.size wr V → V.cell? ⟨w.heap.size, 1, none⟩ = some (.slice (some ad) n2 c2) ∧ V.cell? ⟨w.heap.size + 1, 6, none⟩ = some (.slice q.adr q.len q.cap) ∧ V.cell? (ad.add (k * 7)) = some (.int .u16 (q9.dev : Int)) ∧ V.cell? ⟨(ad.add (k * 7)).block, (ad.add (k * 7)).off + 1, none⟩ = some (.int .u64 (q9.num : Int)) ∧ V.cell? ⟨(ad.add (k * 7)).block, (ad.add (k * 7)).off + 2, none⟩ = some (.int .u8 (q9.kind : Int))) := Lib.hid (fun V hV => by
             have h1 := (HK0.out V (HWW.out.trans (hV.mono HWW.out.size))).2
             have h2 := (HK1.out V (HWW.out.trans (hV.mono HWW.out.size))).2.2.2.2.2.2
             have h3 := HCE.out V (HW.out.trans (hV.mono HW.out.size))
             exact ⟨h1, h2, h3.c0, h3.c1, h3.c2⟩)
           have CT := fun W (hW : Below wr.heap.size wr W) => has_laterD wr W q.adr x.kills q.len q.cap (q9.dev, q9.num) (HQ3.out.kills.up (HW.out.trans (hW.mono HW.out.size))) hW
           rw [h1, hb, Bool.false_or] at HF
           rw [hb] at CT
           clear hb
           cases b with
           | true =>
             have HT : Hid (leftB x y = false) := Lib.hid (by rw [HF.out]; rfl)
             go_wp2_with fail
             go_region_held3 (fun V => V.cell? ⟨w.heap.size, 1, none⟩ = some (.slice (some ad) n2 c2) ∧ V.cell? ⟨w.heap.size + 1, 6, none⟩ = some (.slice q.adr q.len q.cap) ∧ V.cell? (ad.add (k * 7)) = some (.int .u16 (q9.dev : Int)) ∧ V.cell? ⟨(ad.add (k * 7)).block, (ad.add (k * 7)).off + 1, none⟩ = some (.int .u64 (q9.num : Int)) ∧ V.cell? ⟨(ad.add (k * 7)).block, (ad.add (k * 7)).off + 2, none⟩ = some (.int .u8 (q9.kind : Int))) (first | exact ⟨y1, x6, e0, e1, e2⟩ | assumption | exact HKK.out _ (by (repeat (first | exact Below.refl _ _ | assumption | apply Ev.bel_drew | apply Ev.bel_alloc)))) (first
               | (go_at_call 34; (with_reducible refine (CT _ ?_).mono ?_); (focus (repeat (first | exact Below.refl _ _ | assumption | apply Ev.bel_drew | apply Ev.bel_alloc))); rintro r VV ⟨rfl, bvv⟩; have hcV := HKK.out VV bvv))
             all_goals
               have HVV : Hid (Below w3.heap.size w3 VV) := Lib.hid (HW.out.trans (bvv.mono HW.out.size))
               have HOV := Lib.hid (Dt.own_kept HO.out bvv)
               clear e0 e1 e2 e3 e4 e5 e6 x0 x1 x2 x3 x4 x5 x6 y0 y1 HO HW HWW CT HKK bvv hcV
               have HR := Lib.hid (s_skip (f := leftB x) hlt HLY.out HT.out HM.out HMA.out HOV.out HVV.out)
               go_wp2
               go_roundw
               case rel => exact HR.out
               case measure => simp [intOf]; omega
           | false =>
             have HT : Hid (leftB x y = true) := Lib.hid (by rw [HF.out]; rfl)
             go_wp2_with fail
             go_region_held3 (fun V => V.cell? ⟨w.heap.size, 1, none⟩ = some (.slice (some ad) n2 c2) ∧ V.cell? ⟨w.heap.size + 1, 6, none⟩ = some (.slice q.adr q.len q.cap) ∧ V.cell? (ad.add (k * 7)) = some (.int .u16 (q9.dev : Int)) ∧ V.cell? ⟨(ad.add (k * 7)).block, (ad.add (k * 7)).off + 1, none⟩ = some (.int .u64 (q9.num : Int)) ∧ V.cell? ⟨(ad.add (k * 7)).block, (ad.add (k * 7)).off + 2, none⟩ = some (.int .u8 (q9.kind : Int))) (first | exact ⟨y1, x6, e0, e1, e2⟩ | assumption | exact HKK.out _ (by (repeat (first | exact Below.refl _ _ | assumption | apply Ev.bel_drew | apply Ev.bel_alloc)))) (first
               | (go_at_call 34; (with_reducible refine (CT _ ?_).mono ?_); (focus (repeat (first | exact Below.refl _ _ | assumption | apply Ev.bel_drew | apply Ev.bel_alloc))); rintro r VV ⟨rfl, bvv⟩; have hcV := HKK.out VV bvv))
             all_goals
               have HVV : Hid (Below w3.heap.size w3 VV) := Lib.hid (HW.out.trans (bvv.mono HW.out.size))
               have HOV := Lib.hid (Dt.own_kept HO.out bvv)
               clear e0 e1 e2 e3 e4 e5 e6 x0 x1 x2 x3 x4 x5 x6 y0 y1 HO HW HWW CT HKK bvv hcV
               obtain ⟨y0, y1⟩ := HK0.out VV (HW2.out.trans (HVV.out.mono HW2.out.size))
               have HOA := Lib.hid (HOV.out.alloc q9.box)
               have HLO : Hid (m + 1 ≤ 1649267441664) := Lib.hid (by omega)
               have HWA : Hid (Below w3.heap.size w3 (VV.alloc q9.box)) := Lib.hid (Ev.bel_alloc _ HVV.out)
               obtain ⟨e0, e1, e2, e3, e4, e5, e6⟩ := HCE.out VV HVV.out
               go_wp2_with (at_builtin; refine Ev.wpList_evt rfl (.tmp 44) (.tmp 50) rfl rfl _ w3.heap.size m (.slice A m cc) ps (some ⟨VV.heap.size, 0, none⟩) [q9] 1 1 rfl rfl HOA.out (fun h => by cases h) (Ev.lies_evt VV q9) rfl HLO.out HWA.out.size ?_; intro A3 c3 V9 ho9 hg9; have HR := Lib.hid (s_take hlt HLY.out HT.out HQY.out HM.out HMA.out ho9 (Ev.evt_grown HOA.out HWA.out hg9)); clear ho9 hg9)
               go_roundw
               case rel => exact HR.out
               case measure => simp [intOf]; omega
       · obtain rfl : k = n2 := by omega
         have HEA := Lib.hid (s_done HL3.out.len (by omega) HM.out HMA.out HO.out HW.out)
         have HQW := Lib.hid (HQ3.out.up HW.out)
         have HAW := Lib.hid (HA.out.up HWW.out)
         have hxk := good_kills hgd
         have hxd : (Ev.dotsE [x]).length ≤ 281 := by have := dots_one x; omega
         have HFE : Hid (Dt.Fit (Ev.dotsE [x])) := Lib.hid (fun d hd => by
           obtain ⟨y, hy, h2⟩ := (dots_mem [x] d).1 hd
           rw [List.mem_singleton.1 hy] at h2
           rcases h2 with rfl | h2
           · exact HQW.out.fits.dot
           · exact HQW.out.kills.dots.1 d h2)
         have HSO : Hid (Cx.Small (Cx.ofC (Ev.dotsE [x]))) := Lib.hid ((Cx.of_whole _ HFE.out).small (by omega))
         obtain ⟨x0, x1, x2, x3, x4, x5, x6⟩ := HK1.out wr HWW.out
         have hm64 : m ≤ 1024 := by omega
         have HKK : Hid (∀ V, Below wr.heap.size wr V → (V.cell? ⟨w.heap.size, 0, none⟩ = some (.slice A1 n1 c1) ∧ V.cell? ⟨w.heap.size, 1, none⟩ = some (.slice A2 k c2)) ∧ V.cell? ⟨w.heap.size + 1, 0, none⟩ = some (.int .u16 (q.dev : Int)) ∧ V.cell? ⟨w.heap.size + 1, 1, none⟩ = some (.int .u64 (q.num : Int)) ∧ V.cell? ⟨w.heap.size + 1, 2, none⟩ = some (.int .u8 (q.kind : Int)) ∧ V.cell? ⟨w.heap.size + 1, 3, none⟩ = some (.int .u64 (q.cid : Int)) ∧ V.cell? ⟨w.heap.size + 1, 4, none⟩ = some (.int .u8 (q.fld : Int)) ∧ V.cell? ⟨w.heap.size + 1, 5, none⟩ = some (.string q.txt) ∧ V.cell? ⟨w.heap.size + 1, 6, none⟩ = some (.slice q.adr q.len q.cap)) := Lib.hid (fun V hV => ⟨HK0.out V (HWW.out.trans (hV.mono HWW.out.size)), HK1.out V (HWW.out.trans (hV.mono HWW.out.size))⟩)
         go_upto_region 11 with fail
         have HKS : Hid (∀ V u0 u1, Below wr.heap.size wr V → (((V.setCell ⟨w.heap.size + 1 + 1, 0, none⟩ u0).setCell ⟨w.heap.size + 1 + 1, 1, none⟩ u1).cell? ⟨w.heap.size, 0, none⟩ = some (.slice A1 n1 c1) ∧ ((V.setCell ⟨w.heap.size + 1 + 1, 0, none⟩ u0).setCell ⟨w.heap.size + 1 + 1, 1, none⟩ u1).cell? ⟨w.heap.size, 1, none⟩ = some (.slice A2 k c2)) ∧ ((V.setCell ⟨w.heap.size + 1 + 1, 0, none⟩ u0).setCell ⟨w.heap.size + 1 + 1, 1, none⟩ u1).cell? ⟨w.heap.size + 1, 0, none⟩ = some (.int .u16 (q.dev : Int)) ∧ ((V.setCell ⟨w.heap.size + 1 + 1, 0, none⟩ u0).setCell ⟨w.heap.size + 1 + 1, 1, none⟩ u1).cell? ⟨w.heap.size + 1, 1, none⟩ = some (.int .u64 (q.num : Int)) ∧ ((V.setCell ⟨w.heap.size + 1 + 1, 0, none⟩ u0).setCell ⟨w.heap.size + 1 + 1, 1, none⟩ u1).cell? ⟨w.heap.size + 1, 2, none⟩ = some (.int .u8 (q.kind : Int)) ∧ ((V.setCell ⟨w.heap.size + 1 + 1, 0, none⟩ u0).setCell ⟨w.heap.size + 1 + 1, 1, none⟩ u1).cell? ⟨w.heap.size + 1, 3, none⟩ = some (.int .u64 (q.cid : Int)) ∧ ((V.setCell ⟨w.heap.size + 1 + 1, 0, none⟩ u0).setCell ⟨w.heap.size + 1 + 1, 1, none⟩ u1).cell? ⟨w.heap.size + 1, 4, none⟩ = some (.int .u8 (q.fld : Int)) ∧ ((V.setCell ⟨w.heap.size + 1 + 1, 0, none⟩ u0).setCell ⟨w.heap.size + 1 + 1, 1, none⟩ u1).cell? ⟨w.heap.size + 1, 5, none⟩ = some (.string q.txt) ∧ ((V.setCell ⟨w.heap.size + 1 + 1, 0, none⟩ u0).setCell ⟨w.heap.size + 1 + 1, 1, none⟩ u1).cell? ⟨w.heap.size + 1, 6, none⟩ = some (.slice q.adr q.len q.cap)) := Lib.hid (fun V u0 u1 hV => by
           have hV2 := HWW.out.trans (hV.mono HWW.out.size)
           have h0 := ((R0.out.below hV2 hg0).other (h := w.heap.size + 1 + 1) (i := 0) (by omega) u0).other (h := w.heap.size + 1 + 1) (i := 1) (by omega) u1
           have h1 := ((R1.out.below hV2 hg1).other (h := w.heap.size + 1 + 1) (i := 0) (by omega) u0).other (h := w.heap.size + 1 + 1) (i := 1) (by omega) u1
           exact ⟨⟨h0.cell 0, h0.cell 1⟩, ev_cells h1⟩)
         have HRR := Lib.hid (fun V u0 (hV : Below wr.heap.size wr V) => HK2.out V u0 (HWW.out.trans (hV.mono HWW.out.size)))
         go_region_held3 (fun V => (V.cell? ⟨w.heap.size, 0, none⟩ = some (.slice A1 n1 c1) ∧ V.cell? ⟨w.heap.size, 1, none⟩ = some (.slice A2 k c2)) ∧ V.cell? ⟨w.heap.size + 1, 0, none⟩ = some (.int .u16 (q.dev : Int)) ∧ V.cell? ⟨w.heap.size + 1, 1, none⟩ = some (.int .u64 (q.num : Int)) ∧ V.cell? ⟨w.heap.size + 1, 2, none⟩ = some (.int .u8 (q.kind : Int)) ∧ V.cell? ⟨w.heap.size + 1, 3, none⟩ = some (.int .u64 (q.cid : Int)) ∧ V.cell? ⟨w.heap.size + 1, 4, none⟩ = some (.int .u8 (q.fld : Int)) ∧ V.cell? ⟨w.heap.size + 1, 5, none⟩ = some (.string q.txt) ∧ V.cell? ⟨w.heap.size + 1, 6, none⟩ = some (.slice q.adr q.len q.cap)) (first | exact ⟨⟨y0, y1⟩, x0, x1, x2, x3, x4, x5, x6⟩ | assumption | exact HKS.out _ _ _ (by assumption) | exact HKK.out _ (by (repeat (first | exact Below.refl _ _ | assumption | apply Ev.bel_drew | apply Ev.bel_alloc)))) (first
           | (go_at_call 43; refine (dots_laterE (w := wr) (x := x) (c := 1) ?_ hxk ?_).mono ?_; (focus (first | exact evts_one wr q x HQW.out | exact (evts_one wr q x HQW.out).up (Ev.bel_drew (Below.refl _ _)) | exact evts_one wr.drew q x HQW.out)); (focus (repeat (first | exact Below.refl _ _ | assumption | apply Ev.bel_drew | apply Ev.bel_alloc))); rintro r V1 ⟨A5, n5, c5, rfl, hd5, bv1, bw1⟩; have hcV1 := HKK.out V1 bv1)
           | (go_at_call 41; refine (of_later (w := wr) hd5 hxd ?_).mono ?_; (focus (repeat (first | exact Below.refl _ _ | assumption | apply Ev.bel_drew | apply Ev.bel_alloc))); rintro r V2 ⟨A6, n6, c6, rfl, hd6, bv2, bw2⟩; have hcV2 := HKK.out V2 bv2)
           | (go_at_call 42; refine (join_later (w := wr) (HAW.out.up bv2) hd6 SC.out HSO.out ?_).mono ?_; (focus (repeat (first | exact Below.refl _ _ | assumption | apply Ev.bel_drew | apply Ev.bel_alloc))); rintro r V3 ⟨A7, n7, c7, rfl, hd7, bv3, bw3⟩; have hcV3 := HKK.out V3 bv3)
           | (go_at_call 44; refine (put_later (w := wr) (x := x) (q := q) (HEA.out.up bv3) (HQW.out.up bv3) hm64 ?_).mono ?_; (focus (repeat (first | exact Below.refl _ _ | assumption | apply Ev.bel_drew | apply Ev.bel_alloc))); rintro r V4 ⟨A8, n8, c8, rfl, hd8, bv4, bw4⟩; have hcV4 := HKK.out V4 bv4; obtain ⟨r0, r1, r2, r3⟩ := HRR.out V4 (.slice A7 n7 c7) bv4))
         all_goals
           have hV24 := HWW.out.trans (bv4.mono HWW.out.size)
           have HV := Lib.hid (two_set (HB.out.trans (hV24.mono HB.out.size)) (g := w.heap.size + 1 + 1) (by omega) (.slice A7 n7 c7) (.slice A8 n8 c8))
           obtain ⟨hoo, hnn, ht⟩ := two_off (R2.out.below hV24 hg2) A7 A8 n7 c7 n8 c8
           have HCF := Lib.hid (ctx_off hnn hoo (hd7.up bw4))
           have HLF := Lib.hid (evts_off hnn hoo hd8)
           have z0 := ht.cell 0
           have z1 := ht.cell 1
           simp at z0 z1
           clear hoo hnn ht hd5 hd6 hd7 hd8 bv1 bv2 bv3 bv4 bw1 bw2 bw3 bw4 hV24 r0 r1 r2 r3 R0 R1 R2 HA HL HQ HK0 HK1 HK2 HKK HKS HRR HO HW HWW hcV1 hcV2 hcV3 hcV4
           go_wp2
           refine bodyPost_ret (v := .tuple #[.agg #[.slice A7 n7 c7, .slice A8 n8 c8], .int .i64 0]) ?_ rfl ?_
           · simp [results, Tryz.f10, go_sem, z0, z1]
           · rw [HP.out]
             exact ⟨A7, n7, c7, A8, n8, c8, rfl, HCF.out, HLF.out, HV.out⟩
end Go.Proofs.YtgaegfddobpomaaGreat.Bk
