/- Words and contracts that the proofs of this seat stand on, part 34 of 39. -/
import Derived.Test.YtgaegfddobpomaaGreatOrBB
import Derived.Test.YtgaegfddobpomaaGreatOrBG
import Derived.Test.YtgaegfddobpomaaGreatOrBF
import Derived.Test.YtgaegfddobpomaaGreatOrW
import Derived.Deep.RegionHeld3
import Derived.Deep.RegionLaw
import Derived.Test.YtgaegfddobpomaaGreatOrD

namespace Go.Proofs.YtgaegfddobpomaaGreat.Ev
open Go.ChangeShapes Go.WideShapes Go.ChangeAt Go.RowKit
set_option linter.unusedVariables false
set_option maxRecDepth 4000
set_option maxHeartbeats 8000000 in
theorem psameE_any (w : World) (p q : EV) (x y : Evt) (h1 : EventIs w w.heap.size p x) (h2 : EventIs w w.heap.size q y) :
   Calls Tryz.prog 104 #[p.val, q.val] w fun e w' => e = .returned (.bool (decide (x = y))) ∧ Below w.heap.size w w' := by
 have hx := h1.eq
 have hy := h2.eq
 have HB := Lib.hid (below_new2 w p.box q.box)
 have CE := fun (_ : Unit) => Dt.psame_any ((w.alloc p.box).alloc q.box) w.heap.size w.heap.size p.adr q.adr x.kills y.kills p.len q.len p.cap q.cap h1.kills.len h2.kills.len (h1.kills.dots.below HB.out) (h2.kills.dots.below HB.out) (Nat.le_trans h1.kills.wide (by decide))
 generalize x.kills = xl at hx CE
 generalize y.kills = yl at hy CE
 subst hx hy
 clear h1 h2
 obtain ⟨p1, p2, p3, p4, p5, p6, pA, pn, pc⟩ := p
 obtain ⟨q1, q2, q3, q4, q5, q6, qA, qn, qc⟩ := q
 have hb1 := box_first w ⟨p1, p2, p3, p4, p5, p6, pA, pn, pc⟩ (EV.box ⟨q1, q2, q3, q4, q5, q6, qA, qn, qc⟩)
 have hb2 := box_last w (EV.box ⟨p1, p2, p3, p4, p5, p6, pA, pn, pc⟩) ⟨q1, q2, q3, q4, q5, q6, qA, qn, qc⟩
 obtain ⟨a0, a1, a2, a3, a4, a5, a6⟩ := hb1
 obtain ⟨b0, b1, b2, b3, b4, b5, b6⟩ := hb2
 simp only [EV.val]
 simp only [EV.box, Nat.zero_add] at HB CE a0 a1 a2 a3 a4 a5 a6 b0 b1 b2 b3 b4 b5 b6
 have hs := eq_texts p6 q6
 by_cases e1 : p1 = q1
 · subst e1
   by_cases e2 : p2 = q2
   · subst e2
     by_cases e3 : p3 = q3
     · subst e3
       by_cases e4 : p4 = q4
       · subst e4
         by_cases e5 : p5 = q5
         · subst e5
           by_cases e6 : p6 = q6
           · subst e6
             have hd : Hid (decide ((⟨(p1, p2), p3, p4, p5, p6, xl⟩ : Evt) = ⟨(p1, p2), p3, p4, p5, p6, yl⟩) = decide (xl = yl)) := Lib.hid (by rw [Bool.eq_iff_iff]; simp)
             rw [hd.out]
             rw [decide_eq_true rfl] at hs
             clear hd
             generalize decide (xl = yl) = ans at CE ⊢
             go_enter Tryz.func104, Tryz.ntmps104
             go_wp2_with fail
             refine (CE ()).mono ?_
             rintro e w' ⟨rfl, hbw⟩
             have HW := Lib.hid (HB.out.trans (hbw.mono HB.out.size))
             clear hbw CE
             go_wp2
             go_ret
             exact ⟨rfl, HW.out⟩
           · have hd : Hid (decide ((⟨(p1, p2), p3, p4, p5, p6, xl⟩ : Evt) = ⟨(p1, p2), p3, p4, p5, q6, yl⟩) = false) := Lib.hid (decide_eq_false (fun e => e6 (by injection e)))
             rw [hd.out]
             rw [decide_eq_false e6] at hs
             clear hd e6 CE
             go_enter Tryz.func104, Tryz.ntmps104
             go_wp2
             go_ret
             exact ⟨rfl, HB.out⟩
         · have hd : Hid (decide ((⟨(p1, p2), p3, p4, p5, p6, xl⟩ : Evt) = ⟨(p1, p2), p3, p4, q5, q6, yl⟩) = false) := Lib.hid (decide_eq_false (fun e => e5 (by injection e)))
           have hb := beq_nat e5
           rw [hd.out]
           clear hd e5 CE hs
           go_enter Tryz.func104, Tryz.ntmps104
           go_wp2
           go_ret
           exact ⟨rfl, HB.out⟩
       · have hd : Hid (decide ((⟨(p1, p2), p3, p4, p5, p6, xl⟩ : Evt) = ⟨(p1, p2), p3, q4, q5, q6, yl⟩) = false) := Lib.hid (decide_eq_false (fun e => e4 (by injection e)))
         have hb := beq_nat e4
         rw [hd.out]
         clear hd e4 CE hs
         go_enter Tryz.func104, Tryz.ntmps104
         go_wp2
         go_ret
         exact ⟨rfl, HB.out⟩
     · have hd : Hid (decide ((⟨(p1, p2), p3, p4, p5, p6, xl⟩ : Evt) = ⟨(p1, p2), q3, q4, q5, q6, yl⟩) = false) := Lib.hid (decide_eq_false (fun e => e3 (by injection e)))
       have hb := beq_nat e3
       rw [hd.out]
       clear hd e3 CE hs
       go_enter Tryz.func104, Tryz.ntmps104
       go_wp2
       go_ret
       exact ⟨rfl, HB.out⟩
   · have hd : Hid (decide ((⟨(p1, p2), p3, p4, p5, p6, xl⟩ : Evt) = ⟨(p1, q2), q3, q4, q5, q6, yl⟩) = false) := Lib.hid (decide_eq_false (fun e => e2 (by injection e with e _; injection e)))
     have hb := beq_nat e2
     rw [hd.out]
     clear hd e2 CE hs
     go_enter Tryz.func104, Tryz.ntmps104
     go_wp2
     go_ret
     exact ⟨rfl, HB.out⟩
 · have hd : Hid (decide ((⟨(p1, p2), p3, p4, p5, p6, xl⟩ : Evt) = ⟨(q1, q2), q3, q4, q5, q6, yl⟩) = false) := Lib.hid (decide_eq_false (fun e => e1 (by injection e with e _; injection e)))
   have hb := beq_nat e1
   rw [hd.out]
   clear hd e1 CE hs
   go_enter Tryz.func104, Tryz.ntmps104
   go_wp2
   go_ret
   exact ⟨rfl, HB.out⟩
set_option maxHeartbeats 8000000 in
theorem pequalE_any (w : World) (A1 A2 : Option Addr) (l1 l2 : List Evt) (n1 n2 c1 c2 : Nat) (h1 : EventsAt w w.heap.size A1 l1 n1 c1) (h2 : EventsAt w w.heap.size A2 l2 n2 c2) :
   Calls Tryz.prog 103 #[.slice A1 n1 c1, .slice A2 n2 c2, .func (.func 104) #[] #[]] w fun e w' => e = .returned (.bool (decide (l1 = l2))) ∧ Below w.heap.size w w' := by
 have H1 := Lib.hid h1
 have H2 := Lib.hid h2
 have h63 : n1 ≤ 2199023255552 := h1.wide
 clear h1 h2
 by_cases hn : n1 = n2
 · subst hn
   go_enter Tryz.func103, Tryz.ntmps103
   go_wp2
   go_loopw [17] (fun i wr => ∃ k : Nat, k ≤ n1 ∧ i = .int .i64 (k : Int) ∧ l1.take k = l2.take k ∧ Below w.heap.size w wr) (fun i _ => n1 - (intOf i).toNat)
   case atStart => exact ⟨0, Nat.zero_le _, rfl, by simp, Below.refl _ _⟩
   case round =>
     obtain ⟨k, hk, rfl, ht, hw⟩ := hrel
     have HT := Lib.hid ht
     have HW := Lib.hid hw
     have HA1 : Hid (EventsAt wr wr.heap.size A1 l1 n1 c1) := Lib.hid (H1.out.up hw)
     have HA2 : Hid (EventsAt wr wr.heap.size A2 l2 n1 c2) := Lib.hid (H2.out.up hw)
     clear ht hw
     by_cases hlt : k < n1
     · obtain ⟨a1, p, x, rfl, _, hlx, hp, cp⟩ := HA1.out.at_ hlt
       obtain ⟨a2, q, y, rfl, _, hly, hq, cq⟩ := HA2.out.at_ hlt
       have hN2 := below_new2 wr p.box q.box
       have CT := psameE_any ((wr.alloc p.box).alloc q.box) p q x y (hp.up hN2) (hq.up hN2)
       have cq1 := cq.kept (below_new wr p.box)
       have hb1 := (box_first wr p q.box).all
       have hb2 := (box_last wr p.box q).all
       have HW2 := Lib.hid (HW.out.trans (hN2.mono HW.out.size))
       obtain ⟨p1, p2, p3, p4, p5, p6, pA, pn, pc⟩ := p
       obtain ⟨q1, q2, q3, q4, q5, q6, qA, qn, qc⟩ := q
       simp only [EV.val] at CT
       simp only [EV.box] at HW2 CT cq1 hb1 hb2
       obtain ⟨x0, x1, x2, x3, x4, x5, x6⟩ := cp
       obtain ⟨y0, y1, y2, y3, y4, y5, y6⟩ := cq1
       obtain ⟨b0, b1, b2, b3, b4, b5, b6⟩ := hb1
       obtain ⟨d0, d1, d2, d3, d4, d5, d6⟩ := hb2
       clear hp hq cq hN2
       by_cases hxy : x = y
       · have HS := Lib.hid (take_more HT.out hlx (by rw [hly, hxy]))
         rw [decide_eq_true hxy] at CT
         clear hlx hly hxy
         go_wp2_with fail
         refine CT.mono ?_
         rintro e w3 ⟨rfl, hb⟩
         have HW3 := Lib.hid (HW2.out.trans (hb.mono HW2.out.size))
         clear hb CT b0 b1 b2 b3 b4 b5 b6 d0 d1 d2 d3 d4 d5 d6
         go_wp2
         go_roundw
         case rel => exact ⟨k + 1, by omega, by go_num, HS.out, HW3.out⟩
         case measure => simp [intOf]; omega
       · have hd : Hid (decide (l1 = l2) = false) := decide_eq_false (ne_at hlx hly hxy)
         rw [decide_eq_false hxy] at CT
         clear hlx hly hxy
         go_wp2_with fail
         refine CT.mono ?_
         rintro e w3 ⟨rfl, hb⟩
         have HW3 := Lib.hid (HW2.out.trans (hb.mono HW2.out.size))
         clear hb CT b0 b1 b2 b3 b4 b5 b6 d0 d1 d2 d3 d4 d5 d6
         go_wp2
         go_ret
         exact ⟨ret_bool hd.out.symm, HW3.out⟩
     · obtain rfl : k = n1 := by omega
       have hd : Hid (l1 = l2) := by
         have h := HT.out
         rw [List.take_of_length_le (by rw [H1.out.len]; exact Nat.le_refl _), List.take_of_length_le (by rw [H2.out.len]; exact Nat.le_refl _)] at h
         exact h
       go_wp2
       go_ret
       exact ⟨ret_bool (by rw [decide_eq_true hd.out]), HW.out⟩
 · have hd : Hid (decide (l1 = l2) = false) := decide_eq_false (fun e => hn (by rw [← H1.out.len, ← H2.out.len, e]))
   have hne : ((n1 : Int) != (n2 : Int)) = true := by rw [bne_iff_ne]; omega
   go_enter Tryz.func103, Tryz.ntmps103
   go_wp2
   go_ret
   exact ⟨ret_bool hd.out.symm, Below.refl _ _⟩
theorem pallE_any (w : World) (A1 A2 : Option Addr) (l1 l2 : List Evt) (n1 n2 c1 c2 : Nat) (h1 : EventsAt w w.heap.size A1 l1 n1 c1) (h2 : EventsAt w w.heap.size A2 l2 n2 c2) :
   Calls Tryz.prog 60 #[.slice A1 n1 c1, .slice A2 n2 c2] w fun e w' => e = .returned (.bool (decide (l1 = l2))) ∧ Below w.heap.size w w' := by
 have CC := pequalE_any w A1 A2 l1 l2 n1 n2 c1 c2 h1 h2
 generalize decide (l1 = l2) = ans at CC ⊢
 clear h1 h2
 go_enter Tryz.func60, Tryz.ntmps60
 go_wp2_with fail
 refine CC.mono ?_
 rintro e w' ⟨rfl, hb⟩
 have HB := Lib.hid hb
 clear hb CC
 go_wp2
 go_ret
 exact ⟨rfl, HB.out⟩
end Go.Proofs.YtgaegfddobpomaaGreat.Ev

namespace Go.Proofs.YtgaegfddobpomaaGreat.Bk
open Go.ChangeShapes Go.WideShapes Go.ChangeAt Go.RowKit Go.Proofs.YtgaegfddobpomaaGreat.Kl
set_option linter.unusedVariables false
set_option maxRecDepth 4000
theorem pnew_any (w : World) : Calls Tryz.prog 9 #[] w fun e w' => ∃ p, e = .returned (.pointer (some ⟨p, 0, none⟩)) ∧ BkIs w' p none 0 0 none none [] [] ([], []) ∧ w.heap.size ≤ p ∧ Below w.heap.size w w' := by
 go_enter Tryz.func9, Tryz.ntmps9
 go_wp2
 go_ret
 refine ⟨_, rfl, ⟨⟨At.new w _ _, MapO.none_ _, MapO.none_ _, Iff.rfl, fun b e => (by cases e)⟩, leg_nil, Cx.CtxAt.none_ _, Ev.Match.nil_ _ _, Ev.Match.nil_ _ _⟩, Nat.le_refl _, Ev.below_new w _⟩
theorem pctx_is (w : World) (p : Nat) (A : Option Addr) (n k : Nat) (m1 m2 : Option Nat) (L1 L2 : List Ev.EV) (S : Bt) (h : BkIs w p A n k m1 m2 L1 L2 S) (hs : Lim S) :
   Calls Tryz.prog 29 #[.pointer (some ⟨p, 0, none⟩)] w (CxOut w S.1) := by
 obtain ⟨c0, c1, c2⟩ := h.mem.cells (Below.refl _ _)
 have CN := Cx.pnorm_any w A S.1 n k h.seen ((Cx.small_wide hs.ctx).more (by decide))
 rw [h.leg.ctx.norm] at CN
 clear h hs
 go_enter Tryz.func29, Tryz.ntmps29
 go_wp2_with fail
 refine CN.mono ?_
 intro e w1 hp
 obtain ⟨A1, n1, k1, rfl, hA, hb⟩ := Cx.post_ctx hp
 have HA := Lib.hid hA
 have HB := Lib.hid hb
 clear hp hA hb CN c0 c1 c2
 go_wp2
 go_ret
 exact ⟨A1, n1, k1, rfl, HA.out, HB.out⟩
theorem plive_is (w : World) (p : Nat) (A : Option Addr) (n k : Nat) (m1 m2 : Option Nat) (L1 L2 : List Ev.EV) (S : Bt) (h : BkIs w p A n k m1 m2 L1 L2 S) (hs : Lim S) :
   Calls Tryz.prog 38 #[.pointer (some ⟨p, 0, none⟩)] w (Ev.OwnsPost w (S.2.filter (kindB 1))) := by
 obtain ⟨c0, c1, c2⟩ := h.mem.cells (Below.refl _ _)
 have CN := pinord_any w m1 L1 _ h.mem.live h.liveM (ord_some h.leg.rise _) (by have := h.len1; have := hs.few; omega)
 clear h hs
 go_enter Tryz.func38, Tryz.ntmps38
 go_wp2_with fail
 refine CN.mono ?_
 intro e w1 hp
 have HP := Lib.hid hp
 obtain ⟨A1, n1, k1, rfl, _⟩ := hp
 clear CN c0 c1 c2
 go_wp2
 go_ret
 exact HP.out
theorem ptombs_is (w : World) (p : Nat) (A : Option Addr) (n k : Nat) (m1 m2 : Option Nat) (L1 L2 : List Ev.EV) (S : Bt) (h : BkIs w p A n k m1 m2 L1 L2 S) (hs : Lim S) :
   Calls Tryz.prog 40 #[.pointer (some ⟨p, 0, none⟩)] w (Ev.OwnsPost w (S.2.filter (kindB 2))) := by
 obtain ⟨c0, c1, c2⟩ := h.mem.cells (Below.refl _ _)
 have CN := pinord_any w m2 L2 _ h.mem.tomb h.tombM (ord_some h.leg.rise _) (by have := h.len2; have := hs.few; omega)
 clear h hs
 go_enter Tryz.func40, Tryz.ntmps40
 go_wp2_with fail
 refine CN.mono ?_
 intro e w1 hp
 have HP := Lib.hid hp
 obtain ⟨A1, n1, k1, rfl, _⟩ := hp
 clear CN c0 c1 c2
 go_wp2
 go_ret
 exact HP.out
theorem both_all {S : List Ev.Evt} (ho : Ev.OrdE S) (hg : ∀ x ∈ S, Ev.goodE x = true) : Ev.sortE (S.filter (kindB 1) ++ S.filter (kindB 2)) = S :=
 sort_set ho (fun x => by
   rw [List.mem_append, List.mem_filter, List.mem_filter]
   unfold kindB
   constructor
   · rintro (⟨h, _⟩ | ⟨h, _⟩) <;> exact h
   · intro h
     rcases kind_good (hg x h) with hk | hk
     · exact .inl ⟨h, decide_eq_true hk⟩
     · exact .inr ⟨h, decide_eq_true hk⟩)
set_option maxHeartbeats 4000000 in
theorem pall_is (w : World) (p : Nat) (A : Option Addr) (n k : Nat) (m1 m2 : Option Nat) (L1 L2 : List Ev.EV) (S : Bt) (h : BkIs w p A n k m1 m2 L1 L2 S) (hs : Lim S) :
   Calls Tryz.prog 30 #[.pointer (some ⟨p, 0, none⟩)] w (Ev.OwnsPost w S.2) := by
 have C1 := plive_is w p A n k m1 m2 L1 L2 S h hs
 have C2 := fun W (hW : Below w.heap.size w W) => ptombs_is W p A n k m1 m2 L1 L2 S (h.up hW) hs
 have HE := Lib.hid (both_all h.leg.rise h.leg.good)
 have l1 : (S.2.filter (kindB 1)).length ≤ 64 := Nat.le_trans (List.length_filter_le _ _) hs.few
 have l2 : (S.2.filter (kindB 2)).length ≤ 64 := Nat.le_trans (List.length_filter_le _ _) hs.few
 have H1 := Lib.hid l1
 have H2 := Lib.hid l2
 clear h hs l1 l2
 go_enter Tryz.func30, Tryz.ntmps30
 go_wp2_with fail
 refine C1.mono ?_
 rintro e w1 hp
 obtain ⟨A1, n1, k1, rfl, h3, b1⟩ := owns_evt hp
 have HL1 := Lib.hid h3
 have HB1 := Lib.hid b1
 have C2' := C2 w1 b1
 clear hp h3 b1 C1 C2
 go_wp2_with fail
 refine C2'.mono ?_
 rintro e w2 hp
 obtain ⟨A2, n2, k2, rfl, h4, b2⟩ := owns_evt hp
 have HL2 := Lib.hid h4
 have HB2 := Lib.hid (HB1.out.trans (b2.mono HB1.out.size))
 have HL12 := Lib.hid (HL1.out.up b2)
 clear hp h4 b2 C2' HL1 HB1
 have hbx := Ev.below_new w2 (.cells #[.slice A1 n1 k1, .slice A2 n2 k2] 29)
 have CC := pconcatE_two (w2.alloc (.cells #[.slice A1 n1 k1, .slice A2 n2 k2] 29)) w2.heap.size A1 A2 _ _ n1 n2 k1 k2 (HL12.out.up hbx) (HL2.out.up hbx) (by rw [← HL12.out.len]; exact Nat.le_trans H1.out (by decide)) (by rw [← HL2.out.len]; exact Nat.le_trans H2.out (by decide)) (by rw [Ev.alloc_size]; exact Nat.lt_succ_self _) (World.cell?_alloc_new _ _ _ _) (World.cell?_alloc_new _ _ _ _)
 have HB3 := Lib.hid (HB2.out.trans (hbx.mono HB2.out.size))
 have HN : Hid (n1 + n2 ≤ 1024) := Lib.hid (by rw [← HL12.out.len, ← HL2.out.len]; have := H1.out; have := H2.out; omega)
 have HE2 : Hid ((S.2.filter (kindB 1) ++ S.2.filter (kindB 2)).length = n1 + n2) := Lib.hid (by rw [List.length_append, HL12.out.len, HL2.out.len])
 clear hbx
 go_wp2_with fail
 refine CC.mono ?_
 rintro e w3 ⟨A3, n3, k3, rfl, h5, b3⟩
 have hn3 : n3 ≤ 1099511627776 := by rw [← h5.len, HE2.out]; exact Nat.le_trans HN.out (by decide)
 have CS := Ev.psortE_any w3 A3 _ n3 k3 h5 hn3
 rw [HE.out] at CS
 have HB4 := Lib.hid (HB3.out.trans (b3.mono HB3.out.size))
 clear CC h5 b3 hn3
 go_wp2_with fail
 refine CS.mono ?_
 rintro e w4 hp
 have HP := Lib.hid (owns_up HB4.out hp)
 obtain ⟨A4, n4, k4, rfl, _⟩ := hp
 clear CS
 go_wp2
 go_ret
 exact HP.out
theorem same_ord {a b : List Cx.Part} (ha : Cx.OrdC a) (hb : Cx.OrdC b) : Cx.sameC a b = decide (a = b) := by
 unfold Cx.sameC
 rw [ha.norm, hb.norm]
set_option maxHeartbeats 4000000 in
theorem psame_is (w : World) (p : Nat) (A : Option Addr) (n k : Nat) (m1 m2 : Option Nat) (L1 L2 : List Ev.EV) (S : Bt) (p2 : Nat) (A2 : Option Addr) (n2 k2 : Nat) (m3 m4 : Option Nat) (L3 L4 : List Ev.EV) (S2 : Bt)
   (h : BkIs w p A n k m1 m2 L1 L2 S) (h2 : BkIs w p2 A2 n2 k2 m3 m4 L3 L4 S2) (hs : Lim S) (hs2 : Lim S2) :
   Calls Tryz.prog 20 #[.pointer (some ⟨p, 0, none⟩), .pointer (some ⟨p2, 0, none⟩)] w fun e w' => e = .returned (.bool (decide (S = S2))) ∧ Below w.heap.size w w' := by
 have C1 := pctx_is w p A n k m1 m2 L1 L2 S h hs
 have C2 := fun W (hW : Below w.heap.size w W) => pctx_is W p2 A2 n2 k2 m3 m4 L3 L4 S2 (h2.up hW) hs2
 have C3 := fun W (hW : Below w.heap.size w W) => pall_is W p A n k m1 m2 L1 L2 S (h.up hW) hs
 have C4 := fun W (hW : Below w.heap.size w W) => pall_is W p2 A2 n2 k2 m3 m4 L3 L4 S2 (h2.up hW) hs2
 have HO := Lib.hid (same_ord h.leg.ctx h2.leg.ctx)
 have HW1 := Lib.hid ((Cx.small_wide hs.ctx).more (show 80000 ≤ 268435456 by decide))
 have HW2 := Lib.hid ((Cx.small_wide hs2.ctx).more (show 80000 ≤ 268435456 by decide))
 have HE : Hid (decide (S = S2) = (decide (S.1 = S2.1) && decide (S.2 = S2.2))) := Lib.hid (by
   rw [Bool.eq_iff_iff, decide_eq_true_iff, Bool.and_eq_true, decide_eq_true_iff, decide_eq_true_iff]
   exact ⟨fun e => by rw [e]; exact ⟨rfl, rfl⟩, fun ⟨e1, e2⟩ => Prod.ext e1 e2⟩)
 rw [HE.out]
 clear h h2 hs hs2 HE
 go_enter Tryz.func20, Tryz.ntmps20
 go_wp2_with fail
 refine C1.mono ?_
 rintro e w1 ⟨a1, l1, d1, rfl, x1, b1⟩
 have C2' := C2 w1 b1
 have HB1 := Lib.hid b1
 have HX1 := Lib.hid x1
 clear b1 x1 C1 C2
 go_wp2_with fail
 refine C2'.mono ?_
 rintro e w2 ⟨a2, l2, d2, rfl, x2, b2⟩
 have HB2 := Lib.hid (HB1.out.trans (b2.mono HB1.out.size))
 have CS := Cx.psame_any w2 a1 a2 S.1 S2.1 l1 l2 d1 d2 (HX1.out.up b2) x2 HW1.out HW2.out
 rw [HO.out] at CS
 obtain ⟨b, hb⟩ : ∃ b, decide (S.1 = S2.1) = b := ⟨_, rfl⟩
 rw [hb] at CS HO
 have HBB := Lib.hid hb
 clear b2 x2 C2' hb
 go_wp2_with fail
 refine CS.mono ?_
 rintro e w3 ⟨rfl, b3⟩
 have HB3 := Lib.hid (HB2.out.trans (b3.mono HB2.out.size))
 have C3' := C3 w3 HB3.out
 clear b3 CS C3
 cases b with
 | false =>
   clear C3' C4
   go_wp2
   go_ret
   exact ⟨Ev.ret_bool (by rw [HBB.out, Bool.false_and]), HB3.out⟩
 | true =>
   go_wp2_with fail
   refine C3'.mono ?_
   rintro e w4 hp
   obtain ⟨a4, l4, d4, rfl, x4, b4⟩ := owns_evt hp
   have HB4 := Lib.hid (HB3.out.trans (b4.mono HB3.out.size))
   have HX4 := Lib.hid x4
   have C4' := C4 w4 HB4.out
   clear hp b4 x4 C3' C4
   go_wp2_with fail
   refine C4'.mono ?_
   rintro e w5 hp
   obtain ⟨a5, l5, d5, rfl, x5, b5⟩ := owns_evt hp
   have HB5 := Lib.hid (HB4.out.trans (b5.mono HB4.out.size))
   have CA := Ev.pallE_any w5 a4 a5 S.2 S2.2 l4 l5 d4 d5 (HX4.out.up b5) x5
   obtain ⟨c, hc⟩ : ∃ c, decide (S.2 = S2.2) = c := ⟨_, rfl⟩
   rw [hc] at CA
   have HCC := Lib.hid hc
   clear hp b5 x5 C4' hc
   go_wp2_with fail
   refine CA.mono ?_
   rintro e w6 ⟨rfl, b6⟩
   have HB6 := Lib.hid (HB5.out.trans (b6.mono HB5.out.size))
   clear b6 CA
   go_wp2
   go_ret
   exact ⟨Ev.ret_bool (by rw [HBB.out, HCC.out, Bool.true_and]), HB6.out⟩
end Go.Proofs.YtgaegfddobpomaaGreat.Bk

namespace Go.Proofs.YtgaegfddobpomaaGreat.Bk
open Go.ChangeShapes Go.WideShapes Go.ChangeAt Go.RowKit Go.Proofs.YtgaegfddobpomaaGreat.Kl Go.Maps
set_option linter.unusedVariables false
set_option maxRecDepth 4000
theorem run_putE {w : World} {b : Nat} {L : List Ev.EV} {p : Ev.EV} {d : Dt.Dot} {d1 d2 : Nat} (h : MapE w b L) (hn : L.length ≤ 8796093022208) (hd : dotV p = d) (hf : FitD d) (hdd : d = (d1, d2)) :
   ∃ w', (Instr.mapUpdate 82 (.map (some b)) (.agg #[.int .u16 (d1 : Int), .int .u64 (d2 : Int)]) (.agg #[.int .u16 (p.dev : Int), .int .u64 (p.num : Int), .int .u8 (p.kind : Int), .int .u64 (p.cid : Int), .int .u8 (p.fld : Int), .string p.txt, .slice p.adr p.len p.cap])).run Tryz.prog w = .ok () w' ∧ MapE w' b (p :: but d L) ∧ w.grownBy w' (some b) := by
 subst hd
 have e1 : p.dev = d1 := congrArg Prod.fst hdd
 have e2 : p.num = d2 := congrArg Prod.snd hdd
 subst e1 e2
 obtain ⟨D, h1, h2⟩ := h
 obtain ⟨w', hrun, r1, r2⟩ := h1.update Kl.lawD Tryz.underlying82 (by unfold maxLen; omega) (Kl.keyD_is hf) (elemE_val p)
 exact ⟨w', hrun, mapE_of r1 (h2.put h1.isMap hf), r2⟩
theorem run_delO {w : World} {mo : Option Nat} {L : List Ev.EV} (h : MapO w mo L) {d : Dt.Dot} (hf : FitD d) (ty : TypeId) :
   ∃ w', (Builtin.delete_ #[82, 35] ty #[.map mo, .agg #[.int .u16 (d.1 : Int), .int .u64 (d.2 : Int)]]).run Tryz.prog w = .ok (.tuple #[]) w' ∧ MapO w' mo (but d L) ∧ w.grownBy w' mo := by
 rcases h with ⟨rfl, rfl⟩ | ⟨b, rfl, h⟩
 · exact ⟨w, Maps.drop_nil Kl.lawD Tryz.underlying82 (Kl.keyD_is hf) ty, .inl ⟨rfl, rfl⟩, Dt.turn_refl _ _⟩
 · obtain ⟨D, h1, h2⟩ := h
   obtain ⟨w', hrun, r1, r2⟩ := h1.drop Kl.lawD Tryz.underlying82 (Kl.keyD_is hf) ty
   exact ⟨w', hrun, .inr ⟨b, rfl, mapE_of r1 (h2.del hf)⟩, r2.grown⟩
theorem step_delO {ops : Array Oper} {o : Oper} {a : Act} {K : Act → World → Prop} {Q : Exit → Act → World → Prop} {E : Prop} {w : World} (hgd : o.guard = none) (m x : Operand) (hop : o.op = Op.call { callee := Callee.builtin Builtin.delete, args := #[m, x], argTypes := #[82, 35] })
   (mo : Option Nat) (L : List Ev.EV) (d : Dt.Dot) (hm : a.eval m = .map mo) (h : MapO w mo L) (hf : FitD d) (hx : a.eval x = .agg #[.int .u16 (d.1 : Int), .int .u64 (d.2 : Int)])
   (hK : ∀ w', MapO w' mo (but d L) → w.grownBy w' mo → K (a.put o.dst (.tuple #[])) w') :
   if Region.wanted o (yielded ops a.tmps) = true then Oper.wp Tryz.prog o a w K Q else E := by
 have hwd : Region.wanted o (yielded ops a.tmps) = true := by simp [Region.wanted, hgd]
 rw [if_pos hwd]
 obtain ⟨w', hrun, r1, r2⟩ := run_delO h hf o.type
 unfold Oper.wp
 simp [execOp, hop, resolve, invoke, builtin, hm, hx, hrun, Result.andThen]
 exact hK w' r1 r2
theorem eql_none (w : World) (mo : Option Nat) : (binOp .eql 82 (.map mo) (.map none)).run Tryz.prog w = .ok (.bool mo.isNone) w := run_eql_map_nil_sl w _ _ _ mo Tryz.underlying82
theorem MapO.some_of {w : World} {b : Nat} {L : List Ev.EV} (h : MapO w (some b) L) : MapE w b L := by
 rcases h with ⟨h, _⟩ | ⟨c, h, h2⟩
 · cases h
 · cases h; exact h2
end Go.Proofs.YtgaegfddobpomaaGreat.Bk

namespace Go.Proofs.YtgaegfddobpomaaGreat.Bk
open Go.ChangeShapes Go.WideShapes Go.ChangeAt Go.RowKit Go.Proofs.YtgaegfddobpomaaGreat.Kl Go.Maps
set_option linter.unusedVariables false
set_option maxRecDepth 4000
set_option maxHeartbeats 2000000 in
theorem pclone_some (w : World) (b : Nat) (es : Array MapEntry) (clock : Nat) (hb : w.heap[b]? = some (.map es clock)) :
   Calls Tryz.prog 58 #[.map (some b)] w fun e w' => e = .returned (.map (some w.heap.size)) ∧ w' = w.alloc (.map es clock) := by
 have hq := fun w => eql_none w (some b)
 go_enter Tryz.func58, Tryz.ntmps58
 go_wp2
 rw [run_callFunc_extern Tryz.func102 (by kernel_rfl) (by kernel_rfl) (by kernel_rfl) (e := Extern.MapsClone.clone) (by kernel_rfl), run_maps_clone_sl w 82 hb]
 simp only [Result.andThen]
 rw [Oper.upon_value]
 go_wp2
 rw [run_typeAssert_map_sl _ 82 _ _ _ _ Tryz.underlying82]
 simp only [Result.andThen]
 rw [Oper.upon_value]
 go_wp2
 go_ret
 exact ⟨rfl, rfl⟩
theorem pclone_none (w : World) : Calls Tryz.prog 58 #[.map none] w fun e w' => e = .returned (.map none) ∧ w' = w := by
 have hq := fun w => eql_none w none
 go_enter Tryz.func58, Tryz.ntmps58
 go_wp2
 go_ret
 exact ⟨rfl, rfl⟩
def ClonePost (w : World) (mo : Option Nat) (L : List Ev.EV) (B : Nat) (e : Ending) (w' : World) : Prop :=
 ∃ mo', e = .returned (.map mo') ∧ MapO w' mo' L ∧ (mo' = none ↔ mo = none) ∧ (∀ b, mo' = some b → B ≤ b) ∧ Below w.heap.size w w'
theorem pclone_any (w : World) (mo : Option Nat) (L : List Ev.EV) (h : MapO w mo L) : Calls Tryz.prog 58 #[.map mo] w (ClonePost w mo L w.heap.size) := by
 rcases h with ⟨rfl, rfl⟩ | ⟨b, rfl, D, ⟨es, clock, hb, F, hs, hD⟩, hH⟩
 · refine (pclone_none w).mono ?_
   rintro e w' ⟨rfl, rfl⟩
   exact ⟨none, rfl, .none_ _, Iff.rfl, (fun b e => by cases e), Below.refl _ _⟩
 · refine (pclone_some w b es clock hb).mono ?_
   rintro e w' ⟨rfl, rfl⟩
   exact ⟨_, rfl, .some_ ⟨D, ⟨es, clock, (MapKept.heap_alloc w _).1, F, hs, hD⟩, hH⟩, ⟨(fun e => by cases e), (fun e => by cases e)⟩, (fun b e => by cases e; exact Nat.le_refl _), Ev.below_new w _⟩
theorem clone_later {w W : World} {mo : Option Nat} {L : List Ev.EV} (h : MapO w mo L) (hW : Below w.heap.size w W) : Calls Tryz.prog 58 #[.map mo] W fun e V => ∃ mo', e = .returned (.map mo') ∧ MapO V mo' L ∧ (mo' = none ↔ mo = none) ∧ (∀ b, mo' = some b → W.heap.size ≤ b) ∧ Below W.heap.size W V ∧ Below w.heap.size w V :=
 (pclone_any W mo L (h.up hW)).mono fun e V ⟨mo', h1, h2, h3, h4, h5⟩ => ⟨mo', h1, h2, h3, h4, h5, hW.trans (h5.mono hW.size)⟩
theorem copy_end {w V : World} {p : Nat} {A : Option Addr} {n k : Nat} {m1 m2 m3 m4 : Option Nat} {L1 L2 : List Ev.EV} {S : Bt} (h : BkIs w p A n k m1 m2 L1 L2 S) (hb : Below w.heap.size w V) (h3 : MapO V m3 L1) (h4 : MapO V m4 L2) (e3 : m3 = none ↔ m1 = none) (e4 : m4 = none ↔ m2 = none)
   (f3 : ∀ b, m3 = some b → w.heap.size ≤ b) (f4 : ∀ b, m4 = some b → w.heap.size ≤ b) (fa : ∀ b, m3 = some b → m4 ≠ some b) :
   BkIs (V.alloc (.cells #[.slice A n k, .map m3, .map m4] 84)) V.heap.size A n k m3 m4 L1 L2 S ∧ (∀ b, Own V.heap.size m3 m4 b → w.heap.size ≤ b) ∧ Below w.heap.size w (V.alloc (.cells #[.slice A n k, .map m3, .map m4] 84)) := by
 have hx := Ev.below_new V (.cells #[.slice A n k, .map m3, .map m4] 84)
 have hbx := hb.trans (hx.mono hb.size)
 refine ⟨⟨⟨At.new _ _ _, h3.up hx, h4.up hx, by rw [e3, e4]; exact h.mem.both, fa⟩, h.leg, h.seen.up hbx, match_up hbx h.liveM, match_up hbx h.tombM⟩, fun b hb2 => ?_, hbx⟩
 rcases hb2 with rfl | hb2 | hb2
 · exact hb.size
 · exact f3 b hb2
 · exact f4 b hb2
set_option maxHeartbeats 8000000 in
theorem pcopy_is (w : World) (p : Nat) (A : Option Addr) (n k : Nat) (m1 m2 : Option Nat) (L1 L2 : List Ev.EV) (S : Bt) (h : BkIs w p A n k m1 m2 L1 L2 S) :
   Calls Tryz.prog 19 #[.pointer (some ⟨p, 0, none⟩)] w fun e w' => ∃ p' m3 m4, e = .returned (.pointer (some ⟨p', 0, none⟩)) ∧ BkIs w' p' A n k m3 m4 L1 L2 S ∧ (∀ b, Own p' m3 m4 b → w.heap.size ≤ b) ∧ Below w.heap.size w w' := by
 have HI := Lib.hid h
 have HXC := Lib.hid (fun V (hV : Below w.heap.size w V) => h.mem.cells hV)
 have C1 := fun W (hW : Below w.heap.size w W) => clone_later h.mem.live hW
 have C2 := fun W (hW : Below w.heap.size w W) => clone_later h.mem.tomb hW
 obtain ⟨c0, c1, c2⟩ := HXC.out w (Below.refl _ _)
 clear h
 go_enter Tryz.func19, Tryz.ntmps19
 go_wp2
 go_region_held3 (fun V => V.cell? ⟨p, 0, none⟩ = some (.slice A n k) ∧ V.cell? ⟨p, 1, none⟩ = some (.map m1) ∧ V.cell? ⟨p, 2, none⟩ = some (.map m2)) (first | exact ⟨c0, c1, c2⟩ | assumption | exact HXC.out _ (by (repeat (first | exact Below.refl _ _ | assumption | apply Ev.bel_drew | apply Ev.bel_alloc)))) (first
   | (go_at_call 58; (with_reducible refine (C2 _ (Ev.bel_drew bva)).mono ?_); rintro r Vb ⟨m4, rfl, h4, e4, f4, cvb, bvb⟩; have hcb := HXC.out Vb bvb; have hf := Lib.hid cvb)
   | (go_at_call 58; (with_reducible refine (C2 _ bva).mono ?_); rintro r Vb ⟨m4, rfl, h4, e4, f4, cvb, bvb⟩; have hcb := HXC.out Vb bvb; have hf := Lib.hid cvb)
   | (go_at_call 58; (with_reducible refine (C1 _ ?_).mono ?_); (focus (repeat (first | exact Below.refl _ _ | assumption | apply Ev.bel_drew))); rintro r Va ⟨m3, rfl, h3, e3, f3, cva, bva⟩; have hca := HXC.out Va bva))
 all_goals
   have HR := Lib.hid (copy_end HI.out bvb (h3.up cvb) h4 e3 e4 f3 (fun b e => Nat.le_trans bva.size (f4 b e)) (fun b e e2 => by have h7 := h3.lt e; have h8 := f4 b e2; omega))
   clear hca hcb h3 h4 e3 e4 f3 f4 cva cvb bva bvb
   go_wp2
   go_ret
   exact ⟨_, m3, m4, rfl, HR.out⟩
end Go.Proofs.YtgaegfddobpomaaGreat.Bk

namespace Go.Proofs.YtgaegfddobpomaaGreat.Bk
open Go.ChangeShapes Go.WideShapes Go.ChangeAt Go.RowKit Go.Proofs.YtgaegfddobpomaaGreat.Kl Go.Maps
set_option linter.unusedVariables false
set_option maxRecDepth 4000
theorem own_apart {w : World} {B size k : Nat} {T : TypeId} {v : Value} {vs : List Value} {b : Nat} (h : w.ownsRow B T size v k vs) (hb : ∀ cs T' fz, w.heap[b]? ≠ some (.cells cs T' fz)) : some b ≠ v.ownBlock := fun e => by
 rcases h.2 with ⟨h, _⟩ | ⟨g, cap, cur, h, _, hgb, _⟩
 · rw [h] at e; cases e
 · rw [h] at e
   have e2 : b = g := by simpa [Value.ownBlock] using e
   rw [e2] at hb
   exact hb _ _ _ hgb
theorem range_apart {w : World} {b r n cnt : Nat} {D : DataW Ev.EV} {left : Lit → Bool} (h : w.ranges Tryz.prog 35 elemE b r n D left cnt) : (∀ cs T' fz, w.heap[b]? ≠ some (.cells cs T' fz)) ∧ (∀ cs T' fz, w.heap[r]? ≠ some (.cells cs T' fz)) := by
 obtain ⟨es, clock, since, seen, c0, hb, _, _, _, hr, _⟩ := h
 exact ⟨fun cs T' fz e => (by rw [hb] at e; cases e), fun cs T' fz e => (by rw [hr] at e; cases e)⟩
def cidV (cid : Nat) (p : Ev.EV) : Bool := decide (p.cid = cid)
theorem of_list {w : World} {B : Nat} {L pre : List Ev.EV} {S : List Ev.Evt} {cid : Nat} (hm : Ev.Match w B L (S.filter (kindB 1))) (hp : L.Perm pre) (ho : Ev.OrdE S) : ∃ l, Ev.Match w B (pre.filter (cidV cid)) l ∧ Ev.sortE l = S.filter (ofB cid) := by
 obtain ⟨m, h1, h2⟩ := match_turn hp hm
 refine ⟨m.filter (fun x => decide (x.cid = cid)), match_some (fun p x h => by unfold cidV; rw [h.cid]) h2, sort_set (ord_some ho _) (fun x => ?_)⟩
 rw [List.mem_filter, ← h1.mem_iff, List.mem_filter, List.mem_filter]
 unfold kindB ofB
 simp only [Bool.and_eq_true, decide_eq_true_iff]
 exact and_assoc
set_option maxHeartbeats 8000000 in
theorem pof_is (w : World) (p : Nat) (A : Option Addr) (n k : Nat) (m1 m2 : Option Nat) (L1 L2 : List Ev.EV) (S : Bt) (cid : Nat) (h : BkIs w p A n k m1 m2 L1 L2 S) (hs : Lim S) :
   Calls Tryz.prog 23 #[.pointer (some ⟨p, 0, none⟩), .int .u64 (cid : Int)] w (Ev.OwnsPost w (S.2.filter (ofB cid))) := by
 obtain ⟨c0, c1, c2⟩ := h.mem.cells (Below.refl _ _)
 have HM := Lib.hid h.liveM
 have HO := Lib.hid h.leg.rise
 have HN : Hid (L1.length ≤ 64) := Lib.hid (Nat.le_trans h.len1 hs.few)
 have hl := h.mem.live
 clear h hs
 rcases hl with ⟨rfl, rfl⟩ | ⟨b, rfl, hl⟩
 · have hrg := run_range_nilMap (P := Tryz.prog) w 82 35 38 Tryz.underlying82
   have hnx : ∀ ty, (Instr.next (.pointer (some ⟨w.heap.size, 0, none⟩)) false ty).run Tryz.prog (w.alloc (.mapIter none 0 #[] 0)) = _ := fun ty => run_next_nilMap _ ty 0 0 #[]
   have HB := Lib.hid (Ev.below_new w (.mapIter none 0 #[] 0))
   obtain ⟨l, g1, g2⟩ := of_list (cid := cid) HM.out (List.Perm.refl _) HO.out
   have hl0 : l = [] := List.eq_nil_of_length_eq_zero (by have := g1.1; simp at this; omega)
   subst hl0
   have CS := Ev.psortE_any (w.alloc (.mapIter none 0 #[] 0)) none [] 0 0 (Ev.EventsAt.none_ _ _) (by omega)
   rw [g2] at CS
   clear g1 g2
   go_enter Tryz.func23, Tryz.ntmps23
   go_wp2
   refine wp_loop_rounds 1 ?_
   rw [rounds_succ]
   go_wp2_with fail
   refine CS.mono ?_
   rintro e w4 hp
   have HP := Lib.hid (owns_up HB.out hp)
   obtain ⟨A4, n4, k4, rfl, _⟩ := hp
   clear CS
   go_wp2
   go_ret
   exact HP.out
 · have hapart := hl.apart
   have hfit := hl.fit
   obtain ⟨D, hown, hH⟩ := hl
   have HAP := Lib.hid hapart
   have HFT := Lib.hid hfit
   have HH := Lib.hid hH
   clear hapart hfit hH
   go_enter Tryz.func23, Tryz.ntmps23
   go_wp2_with (first | (at_range; refine wpList_range_own _ rfl _ 82 rfl 35 38 Kl.lawD Tryz.underlying82 _ b L1.length D rfl hown ?_; intro w0 hrg0 hg0 hs0) | go_in)
   go_frame
   have HB0 : Hid (Below w.heap.size w w0) := Lib.hid ((Below.refl _ _).grown hg0 (Nat.le_refl _) (fun i e => by cases e))
   have HR0 := Lib.hid hrg0
   clear hg0 hs0 hrg0 hown c0 c1 c2
   go_loopw [5] (fun v5 wr => ∃ (left : Lit → Bool) (cnt : Nat) (pre rest : List Ev.EV) (A5 : Option Addr) (c5 : Nat), wr.ranges Tryz.prog 35 elemE b w.heap.size L1.length D left cnt ∧ L1.Perm (pre ++ rest) ∧ LeftE left rest ∧ v5 = .slice A5 (pre.filter (cidV cid)).length c5 ∧ wr.ownsRow w.heap.size 38 7 (.slice A5 (pre.filter (cidV cid)).length c5) (pre.filter (cidV cid)).length (Ev.ev (pre.filter (cidV cid))) ∧ Below w.heap.size w wr)
     (fun _ wr => wr.rangeLeft b w.heap.size)
   case atStart =>
     exact ⟨_, _, [], L1, none, 0, HR0.out, List.Perm.refl _, left_start HH.out, rfl, World.ownsRow_nil _ _ _ _, HB0.out⟩
   case round =>
     obtain ⟨left, cnt, pre, rest, A5, c5, hrg, hp, hlf, rfl, ho, hbw⟩ := hrel
     have HP := Lib.hid hp
     have HLF := Lib.hid hlf
     have HOW := Lib.hid ho
     have HBW := Lib.hid hbw
     have HRG := Lib.hid hrg
     have hlen := hp.length_eq
     rw [List.length_append] at hlen
     have HLN := Lib.hid hlen
     clear hp hlf ho hbw hlen
     go_wp2_with (first
       | (at_next; refine wpList_next_ranges _ rfl _ rfl 35 Kl.lawD elemE id Ev.EV.val (fun key kl hk => ⟨key, rfl⟩) (fun v y hv => by obtain ⟨p, h1, _⟩ := elemE_inv hv; exact ⟨p, h1⟩) b w.heap.size L1.length _ _ _ rfl hrg ?_ ?_)
       | go_in)
     · -- nothing is left
       intro hc0 hl0
       obtain rfl := left_end HLF.out hl0
       have hpp := HP.out
       rw [List.append_nil] at hpp
       obtain ⟨l, g1, g2⟩ := of_list (cid := cid) HM.out hpp HO.out
       have hln : (pre.filter (cidV cid)).length ≤ 64 := Nat.le_trans (List.length_filter_le _ _) (by have := HLN.out; have := HN.out; omega)
       have hev := Ev.own_events HBW.out g1 rfl (by omega) HOW.out
       have CS := Ev.psortE_any wr A5 l _ c5 hev (by omega)
       rw [g2] at CS
       clear g1 g2 hev hpp hrg hc0 hl0
       go_wp2_with fail
       refine CS.mono ?_
       rintro e w4 hp
       have HPO := Lib.hid (owns_up HBW.out hp)
       obtain ⟨A4, n4, k4, rfl, _⟩ := hp
       clear CS
       go_wp2
       go_ret
       exact HPO.out
     · -- an entry has come
       intro key x kl yd yp w2 cnt2 hkey hlk hv hat hrg2 hlt hg2 hs2 hen
       obtain ⟨hx, hk, rfl⟩ := left_who HH.out HLF.out (fun q hq => HP.out.mem_iff.2 (List.mem_append_right _ hq)) hkey hlk hv hat
       obtain rfl : key = .agg #[.int .u16 (x.dev : Int), .int .u64 (x.num : Int)] := hk
       obtain ⟨rest', hp', hl'⟩ := left_step HLF.out HP.out HAP.out HFT.out hx
       have hrpos : 0 < rest.length := List.length_pos_of_mem hx
       have HP2 := Lib.hid hp'
       have HL2 := Lib.hid hl'
       have hbx := Ev.below_new w2 x.box
       have HRG3 := Lib.hid (hrg2.alloc x.box)
       have hOW2 : w2.ownsRow w.heap.size 38 7 (.slice A5 (pre.filter (cidV cid)).length c5) (pre.filter (cidV cid)).length (Ev.ev (pre.filter (cidV cid))) := HOW.out.kept hg2 (by
         refine .inr (fun e => own_apart HOW.out (range_apart HRG.out).2 e.symm))
       have HO3 := Lib.hid (hOW2.alloc x.box)
       have HB3 : Hid (Below w.heap.size w (w2.alloc x.box)) := Lib.hid (Ev.bel_alloc _ (HBW.out.grown hg2 HBW.out.size (fun i e => by cases e; exact Nat.le_refl _)))
       have HLT := Lib.hid hlt
       have HLE := Lib.hid HRG.out.left_eq
       obtain ⟨z0, z1, z2, z3, z4, z5, z6⟩ := (Ev.box_new w2 x _ (Below.refl _ _)).all
       try simp only [id] at hen
       simp only [Ev.EV.box] at HRG3 HO3 HB3 z0 z1 z2 z3 z4 z5 z6
       clear hs2 hkey hlk hv hat hrg2 hg2 hOW2 hrg hlt hp' hl' hx HRG
       by_cases hc : x.cid = cid
       · subst hc
         have hc1 : ((x.cid : Int) == (x.cid : Int)) = true := beq_self_eq_true _
         have hfl : (pre ++ [x]).filter (cidV x.cid) = pre.filter (cidV x.cid) ++ [x] := by
           rw [List.filter_append, List.filter_cons_of_pos (by unfold cidV; exact decide_eq_true rfl), List.filter_nil]
         have hln : (pre.filter (cidV x.cid)).length ≤ 64 := Nat.le_trans (List.length_filter_le _ _) (by have := HLN.out; have := HN.out; omega)
         have HLI := Lib.hid (Ev.lies_evt (w2.alloc x.box) x)
         have HO4 := Lib.hid (HO3.out.alloc x.box)
         have HRG4 := Lib.hid (HRG3.out.alloc x.box)
         have HB4 := Lib.hid (Ev.bel_alloc x.box HB3.out)
         have HS4 : Hid (w.heap.size ≤ ((w2.alloc x.box).alloc x.box).heap.size) := Lib.hid HB4.out.size
         rw [Ev.alloc_size w2 x.box] at HLI
         simp only [Ev.EV.box] at HLI HO4 HRG4 HB4 HS4
         go_wp2_with (at_builtin; refine Ev.wpList_evt rfl (.tmp 23) (.tmp 25) rfl rfl _ w.heap.size (pre.filter (cidV x.cid)).length _ (pre.filter (cidV x.cid)) (some ⟨w2.heap.size + 1, 0, none⟩) [x] 1 1 rfl rfl HO4.out (fun e => (by cases e)) HLI.out rfl (by omega) HS4.out ?_; intro A6 c6 w5 ho5 hg5)
         have HRG5 := Lib.hid (HRG4.out.kept hg5 (own_apart HO4.out (range_apart HRG4.out).1) (own_apart HO4.out (range_apart HRG4.out).2))
         have HB5 := Lib.hid (Ev.evt_grown HO4.out HB4.out hg5)
         go_roundw
         case rel =>
           refine ⟨_, cnt2, pre ++ [x], rest', A6, c6, HRG5.out, HP2.out, HL2.out, ?_, ?_, HB5.out⟩
           · rw [hfl, List.length_append]; rfl
           · rw [hfl, List.length_append]; exact ho5
         case measure => rw [HRG5.out.left_eq, HLE.out]; exact HLT.out
       · have hc1 : ((x.cid : Int) == (cid : Int)) = false := by rw [beq_eq_false_iff_ne]; omega
         have hfl : (pre ++ [x]).filter (cidV cid) = pre.filter (cidV cid) := by
           rw [List.filter_append, List.filter_cons_of_neg (by unfold cidV; simpa using hc), List.filter_nil, List.append_nil]
         go_wp2
         go_roundw
         case rel =>
           refine ⟨_, cnt2, pre ++ [x], rest', A5, c5, HRG3.out, HP2.out, HL2.out, ?_, ?_, HB3.out⟩
           · rw [hfl]
           · rw [hfl]; exact HO3.out
         case measure => rw [HRG3.out.left_eq, HLE.out]; exact HLT.out
end Go.Proofs.YtgaegfddobpomaaGreat.Bk
