/- Words and contracts that the proofs of this seat stand on, part 17 of 39. -/
import Derived.Test.YtgaegfddobpomaaGreatOrP
import Derived.Test.YtgaegfddobpomaaGreatOrN
import Derived.Deep.AppendLies

namespace Go.Proofs.YtgaegfddobpomaaGreat.Bk
open Go.ChangeShapes Go.WideShapes Go.ChangeAt Go.RowKit Go.Proofs.YtgaegfddobpomaaGreat.Kl
set_option linter.unusedVariables false
set_option maxRecDepth 4000
theorem few_all3 {l : List Ev.Evt} {m : Nat} (h : Ev.fewB l m = true) : l.length ≤ m ∧ ∀ x ∈ l, x.kills.length ≤ 300 := by
 unfold Ev.fewB at h
 rw [Bool.and_eq_true, decide_eq_true_iff, List.all_eq_true] at h
 refine ⟨h.1, fun x hx => ?_⟩
 have h2 := h.2 x hx
 unfold Ev.fewE at h2
 rw [Bool.and_eq_true, decide_eq_true_iff] at h2
 exact h2.1
structure Two (R : Lay) (w wr : World) (p1 p2 : Nat) (T1 T2 : Nat → Prop) (S1 S2 : Bt) (k : Nat) (l1 l2 : List Ev.Evt) (A : Option Addr) (s : List Ev.Evt) (n c : Nat) : Prop where
 one : R wr p1 T1 S1
 two : R wr p2 T2 S2
 off : ∀ k, T2 k → ¬ T1 k
 own1 : ∀ k, T1 k → w.heap.size ≤ k
 own2 : ∀ k, T2 k → w.heap.size ≤ k
 inv1 : InvB l1 S1
 inv2 : InvB l2 S2
 bd1 : Bd k S1
 bd2 : Bd k S2
 evts : Ev.EventsAt wr wr.heap.size A s n c
 below : Below w.heap.size w wr
structure Half (R : Lay) (w wr : World) (p1 p2 : Nat) (T1 T2 : Nat → Prop) (S1 S2 : Bt) (k : Nat) (l1 l2 : List Ev.Evt) (A : Option Addr) (s : List Ev.Evt) (n c : Nat) : Prop where
 one : R wr p1 T1 S1
 two : R wr p2 T2 S2
 off : ∀ k, T2 k → ¬ T1 k
 own1 : ∀ k, T1 k → w.heap.size ≤ k
 own2 : ∀ k, T2 k → w.heap.size ≤ k
 inv1 : InvB l1 S1
 inv2 : InvB l2 S2
 bd1 : Bd (k + 1) S1
 bd2 : Bd k S2
 evts : Ev.EventsAt wr wr.heap.size A s n c
 below : Below w.heap.size w wr
theorem Two.first {R : Lay} (P : PBk R) {w wr W : World} {p1 p2 : Nat} {T1 T2 : Nat → Prop} {S1 S2 : Bt} {k g : Nat} {A : Option Addr} {s : List Ev.Evt} {n c : Nat} {q : Ev.EV} {x : Ev.Evt} (h : Two R w wr p1 p2 T1 T2 S1 S2 k (s.take k) (turnE s g k) A s n c) (F : Fine s) (hx : s[k]? = some x) (hq : Ev.EventIs wr wr.heap.size q x) (hw : Went R wr p1 T1 (putB S1 x).1 W) :
   ∃ T, Half R w W p1 p2 T T2 (putB S1 x).1 S2 k (s.take (k + 1)) (turnE s g k) A s n c := by
 obtain ⟨T, h1, h2, h3, h4, K⟩ := hw.other P h.two h.off
 refine ⟨T, h1, h2, h3, fun j hj => (h4 j hj).elim (h.own1 j) (fun h5 => Nat.le_trans h.below.size h5), h.own2, ?_, h.inv2, bd_put h.bd1 hq, h.bd2, K.evts _ _ _ _ h.evts, K.below w h.below h.own1⟩
 rw [Ev.take_one hx]
 exact h.inv1.step F (fun y hy => List.mem_of_mem_take hy) (List.mem_of_getElem? hx) hq
theorem Half.second {R : Lay} (P : PBk R) {w wr W : World} {p1 p2 : Nat} {T1 T2 : Nat → Prop} {S1 S2 : Bt} {k g : Nat} {A : Option Addr} {s : List Ev.Evt} {n c : Nat} {q : Ev.EV} {x : Ev.Evt} {l1 : List Ev.Evt} (h : Half R w wr p1 p2 T1 T2 S1 S2 k l1 (turnE s g k) A s n c) (F : Fine s) (hx : s[plc n g k]? = some x) (hq : Ev.EventIs wr wr.heap.size q x) (hw : Went R wr p2 T2 (putB S2 x).1 W) :
   ∃ T, Two R w W p1 p2 T1 T S1 (putB S2 x).1 (k + 1) l1 (turnE s g (k + 1)) A s n c := by
 obtain ⟨T, h1, h2, h3, h4, K⟩ := hw.other P h.one (fun j hj hj2 => h.off j hj2 hj)
 refine ⟨T, h2, h1, fun j hj hj2 => h3 j hj2 hj, h.own1, fun j hj => (h4 j hj).elim (h.own2 j) (fun h5 => Nat.le_trans h.below.size h5), h.inv1, ?_, h.bd1, bd_put h.bd2 hq, K.evts _ _ _ _ h.evts, K.below w h.below h.own2⟩
 rw [turn_next (x := x) (by rw [h.evts.len]; exact hx)]
 exact h.inv2.step F (fun y hy => turn_sub y hy) (List.mem_of_getElem? hx) hq
set_option maxHeartbeats 32000000 in
theorem order_walk {R : Lay} (P : PBk R) (w : World) (A0 : Option Addr) (l : List Ev.Evt) (n0 c0 g : Nat) (hl : Ev.EventsAt w w.heap.size A0 l n0 c0) (hg : g < 256) :
   Calls Tryz.prog 5 #[.slice A0 n0 c0, .int .u8 (g : Int)] w fun e w' => e = .returned (.bool true) ∧ Below w.heap.size w w' := by
 have HL := Lib.hid hl
 have CF := Ev.rfew_any w A0 l n0 c0 12 (by decide) hl
 simp only [show ((12 : Nat) : Int) = 12 from rfl] at CF
 clear hl
 go_enter Tryz.func5, Tryz.ntmps5
 go_wp2_with fail
 refine CF.mono ?_
 rintro r w1 ⟨rfl, hw⟩
 subst w1
 clear CF
 cases hf : Ev.fewB l 12 with
 | false =>
   go_wp2_with fail
   refine (works_any P _).mono ?_
   rintro r w2 ⟨rfl, b2⟩
   have HV := Lib.hid b2
   clear b2
   go_wp2
   go_ret
   exact ⟨rfl, HV.out⟩
 | true =>
   have HF := Lib.hid (few_all3 hf)
   have CR := ranked_any w A0 l n0 c0 HL.out
   obtain ⟨b, hb⟩ : ∃ b, rankB l = b := ⟨_, rfl⟩
   rw [hb] at CR
   have HRK := Lib.hid hb
   clear hf hb
   go_wp2_with fail
   refine CR.mono ?_
   rintro r w2 ⟨rfl, b2⟩
   have HB2 := Lib.hid b2
   have HL2 := Lib.hid (HL.out.up b2)
   clear b2 CR HL
   cases b with
   | false =>
     go_wp2_with fail
     refine (works_any P w2).mono ?_
     rintro r w3 ⟨rfl, b3⟩
     have HV := Lib.hid (HB2.out.trans (b3.mono HB2.out.size))
     clear b3
     go_wp2
     go_ret
     exact ⟨rfl, HV.out⟩
   | true =>
     have hn0 : n0 ≤ 12 := by have h1 := HF.out.1; rw [HL2.out.len] at h1; exact h1
     have CS := Ev.rsort_own w2 A0 l n0 c0 HL2.out (by omega)
     have hsl := sort_len l
     rw [HL2.out.len] at hsl
     have HM : Hid (Mids ((Ev.sortE l).flatMap (·.kills)) (Ev.sortE l)) := Lib.hid (mids_start (Ev.sort_ord l) ((rank_iff _).2 fun x hx d hd => (rank_iff l).1 HRK.out x (dot_in hx) d hd) (fun x hx => HF.out.2 x (dot_in hx)))
     have HU : Hid (((Ev.sortE l).flatMap (·.kills)).length ≤ 3600) := Lib.hid (Nat.le_trans (sum_three fun x hx => HF.out.2 x (dot_in hx)) (by omega))
     generalize (Ev.sortE l).flatMap (·.kills) = U at *
     generalize hs0 : Ev.sortE l = s0 at *
     have HSL := Lib.hid hsl
     clear hs0 hsl HF HRK HL2
     go_wp2_with fail
     refine CS.mono ?_
     rintro r w3 ⟨A, n, c, rfl, ho, b3⟩
     have hnl := ho.len
     have hsn := HSL.out
     rw [hnl] at hsn
     obtain ⟨gs, hgs, hrw⟩ := rw_of ho b3 (by omega)
     have HR3 := Lib.hid hrw
     have HGS : Hid (w.heap.size ≤ gs) := Lib.hid (Nat.le_trans HB2.out.size hgs)
     have HB3 := Lib.hid (HB2.out.trans (b3.mono HB2.out.size))
     have HNL := Lib.hid hnl
     have hn : n ≤ 12 := by omega
     clear CS ho b3 hnl hsn hgs hrw HB2 HSL hn0
     go_wp2_with fail
     go_loopw [6] (fun iv wr => ∃ (i : Nat) (s : List Ev.Evt), i ≤ n ∧ iv = .int .i64 (i : Int) ∧ Rw gs wr A s n c ∧ Mids U s ∧ Below w.heap.size w wr) (fun iv _ => n - (intOf iv).toNat)
     case atStart => exact ⟨0, s0, Nat.zero_le _, rfl, HR3.out, HM.out, HB3.out⟩
     case round =>
       obtain ⟨i, s, hi, rfl, hr, hm, hw⟩ := hrel
       clear HR3 HM HB3 HNL
       have HR := Lib.hid hr
       have HM := Lib.hid hm
       have HW := Lib.hid hw
       clear hr hm hw
       by_cases hlt : i < n
       · go_wp2_with fail
         go_loopw [7] (fun kv wr => ∃ (k : Nat) (s : List Ev.Evt), k ≤ n ∧ kv = .int .i64 (k : Int) ∧ Rw gs wr A s n c ∧ Mids U s ∧ Below w.heap.size w wr) (fun kv _ => n - (intOf kv).toNat)
         case atStart => exact ⟨0, s, Nat.zero_le _, rfl, HR.out, HM.out, HW.out⟩
         case round =>
           obtain ⟨k, t, hk, rfl, hr, hm, hw⟩ := hrel
           clear HR HM HW
           have HR := Lib.hid hr
           have HM := Lib.hid hm
           have HW := Lib.hid hw
           clear hr hm hw
           by_cases hlk : k < n
           · obtain ⟨ad, p, x, hA, hB, hlx, hp, cp⟩ := HR.out.evts.at_ hlt
             subst hA
             obtain ⟨ad2, q, y, hae, hB2, hly, hq, cq⟩ := HR.out.evts.at_ hlk
             obtain rfl := Option.some.inj hae
             have hpd := hp.kills
             have hdot := Ev.is_dot hq
             have HXC : Hid (∀ V, Below wr.heap.size wr V → V.cell? ⟨(ad.add (i * 7)).block, (ad.add (i * 7)).off + 6, none⟩ = some (.slice p.adr p.len p.cap) ∧ V.cell? (ad.add (k * 7)) = some (.int .u16 (q.dev : Int)) ∧ V.cell? ⟨(ad.add (k * 7)).block, (ad.add (k * 7)).off + 1, none⟩ = some (.int .u64 (q.num : Int)) ∧ V.cell? ⟨(ad.add (k * 7)).block, (ad.add (k * 7)).off + 6, none⟩ = some (.slice q.adr q.len q.cap)) := Lib.hid (fun V hV => ⟨(cp.kept hV).c6, (cq.kept hV).c0, (cq.kept hV).c1, (cq.kept hV).c6⟩)
             have CH := fun W (hW : Below wr.heap.size wr W) => rhas_later wr W p.adr x.kills p.len p.cap (q.dev, q.num) ((hp.up hW).kills) hW
             have hdd : decide ((q.dev, q.num) ∈ x.kills) = decide (y.dot ∈ x.kills) := by rw [hdot]
             obtain ⟨b, hb⟩ : ∃ b, decide (y.dot ∈ x.kills) = b := ⟨_, rfl⟩
             simp only [hdd, hb] at CH
             have HBB := Lib.hid hb
             have HP := Lib.hid hp
             have HQ := Lib.hid hq
             have HLX := Lib.hid hlx
             have HLY := Lib.hid hly
             obtain ⟨x0, x1, x2, x3⟩ := HXC.out _ (Below.refl _ _)
             clear hdd hb hdot hpd hp hq hlx hly cp cq
             go_wp2_with fail
             go_region_held3 (fun V => V.cell? ⟨(ad.add (i * 7)).block, (ad.add (i * 7)).off + 6, none⟩ = some (.slice p.adr p.len p.cap) ∧ V.cell? (ad.add (k * 7)) = some (.int .u16 (q.dev : Int)) ∧ V.cell? ⟨(ad.add (k * 7)).block, (ad.add (k * 7)).off + 1, none⟩ = some (.int .u64 (q.num : Int)) ∧ V.cell? ⟨(ad.add (k * 7)).block, (ad.add (k * 7)).off + 6, none⟩ = some (.slice q.adr q.len q.cap)) (first | exact ⟨x0, x1, x2, x3⟩ | assumption | exact HXC.out _ (by (repeat (first | exact Below.refl _ _ | assumption | apply Ev.bel_drew)))) (first
               | (go_at_call 34; (with_reducible refine (CH _ ?_).mono ?_); (focus (repeat (first | exact Below.refl _ _ | assumption | apply Ev.bel_drew))); rintro r V ⟨rfl, bv⟩; have hcV := HXC.out V bv))
             all_goals
               obtain ⟨y0, y1, y2, y3⟩ := hcV
               have HWV := Lib.hid (HW.out.trans (bv.mono HW.out.size))
               have HRV := Lib.hid (HR.out.up bv)
               have HPV := Lib.hid (HP.out.up bv)
               have HQV := Lib.hid (HQ.out.up bv)
               clear bv x0 x1 x2 x3 CH HXC HP HQ HR HW
               cases b with
               | false =>
                 clear y0 y1 y2 y3
                 go_wp2
                 go_roundw
                 case rel => exact ⟨k + 1, t, by omega, by go_num, HRV.out, HM.out, HWV.out⟩
                 case measure => simp [intOf]; omega
               | true =>
                 have HC : Hid (∀ Z, Below V.heap.size V Z → Z.cell? ⟨(ad.add (i * 7)).block, (ad.add (i * 7)).off + 6, none⟩ = some (.slice p.adr p.len p.cap) ∧ Z.cell? ⟨(ad.add (k * 7)).block, (ad.add (k * 7)).off + 6, none⟩ = some (.slice q.adr q.len q.cap) ∧ Z.frozen? ⟨(ad.add (i * 7)).block, (ad.add (i * 7)).off + 6, none⟩ = false) := Lib.hid (fun Z hZ => by
                   obtain ⟨e, hfz, hgl⟩ := (HRV.out.up hZ).free (by omega)
                   cases e
                   exact ⟨Ev.stays hZ y0, Ev.stays hZ y3, by rw [row_six]; exact hfz _⟩)
                 have hlp : p.len ≤ 3600 := by rw [← HPV.out.kills.len]; exact HM.out.len HU.out (List.mem_of_getElem? HLX.out)
                 have hlq : q.len ≤ 3600 := by rw [← HQV.out.kills.len]; exact HM.out.len HU.out (List.mem_of_getElem? HLY.out)
                 have hp8 : p.len ≤ 8796093022208 := by omega
                 have hpq : p.len + q.len ≤ 8796093022208 := by omega
                 go_wp2_with fail
                 clear y0 y1 y2 y3
                 obtain ⟨d1, d2, d3⟩ := HC.out V (Below.refl _ _)
                 obtain ⟨p1, p2, p3⟩ := HC.out (V.alloc (.cells #[] 35)) ((Below.refl _ _).alloc (Nat.le_refl _) _)
                 go_region_law (first
                   | (refine step_app rfl (.tmp 48) (.tmp 53) rfl rfl _ V 0 p.len (.slice (some ⟨_, 0, none⟩) 0 0) [] p.adr x.kills p.len p.cap rfl rfl ?_ ?_ ?_ (Nat.zero_add _) hp8 ?_; (focus ((repeat (first | exact Below.refl _ _ | assumption | apply Ev.bel_drew | apply Ev.bel_alloc)); done)); (focus ((refine own_lit0 ?_); (repeat (first | exact Below.refl _ _ | assumption | apply Ev.bel_drew | apply Ev.bel_alloc)); done)); (focus (refine (HPV.out.up ?_).kills; (repeat (first | exact Below.refl _ _ | assumption | apply Ev.bel_drew | apply Ev.bel_alloc)); done)); intro A3 c3 V3 ho3 hg3 hb3; have HO3 := Lib.hid ho3; obtain ⟨t1, t2, t3⟩ := HC.out V3 hb3; clear ho3 hg3)
                   | (refine step_app rfl (.tmp 54) (.tmp 59) rfl rfl _ V p.len (p.len + q.len) (.slice _ p.len _) x.kills q.adr y.kills q.len q.cap rfl rfl ?_ ?_ ?_ rfl hpq ?_; (focus ((repeat (first | exact Below.refl _ _ | assumption | apply Ev.bel_drew | apply Ev.bel_alloc)); done)); (focus (exact HO3.out)); (focus (refine (HQV.out.up ?_).kills; (repeat (first | exact Below.refl _ _ | assumption | apply Ev.bel_drew | apply Ev.bel_alloc)); done)); intro A5 c5 V5 ho5 hg5 hb5; have hd5 := dots_out HPV.out.kills HQV.out.kills ho5 (by omega); clear ho5 hg5)
                   | (go_simp; (with_reducible refine (rsortd_far _ A5 (x.kills ++ y.kills) (p.len + q.len) c5 ?_ (by omega)).mono ?_); (focus (first | exact hd5 | exact hd5.up (Ev.bel_drew (Below.refl _ _)))); rintro r V6 ⟨A6, n6, c6, rfl, hd6, hf6, hb6⟩; have hb7 := hb5.trans (hb6.mono hb5.size); obtain ⟨u1, u2, u3⟩ := HC.out V6 hb7))
                 all_goals
                   have HST : Hid (Rw gs (V6.setCell ⟨(ad.add (i * 7)).block, (ad.add (i * 7)).off + 6, none⟩ (.slice A6 n6 c6)) (some ad) (t.set i (joinK x y)) n c ∧ Below w.heap.size w (V6.setCell ⟨(ad.add (i * 7)).block, (ad.add (i * 7)).off + 6, none⟩ (.slice A6 n6 c6))) := Lib.hid (by
                     obtain ⟨e, hfz, hgl⟩ := HRV.out.free (by omega)
                     cases e
                     rw [row_six]
                     refine ⟨(HRV.out.up hb7).store hlt HLX.out hd6 (fun a e h0 => ?_), (HWV.out.trans (hb7.mono HWV.out.size)).setCell HGS.out _⟩
                     have h8 := hf6 h0 a e
                     have h9 := hb5.size
                     have h10 : V5.heap.size ≤ a.block := h8
                     omega)
                   have HMM := Lib.hid (mids_join HM.out HLX.out HLY.out (of_decide_eq_true HBB.out))
                   clear HC HRV HWV HPV HQV HO3 hd5 hd6 hf6 hb3 hb5 hb6 hb7 d1 d2 d3 p1 p2 p3 t1 t2 t3 u1 u2 u3 hlp hlq hp8 hpq
                   go_wp2
                   go_roundw
                   case rel => exact ⟨k + 1, _, by omega, by go_num, HST.out.1, HMM.out, HST.out.2⟩
                   case measure => simp [intOf]; omega
           · obtain rfl : k = n := by omega
             go_wp2
             go_roundw
             case rel => exact ⟨i + 1, t, by omega, by go_num, HR.out, HM.out, HW.out⟩
             case measure => simp [intOf]; omega
       · obtain rfl : i = n := by omega
         have CC := closed_any wr A s i c HR.out.evts
         obtain ⟨b, hb⟩ : ∃ b, closeB s = b := ⟨_, rfl⟩
         rw [hb] at CC
         have HCL := Lib.hid hb
         clear hb
         go_wp2_with fail
         refine CC.mono ?_
         rintro r w4 ⟨rfl, b4⟩
         have HW4 := Lib.hid (HW.out.trans (b4.mono HW.out.size))
         have HE4 := Lib.hid ((HR.out.up b4).evts)
         clear CC b4 HR HW
         cases b with
         | false =>
           go_wp2_with fail
           refine (works_any P w4).mono ?_
           rintro r w5 ⟨rfl, b5⟩
           have HV := Lib.hid (HW4.out.trans (b5.mono HW4.out.size))
           clear b5
           go_wp2
           go_ret
           exact ⟨rfl, HV.out⟩
         | true =>
           have HFI := Lib.hid (mids_fine HM.out HCL.out)
           clear HM HCL
           clear hi hlt
           go_wp2_with fail
           refine (P.new w4).mono ?_
           rintro r w5 ⟨p1, rfl, T1, hr1, ht1, b5⟩
           have hd1 := (P.dom _ _ _ _ hr1).2
           go_wp2_with fail
           refine (P.new w5).mono ?_
           rintro r w6 ⟨p2, rfl, T2, hr2, ht2, b6⟩
           have HTW : Hid (Two R w w6 p1 p2 T1 T2 ([], []) ([], []) 0 [] [] A s i c) := Lib.hid ⟨P.up hr1 b6, hr2, (fun k hk h1 => by have := hd1 k h1; have := ht2 k hk; omega), (fun k hk => Nat.le_trans HW4.out.size (ht1 k hk)), (fun k hk => Nat.le_trans HW4.out.size (Nat.le_trans b5.size (ht2 k hk))), invb_none, invb_none, bd_nil, bd_nil, (HE4.out.up b5).up b6, HW4.out.trans ((b5.trans (b6.mono b5.size)).mono HW4.out.size)⟩
           clear hr1 ht1 b5 hd1 hr2 ht2 b6 HW4 HE4
           go_wp2_with fail
           go_loopw [10] (fun kv wr => ∃ (k : Nat) (T1 T2 : Nat → Prop) (S1 S2 : Bt), k ≤ i ∧ kv = .int .i64 (k : Int) ∧ Two R w wr p1 p2 T1 T2 S1 S2 k (s.take k) (turnE s g k) A s i c) (fun kv _ => i - (intOf kv).toNat)
           case atStart => exact ⟨0, T1, T2, ([], []), ([], []), Nat.zero_le _, rfl, HTW.out⟩
           case round =>
             obtain ⟨k, T1, T2, S1, S2, hk, rfl, htw⟩ := hrel
             clear HTW
             have HTW := Lib.hid htw
             clear htw
             by_cases hlt : k < i
             · obtain ⟨ad, q, x, rfl, hB, hlx, hq, cq⟩ := HTW.out.evts.at_ hlt
               have CP := P.put wr p1 T1 S1 q x HTW.out.one (HTW.out.bd1.lim (by omega)) hq
               simp only [Ev.EV.val] at CP
               obtain ⟨e0, e1, e2, e3, e4, e5, e6⟩ := cq
               have HLX := Lib.hid hlx
               have HQ := Lib.hid hq
               clear hlx hq
               go_wp2_with fail
               refine CP.mono ?_
               rintro r w7 ⟨rfl, hwent⟩
               have hst := HTW.out.first P HFI.out HLX.out HQ.out hwent
               obtain ⟨T3, hst⟩ := hst
               have HT3 := Lib.hid hst
               clear CP hwent hst HTW HQ e0 e1 e2 e3 e4 e5 e6
               obtain ⟨ad2, q2, y, hae, hB2, hly, hq, cq⟩ := HT3.out.evts.at_ (show (i - 1 - k + g) % i < i from Nat.mod_lt _ (by omega))
               obtain rfl := Option.some.inj hae
               have CP := P.put w7 p2 T2 S2 q2 y HT3.out.two (HT3.out.bd2.lim (by omega)) hq
               simp only [Ev.EV.val] at CP
               obtain ⟨e0, e1, e2, e3, e4, e5, e6⟩ := cq
               have HLY := Lib.hid hly
               have HQ := Lib.hid hq
               have hr0 : (0 : Int) ≤ ((i : Int) - 1 - (k : Int) + (g : Int)) % (i : Int) := Int.emod_nonneg _ (by omega)
               have hr1 : ((i : Int) - 1 - (k : Int) + (g : Int)) % (i : Int) < (i : Int) := Int.emod_lt_of_pos _ (by omega)
               clear hae hly hq
               go_wp2_with fail
               refine CP.mono ?_
               rintro r w8 ⟨rfl, hwent⟩
               have hst := HT3.out.second P HFI.out HLY.out HQ.out hwent
               obtain ⟨T4, hst⟩ := hst
               have HT4 := Lib.hid hst
               clear CP hwent hst HT3 HQ e0 e1 e2 e3 e4 e5 e6 hr0 hr1
               go_wp2
               go_roundw
               case rel => exact ⟨k + 1, _, _, _, _, by omega, by go_num, HT4.out⟩
               case measure => simp [intOf]; omega
             · obtain rfl : k = i := by omega
               obtain rfl : S1 = S2 := HTW.out.inv1.same HTW.out.inv2 (fun x => by
                 have h := HTW.out.evts.len
                 rw [← h, List.take_length]
                 exact (turn_mem x).symm)
               have HB1 := Lib.hid (HTW.out.bd1.lim (by omega))
               have HIV := Lib.hid (show InvB s S1 by
                 have h := HTW.out.inv1
                 rwa [← HTW.out.evts.len, List.take_length] at h)
               have HT : Hid (R wr p1 T1 S1 ∧ R wr p2 T2 S1 ∧ (∀ k, T2 k → ¬ T1 k) ∧ (∀ k, T1 k → w.heap.size ≤ k) ∧ Ev.EventsAt wr wr.heap.size A s k c ∧ Below w.heap.size w wr) := Lib.hid ⟨HTW.out.one, HTW.out.two, HTW.out.off, HTW.out.own1, HTW.out.evts, HTW.out.below⟩
               clear HTW
               go_wp2_with fail
               refine (P.ctx wr p1 T1 S1 HT.out.1 HB1.out).mono ?_
               rintro r w7 ⟨A7, n7, c7, rfl, h7, b7⟩
               have HK7 := Lib.hid b7
               have HC7 := Lib.hid h7
               clear h7 b7
               go_wp2_with fail
               refine (P.ctx w7 p2 T2 S1 (P.up HT.out.2.1 HK7.out) HB1.out).mono ?_
               rintro r w8 ⟨A8, n8, c8, rfl, h8, b8⟩
               have HK8 := Lib.hid (bel_step HK7.out b8)
               have HC8 := Lib.hid h8
               have HC78 := Lib.hid (HC7.out.up b8)
               clear h8 b8 HC7 HK7
               go_wp2_with fail
               refine (eq_up HK8.out HC78.out HC8.out).mono ?_
               rintro r w9 ⟨rfl, b9⟩
               have HK9 := Lib.hid b9
               clear b9 HC78 HC8 HK8
               go_wp2_with fail
               refine (P.live w9 p1 T1 S1 (P.up HT.out.1 HK9.out) HB1.out).mono ?_
               rintro r w10 ⟨A10, n10, c10, rfl, h10, b10⟩
               have HK10 := Lib.hid (bel_step HK9.out b10)
               have HL10 := Lib.hid h10
               clear h10 b10 HK9
               go_wp2_with fail
               refine (P.live w10 p2 T2 S1 (P.up HT.out.2.1 HK10.out) HB1.out).mono ?_
               rintro r w11 ⟨A11, n11, c11, rfl, h11, b11⟩
               have HK11 := Lib.hid (bel_step HK10.out b11)
               have HL11 := Lib.hid h11
               have HL1011 := Lib.hid (HL10.out.up b11)
               clear h11 b11 HL10 HK10
               go_wp2_with fail
               refine (all_up HK11.out HL1011.out HL11.out).mono ?_
               rintro r w12 ⟨rfl, b12⟩
               have HT2 : Hid (R w12 p1 T1 S1 ∧ R w12 p2 T2 S1 ∧ (∀ k, T2 k → ¬ T1 k) ∧ (∀ k, T1 k → w.heap.size ≤ k) ∧ Ev.EventsAt w12 w12.heap.size A s k c ∧ Below w.heap.size w w12) := Lib.hid ⟨P.up HT.out.1 b12, P.up HT.out.2.1 b12, HT.out.2.2.1, HT.out.2.2.2.1, HT.out.2.2.2.2.1.up b12, bel_step HT.out.2.2.2.2.2 b12⟩
               clear b12 HT HL1011 HL11 HK11
               go_wp2_with fail
               go_loopw [11] (fun kv wr => ∃ (m : Nat) (T1 T2 : Nat → Prop), m ≤ k ∧ kv = .int .i64 (m : Int) ∧ (R wr p1 T1 S1 ∧ R wr p2 T2 S1 ∧ (∀ k, T2 k → ¬ T1 k) ∧ (∀ k, T1 k → w.heap.size ≤ k) ∧ Ev.EventsAt wr wr.heap.size A s k c ∧ Below w.heap.size w wr)) (fun kv _ => k - (intOf kv).toNat)
               case atStart => exact ⟨0, T1, T2, Nat.zero_le _, rfl, HT2.out⟩
               case round =>
                 obtain ⟨m, T1, T2, hm, rfl, ht⟩ := hrel
                 clear HT2
                 have HT := Lib.hid ht
                 clear ht
                 by_cases hlt : m < k
                 · obtain ⟨ad, q, x, rfl, hB, hlx, hq, cq⟩ := HT.out.2.2.2.2.1.at_ hlt
                   have CG := Ev.rgood_any wr q x hq
                   simp only [Ev.EV.val] at CG
                   obtain ⟨e0, e1, e2, e3, e4, e5, e6⟩ := cq
                   obtain ⟨b, hb⟩ : ∃ b, Ev.goodE x = b := ⟨_, rfl⟩
                   rw [hb] at CG
                   have HG := Lib.hid hb
                   have HQ := Lib.hid hq
                   have HLX := Lib.hid hlx
                   clear hb hq hlx
                   go_wp2_with fail
                   refine CG.mono ?_
                   rintro r w13 ⟨rfl, b13⟩
                   have HT3 : Hid (R w13 p1 T1 S1 ∧ R w13 p2 T2 S1 ∧ (∀ k, T2 k → ¬ T1 k) ∧ (∀ k, T1 k → w.heap.size ≤ k) ∧ Ev.EventsAt w13 w13.heap.size (some ad) s k c ∧ Below w.heap.size w w13) := Lib.hid ⟨P.up HT.out.1 b13, P.up HT.out.2.1 b13, HT.out.2.2.1, HT.out.2.2.2.1, HT.out.2.2.2.2.1.up b13, bel_step HT.out.2.2.2.2.2 b13⟩
                   have HQ3 := Lib.hid (HQ.out.up b13)
                   have f0 := Ev.stays b13 e0
                   have f1 := Ev.stays b13 e1
                   have f2 := Ev.stays b13 e2
                   have f3 := Ev.stays b13 e3
                   have f4 := Ev.stays b13 e4
                   have f5 := Ev.stays b13 e5
                   have f6 := Ev.stays b13 e6
                   clear CG b13 HT HQ e0 e1 e2 e3 e4 e5 e6
                   cases b with
                   | false =>
                     clear f0 f1 f2 f3 f4 f5 f6
                     go_wp2
                     go_roundw
                     case rel => exact ⟨m + 1, T1, T2, by omega, by go_num, HT3.out⟩
                     case measure => simp [intOf]; omega
                   | true =>
                     have CP := P.put w13 p1 T1 S1 q x HT3.out.1 HB1.out HQ3.out
                     rw [HIV.out.again (List.mem_of_getElem? HLX.out) HG.out] at CP
                     simp only [Ev.EV.val] at CP
                     go_wp2_with fail
                     refine CP.mono ?_
                     rintro r w14 ⟨rfl, hwent⟩
                     obtain ⟨T3, h1, h2, h3, h4, K⟩ := hwent.other P HT3.out.2.1 HT3.out.2.2.1
                     have HT4 : Hid (R w14 p1 T3 S1 ∧ R w14 p2 T2 S1 ∧ (∀ k, T2 k → ¬ T3 k) ∧ (∀ k, T3 k → w.heap.size ≤ k) ∧ Ev.EventsAt w14 w14.heap.size (some ad) s k c ∧ Below w.heap.size w w14) := Lib.hid ⟨h1, h2, h3, fun j hj => (h4 j hj).elim (HT3.out.2.2.2.1 j) (fun h5 => Nat.le_trans HT3.out.2.2.2.2.2.size h5), K.evts _ _ _ _ HT3.out.2.2.2.2.1, K.below w HT3.out.2.2.2.2.2 HT3.out.2.2.2.1⟩
                     clear CP hwent h1 h2 h3 h4 K HT3 HQ3 f0 f1 f2 f3 f4 f5 f6
                     go_wp2
                     go_roundw
                     case rel => exact ⟨m + 1, T3, T2, by omega, by go_num, HT4.out⟩
                     case measure => simp [intOf]; omega
                 · obtain rfl : m = k := by omega
                   go_wp2_with fail
                   refine (P.live wr p1 T1 S1 HT.out.1 HB1.out).mono ?_
                   rintro r w10 ⟨A10, n10, c10, rfl, h10, b10⟩
                   have HK10 := Lib.hid b10
                   have HL10 := Lib.hid h10
                   clear h10 b10
                   go_wp2_with fail
                   refine (P.live w10 p2 T2 S1 (P.up HT.out.2.1 HK10.out) HB1.out).mono ?_
                   rintro r w11 ⟨A11, n11, c11, rfl, h11, b11⟩
                   have HK11 := Lib.hid (bel_step HK10.out b11)
                   have HL11 := Lib.hid h11
                   have HL1011 := Lib.hid (HL10.out.up b11)
                   clear h11 b11 HL10 HK10
                   go_wp2_with fail
                   refine (all_up HK11.out HL1011.out HL11.out).mono ?_
                   rintro r w12 ⟨rfl, b12⟩
                   have HK12 := Lib.hid (bel_step HT.out.2.2.2.2.2 b12)
                   clear b12 HT HL1011 HL11 HK11
                   go_wp2_with fail
                   refine (works_any P w12).mono ?_
                   rintro r w13 ⟨rfl, b13⟩
                   have HV := Lib.hid (bel_step HK12.out b13)
                   clear b13
                   go_wp2
                   go_ret
                   exact ⟨rfl, HV.out⟩
end Go.Proofs.YtgaegfddobpomaaGreat.Bk

namespace Go.Proofs.YtgaegfddobpomaaGreat.Cx
open Go.ChangeShapes Go.WideShapes Go.ChangeAt Go.RowKit
set_option linter.unusedVariables false
theorem run_lit (V : World) (b lo hi : Nat) (hb : b = V.heap.size) (h1 : lo < 18446744073709551616) (h2 : hi < 18446744073709551616) :
   RunsAt (V.alloc (.cells #[.int .u64 (lo : Int), .int .u64 (hi : Int)] 68)) (some ⟨b, 0, none⟩) [(lo, hi)] 1 1 := by
 subst hb
 refine ⟨rfl, (fun h => by cases h), Nat.le_refl _, by decide, ⟨fun r hr => by obtain rfl := List.mem_singleton.1 hr; exact ⟨h1, h2⟩, fun _ => ⟨_, rfl, by simp, fun j u hu => ?_⟩⟩⟩
 have e3 : Ru.rv [(lo, hi)] = [.int .u64 (lo : Int), .int .u64 (hi : Int)] := rfl
 rw [e3] at hu
 rw [Dt.zero_add, World.cell?_alloc_new]
 simpa using hu
structure DotsAt (w : World) (A : Option Addr) (l : List Dot) (n c : Nat) : Prop where
 len : l.length = n
 nil : A = none → n = 0 ∧ c = 0
 cap : n ≤ c
 max : c ≤ 9223372036854775807
 dots : Dt.Dots w w.heap.size A l
theorem DotsAt.fit {w : World} {A : Option Addr} {l : List Dot} {n c : Nat} (h : DotsAt w A l n c) : Dt.Fit l := h.dots.1
def DotsHas (w : World) (m : List Dot) (e : Ending) (w' : World) : Prop := ∃ A n c, e = .returned (.slice A n c) ∧ DotsAt w' A m n c ∧ Below w.heap.size w w'
def RunsHas (w : World) (m : List Run) (e : Ending) (w' : World) : Prop := ∃ A n c, e = .returned (.slice A n c) ∧ RunsAt w' A m n c ∧ Below w.heap.size w w'
def wC (c : List Part) : Nat := (c.map (fun x => x.2.length)).sum
def Wide (k : Nat) (c : List Part) : Prop := c.length ≤ k ∧ wC c ≤ k
theorem Wide.more {k m : Nat} {c : List Part} (h : Wide k c) (hk : k ≤ m) : Wide m c := ⟨Nat.le_trans h.1 hk, Nat.le_trans h.2 hk⟩
theorem small_wide {c : List Part} (h : Small c) : Wide 80000 c := ⟨Nat.le_trans h.1 (by decide), h.2⟩
structure PCtx : Prop where
 norm : ∀ (w : World) (A : Option Addr) (a : List Part) (n c : Nat), CtxAt w A a n c → Wide 67108864 a → Calls Tryz.prog 69 #[.slice A n c] w (CtxHas w (normC a))
 good : ∀ (w : World) (A : Option Addr) (a : List Part) (n c : Nat), CtxAt w A a n c → Wide 67108864 a → Calls Tryz.prog 64 #[.slice A n c] w fun e w' => e = .returned (.bool (goodC a)) ∧ Below w.heap.size w w'
 of : ∀ (w : World) (A : Option Addr) (l : List Dot) (n c : Nat), DotsAt w A l n c → n ≤ 67108864 → Calls Tryz.prog 68 #[.slice A n c] w (CtxHas w (ofC l))
 has : ∀ (w : World) (A : Option Addr) (a : List Part) (n c : Nat) (d : Dot), CtxAt w A a n c → Wide 67108864 a → d.1 < 65536 ∧ d.2 < 18446744073709551616 → Calls Tryz.prog 46 #[.slice A n c, .agg #[.int .u16 (d.1 : Int), .int .u64 (d.2 : Int)]] w fun e w' => e = .returned (.bool (hasC a d)) ∧ Below w.heap.size w w'
 add : ∀ (w : World) (A A2 : Option Addr) (a : List Part) (l : List Dot) (n n2 c c2 : Nat), CtxAt w A a n c → DotsAt w A2 l n2 c2 → Wide 67108864 a → n2 ≤ 67108864 → Calls Tryz.prog 47 #[.slice A n c, .slice A2 n2 c2] w (CtxHas w (setC a (ofC l) 0))
 join : ∀ (w : World) (A1 A2 : Option Addr) (a b : List Part) (n1 n2 c1 c2 : Nat), CtxAt w A1 a n1 c1 → CtxAt w A2 b n2 c2 → Wide 67108864 a → Wide 67108864 b → Calls Tryz.prog 55 #[.slice A1 n1 c1, .slice A2 n2 c2] w (CtxHas w (setC a b 0))
 meet : ∀ (w : World) (A1 A2 : Option Addr) (a b : List Part) (n1 n2 c1 c2 : Nat), CtxAt w A1 a n1 c1 → CtxAt w A2 b n2 c2 → Wide 67108864 a → Wide 67108864 b → Calls Tryz.prog 140 #[.slice A1 n1 c1, .slice A2 n2 c2] w (CtxHas w (setC a b 1))
 minus : ∀ (w : World) (A1 A2 : Option Addr) (a b : List Part) (n1 n2 c1 c2 : Nat), CtxAt w A1 a n1 c1 → CtxAt w A2 b n2 c2 → Wide 67108864 a → Wide 67108864 b → Calls Tryz.prog 113 #[.slice A1 n1 c1, .slice A2 n2 c2] w (CtxHas w (setC a b 2))
 within : ∀ (w : World) (A1 A2 : Option Addr) (a b : List Part) (n1 n2 c1 c2 : Nat), CtxAt w A1 a n1 c1 → CtxAt w A2 b n2 c2 → Wide 67108864 a → Wide 67108864 b → Calls Tryz.prog 67 #[.slice A1 n1 c1, .slice A2 n2 c2] w fun e w' => e = .returned (.bool (withinC a b)) ∧ Below w.heap.size w w'
 same : ∀ (w : World) (A1 A2 : Option Addr) (a b : List Part) (n1 n2 c1 c2 : Nat), CtxAt w A1 a n1 c1 → CtxAt w A2 b n2 c2 → Wide 67108864 a → Wide 67108864 b → Calls Tryz.prog 59 #[.slice A1 n1 c1, .slice A2 n2 c2] w fun e w' => e = .returned (.bool (sameC a b)) ∧ Below w.heap.size w w'
/-! The chapter's example. -/
def exC : List Part := [(1, [(1, 2), (4, 4)]), (2, [(2, 2)])]
def exL : List Dot := [(1, 1), (1, 2), (1, 4), (2, 2)]
end Go.Proofs.YtgaegfddobpomaaGreat.Cx
