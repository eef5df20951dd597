/- Words and contracts that the proofs of this seat stand on, part 39 of 39. -/
import Derived.Test.YtgaegfddobpomaaGreatOrBL
import Derived.Test.YtgaegfddobpomaaGreatOrBG
import Derived.Test.YtgaegfddobpomaaGreatOrBJ
import Derived.Test.YtgaegfddobpomaaGreatOrN
import Derived.Test.YtgaegfddobpomaaGreatOrBC
import Derived.Test.YtgaegfddobpomaaGreatOrW
import Derived.Test.YtgaegfddobpomaaGreatOrJ
import Derived.Test.YtgaegfddobpomaaGreatOrO
import Derived.Test.YtgaegfddobpomaaGreatOrU
import Derived.Test.YtgaegfddobpomaaGreatOrBI
import Derived.Test.YtgaegfddobpomaaGreatOrBE
import Derived.Test.YtgaegfddobpomaaGreatOrBF
import Derived.Test.YtgaegfddobpomaaGreatOrBH

namespace Go.Proofs.YtgaegfddobpomaaGreat.Bk
open Go.ChangeShapes Go.WideShapes Go.ChangeAt Go.RowKit Go.Proofs.YtgaegfddobpomaaGreat.Kl Go.Maps
set_option linter.unusedVariables false
set_option maxRecDepth 4000
theorem Turns.grownT {w W : World} {p : Nat} {m1 m2 : Option Nat} (h : w.grownBy W m2) : Turns w p m1 m2 m1 m2 W := ⟨fun _ h => .inl h, h.os, h.tape, h.output, h.size, fun b hb hn => h.block b hb (fun e => hn (.inr (.inr e.symm)))⟩
theorem del_endT {w V W : World} {p : Nat} {A : Option Addr} {n k : Nat} {m1 m2 : Option Nat} {L1 L2 : List Ev.EV} {d : Dt.Dot} (h : BkMem w p A n k m1 m2 L1 L2) (hV : Below w.heap.size w V) (hm : MapO W m2 (but d L2)) (hg : V.grownBy W m2) :
   BkMem W p A n k m1 m2 L1 (but d L2) ∧ Turns w p m1 m2 m1 m2 W := by
 have hv := h.up hV
 refine ⟨⟨(hg.block p hv.at_.lt (fun e => hv.ne.2 e.symm)).trans hv.at_, hv.live.off (Turns.grownT (p := W.heap.size) (m1 := none) hg).off (fun b hb e => ?_), hm, h.both, h.apart⟩, (Turns.below hV).trans (Turns.grownT hg)⟩
 rcases e with e | e | e
 · have h1 := hv.live.lt hb; have h2 := hg.size; omega
 · cases e
 · exact h.apart b hb e
theorem match_has {w : World} {B : Nat} : ∀ {ps : List Ev.EV} {l : List Ev.Evt}, Ev.Match w B ps l → ∀ x ∈ l, ∃ p ∈ ps, Ev.EventIs w B p x
 | _, [], _, x, hx => by cases hx
 | [], _ :: _, h, _, _ => by have := h.1; simp at this
 | q :: ps, y :: l, h, x, hx => by
   obtain ⟨h1, h2⟩ := match_cons.1 h
   rcases List.mem_cons.1 hx with rfl | hx
   · exact ⟨q, List.mem_cons_self .., h1⟩
   · obtain ⟨p, hp, h3⟩ := match_has h2 x hx
     exact ⟨p, List.mem_cons_of_mem _ hp, h3⟩
theorem strip_step {w V W : World} {p : Nat} {A : Option Addr} {n k b : Nat} {m2 : Option Nat} {L1 L2 : List Ev.EV} {l : List Ev.Evt} {ds : List Dt.Dot} {x : Ev.Evt} {P : Ev.EV} (h : BkMem w p A n k (some b) m2 L1 L2) (hm : Ev.Match w w.heap.size L1 (l.map (bareIn ds))) (ho : Ev.OrdE l) (hx : x ∈ l)
   (hp : Ev.EventIs w w.heap.size P (bareIn ds x)) (hV : Below w.heap.size w V) (h6 : MapE W b (⟨P.dev, P.num, P.kind, P.cid, P.fld, P.txt, none, 0, 0⟩ :: but x.dot L1)) (hg : V.grownBy W (some b)) :
   ∃ L1', BkMem W p A n k (some b) m2 L1' L2 ∧ Ev.Match W W.heap.size L1' (l.map (bareIn (ds ++ [x.dot]))) ∧ Turns w p (some b) m2 (some b) m2 W := by
 have hv := h.up hV
 have hb := ev_bare (hp.up hV)
 have e : (⟨(bareIn ds x).dot, (bareIn ds x).kind, (bareIn ds x).cid, (bareIn ds x).fld, (bareIn ds x).txt, []⟩ : Ev.Evt) = bareE x := bare_bareIn ds x
 rw [e] at hb
 have hS : NoNum V (· = b) := fun k hk i u hu => absurd (hk ▸ hu) (hv.live.some_of.nocell i u)
 have hM := match_off hS (off_grown hg) (match_up hV hm)
 obtain ⟨qs, p1, p2⟩ := match_perm (bare_step ho hx ds) (match_cons.2 ⟨evt_off hS (off_grown hg) hb, match_but x.dot hM⟩)
 refine ⟨qs, ⟨(hg.block p hv.at_.lt (fun e => hv.ne.1 e.symm)).trans hv.at_, .some_ (h6.perm p1), hv.tomb.off (off_grown hg) (fun c hc e => h.apart b rfl (by rw [hc, e])), h.both, h.apart⟩, p2, (Turns.below hV).trans (Turns.grown1 rfl hg)⟩
theorem zeroE (w : World) : (zeroValue 38).run Tryz.prog w = .ok (.agg #[.int .u16 0, .int .u64 0, .int .u8 0, .int .u64 0, .int .u8 0, .string ⟨#[]⟩, .slice none 0 0]) w := by kernel_rfl
theorem look_at {w V : World} {b : Nat} {L : List Ev.EV} (h : MapE w b L) (hV : Below w.heap.size w V) {P : Ev.EV} (hp : P ∈ L) {a1 a2 : Nat} (h1 : P.dev = a1) (h2 : P.num = a2) :
   (Instr.lookup 82 (.map (some b)) (.agg #[.int .u16 (a1 : Int), .int .u64 (a2 : Int)]) false).run Tryz.prog V = .ok (.agg #[.int .u16 (P.dev : Int), .int .u64 (P.num : Int), .int .u8 (P.kind : Int), .int .u64 (P.cid : Int), .int .u8 (P.fld : Int), .string P.txt, .slice P.adr P.len P.cap]) V := by
 subst h1 h2
 exact (h.up hV).look hp (zeroE V) ⟨⟨0, 0, 0, 0, 0, ⟨#[]⟩, none, 0, 0⟩, rfl⟩
set_option maxHeartbeats 16000000 in
theorem pprune_is (w : World) (p : Nat) (A : Option Addr) (n k : Nat) (m1 m2 : Option Nat) (L1 L2 : List Ev.EV) (S : Bt) (A2 : Option Addr) (c : List Cx.Part) (n2 k2 : Nat) (h : BkIs w p A n k m1 m2 L1 L2 S) (hs : Lim S) (hc : Cx.CtxAt w A2 c n2 k2) (hf : Cx.fewC c = true) :
   Calls Tryz.prog 18 #[.pointer (some ⟨p, 0, none⟩), .slice A2 n2 k2] w fun e w' => e = .returned (.int .i64 ((pruneB S c).2 : Int)) ∧ Goes w p m1 m2 (pruneB S c).1 w' := by
 obtain ⟨c0, c1, c2⟩ := h.mem.cells (Below.refl _ _)
 have CA : Calls Tryz.prog 57 #[.map m2, .slice A2 n2 k2] w (Ev.DPost w (inC c (S.2.filter (kindB 2)))) := pamong_any w m2 L2 _ A2 c n2 k2 h.mem.tomb h.tombM (ord_some h.leg.rise _) (by have := h.len2; have := hs.few; omega) hc hf
 have CB : ∀ W, Turns w p m1 m2 m1 m2 W → BkMem W p A n k m1 m2 L1 (butL (inC c (S.2.filter (kindB 2))) L2) → Calls Tryz.prog 57 #[.map m1, .slice A2 n2 k2] W (Ev.DPost W (inC c (S.2.filter (kindB 1)))) := fun W hW hM =>
   pamong_any W m1 L1 _ A2 c n2 k2 hM.live (match_off h.mem.nonum hW.off h.liveM) (ord_some h.leg.rise _) (by have := h.len1; have := hs.few; omega) (ctx_off h.mem.nonum hW.off hc) hf
 have HI := Lib.hid h
 have HCT : Hid ((pruneB S c).2 = (inC c (S.2.filter (kindB 2))).length) := Lib.hid (prune_count c S h.leg.good)
 have HLV : Hid (∀ W, Turns w p m1 m2 m1 m2 W → Ev.Match W W.heap.size L1 (S.2.filter (kindB 1))) := Lib.hid (fun W hW => match_off h.mem.nonum hW.off h.liveM)
 have HOR : Hid (Ev.OrdE (S.2.filter (kindB 1))) := Lib.hid (ord_some h.leg.rise _)
 have HLN1 : Hid (L1.length ≤ 64) := Lib.hid (Nat.le_trans h.len1 hs.few)
 clear h hs hc hf
 go_enter Tryz.func18, Tryz.ntmps18
 go_wp2_with fail
 refine CA.mono ?_
 rintro e w1 ⟨A5, n5, c5, rfl, hd, hb⟩
 have HD := Lib.hid hd
 have HM1 := Lib.hid (HI.out.mem.up hb)
 have HT1 := Lib.hid (Turns.below (p := p) (m1 := m1) (m2 := m2) hb)
 have hlen := hd.len
 have h63 : n5 ≤ 9223372036854775807 := Nat.le_trans hd.cap hd.max
 have HLEN := Lib.hid hlen
 clear CA hd hb c0 c1 c2 hlen
 obtain ⟨olds, hold⟩ : ∃ olds, inC c (S.2.filter (kindB 2)) = olds := ⟨_, rfl⟩
 rw [hold] at HD HLEN CB HCT
 have HOLD := Lib.hid hold
 clear hold
 go_wp2
 go_loopw [21] (fun i wr => ∃ j : Nat, j ≤ n5 ∧ i = .int .i64 (j : Int) ∧ BkMem wr p A n k m1 m2 L1 (butL (olds.take j) L2) ∧ Turns w1 p m1 m2 m1 m2 wr) (fun i _ => n5 - (intOf i).toNat)
 case atStart => exact ⟨0, Nat.zero_le _, rfl, by rw [List.take_zero, butL_nil]; exact HM1.out, Turns.refl _ _ _ _⟩
 case round =>
   obtain ⟨j, hj, rfl, hm, ht⟩ := hrel
   have HM := Lib.hid hm
   have HT := Lib.hid ht
   have HE := Lib.hid (dots_off HM1.out.nonum ht.off HD.out)
   clear hm ht
   by_cases hjl : j < n5
   · obtain ⟨ad, a1, a2, rfl, hlx, hx1, hx2, d1, d3⟩ := (HE.out.dots.at_ (k := j) (by rw [HE.out.len]; exact hjl))
     have d3' : wr.cell? ⟨(ad.add (j * 2)).block, (ad.add (j * 2)).off + 1, none⟩ = some (.int .u64 (a2 : Int)) := by rw [Dt.add_next]; exact d3
     have hbd := Ev.below_new wr (dbox (a1, a2))
     have HXC : Hid (∀ V, Below (wr.alloc (dbox (a1, a2))).heap.size (wr.alloc (dbox (a1, a2))) V → V.cell? ⟨p, 2, none⟩ = some (.map m2) ∧ V.cell? ⟨wr.heap.size, 0, none⟩ = some (.int .u16 (a1 : Int)) ∧ V.cell? ⟨wr.heap.size, 1, none⟩ = some (.int .u64 (a2 : Int))) :=
       Lib.hid (fun V hV => ⟨((HM.out.up hbd).cells hV).2.2, dbox_cells wr V (a1, a2) hV⟩)
     have HMV : Hid (∀ V, Below (wr.alloc (dbox (a1, a2))).heap.size (wr.alloc (dbox (a1, a2))) V → MapO V m2 (butL (olds.take j) L2)) := Lib.hid (fun V hV => (HM.out.tomb.up hbd).up hV)
     have HXD : Hid (∀ V W, Below (wr.alloc (dbox (a1, a2))).heap.size (wr.alloc (dbox (a1, a2))) V → V.grownBy W m2 → W.cell? ⟨p, 2, none⟩ = some (.map m2) ∧ W.cell? ⟨wr.heap.size, 0, none⟩ = some (.int .u16 (a1 : Int)) ∧ W.cell? ⟨wr.heap.size, 1, none⟩ = some (.int .u64 (a2 : Int))) :=
       Lib.hid (fun V W hV hg => by
         obtain ⟨e1, e2, e3⟩ := HXC.out V hV
         have n1 : some p ≠ m2 := fun e => (HMV.out V hV).nocell e.symm _ _ e1
         have n2 : some wr.heap.size ≠ m2 := fun e => (HMV.out V hV).nocell e.symm _ _ e2
         exact ⟨hg.cell e1 n1, hg.cell e2 n2, hg.cell e3 n2⟩)
     have HEND : Hid (∀ V W, Below (wr.alloc (dbox (a1, a2))).heap.size (wr.alloc (dbox (a1, a2))) V → MapO W m2 (but (a1, a2) (butL (olds.take j) L2)) → V.grownBy W m2 → BkMem W p A n k m1 m2 L1 (butL (olds.take (j + 1)) L2) ∧ Turns w1 p m1 m2 m1 m2 W) :=
       Lib.hid (fun V W hV hm hg => by
         obtain ⟨e1, e2⟩ := del_endT HM.out (hbd.trans (hV.mono hbd.size)) hm hg
         rw [but_butL, ← Ev.take_one hlx] at e1
         exact ⟨e1, HT.out.trans e2⟩)
     obtain ⟨x1, x2, x3⟩ := HXC.out _ (Below.refl _ _)
     simp only [dbox] at HXC HMV HXD HEND x1 x2 x3
     clear hbd hlx d3 HE
     go_wp2
     go_region_held3 (fun V => V.cell? ⟨p, 2, none⟩ = some (.map m2) ∧ V.cell? ⟨wr.heap.size, 0, none⟩ = some (.int .u16 (a1 : Int)) ∧ V.cell? ⟨wr.heap.size, 1, none⟩ = some (.int .u64 (a2 : Int))) (first | exact ⟨x1, x2, x3⟩ | assumption | exact HXC.out _ (by (repeat (first | exact Below.refl _ _ | assumption | apply Ev.bel_drew)))) (first
       | (refine step_delO rfl (.tmp 28) (.tmp 29) rfl m2 (butL (olds.take j) L2) (a1, a2) rfl (HMV.out _ ?_) ⟨hx1, hx2⟩ rfl ?_; (focus (repeat (first | exact Below.refl _ _ | assumption | apply Ev.bel_drew))); intro w6 hm6 hg6; have hc6 := HXD.out _ w6 (by (repeat (first | exact Below.refl _ _ | assumption | apply Ev.bel_drew))) hg6; have HR := Lib.hid (HEND.out _ w6 (by (repeat (first | exact Below.refl _ _ | assumption | apply Ev.bel_drew))) hm6 hg6)))
     all_goals
       go_wp2
       go_roundw
       case rel => exact ⟨j + 1, by omega, by go_num, HR.out.1, HR.out.2⟩
       case measure => simp [intOf]; omega
   · obtain rfl : j = n5 := by omega
     have hall : olds.take j = olds := List.take_of_length_le (by rw [HLEN.out]; exact Nat.le_refl _)
     rw [hall] at HM
     have HTW := Lib.hid (HT1.out.trans HT.out)
     obtain ⟨c0, c1, c2⟩ := HM.out.cells (Below.refl _ _)
     have CB' := CB wr HTW.out HM.out
     clear hall CB HE
     go_wp2_with fail
     refine CB'.mono ?_
     rintro e w3 ⟨A6, n6, c6, rfl, hd6, hb6⟩
     have HD6 := Lib.hid hd6
     have HM3 := Lib.hid (HM.out.up hb6)
     have HT3 := Lib.hid (HTW.out.trans (Turns.below (p := p) (m1 := m1) (m2 := m2) hb6))
     have hlen := hd6.len
     have h63b : n6 ≤ 9223372036854775807 := Nat.le_trans hd6.cap hd6.max
     have HLEN6 := Lib.hid hlen
     clear CB' hd6 hb6 c0 c1 c2 hlen HM HT HTW HM1 HT1
     obtain ⟨ds, hds⟩ : ∃ ds, inC c (S.2.filter (kindB 1)) = ds := ⟨_, rfl⟩
     rw [hds] at HD6 HLEN6
     have HDS := Lib.hid hds
     clear hds
     go_wp2
     go_loopw [38] (fun i wr => ∃ (j2 : Nat) (L1j : List Ev.EV), j2 ≤ n6 ∧ i = .int .i64 (j2 : Int) ∧ BkMem wr p A n k m1 m2 L1j (butL olds L2) ∧ Ev.Match wr wr.heap.size L1j ((S.2.filter (kindB 1)).map (bareIn (ds.take j2))) ∧ Turns w3 p m1 m2 m1 m2 wr) (fun i _ => n6 - (intOf i).toNat)
     case atStart =>
       refine ⟨0, L1, Nat.zero_le _, rfl, HM3.out, ?_, Turns.refl _ _ _ _⟩
       have e : (S.2.filter (kindB 1)).map (bareIn (ds.take 0)) = S.2.filter (kindB 1) := by
         rw [List.take_zero]
         exact (List.map_congr_left (fun x _ => bareIn_nil x)).trans (List.map_id _)
       rw [e]
       exact HLV.out _ HT3.out
     case round =>
       obtain ⟨j2, L1j, hj2, rfl, hm, hmt, ht⟩ := hrel
       have HM := Lib.hid hm
       have HMT := Lib.hid hmt
       have HT := Lib.hid ht
       have HE := Lib.hid (dots_off HM3.out.nonum ht.off HD6.out)
       clear hm hmt ht
       by_cases hjl2 : j2 < n6
       · obtain ⟨ad, a1, a2, rfl, hlx, hx1, hx2, d1, d3⟩ := (HE.out.dots.at_ (k := j2) (by rw [HE.out.len]; exact hjl2))
         have d3' : wr.cell? ⟨(ad.add (j2 * 2)).block, (ad.add (j2 * 2)).off + 1, none⟩ = some (.int .u64 (a2 : Int)) := by rw [Dt.add_next]; exact d3
         obtain ⟨x, hxl, hxd⟩ := inC_of (c := c) (l := S.2.filter (kindB 1)) (d := (a1, a2)) (by rw [HDS.out]; exact List.mem_of_getElem? hlx)
         obtain ⟨P, hP, hPe⟩ := match_has HMT.out _ (List.mem_map.2 ⟨x, hxl, rfl⟩)
         have hPd : (P.dev, P.num) = (a1, a2) := by rw [← Ev.is_dot hPe, bareIn_dot, hxd]
         have hP1 : P.dev = a1 := congrArg Prod.fst hPd
         have hP2 : P.num = a2 := congrArg Prod.snd hPd
         have hlv := HM.out.live
         rcases hlv with ⟨rfl, e0⟩ | ⟨b, rfl, hMb⟩
         · rw [e0] at hP; cases hP
         · have hbd := Ev.below_new wr (dbox (a1, a2))
           have HW0 := Lib.hid hbd
           have HMB := Lib.hid hMb
           have HPE := Lib.hid hPe
           have HPL := Lib.hid hP
           have HPD := Lib.hid (And.intro hP1 hP2)
           have HXL := Lib.hid (And.intro hxl hxd)
           have HLX := Lib.hid hlx
           have HXC : Hid (∀ V, Below (wr.alloc (dbox (a1, a2))).heap.size (wr.alloc (dbox (a1, a2))) V → V.cell? ⟨p, 1, none⟩ = some (.map (some b)) ∧ V.cell? ⟨wr.heap.size, 0, none⟩ = some (.int .u16 (a1 : Int)) ∧ V.cell? ⟨wr.heap.size, 1, none⟩ = some (.int .u64 (a2 : Int))) :=
             Lib.hid (fun V hV => ⟨((HM.out.up hbd).cells hV).2.1, dbox_cells wr V (a1, a2) hV⟩)
           have lk0 := look_at hMb hbd hP hP1 hP2
           have lk1 := look_at hMb (Ev.bel_drew hbd) hP hP1 hP2
           have lk2 := look_at hMb (Ev.bel_alloc (.cells #[.int .u16 0, .int .u64 0, .int .u8 0, .int .u64 0, .int .u8 0, .string ⟨#[]⟩, .slice none 0 0] 38) hbd) hP hP1 hP2
           have lk3 := look_at hMb (Ev.bel_drew (Ev.bel_alloc (.cells #[.int .u16 0, .int .u64 0, .int .u8 0, .int .u64 0, .int .u8 0, .string ⟨#[]⟩, .slice none 0 0] 38) hbd)) hP hP1 hP2
           obtain ⟨x1, x2, x3⟩ := HXC.out _ (Below.refl _ _)
           simp only [dbox] at HXC HW0 x1 x2 x3 lk0 lk1 lk2 lk3
           clear hbd hlx d3 HE hPd hP1 hP2 hMb hPe hP hxl hxd
           go_wp2
           go_region_held3 (fun V => V.cell? ⟨p, 1, none⟩ = some (.map (some b)) ∧ V.cell? ⟨wr.heap.size, 0, none⟩ = some (.int .u16 (a1 : Int)) ∧ V.cell? ⟨wr.heap.size, 1, none⟩ = some (.int .u64 (a2 : Int))) (first | exact ⟨x1, x2, x3⟩ | assumption | exact HXC.out _ (by (repeat (first | exact Below.refl _ _ | assumption | apply Ev.bel_drew | apply Ev.bel_alloc)))) (fail)
           all_goals
             have HW1 : Hid (Below wr.heap.size wr ((wr.alloc (dbox (a1, a2))).alloc P.box).drew) := Lib.hid (Ev.bel_drew (Ev.bel_alloc _ HW0.out))
             have HA1 : Hid (At ((wr.alloc (dbox (a1, a2))).alloc P.box).drew (wr.heap.size + 1) 38 (ebox P)) := Lib.hid (by
               have h1 := At.new (wr.alloc (dbox (a1, a2))) 38 (ebox P)
               rw [Ev.alloc_size] at h1
               exact h1)
             have HD1 : Hid (((wr.alloc (dbox (a1, a2))).alloc P.box).drew.cell? ⟨wr.heap.size, 0, none⟩ = some (.int .u16 (a1 : Int)) ∧ ((wr.alloc (dbox (a1, a2))).alloc P.box).drew.cell? ⟨wr.heap.size, 1, none⟩ = some (.int .u64 (a2 : Int))) :=
               Lib.hid (dbox_cells wr _ (a1, a2) (Ev.bel_drew (Ev.bel_alloc _ (Below.refl _ _))))
             simp only [dbox, Ev.EV.box, ebox] at HW1 HA1 HD1
             clear lk0 lk1 lk2 lk3 x1 x2 x3 HXC HW0
             generalize ((wr.alloc (.cells #[.int .u16 (a1 : Int), .int .u64 (a2 : Int)] 35)).alloc (.cells #[.int .u16 (P.dev : Int), .int .u64 (P.num : Int), .int .u8 (P.kind : Int), .int .u64 (P.cid : Int), .int .u8 (P.fld : Int), .string P.txt, .slice P.adr P.len P.cap] 38)).drew = W1 at *
             have y6 := HA1.out.cell 6
             have g6 := HA1.out.frozen 6
             simp at y6
             have hA2 : At (W1.setCell ⟨wr.heap.size + 1, 6, none⟩ (.slice none 0 0)) (wr.heap.size + 1) 38 #[.int .u16 (P.dev : Int), .int .u64 (P.num : Int), .int .u8 (P.kind : Int), .int .u64 (P.cid : Int), .int .u8 (P.fld : Int), .string P.txt, .slice none 0 0] := at_sub (HA1.out.set 6 (.slice none 0 0)) (by simp)
             have hW2 : Below wr.heap.size wr (W1.setCell ⟨wr.heap.size + 1, 6, none⟩ (.slice none 0 0)) := bel_set HW1.out (Nat.le_succ _) _
             have hD2 : (W1.setCell ⟨wr.heap.size + 1, 6, none⟩ (.slice none 0 0)).cell? ⟨wr.heap.size, 0, none⟩ = some (.int .u16 (a1 : Int)) ∧ (W1.setCell ⟨wr.heap.size + 1, 6, none⟩ (.slice none 0 0)).cell? ⟨wr.heap.size, 1, none⟩ = some (.int .u64 (a2 : Int)) :=
               ⟨by rw [World.cell?_setCell_other _ _ _ _ (fun e => by simp at e)]; exact HD1.out.1, by rw [World.cell?_setCell_other _ _ _ _ (fun e => by simp at e)]; exact HD1.out.2⟩
             have HA2 := Lib.hid hA2
             have HW2 := Lib.hid hW2
             have HD2 := Lib.hid hD2
             clear hA2 hW2 hD2 HA1 HW1 HD1
             go_wp2
             clear y6 g6
             generalize W1.setCell ⟨wr.heap.size + 1, 6, none⟩ (.slice none 0 0) = W2 at *
             have HXE : Hid (∀ V, Below W2.heap.size W2 V → V.cell? ⟨p, 1, none⟩ = some (.map (some b)) ∧ (V.cell? ⟨wr.heap.size, 0, none⟩ = some (.int .u16 (a1 : Int)) ∧ V.cell? ⟨wr.heap.size, 1, none⟩ = some (.int .u64 (a2 : Int))) ∧ V.cell? ⟨wr.heap.size + 1, 0, none⟩ = some (.int .u16 (P.dev : Int)) ∧ V.cell? ⟨wr.heap.size + 1, 1, none⟩ = some (.int .u64 (P.num : Int)) ∧ V.cell? ⟨wr.heap.size + 1, 2, none⟩ = some (.int .u8 (P.kind : Int)) ∧ V.cell? ⟨wr.heap.size + 1, 3, none⟩ = some (.int .u64 (P.cid : Int)) ∧ V.cell? ⟨wr.heap.size + 1, 4, none⟩ = some (.int .u8 (P.fld : Int)) ∧ V.cell? ⟨wr.heap.size + 1, 5, none⟩ = some (.string P.txt) ∧ V.cell? ⟨wr.heap.size + 1, 6, none⟩ = some (.slice none 0 0)) := Lib.hid (fun V hV => by
               have hlt : wr.heap.size < W2.heap.size := World.block_lt_of_cell? W2 _ HD2.out.1
               exact ⟨(HM.out.cells (HW2.out.trans (hV.mono HW2.out.size))).2.1, ⟨(hV.cell (p := ⟨wr.heap.size, 0, none⟩) hlt).trans HD2.out.1, (hV.cell (p := ⟨wr.heap.size, 1, none⟩) hlt).trans HD2.out.2⟩, ev_cells (q := ⟨P.dev, P.num, P.kind, P.cid, P.fld, P.txt, none, 0, 0⟩) (HA2.out.below hV HA2.out.lt)⟩)
             have hMB2 := HMB.out.up (Ev.bel_drew HW2.out)
             obtain ⟨w6, hrun6, hm6, hg6⟩ := run_putE (p := ⟨P.dev, P.num, P.kind, P.cid, P.fld, P.txt, none, 0, 0⟩) (d := (a1, a2)) hMB2 (by rw [HMT.out.1, List.length_map]; have := HLV.out _ (HT3.out.trans HT.out); have h7 := this.1; have := HLN1.out; omega) (by show (P.dev, P.num) = _; rw [HPD.out.1, HPD.out.2]) ⟨hx1, hx2⟩ rfl
             have HR : Hid (∃ L1', BkMem w6 p A n k (some b) m2 L1' (butL olds L2) ∧ Ev.Match w6 w6.heap.size L1' ((S.2.filter (kindB 1)).map (bareIn (ds.take (j2 + 1)))) ∧ Turns wr p (some b) m2 (some b) m2 w6) := Lib.hid (by
               have h7 := strip_step (x := x) HM.out HMT.out HOR.out HXL.out.1 HPE.out (Ev.bel_drew HW2.out) (by rw [HXL.out.2]; exact hm6) hg6
               rw [HXL.out.2, ← Ev.take_one HLX.out] at h7
               exact h7)
             obtain ⟨z0, ⟨z1, z2⟩, x0, x1, x2, x3, x4, x5, x6⟩ := HXE.out _ (Below.refl _ _)
             have hc6 : w6.cell? ⟨p, 1, none⟩ = some (.map (some b)) ∧ (w6.cell? ⟨wr.heap.size, 0, none⟩ = some (.int .u16 (a1 : Int)) ∧ w6.cell? ⟨wr.heap.size, 1, none⟩ = some (.int .u64 (a2 : Int))) ∧ w6.cell? ⟨wr.heap.size + 1, 0, none⟩ = some (.int .u16 (P.dev : Int)) ∧ w6.cell? ⟨wr.heap.size + 1, 1, none⟩ = some (.int .u64 (P.num : Int)) ∧ w6.cell? ⟨wr.heap.size + 1, 2, none⟩ = some (.int .u8 (P.kind : Int)) ∧ w6.cell? ⟨wr.heap.size + 1, 3, none⟩ = some (.int .u64 (P.cid : Int)) ∧ w6.cell? ⟨wr.heap.size + 1, 4, none⟩ = some (.int .u8 (P.fld : Int)) ∧ w6.cell? ⟨wr.heap.size + 1, 5, none⟩ = some (.string P.txt) ∧ w6.cell? ⟨wr.heap.size + 1, 6, none⟩ = some (.slice none 0 0) := by
               obtain ⟨e0, ⟨e1, e2⟩, t0, t1, t2, t3, t4, t5, t6⟩ := HXE.out _ (Below.refl _ _).drew
               exact ⟨spot_kept hMB2 hg6 e0, ⟨spot_kept hMB2 hg6 e1, spot_kept hMB2 hg6 e2⟩, spot_kept hMB2 hg6 t0, spot_kept hMB2 hg6 t1, spot_kept hMB2 hg6 t2, spot_kept hMB2 hg6 t3, spot_kept hMB2 hg6 t4, spot_kept hMB2 hg6 t5, spot_kept hMB2 hg6 t6⟩
             clear hm6 hg6 hMB2
             go_region_held3 (fun V => V.cell? ⟨p, 1, none⟩ = some (.map (some b)) ∧ (V.cell? ⟨wr.heap.size, 0, none⟩ = some (.int .u16 (a1 : Int)) ∧ V.cell? ⟨wr.heap.size, 1, none⟩ = some (.int .u64 (a2 : Int))) ∧ V.cell? ⟨wr.heap.size + 1, 0, none⟩ = some (.int .u16 (P.dev : Int)) ∧ V.cell? ⟨wr.heap.size + 1, 1, none⟩ = some (.int .u64 (P.num : Int)) ∧ V.cell? ⟨wr.heap.size + 1, 2, none⟩ = some (.int .u8 (P.kind : Int)) ∧ V.cell? ⟨wr.heap.size + 1, 3, none⟩ = some (.int .u64 (P.cid : Int)) ∧ V.cell? ⟨wr.heap.size + 1, 4, none⟩ = some (.int .u8 (P.fld : Int)) ∧ V.cell? ⟨wr.heap.size + 1, 5, none⟩ = some (.string P.txt) ∧ V.cell? ⟨wr.heap.size + 1, 6, none⟩ = some (.slice none 0 0)) (first | exact ⟨z0, ⟨z1, z2⟩, x0, x1, x2, x3, x4, x5, x6⟩ | assumption | exact HXE.out _ (by (repeat (first | exact Below.refl _ _ | assumption | apply Ev.bel_drew | apply Ev.bel_alloc)))) (fail)
             all_goals
               obtain ⟨L1', r1, r2, r3⟩ := HR.out
               clear hc6 z0 z1 z2 x0 x1 x2 x3 x4 x5 x6 hrun6
               go_wp2
               go_roundw
               case rel => exact ⟨j2 + 1, L1', by omega, by go_num, r1, r2, HT.out.trans r3⟩
               case measure => simp [intOf]; omega
       · obtain rfl : j2 = n6 := by omega
         have hall2 : ds.take j2 = ds := List.take_of_length_le (by rw [HLEN6.out]; exact Nat.le_refl _)
         rw [hall2, ← HDS.out] at HMT
         have HR : Hid (Goes w p m1 m2 (pruneB S c).1 wr) := Lib.hid (prune_end HI.out (HT3.out.trans HT.out) (by rw [HOLD.out]; exact HM.out) HMT.out)
         go_wp2
         go_ret
         exact ⟨by rw [HCT.out, HLEN.out]; rfl, HR.out⟩
end Go.Proofs.YtgaegfddobpomaaGreat.Bk

namespace Go.Proofs.YtgaegfddobpomaaGreat.Ev
open Go.ChangeShapes Go.WideShapes Go.ChangeAt Go.RowKit
set_option linter.unusedVariables false
set_option maxRecDepth 4000
def RowPost (w : World) (n : Nat) (l : List Evt) (e : Ending) (w' : World) : Prop :=
 (e = .returned (.slice none 0 0) ∧ sortE l = [] ∧ Below w.heap.size w w') ∨
 ∃ (g m c : Nat) (ps : List EV), e = .returned (.slice (some ⟨g, 0, none⟩) m c) ∧ w.heap.size ≤ g ∧ (sortE l).length = m ∧ m ≤ n ∧ m ≤ c ∧ c ≤ 9223372036854775807 ∧ Copied w g m (sortE l) m ps w'
end Go.Proofs.YtgaegfddobpomaaGreat.Ev

namespace Go.Proofs.YtgaegfddobpomaaGreat.Kl
open Go.ChangeShapes Go.WideShapes Go.ChangeAt Go.RowKit
set_option linter.unusedVariables false
set_option maxRecDepth 4000
end Go.Proofs.YtgaegfddobpomaaGreat.Kl

namespace Go.Proofs.YtgaegfddobpomaaGreat.Bk
open Go.ChangeShapes Go.WideShapes Go.ChangeAt Go.RowKit Go.Proofs.YtgaegfddobpomaaGreat.Kl
set_option linter.unusedVariables false
set_option maxRecDepth 4000
def riseE (l : List Ev.Evt) : Bool := l.all Ev.goodE && Dt.riseB (l.map (·.dot))
noncomputable def standE (l : List Ev.Evt) : Bool := decide ((l.filter (kindB 1)).length = (liveE l).length)
end Go.Proofs.YtgaegfddobpomaaGreat.Bk

namespace Go.Proofs.YtgaegfddobpomaaGreat.Bk
open Go.ChangeShapes Go.WideShapes Go.ChangeAt Go.RowKit Go.Proofs.YtgaegfddobpomaaGreat.Kl Go.Maps
set_option linter.unusedVariables false
set_option maxRecDepth 4000
end Go.Proofs.YtgaegfddobpomaaGreat.Bk

namespace Go.Proofs.YtgaegfddobpomaaGreat.Bk
open Go.ChangeShapes Go.WideShapes Go.ChangeAt Go.RowKit Go.Proofs.YtgaegfddobpomaaGreat.Kl
set_option linter.unusedVariables false
set_option maxRecDepth 4000
theorem few_wide {c : List Cx.Part} (hf : Cx.FitC c) (h : Cx.fewC c = true) : Cx.Wide 134217728 c := by
 have h1 := Cx.wt_few hf h
 exact ⟨Nat.le_trans h1.parts (by decide), Nat.le_trans h1.runs (by decide)⟩
theorem fresh_of {w w' : World} {p : Nat} {A : Option Addr} {n k : Nat} {m1 m2 : Option Nat} {L1 L2 : List Ev.EV} {S : Bt} (h : BkIs w' p A n k m1 m2 L1 L2 S) (ho : ∀ b, Own p m1 m2 b → w.heap.size ≤ b) (hb : Below w.heap.size w w') : Fresh Lb w S p w' := ⟨Own p m1 m2, lb_of h, ho, hb⟩
theorem pbk : PBk Lb where
 ord := fun w p T S ⟨A, n, k, m1, m2, L1, L2, h, _⟩ => ⟨h.leg.ctx, h.leg.rise⟩
 dom := fun w p T S ⟨A, n, k, m1, m2, L1, L2, h, hT⟩ => ⟨(hT p).2 (.inl rfl), fun b hb => h.mem.lt ((hT b).1 hb)⟩
 off := fun w W p T S G ⟨A, n, k, m1, m2, L1, L2, h, hT⟩ ho hG hn => ⟨A, n, k, m1, m2, L1, L2, h.off ho hG (fun b hb => hn b ((hT b).2 hb)), hT⟩
 new := fun w => (pnew_any w).mono fun e w' ⟨p, h1, h2, h3, h4⟩ => ⟨p, h1, fresh_of h2 (fun b hb => by
   rcases hb with rfl | hb | hb
   · exact h3
   · cases hb
   · cases hb) h4⟩
 put := fun w p T S q x ⟨A, n, k, m1, m2, L1, L2, h, hT⟩ hs hq => (pput_is w p A n k m1 m2 L1 L2 S q x h hs hq).mono fun e w' ⟨h1, h2⟩ => ⟨h1, went_of h hT h2⟩
 make := fun w p T S q x ⟨A, n, k, m1, m2, L1, L2, h, hT⟩ hs hq => pmake_is w p A n k m1 m2 L1 L2 S q x h hs hq
 see := fun w p T S A2 c n2 k2 ⟨A, n, k, m1, m2, L1, L2, h, hT⟩ hs hc hf => (psee_is w p A n k m1 m2 L1 L2 S A2 c n2 k2 h hs hc (few_wide hc.fit hf)).mono fun e w' ⟨h1, h2⟩ => ⟨h1, went_of h hT h2⟩
 prune := fun w p T S A2 c n2 k2 ⟨A, n, k, m1, m2, L1, L2, h, hT⟩ hs hc hf => (pprune_is w p A n k m1 m2 L1 L2 S A2 c n2 k2 h hs hc hf).mono fun e w' ⟨h1, h2⟩ => ⟨h1, went_of h hT h2⟩
 ctx := fun w p T S ⟨A, n, k, m1, m2, L1, L2, h, hT⟩ hs => pctx_is w p A n k m1 m2 L1 L2 S h hs
 all := fun w p T S ⟨A, n, k, m1, m2, L1, L2, h, hT⟩ hs => (pall_is w p A n k m1 m2 L1 L2 S h hs).mono fun _ _ hp => owns_far hp
 live := fun w p T S ⟨A, n, k, m1, m2, L1, L2, h, hT⟩ hs => (plive_is w p A n k m1 m2 L1 L2 S h hs).mono fun _ _ hp => owns_evt hp
 tombs := fun w p T S ⟨A, n, k, m1, m2, L1, L2, h, hT⟩ hs => (ptombs_is w p A n k m1 m2 L1 L2 S h hs).mono fun _ _ hp => owns_evt hp
 of := fun w p T S cid ⟨A, n, k, m1, m2, L1, L2, h, hT⟩ hs _ => (pof_is w p A n k m1 m2 L1 L2 S cid h hs).mono fun _ _ hp => owns_evt hp
 copy := fun w p T S ⟨A, n, k, m1, m2, L1, L2, h, hT⟩ _ => (pcopy_is w p A n k m1 m2 L1 L2 S h).mono fun e w' ⟨p', m3, m4, h1, h2, h3, h4⟩ => ⟨p', h1, fresh_of h2 h3 h4⟩
 same := fun w p T S p2 T2 S2 ⟨A, n, k, m1, m2, L1, L2, h, hT⟩ ⟨A3, n3, k3, m3, m4, L3, L4, h2, hT2⟩ hs hs2 => psame_is w p A n k m1 m2 L1 L2 S p2 A3 n3 k3 m3 m4 L3 L4 S2 h h2 hs hs2
end Go.Proofs.YtgaegfddobpomaaGreat.Bk
