/- Words and contracts that the proofs of this seat stand on, part 14 of 30. -/
import Derived.Test.YtgaegfddobpomaaGreatPlM
import Derived.Test.YtgaegfddobpomaaGreatPlL
import Derived.Test.YtgaegfddobpomaaGreatPlI
import Derived.Test.YtgaegfddobpomaaGreatPlK
import Derived.Test.YtgaegfddobpomaaGreatPlC

namespace Go.Proofs.YtgaegfddobpomaaGreat.Bk
open Go.ChangeShapes Go.WideShapes Go.ChangeAt Go.RowKit Go.Proofs.YtgaegfddobpomaaGreat.Kl
set_option linter.unusedVariables false
set_option maxRecDepth 4000
structure Mid (R : Lay) (w : World) (g k : Nat) (wx : World) (p : Nat) (T : Nat → Prop) (S : Bt) (A1 : Option Addr) (n1 c1 : Nat) (A2 : Option Addr) (n2 c2 : Nat) : Prop where
 lay : R wx p T S
 own : ∀ k, T k → w.heap.size ≤ k
 box : ¬ T g
 at_ : At wx g 31 #[.slice A1 n1 c1, .slice A2 n2 c2]
 ctx : Cx.CtxAt wx A1 S.1 n1 c1
 evts : Ev.EventsAt wx wx.heap.size A2 S.2 n2 c2
 bd : Bd k S
 below : Below w.heap.size w wx
theorem Mid.up {R : Lay} (P : PBk R) {w : World} {g k : Nat} {wx W : World} {p : Nat} {T : Nat → Prop} {S : Bt} {A1 A2 : Option Addr} {n1 c1 n2 c2 : Nat} (h : Mid R w g k wx p T S A1 n1 c1 A2 n2 c2) (hb : Below wx.heap.size wx W) : Mid R w g k W p T S A1 n1 c1 A2 n2 c2 :=
 ⟨P.up h.lay hb, h.own, h.box, h.at_.below hb h.at_.lt, h.ctx.up hb, h.evts.up hb, h.bd, h.below.trans (hb.mono h.below.size)⟩
theorem Mid.store {R : Lay} (P : PBk R) {w : World} {g k m : Nat} {wx W : World} {p : Nat} {T : Nat → Prop} {S S' : Bt} {A1 A2 B1 B2 : Option Addr} {n1 c1 n2 c2 m1 d1 m2 d2 : Nat} (h : Mid R w g k wx p T S A1 n1 c1 A2 n2 c2) (hg : w.heap.size ≤ g)
   (hw : Went R wx p T S' W) (hc : Cx.CtxAt wx B1 S'.1 m1 d1) (hl : Ev.EventsAt wx wx.heap.size B2 S'.2 m2 d2) (hb : Bd m S') :
   ∃ T', Mid R w g m ((W.setCell ⟨g, 0, none⟩ (.slice B1 m1 d1)).setCell ⟨g, 1, none⟩ (.slice B2 m2 d2)) p T' S' B1 m1 d1 B2 m2 d2 := by
 obtain ⟨T', hr, ht, K⟩ := hw.kept
 have ha := K.at_ _ _ _ h.at_ h.box
 obtain ⟨ho, hn, hat⟩ := two_off ha B1 B2 m1 d1 m2 d2
 have hbox : ¬ T' g := fun h2 => (ht _ h2).elim h.box (fun h3 => by have := h.at_.lt; omega)
 refine ⟨T', P.off _ _ _ _ _ _ hr ho hn (fun k hk e => hbox (e ▸ hk)), fun k hk => (ht _ hk).elim (h.own k) (fun h2 => Nat.le_trans h.below.size h2), hbox, hat, ctx_off hn ho (K.ctx _ _ _ _ hc), evts_off hn ho (K.evts _ _ _ _ hl), hb, ?_⟩
 exact Off.below (K.below w h.below h.own) ho (K.below w h.below h.own).size (fun k hk => by rw [hk]; exact hg)
theorem Mid.went {R : Lay} (P : PBk R) {w : World} {g k : Nat} {wx W : World} {p : Nat} {T : Nat → Prop} {S S' : Bt} {A1 A2 : Option Addr} {n1 c1 n2 c2 : Nat} (h : Mid R w g k wx p T S A1 n1 c1 A2 n2 c2) (hw : Went R wx p T S' W) :
   ∃ T', R W p T' S' ∧ (∀ k, T' k → w.heap.size ≤ k) ∧ ¬ T' g ∧ At W g 31 #[.slice A1 n1 c1, .slice A2 n2 c2] ∧ Below w.heap.size w W ∧ (∀ k, T' k → T k ∨ wx.heap.size ≤ k) ∧ Kept wx W T := by
 obtain ⟨T', hr, ht, K⟩ := hw.kept
 exact ⟨T', hr, fun k hk => (ht _ hk).elim (h.own k) (fun h2 => Nat.le_trans h.below.size h2), fun h2 => (ht _ h2).elim h.box (fun h3 => by have := h.at_.lt; omega), K.at_ _ _ _ h.at_ h.box, K.below w h.below h.own, ht, K⟩
theorem mid_fill {R : Lay} (P : PBk R) {w W : World} {g m p : Nat} {T : Nat → Prop} {S : Bt} {A1 A2 B1 B2 : Option Addr} {n1 c1 n2 c2 m1 d1 m2 d2 : Nat} (hr : R W p T S) (ho : ∀ k, T k → w.heap.size ≤ k) (hn : ¬ T g) (ha : At W g 31 #[.slice A1 n1 c1, .slice A2 n2 c2]) (hb : Below w.heap.size w W) (hg : w.heap.size ≤ g)
   (hc : Cx.CtxAt W B1 S.1 m1 d1) (hl : Ev.EventsAt W W.heap.size B2 S.2 m2 d2) (hd : Bd m S) :
   Mid R w g m ((W.setCell ⟨g, 0, none⟩ (.slice B1 m1 d1)).setCell ⟨g, 1, none⟩ (.slice B2 m2 d2)) p T S B1 m1 d1 B2 m2 d2 := by
 obtain ⟨hf, hnn, hat⟩ := two_off ha B1 B2 m1 d1 m2 d2
 exact ⟨P.off _ _ _ _ _ _ hr hf hnn (fun k hk e => hn (e ▸ hk)), ho, hn, hat, ctx_off hnn hf hc, evts_off hnn hf hl, hd, Off.below hb hf hb.size (fun k hk => by rw [hk]; exact hg)⟩
theorem Went.other {R : Lay} (P : PBk R) {w W : World} {p p2 : Nat} {T T2 : Nat → Prop} {S S2 : Bt} (h : Went R w p T S W) (h2 : R w p2 T2 S2) (hd : ∀ k, T2 k → ¬ T k) : ∃ T', R W p T' S ∧ R W p2 T2 S2 ∧ (∀ k, T2 k → ¬ T' k) ∧ (∀ k, T' k → T k ∨ w.heap.size ≤ k) ∧ Kept w W T := by
 obtain ⟨_, _, _, K⟩ := h.kept
 obtain ⟨T', F, h3, h4, h5, h6, h7⟩ := h
 refine ⟨T', h3, P.off _ _ _ _ _ _ h2 h7 h6 (fun k hk hf => hd k hk (h5 k hf)), fun k hk ht => (h4 k ht).elim (hd k hk) (fun h8 => ?_), h4, K⟩
 have := (P.dom _ _ _ _ h2).2 k hk
 omega
theorem nine_cells {V : World} {g : Nat} {T : TypeId} {p : AV} (h : At V g T #[.int .u8 (p.kind : Int), .int .u16 (p.ev.dev : Int), .int .u64 (p.ev.num : Int), .int .u8 (p.ev.kind : Int), .int .u64 (p.ev.cid : Int), .int .u8 (p.ev.fld : Int), .string p.ev.txt, .slice p.ev.adr p.ev.len p.ev.cap, .slice p.adr p.len p.cap]) : V.cell? ⟨g, 0, none⟩ = some (.int .u8 (p.kind : Int)) ∧ V.cell? ⟨g, 1, none⟩ = some (.int .u16 (p.ev.dev : Int)) ∧ V.cell? ⟨g, 2, none⟩ = some (.int .u64 (p.ev.num : Int)) ∧ V.cell? ⟨g, 3, none⟩ = some (.int .u8 (p.ev.kind : Int)) ∧ V.cell? ⟨g, 4, none⟩ = some (.int .u64 (p.ev.cid : Int)) ∧ V.cell? ⟨g, 5, none⟩ = some (.int .u8 (p.ev.fld : Int)) ∧ V.cell? ⟨g, 6, none⟩ = some (.string p.ev.txt) ∧ V.cell? ⟨g, 7, none⟩ = some (.slice p.ev.adr p.ev.len p.ev.cap) ∧ V.cell? ⟨g, 8, none⟩ = some (.slice p.adr p.len p.cap) :=
 ⟨h.cell 0, h.cell 1, h.cell 2, h.cell 3, h.cell 4, h.cell 5, h.cell 6, h.cell 7, h.cell 8⟩
set_option maxHeartbeats 32000000 in
theorem plays_walk {R : Lay} (P : PBk R) (w : World) (A0 : Option Addr) (l : List Ac) (n c0 : Nat) (hl : ActsAt w A0 l n c0) :
   Calls Tryz.prog 3 #[.slice A0 n c0] w fun e w' => e = .returned (.bool true) ∧ Below w.heap.size w w' := by
 have HL := Lib.hid hl
 have h63 : n ≤ 9223372036854775807 := Nat.le_trans hl.cap hl.max
 have CF := rfewa_any w A0 l n c0 25 (by decide) hl
 clear hl
 go_enter Tryz.func3, Tryz.ntmps3
 cases hf : fewA l 25 with
 | false =>
   rw [hf] at CF
   clear hf
   go_wp2_with fail
   refine CF.mono ?_
   rintro r w1 ⟨rfl, b1⟩
   go_wp2_with fail
   refine (works_any P w1).mono ?_
   rintro r w2 ⟨rfl, b2⟩
   have HV := Lib.hid (b1.trans (b2.mono b1.size))
   clear b1 b2
   go_wp2
   go_ret
   exact ⟨rfl, HV.out⟩
 | true =>
   rw [hf] at CF
   have HF := Lib.hid (fewA_all hf)
   have hn : n ≤ 25 := by have h1 := HF.out.1; rw [HL.out.len] at h1; exact h1
   clear hf
   go_wp2_with fail
   refine CF.mono ?_
   rintro r w1 ⟨rfl, b1⟩
   have HB1 := Lib.hid b1
   clear b1 CF
   go_wp2_with fail
   refine (P.new w1).mono ?_
   rintro r wn ⟨p0, rfl, T0, hr, ht, hb⟩
   have hbx := Ev.below_new wn (bbox none none 0 0 0 0)
   have HG : Hid (w.heap.size ≤ wn.heap.size) := Lib.hid (Nat.le_trans HB1.out.size hb.size)
   have HM : Hid (Mid R w wn.heap.size 0 (wn.alloc (bbox none none 0 0 0 0)) p0 T0 ([], []) none 0 0 none 0 0) := Lib.hid ⟨P.up hr hbx, fun k hk => Nat.le_trans HB1.out.size (ht k hk), fun h => by have := (P.dom _ _ _ _ hr).2 _ h; omega, At.new _ _ _, Cx.CtxAt.none_ _, Ev.EventsAt.none_ _ _, bd_nil, HB1.out.trans ((hb.trans (hbx.mono hb.size)).mono HB1.out.size)⟩
   clear hr ht hb hbx HB1
   simp only [bbox] at HM
   go_wp2
   generalize wn.alloc (.cells #[.slice none 0 0, .slice none 0 0] 31) = w2 at *
   go_loopw [3, 5] (fun v i wr => ∃ (k p : Nat) (T : Nat → Prop) (S : Bt) (A1 : Option Addr) (n1 c1 : Nat) (A2 : Option Addr) (n2 c2 : Nat), k ≤ n ∧ i = .int .i64 (k : Int) ∧ v = .pointer (some ⟨p, 0, none⟩) ∧ Mid R w wn.heap.size k wr p T S A1 n1 c1 A2 n2 c2) (fun _ i _ => n - (intOf i).toNat)
   case atStart => exact ⟨0, p0, T0, ([], []), none, 0, 0, none, 0, 0, Nat.zero_le _, rfl, rfl, HM.out⟩
   case round =>
     obtain ⟨k, b, T, S, A1, n1, c1, A2, n2, c2, hk, rfl, rfl, hm⟩ := hrel
     clear HM
     by_cases hlt : k < n
     · obtain ⟨ad, p, x, rfl, hB, hlx, hp, cp⟩ := (HL.out.up hm.below).at_ hlt
       have hbx := Ev.below_new wr (.cells #[.int .u8 (p.kind : Int), .int .u16 (p.ev.dev : Int), .int .u64 (p.ev.num : Int), .int .u8 (p.ev.kind : Int), .int .u64 (p.ev.cid : Int), .int .u8 (p.ev.fld : Int), .string p.ev.txt, .slice p.ev.adr p.ev.len p.ev.cap, .slice p.adr p.len p.cap] 40)
       have HM := Lib.hid (hm.up P hbx)
       have HP := Lib.hid (hp.up hbx)
       have AA := Lib.hid (At.new wr 40 #[.int .u8 (p.kind : Int), .int .u16 (p.ev.dev : Int), .int .u64 (p.ev.num : Int), .int .u8 (p.ev.kind : Int), .int .u64 (p.ev.cid : Int), .int .u8 (p.ev.fld : Int), .string p.ev.txt, .slice p.ev.adr p.ev.len p.ev.cap, .slice p.adr p.len p.cap])
       have HFX := Lib.hid (HF.out.2 x (List.mem_of_getElem? hlx))
       have HNA : Hid (¬ T wr.heap.size) := Lib.hid (fun h => by have := (P.dom _ _ _ _ hm.lay).2 _ h; omega)
       have HGA : Hid (wn.heap.size < wr.heap.size) := Lib.hid hm.at_.lt
       obtain ⟨x0, x1, x2, x3, x4, x5, x6, x7, x8⟩ := cp
       clear hlx hp hbx hm
       go_upto_region 9 with fail
       generalize wr.alloc (.cells #[.int .u8 (p.kind : Int), .int .u16 (p.ev.dev : Int), .int .u64 (p.ev.num : Int), .int .u8 (p.ev.kind : Int), .int .u64 (p.ev.cid : Int), .int .u8 (p.ev.fld : Int), .string p.ev.txt, .slice p.ev.adr p.ev.len p.ev.cap, .slice p.adr p.len p.cap] 40) = w3 at *
       clear x0 x1 x2 x3 x4 x5 x6 x7 x8
       obtain ⟨x0, x1, x2, x3, x4, x5, x6, x7, x8⟩ := nine_cells AA.out
       by_cases hk0 : p.kind = 0
       · have hkd := hk0
         have kq0 : ((p.kind : Int) == 0) = true := by rw [hkd]; rfl
         clear hkd hk0
         obtain ⟨sc, sl⟩ := S
         have CPX := rputb_any w3 A1 A2 sc sl n1 c1 n2 c2 p.ev x.e HM.out.ctx HM.out.evts HP.out.evt (HM.out.bd.lim (by omega)).ctx (by rw [← HM.out.evts.len]; exact (HM.out.bd.lim (by omega)).few)
         have y0 := HM.out.at_.cell 0
         have y1 := HM.out.at_.cell 1
         simp at y0 y1
         go_wp2_with fail
         refine CPX.mono ?_
         rintro r w4 ⟨E1, e1, f1, E2, e2, f2, rfl, hc4, hl4, b4⟩
         have hbx := Ev.below_new w4 (bbox E1 E2 e1 f1 e2 f2)
         have hb5 := b4.trans (hbx.mono b4.size)
         have HM5 := Lib.hid (HM.out.up P hb5)
         have HP5 := Lib.hid (HP.out.up hb5)
         have AA5 := Lib.hid (AA.out.below hb5 AA.out.lt)
         have A8 := Lib.hid (At.new w4 31 #[.slice E1 e1 f1, .slice E2 e2 f2])
         have HC5 := Lib.hid (hc4.up hbx)
         have HL5 := Lib.hid (hl4.up hbx)
         have HN8 : Hid (¬ T w4.heap.size) := Lib.hid (fun h => by have h1 := (P.dom _ _ _ _ HM.out.lay).2 _ h; have h2 := b4.size; omega)
         have hs48 := b4.size
         simp only [bbox] at HM5 HP5 AA5 HC5 HL5
         clear hc4 hl4 b4 hbx hb5 CPX HM HP AA x0 x1 x2 x3 x4 x5 x6 x7 x8 y0 y1
         go_upto_region 14 with fail
         generalize w4.alloc (.cells #[.slice E1 e1 f1, .slice E2 e2 f2] 31) = w5 at *
         obtain ⟨x0, x1, x2, x3, x4, x5, x6, x7, x8⟩ := nine_cells AA5.out
         have CPP := P.put w5 b T (sc, sl) p.ev x.e HM5.out.lay (HM5.out.bd.lim (by omega)) HP5.out.evt
         have HBD := Lib.hid (bd_put HM5.out.bd HP5.out.evt)
         obtain ⟨S9, hS9⟩ : ∃ S, putB (sc, sl) x.e = S := ⟨_, rfl⟩
         rw [hS9] at CPP HBD HC5 HL5
         rw [hS9]
         obtain ⟨SS, cd⟩ := S9
         simp only at CPP HBD HC5 HL5
         clear hS9
         go_wp2_with fail
         refine CPP.mono ?_
         rintro r w6 ⟨rfl, hwent⟩
         obtain ⟨TT, hst⟩ := HM5.out.store P HG.out hwent HC5.out HL5.out HBD.out
         obtain ⟨T', hr6, ht6, K⟩ := hwent.kept
         have AA6 := K.at_ _ _ _ AA5.out HNA.out
         have A86 := K.at_ _ _ _ A8.out HN8.out
         have AG6 := K.at_ _ _ _ HM5.out.at_ HM5.out.box
         have HX := Lib.hid hst
         have HP := Lib.hid (⟨HP5.out.kind, HP5.out.fit, K.evt _ _ HP5.out.evt, K.ctx _ _ _ _ HP5.out.ctx⟩ : ActIs w6 p x)
         have HP6 := HP
         have AX := Lib.hid ((AA6.other (h := wn.heap.size) (i := 0) (by have := HGA.out; omega) (.slice E1 e1 f1)).other (h := wn.heap.size) (i := 1) (by have := HGA.out; omega) (.slice E2 e2 f2))
         have y0 := A86.cell 0
         have y1 := A86.cell 1
         have y2 := AG6.cell 0
         have y3 := AG6.frozen 0
         have y4 := (AG6.set 0 (.slice E1 e1 f1)).cell 1
         have y5 := (AG6.set 0 (.slice E1 e1 f1)).frozen 1
         simp at y0 y1 y2 y4
         clear hst hr6 ht6 K AA6 A86 AG6 hwent CPP HBD HC5 HL5 A8 AA5 HM5 HP5 x0 x1 x2 x3 x4 x5 x6 x7 x8
         clear hk
         go_upto_region 35 with fail
         generalize (w6.setCell ⟨wn.heap.size, 0, none⟩ (.slice E1 e1 f1)).setCell ⟨wn.heap.size, 1, none⟩ (.slice E2 e2 f2) = w7 at *
         clear y0 y1 y2 y3 y4 y5
         have HXC : Hid (∀ V, Below w7.heap.size w7 V → V.cell? ⟨wn.heap.size, 0, none⟩ = some (.slice E1 e1 f1) ∧ V.cell? ⟨wn.heap.size, 1, none⟩ = some (.slice E2 e2 f2) ∧ V.cell? ⟨wr.heap.size, 4, none⟩ = some (.int .u64 (p.ev.cid : Int))) := Lib.hid (fun V hV => by
           have h1 := HX.out.at_.below hV HX.out.at_.lt
           have h2 := AX.out.below hV AX.out.lt
           exact ⟨h1.cell 0, h1.cell 1, h2.cell 4⟩)
         have hlim := HX.out.bd.lim (by omega)
         have CI := fun V (hV : Below w7.heap.size w7 V) => is_any P V b TT SS E1 E2 e1 f1 e2 f2 (P.up HX.out.lay hV) hlim (HX.out.ctx.up hV) (HX.out.evts.up hV)
         have CO := fun V (hV : Below w7.heap.size w7 V) => P.of V b TT SS p.ev.cid (P.up HX.out.lay hV) hlim (by rw [HP.out.evt.cid]; exact HP.out.evt.fits.cid)
         have CR := fun V (hV : Below w7.heap.size w7 V) => rbof_any V E1 E2 SS.2 e1 f1 e2 f2 p.ev.cid (HX.out.evts.up hV) (Nat.le_trans (Nat.le_of_eq HX.out.evts.len.symm) (Nat.le_trans hlim.few (by decide)))
         have HXX := Lib.hid HX.out.below
         have HREL := HX
         clear HX AX hlim
         obtain ⟨z0, z1, z2⟩ := HXC.out w7 (Below.refl _ _)
         go_region_held3 (fun V => V.cell? ⟨wn.heap.size, 0, none⟩ = some (.slice E1 e1 f1) ∧ V.cell? ⟨wn.heap.size, 1, none⟩ = some (.slice E2 e2 f2) ∧ V.cell? ⟨wr.heap.size, 4, none⟩ = some (.int .u64 (p.ev.cid : Int))) (first | exact ⟨z0, z1, z2⟩ | assumption | exact HXC.out _ (by (repeat (first | exact Below.refl _ _ | assumption | apply Ev.bel_drew)))) (first
           | (go_at_call 21; (with_reducible refine (CI _ ?_).mono ?_); (focus (repeat (first | exact Below.refl _ _ | assumption | apply Ev.bel_drew | apply Ev.bel_alloc))); rintro r Va ⟨rfl, b1⟩; have bva : Below w7.heap.size w7 Va := bel_step (by (repeat (first | exact Below.refl _ _ | apply Ev.bel_drew))) b1; have hca := HXC.out Va bva)
           | (go_at_call 23; (with_reducible refine (CO _ bva).mono ?_); rintro r Vb ⟨Ab, nb, cb, rfl, hb, b1⟩; have bvb := bel_step bva b1; have hcb := HXC.out Vb bvb)
           | (go_at_call 24; (with_reducible refine (CR _ bvb).mono ?_); rintro r Vc ⟨Ac, nc, cc, rfl, hc, b1⟩; have bvc := bel_step bvb b1; have hb2 := hb.up b1; have hcc := HXC.out Vc bvc)
           | (go_at_call 22; (with_reducible refine (all_up bvc hb2 hc).mono ?_); rintro r Vd ⟨rfl, bvd⟩; have hcd := HXC.out Vd bvd))
         all_goals
           have HE := Lib.hid (HREL.out.up P bvd)
           clear HXC CI CO CR z0 z1 z2 hca hcb hcc hcd bva bvb bvc bvd hb hb2 hc HREL HXX
           go_wp2
           go_roundw
           case rel => exact ⟨k + 1, b, TT, SS, E1, e1, f1, E2, e2, f2, by omega, by go_num, rfl, HE.out⟩
           case measure => simp [intOf]; omega
       ·
         by_cases hk1 : p.kind = 1
         · have hkd := hk1
           have kq0 : ((p.kind : Int) == 0) = false := by rw [beq_eq_false_iff_ne]; omega
           have kq1 : ((p.kind : Int) == 1) = true := by rw [hkd]; rfl
           clear hkd hk0 hk1
           obtain ⟨sc, sl⟩ := S
           have hlm := HM.out.bd.lim (by omega)
           have CS := P.make w3 b T (sc, sl) p.ev x.e HM.out.lay hlm HP.out.evt
           obtain ⟨M, hM⟩ : ∃ M, makeB (sc, sl) x.e = M := ⟨_, rfl⟩
           rw [hM] at CS
           have HMM := Lib.hid hM
           obtain ⟨M, fc⟩ := M
           clear hM
           go_wp2_with fail
           refine CS.mono ?_
           rintro r w4 ⟨q, rfl, hq4, b4⟩
           simp only at hq4
           have hbx := Ev.below_new w4 (.cells (ebox q) 38)
           have hb5 := b4.trans (hbx.mono b4.size)
           have HM5 := Lib.hid (HM.out.up P hb5)
           have HP5 := Lib.hid (HP.out.up hb5)
           have AA5 := Lib.hid (AA.out.below hb5 AA.out.lt)
           have AQ5 := Lib.hid (At.new w4 38 (ebox q))
           have HQ5 := Lib.hid (hq4.up hbx)
           have HNQ : Hid (¬ T w4.heap.size) := Lib.hid (fun h => by have h1 := (P.dom _ _ _ _ HM.out.lay).2 _ h; have h2 := b4.size; omega)
           have HGQ : Hid (wn.heap.size < w4.heap.size) := Lib.hid (Nat.lt_of_lt_of_le HM.out.at_.lt b4.size)
           simp only [ebox] at HM5 HP5 AA5 AQ5 HQ5
           clear CS hq4 b4 hbx hb5 HM HP AA x0 x1 x2 x3 x4 x5 x6 x7 x8
           go_upto_region 18 with fail
           generalize w4.alloc (.cells #[.int .u16 (q.dev : Int), .int .u64 (q.num : Int), .int .u8 (q.kind : Int), .int .u64 (q.cid : Int), .int .u8 (q.fld : Int), .string q.txt, .slice q.adr q.len q.cap] 38) = w5 at *
           obtain ⟨x0, x1, x2, x3, x4, x5, x6, x7, x8⟩ := nine_cells AA5.out
           have y0 := HM5.out.at_.cell 0
           have y1 := HM5.out.at_.cell 1
           simp at y0 y1
           have hn2 : n2 ≤ 64 := by rw [← HM5.out.evts.len]; exact hlm.few
           have CS := rmake_any w5 A1 A2 sc sl n1 c1 n2 c2 p.ev x.e HM5.out.ctx HM5.out.evts HP5.out.evt hlm.ctx hn2 hlm.kills
           rw [HMM.out] at CS
           go_wp2_with fail
           refine CS.mono ?_
           rintro r w6 ⟨z, rfl, hz6, b6⟩
           simp only at hz6
           have hbx := Ev.below_new w6 (.cells (ebox z) 38)
           have hb7 := b6.trans (hbx.mono b6.size)
           have HM7 := Lib.hid (HM5.out.up P hb7)
           have HP7 := Lib.hid (HP5.out.up hb7)
           have AA7 := Lib.hid (AA5.out.below hb7 AA5.out.lt)
           have AQ7 := Lib.hid (AQ5.out.below hb7 AQ5.out.lt)
           have HQ7 := Lib.hid (HQ5.out.up hb7)
           have AZ7 := Lib.hid (At.new w6 38 (ebox z))
           have HZ7 := Lib.hid (hz6.up hbx)
           have HNZ : Hid (¬ T w6.heap.size) := Lib.hid (fun h => by have h1 := (P.dom _ _ _ _ HM5.out.lay).2 _ h; have h2 := b6.size; omega)
           simp only [ebox] at HM7 HP7 AA7 AQ7 HQ7 AZ7 HZ7
           clear CS hz6 b6 hbx hb7 HM5 HP5 AA5 AQ5 HQ5 x0 x1 x2 x3 x4 x5 x6 x7 x8 y0 y1
           go_upto_region 19 with fail
           generalize w6.alloc (.cells #[.int .u16 (z.dev : Int), .int .u64 (z.num : Int), .int .u8 (z.kind : Int), .int .u64 (z.cid : Int), .int .u8 (z.fld : Int), .string z.txt, .slice z.adr z.len z.cap] 38) = w7 at *
           obtain ⟨z0, z1, z2, z3, z4, z5, z6⟩ := ev_cells AZ7.out
           have y0 := HM7.out.at_.cell 0
           have y1 := HM7.out.at_.cell 1
           simp at y0 y1
           have CS := rputb_any w7 A1 A2 sc sl n1 c1 n2 c2 z M HM7.out.ctx HM7.out.evts HZ7.out hlm.ctx hn2
           obtain ⟨S9, hS9⟩ : ∃ S, putB (sc, sl) M = S := ⟨_, rfl⟩
           rw [hS9] at CS
           have HBD := Lib.hid (bd_put HM7.out.bd HZ7.out)
           rw [hS9] at HBD
           have HS9 := Lib.hid hS9
           obtain ⟨SS, cd⟩ := S9
           simp only at HBD
           clear hS9
           go_wp2_with fail
           refine CS.mono ?_
           rintro r w8 ⟨E1, e1, f1, E2, e2, f2, rfl, hc8, hl8, b8⟩
           simp only at hc8 hl8
           have hbx := Ev.below_new w8 (bbox E1 E2 e1 f1 e2 f2)
           have hb9 := b8.trans (hbx.mono b8.size)
           have HM9 := Lib.hid (HM7.out.up P hb9)
           have HP9 := Lib.hid (HP7.out.up hb9)
           have AA9 := Lib.hid (AA7.out.below hb9 AA7.out.lt)
           have AQ9 := Lib.hid (AQ7.out.below hb9 AQ7.out.lt)
           have AZ9 := Lib.hid (AZ7.out.below hb9 AZ7.out.lt)
           have HQ9 := Lib.hid (HQ7.out.up hb9)
           have HZ9 := Lib.hid (HZ7.out.up hb9)
           have A8 := Lib.hid (At.new w8 31 #[.slice E1 e1 f1, .slice E2 e2 f2])
           have HC9 := Lib.hid (hc8.up hbx)
           have HL9 := Lib.hid (hl8.up hbx)
           have HN8 : Hid (¬ T w8.heap.size) := Lib.hid (fun h => by have h1 := (P.dom _ _ _ _ HM7.out.lay).2 _ h; have h2 := b8.size; omega)
           simp only [bbox] at HM9 HP9 AA9 AQ9 AZ9 HQ9 HZ9 HC9 HL9
           clear CS hc8 hl8 b8 hbx hb9 HM7 HP7 AA7 AQ7 AZ7 HQ7 HZ7 z0 z1 z2 z3 z4 z5 z6 y0 y1
           go_upto_region 20 with fail
           generalize w8.alloc (.cells #[.slice E1 e1 f1, .slice E2 e2 f2] 31) = w9 at *
           obtain ⟨z0, z1, z2, z3, z4, z5, z6⟩ := ev_cells AZ9.out
           obtain ⟨q0, q1, q2, q3, q4, q5, q6⟩ := ev_cells AQ9.out
           have CS := Ev.rsame_any w9 q z M M HQ9.out HZ9.out
           rw [decide_eq_true rfl] at CS
           go_wp2_with fail
           refine CS.mono ?_
           rintro r w10 ⟨rfl, b10⟩
           have HM10 := Lib.hid (HM9.out.up P b10)
           have HP10 := Lib.hid (HP9.out.up b10)
           have AA10 := Lib.hid (AA9.out.below b10 AA9.out.lt)
           have AQ10 := Lib.hid (AQ9.out.below b10 AQ9.out.lt)
           have HQ10 := Lib.hid (HQ9.out.up b10)
           have A810 := Lib.hid (A8.out.below b10 A8.out.lt)
           have HC10 := Lib.hid (HC9.out.up b10)
           have HL10 := Lib.hid (HL9.out.up b10)
           clear CS b10 HM9 HP9 AA9 AQ9 AZ9 HQ9 HZ9 A8 HC9 HL9 z0 z1 z2 z3 z4 z5 z6 q0 q1 q2 q3 q4 q5 q6
           obtain ⟨q0, q1, q2, q3, q4, q5, q6⟩ := ev_cells AQ10.out
           have CPP := P.put w10 b T (sc, sl) q M HM10.out.lay hlm HQ10.out
           rw [HS9.out] at CPP
           go_wp2_with fail
           refine CPP.mono ?_
           rintro r w11 ⟨rfl, hwent⟩
           obtain ⟨TT, hst⟩ := HM10.out.store P HG.out hwent HC10.out HL10.out HBD.out
           obtain ⟨T', hr6, ht6, K⟩ := hwent.kept
           have AA6 := K.at_ _ _ _ AA10.out HNA.out
           have A86 := K.at_ _ _ _ A810.out HN8.out
           have AG6 := K.at_ _ _ _ HM10.out.at_ HM10.out.box
           have HX := Lib.hid hst
           have HP := Lib.hid (⟨HP10.out.kind, HP10.out.fit, K.evt _ _ HP10.out.evt, K.ctx _ _ _ _ HP10.out.ctx⟩ : ActIs w11 p x)
           have AX := Lib.hid ((AA6.other (h := wn.heap.size) (i := 0) (by have := HGA.out; omega) (.slice E1 e1 f1)).other (h := wn.heap.size) (i := 1) (by have := HGA.out; omega) (.slice E2 e2 f2))
           have y0 := A86.cell 0
           have y1 := A86.cell 1
           have y2 := AG6.cell 0
           have y3 := AG6.frozen 0
           have y4 := (AG6.set 0 (.slice E1 e1 f1)).cell 1
           have y5 := (AG6.set 0 (.slice E1 e1 f1)).frozen 1
           simp at y0 y1 y2 y4
           clear hst hr6 ht6 K AA6 A86 AG6 hwent CPP HBD HC10 HL10 A810 AA10 HM10 HP10 AQ10 HQ10 q0 q1 q2 q3 q4 q5 q6 hk hlm HMM HS9
           go_upto_region 35 with fail
           generalize (w11.setCell ⟨wn.heap.size, 0, none⟩ (.slice E1 e1 f1)).setCell ⟨wn.heap.size, 1, none⟩ (.slice E2 e2 f2) = w12 at *
           clear y0 y1 y2 y3 y4 y5
           have HXC : Hid (∀ V, Below w12.heap.size w12 V → V.cell? ⟨wn.heap.size, 0, none⟩ = some (.slice E1 e1 f1) ∧ V.cell? ⟨wn.heap.size, 1, none⟩ = some (.slice E2 e2 f2) ∧ V.cell? ⟨wr.heap.size, 4, none⟩ = some (.int .u64 (p.ev.cid : Int))) := Lib.hid (fun V hV => by
             have h1 := HX.out.at_.below hV HX.out.at_.lt
             have h2 := AX.out.below hV AX.out.lt
             exact ⟨h1.cell 0, h1.cell 1, h2.cell 4⟩)
           have hlim := HX.out.bd.lim (by omega)
           have CI := fun V (hV : Below w12.heap.size w12 V) => is_any P V b TT SS E1 E2 e1 f1 e2 f2 (P.up HX.out.lay hV) hlim (HX.out.ctx.up hV) (HX.out.evts.up hV)
           have CO := fun V (hV : Below w12.heap.size w12 V) => P.of V b TT SS p.ev.cid (P.up HX.out.lay hV) hlim (by rw [HP.out.evt.cid]; exact HP.out.evt.fits.cid)
           have CR := fun V (hV : Below w12.heap.size w12 V) => rbof_any V E1 E2 SS.2 e1 f1 e2 f2 p.ev.cid (HX.out.evts.up hV) (Nat.le_trans (Nat.le_of_eq HX.out.evts.len.symm) (Nat.le_trans hlim.few (by decide)))
           have HXX := Lib.hid HX.out.below
           have HREL := HX
           clear HX AX hlim
           obtain ⟨z0, z1, z2⟩ := HXC.out w12 (Below.refl _ _)
           go_region_held3 (fun V => V.cell? ⟨wn.heap.size, 0, none⟩ = some (.slice E1 e1 f1) ∧ V.cell? ⟨wn.heap.size, 1, none⟩ = some (.slice E2 e2 f2) ∧ V.cell? ⟨wr.heap.size, 4, none⟩ = some (.int .u64 (p.ev.cid : Int))) (first | exact ⟨z0, z1, z2⟩ | assumption | exact HXC.out _ (by (repeat (first | exact Below.refl _ _ | assumption | apply Ev.bel_drew)))) (first
             | (go_at_call 21; (with_reducible refine (CI _ ?_).mono ?_); (focus (repeat (first | exact Below.refl _ _ | assumption | apply Ev.bel_drew | apply Ev.bel_alloc))); rintro r Va ⟨rfl, b1⟩; have bva : Below w12.heap.size w12 Va := bel_step (by (repeat (first | exact Below.refl _ _ | apply Ev.bel_drew))) b1; have hca := HXC.out Va bva)
             | (go_at_call 23; (with_reducible refine (CO _ bva).mono ?_); rintro r Vb ⟨Ab, nb, cb, rfl, hb, b1⟩; have bvb := bel_step bva b1; have hcb := HXC.out Vb bvb)
             | (go_at_call 24; (with_reducible refine (CR _ bvb).mono ?_); rintro r Vc ⟨Ac, nc, cc, rfl, hc, b1⟩; have bvc := bel_step bvb b1; have hb2 := hb.up b1; have hcc := HXC.out Vc bvc)
             | (go_at_call 22; (with_reducible refine (all_up bvc hb2 hc).mono ?_); rintro r Vd ⟨rfl, bvd⟩; have hcd := HXC.out Vd bvd))
           all_goals
             have HE := Lib.hid (HREL.out.up P bvd)
             clear HXC CI CO CR z0 z1 z2 hca hcb hcc hcd bva bvb bvc bvd hb hb2 hc HREL HXX
             go_wp2
             go_roundw
             case rel => exact ⟨k + 1, b, TT, SS, E1, e1, f1, E2, e2, f2, by omega, by go_num, rfl, HE.out⟩
             case measure => simp [intOf]; omega
         ·
           by_cases hk2 : p.kind = 2
           · have hkd := hk2
             have kq0 : ((p.kind : Int) == 0) = false := by rw [beq_eq_false_iff_ne]; omega
             have kq1 : ((p.kind : Int) == 1) = false := by rw [beq_eq_false_iff_ne]; omega
             have kq2 : ((p.kind : Int) == 2) = true := by rw [hkd]; rfl
             clear hkd hk0 hk1 hk2
             have hfc : Cx.fewC x.c = true := by have h := HFX.out; unfold fewO at h; rw [Bool.and_eq_true] at h; exact h.2
             obtain ⟨sc, sl⟩ := S
             have CS := P.see w3 b T (sc, sl) p.adr x.c p.len p.cap HM.out.lay (HM.out.bd.lim (by omega)) HP.out.ctx hfc
             have HBD := Lib.hid (bd_see HM.out.bd HP.out.ctx.fit hfc)
             go_wp2_with fail
             refine CS.mono ?_
             rintro r w4 ⟨rfl, hwent⟩
             obtain ⟨TT, hr4, ho4, hn4, AG, hb4, ht4, K⟩ := HM.out.went P hwent
             have HC4 := K.ctx _ _ _ _ HM.out.ctx
             have HL4 := K.evts _ _ _ _ HM.out.evts
             have HP4 := Lib.hid (⟨HP.out.kind, HP.out.fit, K.evt _ _ HP.out.evt, K.ctx _ _ _ _ HP.out.ctx⟩ : ActIs w4 p x)
             have AA4 := Lib.hid (K.at_ _ _ _ AA.out HNA.out)
             have CPX := rsee_any w4 A1 A2 p.adr sc x.c sl n1 c1 n2 c2 p.len p.cap HC4 HL4 HP4.out.ctx (HM.out.bd.lim (by omega)).ctx (Cx.few_is hfc)
             have y0 := AG.cell 0
             have y1 := AG.cell 1
             simp at y0 y1
             have HAG := Lib.hid AG
             have HR4 := Lib.hid hr4
             have HB4 := Lib.hid hb4
             clear hwent K HM HP AA CS x0 x1 x2 x3 x4 x5 x6 x7 x8 HC4 HL4 AG hr4 hb4 ht4
             obtain ⟨x0, x1, x2, x3, x4, x5, x6, x7, x8⟩ := nine_cells AA4.out
             go_wp2_with fail
             refine CPX.mono ?_
             rintro r w6 ⟨E1, e1, f1, E2, e2, f2, rfl, hc6, hl6, b6⟩
             obtain ⟨SS, hSS⟩ : ∃ S : Bt, (Cx.setC sc x.c 0, sl) = S := ⟨_, rfl⟩
             have hst := mid_fill P (S := (Cx.setC sc x.c 0, sl)) (P.up HR4.out b6) ho4 hn4 (HAG.out.below b6 HAG.out.lt) (HB4.out.trans (b6.mono HB4.out.size)) HG.out hc6 hl6 HBD.out
             rw [hSS] at hst
             have HX := Lib.hid hst
             have AA6 := AA4.out.below b6 AA4.out.lt
             have AG := HAG.out.below b6 HAG.out.lt
             have AX := Lib.hid ((AA6.other (h := wn.heap.size) (i := 0) (by have := HGA.out; omega) (.slice E1 e1 f1)).other (h := wn.heap.size) (i := 1) (by have := HGA.out; omega) (.slice E2 e2 f2))
             have HP := HP4
             have y2 := AG.cell 0
             have y3 := AG.frozen 0
             have y4 := (AG.set 0 (.slice E1 e1 f1)).cell 1
             have y5 := (AG.set 0 (.slice E1 e1 f1)).frozen 1
             simp at y2 y4
             clear hst hc6 hl6 b6 AA6 AG CPX HBD HR4 HB4 HAG AA4 hSS ho4 hn4 x0 x1 x2 x3 x4 x5 x6 x7 x8 y0 y1 hk
             go_upto_region 35 with fail
             generalize (w6.setCell ⟨wn.heap.size, 0, none⟩ (.slice E1 e1 f1)).setCell ⟨wn.heap.size, 1, none⟩ (.slice E2 e2 f2) = w7 at *
             clear y2 y3 y4 y5
             have HXC : Hid (∀ V, Below w7.heap.size w7 V → V.cell? ⟨wn.heap.size, 0, none⟩ = some (.slice E1 e1 f1) ∧ V.cell? ⟨wn.heap.size, 1, none⟩ = some (.slice E2 e2 f2) ∧ V.cell? ⟨wr.heap.size, 4, none⟩ = some (.int .u64 (p.ev.cid : Int))) := Lib.hid (fun V hV => by
               have h1 := HX.out.at_.below hV HX.out.at_.lt
               have h2 := AX.out.below hV AX.out.lt
               exact ⟨h1.cell 0, h1.cell 1, h2.cell 4⟩)
             have hlim := HX.out.bd.lim (by omega)
             have CI := fun V (hV : Below w7.heap.size w7 V) => is_any P V b TT SS E1 E2 e1 f1 e2 f2 (P.up HX.out.lay hV) hlim (HX.out.ctx.up hV) (HX.out.evts.up hV)
             have CO := fun V (hV : Below w7.heap.size w7 V) => P.of V b TT SS p.ev.cid (P.up HX.out.lay hV) hlim (by rw [HP.out.evt.cid]; exact HP.out.evt.fits.cid)
             have CR := fun V (hV : Below w7.heap.size w7 V) => rbof_any V E1 E2 SS.2 e1 f1 e2 f2 p.ev.cid (HX.out.evts.up hV) (Nat.le_trans (Nat.le_of_eq HX.out.evts.len.symm) (Nat.le_trans hlim.few (by decide)))
             have HXX := Lib.hid HX.out.below
             have HREL := HX
             clear HX AX hlim
             obtain ⟨z0, z1, z2⟩ := HXC.out w7 (Below.refl _ _)
             go_region_held3 (fun V => V.cell? ⟨wn.heap.size, 0, none⟩ = some (.slice E1 e1 f1) ∧ V.cell? ⟨wn.heap.size, 1, none⟩ = some (.slice E2 e2 f2) ∧ V.cell? ⟨wr.heap.size, 4, none⟩ = some (.int .u64 (p.ev.cid : Int))) (first | exact ⟨z0, z1, z2⟩ | assumption | exact HXC.out _ (by (repeat (first | exact Below.refl _ _ | assumption | apply Ev.bel_drew)))) (first
               | (go_at_call 21; (with_reducible refine (CI _ ?_).mono ?_); (focus (repeat (first | exact Below.refl _ _ | assumption | apply Ev.bel_drew | apply Ev.bel_alloc))); rintro r Va ⟨rfl, b1⟩; have bva : Below w7.heap.size w7 Va := bel_step (by (repeat (first | exact Below.refl _ _ | apply Ev.bel_drew))) b1; have hca := HXC.out Va bva)
               | (go_at_call 23; (with_reducible refine (CO _ bva).mono ?_); rintro r Vb ⟨Ab, nb, cb, rfl, hb, b1⟩; have bvb := bel_step bva b1; have hcb := HXC.out Vb bvb)
               | (go_at_call 24; (with_reducible refine (CR _ bvb).mono ?_); rintro r Vc ⟨Ac, nc, cc, rfl, hc, b1⟩; have bvc := bel_step bvb b1; have hb2 := hb.up b1; have hcc := HXC.out Vc bvc)
               | (go_at_call 22; (with_reducible refine (all_up bvc hb2 hc).mono ?_); rintro r Vd ⟨rfl, bvd⟩; have hcd := HXC.out Vd bvd))
             all_goals
               have HE := Lib.hid (HREL.out.up P bvd)
               clear HXC CI CO CR z0 z1 z2 hca hcb hcc hcd bva bvb bvc bvd hb hb2 hc HREL HXX
               go_wp2
               go_roundw
               case rel => exact ⟨k + 1, b, TT, SS, E1, e1, f1, E2, e2, f2, by omega, by go_num, rfl, HE.out⟩
               case measure => simp [intOf]; omega
           ·
             by_cases hk3 : p.kind = 3
             · have hkd := hk3
               have kq0 : ((p.kind : Int) == 0) = false := by rw [beq_eq_false_iff_ne]; omega
               have kq1 : ((p.kind : Int) == 1) = false := by rw [beq_eq_false_iff_ne]; omega
               have kq2 : ((p.kind : Int) == 2) = false := by rw [beq_eq_false_iff_ne]; omega
               have kq3 : ((p.kind : Int) == 3) = true := by rw [hkd]; rfl
               clear hkd hk0 hk1 hk2 hk3
               have hfc : Cx.fewC x.c = true := by have h := HFX.out; unfold fewO at h; rw [Bool.and_eq_true] at h; exact h.2
               obtain ⟨sc, sl⟩ := S
               have CPX := rprune_any w3 A1 A2 p.adr sc x.c sl n1 c1 n2 c2 p.len p.cap HM.out.ctx HM.out.evts HP.out.ctx (Cx.few_is hfc) (by rw [← HM.out.evts.len]; exact (HM.out.bd.lim (by omega)).few)
               have y0 := HM.out.at_.cell 0
               have y1 := HM.out.at_.cell 1
               simp at y0 y1
               go_wp2_with fail
               refine CPX.mono ?_
               rintro r w4 ⟨E1, e1, f1, E2, e2, f2, rfl, hc4, hl4, b4⟩
               have hbx := Ev.below_new w4 (bbox E1 E2 e1 f1 e2 f2)
               have hb5 := b4.trans (hbx.mono b4.size)
               have HM5 := Lib.hid (HM.out.up P hb5)
               have HP5 := Lib.hid (HP.out.up hb5)
               have AA5 := Lib.hid (AA.out.below hb5 AA.out.lt)
               have A8 := Lib.hid (At.new w4 31 #[.slice E1 e1 f1, .slice E2 e2 f2])
               have HC5 := Lib.hid (hc4.up hbx)
               have HL5 := Lib.hid (hl4.up hbx)
               have HN8 : Hid (¬ T w4.heap.size) := Lib.hid (fun h => by have h1 := (P.dom _ _ _ _ HM.out.lay).2 _ h; have h2 := b4.size; omega)
               have hs48 := b4.size
               simp only [bbox] at HM5 HP5 AA5 HC5 HL5
               clear hc4 hl4 b4 hbx hb5 CPX HM HP AA x0 x1 x2 x3 x4 x5 x6 x7 x8 y0 y1
               go_upto_region 27 with fail
               generalize w4.alloc (.cells #[.slice E1 e1 f1, .slice E2 e2 f2] 31) = w5 at *
               obtain ⟨x0, x1, x2, x3, x4, x5, x6, x7, x8⟩ := nine_cells AA5.out
               have CPP := P.prune w5 b T (sc, sl) p.adr x.c p.len p.cap HM5.out.lay (HM5.out.bd.lim (by omega)) HP5.out.ctx hfc
               have HBD := Lib.hid (bd_prune (c := x.c) HM5.out.bd)
               obtain ⟨S9, hS9⟩ : ∃ S, pruneB (sc, sl) x.c = S := ⟨_, rfl⟩
               rw [hS9] at CPP HBD HC5 HL5
               rw [hS9]
               obtain ⟨SS, cd⟩ := S9
               simp only at CPP HBD HC5 HL5
               clear hS9
               go_wp2_with fail
               refine CPP.mono ?_
               rintro r w6 ⟨rfl, hwent⟩
               obtain ⟨TT, hst⟩ := HM5.out.store P HG.out hwent HC5.out HL5.out HBD.out
               obtain ⟨T', hr6, ht6, K⟩ := hwent.kept
               have AA6 := K.at_ _ _ _ AA5.out HNA.out
               have A86 := K.at_ _ _ _ A8.out HN8.out
               have AG6 := K.at_ _ _ _ HM5.out.at_ HM5.out.box
               have HX := Lib.hid hst
               have HP := Lib.hid (⟨HP5.out.kind, HP5.out.fit, K.evt _ _ HP5.out.evt, K.ctx _ _ _ _ HP5.out.ctx⟩ : ActIs w6 p x)
               have HP6 := HP
               have AX := Lib.hid ((AA6.other (h := wn.heap.size) (i := 0) (by have := HGA.out; omega) (.slice E1 e1 f1)).other (h := wn.heap.size) (i := 1) (by have := HGA.out; omega) (.slice E2 e2 f2))
               have y0 := A86.cell 0
               have y1 := A86.cell 1
               have y2 := AG6.cell 0
               have y3 := AG6.frozen 0
               have y4 := (AG6.set 0 (.slice E1 e1 f1)).cell 1
               have y5 := (AG6.set 0 (.slice E1 e1 f1)).frozen 1
               simp at y0 y1 y2 y4
               clear hst hr6 ht6 K AA6 A86 AG6 hwent CPP HBD HC5 HL5 A8 AA5 HM5 HP5 x0 x1 x2 x3 x4 x5 x6 x7 x8
               clear hk
               go_upto_region 35 with fail
               generalize (w6.setCell ⟨wn.heap.size, 0, none⟩ (.slice E1 e1 f1)).setCell ⟨wn.heap.size, 1, none⟩ (.slice E2 e2 f2) = w7 at *
               clear y0 y1 y2 y3 y4 y5
               have HXC : Hid (∀ V, Below w7.heap.size w7 V → V.cell? ⟨wn.heap.size, 0, none⟩ = some (.slice E1 e1 f1) ∧ V.cell? ⟨wn.heap.size, 1, none⟩ = some (.slice E2 e2 f2) ∧ V.cell? ⟨wr.heap.size, 4, none⟩ = some (.int .u64 (p.ev.cid : Int))) := Lib.hid (fun V hV => by
                 have h1 := HX.out.at_.below hV HX.out.at_.lt
                 have h2 := AX.out.below hV AX.out.lt
                 exact ⟨h1.cell 0, h1.cell 1, h2.cell 4⟩)
               have hlim := HX.out.bd.lim (by omega)
               have CI := fun V (hV : Below w7.heap.size w7 V) => is_any P V b TT SS E1 E2 e1 f1 e2 f2 (P.up HX.out.lay hV) hlim (HX.out.ctx.up hV) (HX.out.evts.up hV)
               have CO := fun V (hV : Below w7.heap.size w7 V) => P.of V b TT SS p.ev.cid (P.up HX.out.lay hV) hlim (by rw [HP.out.evt.cid]; exact HP.out.evt.fits.cid)
               have CR := fun V (hV : Below w7.heap.size w7 V) => rbof_any V E1 E2 SS.2 e1 f1 e2 f2 p.ev.cid (HX.out.evts.up hV) (Nat.le_trans (Nat.le_of_eq HX.out.evts.len.symm) (Nat.le_trans hlim.few (by decide)))
               have HXX := Lib.hid HX.out.below
               have HREL := HX
               clear HX AX hlim
               obtain ⟨z0, z1, z2⟩ := HXC.out w7 (Below.refl _ _)
               go_region_held3 (fun V => V.cell? ⟨wn.heap.size, 0, none⟩ = some (.slice E1 e1 f1) ∧ V.cell? ⟨wn.heap.size, 1, none⟩ = some (.slice E2 e2 f2) ∧ V.cell? ⟨wr.heap.size, 4, none⟩ = some (.int .u64 (p.ev.cid : Int))) (first | exact ⟨z0, z1, z2⟩ | assumption | exact HXC.out _ (by (repeat (first | exact Below.refl _ _ | assumption | apply Ev.bel_drew)))) (first
                 | (go_at_call 21; (with_reducible refine (CI _ ?_).mono ?_); (focus (repeat (first | exact Below.refl _ _ | assumption | apply Ev.bel_drew | apply Ev.bel_alloc))); rintro r Va ⟨rfl, b1⟩; have bva : Below w7.heap.size w7 Va := bel_step (by (repeat (first | exact Below.refl _ _ | apply Ev.bel_drew))) b1; have hca := HXC.out Va bva)
                 | (go_at_call 23; (with_reducible refine (CO _ bva).mono ?_); rintro r Vb ⟨Ab, nb, cb, rfl, hb, b1⟩; have bvb := bel_step bva b1; have hcb := HXC.out Vb bvb)
                 | (go_at_call 24; (with_reducible refine (CR _ bvb).mono ?_); rintro r Vc ⟨Ac, nc, cc, rfl, hc, b1⟩; have bvc := bel_step bvb b1; have hb2 := hb.up b1; have hcc := HXC.out Vc bvc)
                 | (go_at_call 22; (with_reducible refine (all_up bvc hb2 hc).mono ?_); rintro r Vd ⟨rfl, bvd⟩; have hcd := HXC.out Vd bvd))
               all_goals
                 have HE := Lib.hid (HREL.out.up P bvd)
                 clear HXC CI CO CR z0 z1 z2 hca hcb hcc hcd bva bvb bvc bvd hb hb2 hc HREL HXX
                 go_wp2
                 go_roundw
                 case rel => exact ⟨k + 1, b, TT, SS, E1, e1, f1, E2, e2, f2, by omega, by go_num, rfl, HE.out⟩
                 case measure => simp [intOf]; omega
             ·
               by_cases hk4 : p.kind = 4
               · have hkd := hk4
                 have kq0 : ((p.kind : Int) == 0) = false := by rw [beq_eq_false_iff_ne]; omega
                 have kq1 : ((p.kind : Int) == 1) = false := by rw [beq_eq_false_iff_ne]; omega
                 have kq2 : ((p.kind : Int) == 2) = false := by rw [beq_eq_false_iff_ne]; omega
                 have kq3 : ((p.kind : Int) == 3) = false := by rw [beq_eq_false_iff_ne]; omega
                 have kq4 : ((p.kind : Int) == 4) = true := by rw [hkd]; rfl
                 clear hkd hk0 hk1 hk2 hk3 hk4
                 have hfc : Cx.fewC x.c = true := by have h := HFX.out; unfold fewO at h; rw [Bool.and_eq_true] at h; exact h.2
                 obtain ⟨sc, sl⟩ := S
                 have CS := P.copy w3 b T (sc, sl) HM.out.lay (HM.out.bd.lim (by omega))
                 go_wp2_with fail
                 refine CS.mono ?_
                 rintro r w4 ⟨p2, rfl, T2, hr2, ht2, b4⟩
                 have HM4 := Lib.hid (HM.out.up P b4)
                 have HP4 := Lib.hid (HP.out.up b4)
                 have AA4 := Lib.hid (AA.out.below b4 AA.out.lt)
                 have HD4 : Hid (∀ k, T2 k → ¬ T k) := Lib.hid (fun k h2 h1 => by have h3 := (P.dom _ _ _ _ HM.out.lay).2 _ h1; have h4 := ht2 _ h2; omega)
                 have HO2 : Hid (∀ k, T2 k → w3.heap.size ≤ k) := Lib.hid ht2
                 have HG3 : Hid (wn.heap.size < w3.heap.size) := Lib.hid HM.out.at_.lt
                 have HS3 : Hid (w.heap.size ≤ w3.heap.size) := Lib.hid HM.out.below.size
                 have HR24 := Lib.hid hr2
                 have HR4 := Lib.hid HM4.out.lay
                 have AG4 := Lib.hid HM4.out.at_
                 have HC4 := Lib.hid HM4.out.ctx
                 have HL4 := Lib.hid HM4.out.evts
                 have HB4 := Lib.hid HM4.out.below
                 have HO4 := Lib.hid HM4.out.own
                 have HN4 := Lib.hid HM4.out.box
                 have HNA4 := HNA
                 have HBD := Lib.hid HM4.out.bd
                 have HBD4 := HBD
                 clear hr2 ht2 b4 CS HM HP AA HM4 x0 x1 x2 x3 x4 x5 x6 x7 x8 HNA hk
                 obtain ⟨x0, x1, x2, x3, x4, x5, x6, x7, x8⟩ := nine_cells AA4.out
                 have CS := P.see w4 b T (sc, sl) p.adr x.c p.len p.cap HR4.out (HBD4.out.lim (by omega)) HP4.out.ctx hfc
                 have HBD5 : Hid (Bd (k + 1) (Cx.setC sc x.c 0, sl)) := Lib.hid (bd_see HBD4.out HP4.out.ctx.fit hfc)
                 go_wp2_with fail
                 refine CS.mono ?_
                 rintro r w5 ⟨rfl, hwent⟩
                 obtain ⟨T15, hr, hr2, hd, ht, K⟩ := hwent.other P HR24.out HD4.out
                 have HR5 := Lib.hid hr
                 have HR25 := Lib.hid hr2
                 have HD5 := Lib.hid hd
                 have AG5 := Lib.hid (K.at_ _ _ _ AG4.out HN4.out)
                 have HN5 : Hid (¬ T15 wn.heap.size) := Lib.hid (fun h => (ht _ h).elim HN4.out (fun h2 => by have := AG4.out.lt; omega))
                 have HNA5 : Hid (¬ T15 wr.heap.size) := Lib.hid (fun h => (ht _ h).elim HNA4.out (fun h2 => by have := AA4.out.lt; omega))
                 have AA5 := Lib.hid (K.at_ _ _ _ AA4.out HNA4.out)
                 have HC5 := Lib.hid (K.ctx _ _ _ _ HC4.out)
                 have HL5 := Lib.hid (K.evts _ _ _ _ HL4.out)
                 have HO5 : Hid (∀ k, T15 k → w.heap.size ≤ k) := Lib.hid (fun k hk => (ht _ hk).elim (HO4.out k) (fun h2 => Nat.le_trans HB4.out.size h2))
                 have HB5 := Lib.hid (K.below w HB4.out HO4.out)
                 have HP5 := Lib.hid (⟨HP4.out.kind, HP4.out.fit, K.evt _ _ HP4.out.evt, K.ctx _ _ _ _ HP4.out.ctx⟩ : ActIs w5 p x)
                 clear CS hwent hr hr2 hd ht K HR4 HR24 HD4 AG4 HN4 HNA4 AA4 HC4 HL4 HO4 HB4 HP4 HBD4 x0 x1 x2 x3 x4 x5 x6 x7 x8
                 obtain ⟨x0, x1, x2, x3, x4, x5, x6, x7, x8⟩ := nine_cells AA5.out
                 have CS := P.put w5 b T15 (Cx.setC sc x.c 0, sl) p.ev x.e HR5.out (HBD5.out.lim (by omega)) HP5.out.evt
                 have HBD6 : Hid (Bd (k + 2) (putB (Cx.setC sc x.c 0, sl) x.e).1) := Lib.hid (bd_put HBD5.out HP5.out.evt)
                 go_wp2_with fail
                 refine CS.mono ?_
                 rintro r w6 ⟨rfl, hwent⟩
                 obtain ⟨T16, hr, hr2, hd, ht, K⟩ := hwent.other P HR25.out HD5.out
                 have HR6 := Lib.hid hr
                 have HR26 := Lib.hid hr2
                 have HD6 := Lib.hid hd
                 have AG6 := Lib.hid (K.at_ _ _ _ AG5.out HN5.out)
                 have HN6 : Hid (¬ T16 wn.heap.size) := Lib.hid (fun h => (ht _ h).elim HN5.out (fun h2 => by have := AG5.out.lt; omega))
                 have HNA6 : Hid (¬ T16 wr.heap.size) := Lib.hid (fun h => (ht _ h).elim HNA5.out (fun h2 => by have := AA5.out.lt; omega))
                 have AA6 := Lib.hid (K.at_ _ _ _ AA5.out HNA5.out)
                 have HC6 := Lib.hid (K.ctx _ _ _ _ HC5.out)
                 have HL6 := Lib.hid (K.evts _ _ _ _ HL5.out)
                 have HO6 : Hid (∀ k, T16 k → w.heap.size ≤ k) := Lib.hid (fun k hk => (ht _ hk).elim (HO5.out k) (fun h2 => Nat.le_trans HB5.out.size h2))
                 have HB6 := Lib.hid (K.below w HB5.out HO5.out)
                 have HP6 := Lib.hid (⟨HP5.out.kind, HP5.out.fit, K.evt _ _ HP5.out.evt, K.ctx _ _ _ _ HP5.out.ctx⟩ : ActIs w6 p x)
                 clear CS hwent hr hr2 hd ht K HR5 HR25 HD5 AG5 HN5 HNA5 AA5 HC5 HL5 HO5 HB5 HP5 HBD5 x0 x1 x2 x3 x4 x5 x6 x7 x8
                 obtain ⟨x0, x1, x2, x3, x4, x5, x6, x7, x8⟩ := nine_cells AA6.out
                 have CS := P.prune w6 b T16 (putB (Cx.setC sc x.c 0, sl) x.e).1 p.adr x.c p.len p.cap HR6.out (HBD6.out.lim (by omega)) HP6.out.ctx hfc
                 have HBD7 : Hid (Bd (k + 3) (pruneB (putB (Cx.setC sc x.c 0, sl) x.e).1 x.c).1) := Lib.hid (bd_prune HBD6.out)
                 go_wp2_with fail
                 refine CS.mono ?_
                 rintro r w7 ⟨rfl, hwent⟩
                 obtain ⟨T17, hr, hr2, hd, ht, K⟩ := hwent.other P HR26.out HD6.out
                 have HR7 := Lib.hid hr
                 have HR27 := Lib.hid hr2
                 have HD7 := Lib.hid hd
                 have AG7 := Lib.hid (K.at_ _ _ _ AG6.out HN6.out)
                 have HN7 : Hid (¬ T17 wn.heap.size) := Lib.hid (fun h => (ht _ h).elim HN6.out (fun h2 => by have := AG6.out.lt; omega))
                 have HNA7 : Hid (¬ T17 wr.heap.size) := Lib.hid (fun h => (ht _ h).elim HNA6.out (fun h2 => by have := AA6.out.lt; omega))
                 have AA7 := Lib.hid (K.at_ _ _ _ AA6.out HNA6.out)
                 have HC7 := Lib.hid (K.ctx _ _ _ _ HC6.out)
                 have HL7 := Lib.hid (K.evts _ _ _ _ HL6.out)
                 have HO7 : Hid (∀ k, T17 k → w.heap.size ≤ k) := Lib.hid (fun k hk => (ht _ hk).elim (HO6.out k) (fun h2 => Nat.le_trans HB6.out.size h2))
                 have HB7 := Lib.hid (K.below w HB6.out HO6.out)
                 have HP7 := Lib.hid (⟨HP6.out.kind, HP6.out.fit, K.evt _ _ HP6.out.evt, K.ctx _ _ _ _ HP6.out.ctx⟩ : ActIs w7 p x)
                 clear CS hwent hr hr2 hd ht K HR6 HR26 HD6 AG6 HN6 HNA6 AA6 HC6 HL6 HO6 HB6 HP6 HBD6 x0 x1 x2 x3 x4 x5 x6 x7 x8
                 obtain ⟨SS, hSS⟩ : ∃ S : Bt, (sc, sl) = S := ⟨_, rfl⟩
                 obtain ⟨TT, hTT⟩ : ∃ T3 : Nat → Prop, T2 = T3 := ⟨_, rfl⟩
                 have hm7 : Mid R w wn.heap.size (k + 1) w7 p2 T2 (sc, sl) A1 n1 c1 A2 n2 c2 := ⟨HR27.out, fun k hk => Nat.le_trans HS3.out (HO2.out k hk), fun h => by have h1 := HO2.out _ h; have h2 := HG3.out; omega, AG7.out, HC7.out, HL7.out, HBD.out.more (Nat.le_succ _), HB7.out⟩
                 rw [hSS, hTT] at hm7
                 have HX := Lib.hid hm7
                 have HP := HP7
                 have AX := AA7
                 clear hm7 hSS hTT HR27 AG7 HC7 HL7 HBD HB7 HP7 AA7 HR7 HD7 HN7 HNA7 HO7 HBD7
                 go_upto_region 35 with fail
                 have HXC : Hid (∀ V, Below w7.heap.size w7 V → V.cell? ⟨wn.heap.size, 0, none⟩ = some (.slice A1 n1 c1) ∧ V.cell? ⟨wn.heap.size, 1, none⟩ = some (.slice A2 n2 c2) ∧ V.cell? ⟨wr.heap.size, 4, none⟩ = some (.int .u64 (p.ev.cid : Int))) := Lib.hid (fun V hV => by
                   have h1 := HX.out.at_.below hV HX.out.at_.lt
                   have h2 := AX.out.below hV AX.out.lt
                   exact ⟨h1.cell 0, h1.cell 1, h2.cell 4⟩)
                 have hlim := HX.out.bd.lim (by omega)
                 have CI := fun V (hV : Below w7.heap.size w7 V) => is_any P V p2 TT SS A1 A2 n1 c1 n2 c2 (P.up HX.out.lay hV) hlim (HX.out.ctx.up hV) (HX.out.evts.up hV)
                 have CO := fun V (hV : Below w7.heap.size w7 V) => P.of V p2 TT SS p.ev.cid (P.up HX.out.lay hV) hlim (by rw [HP.out.evt.cid]; exact HP.out.evt.fits.cid)
                 have CR := fun V (hV : Below w7.heap.size w7 V) => rbof_any V A1 A2 SS.2 n1 c1 n2 c2 p.ev.cid (HX.out.evts.up hV) (Nat.le_trans (Nat.le_of_eq HX.out.evts.len.symm) (Nat.le_trans hlim.few (by decide)))
                 have HXX := Lib.hid HX.out.below
                 have HREL := HX
                 clear HX AX hlim
                 obtain ⟨z0, z1, z2⟩ := HXC.out w7 (Below.refl _ _)
                 go_region_held3 (fun V => V.cell? ⟨wn.heap.size, 0, none⟩ = some (.slice A1 n1 c1) ∧ V.cell? ⟨wn.heap.size, 1, none⟩ = some (.slice A2 n2 c2) ∧ V.cell? ⟨wr.heap.size, 4, none⟩ = some (.int .u64 (p.ev.cid : Int))) (first | exact ⟨z0, z1, z2⟩ | assumption | exact HXC.out _ (by (repeat (first | exact Below.refl _ _ | assumption | apply Ev.bel_drew)))) (first
                   | (go_at_call 21; (with_reducible refine (CI _ ?_).mono ?_); (focus (repeat (first | exact Below.refl _ _ | assumption | apply Ev.bel_drew | apply Ev.bel_alloc))); rintro r Va ⟨rfl, b1⟩; have bva : Below w7.heap.size w7 Va := bel_step (by (repeat (first | exact Below.refl _ _ | apply Ev.bel_drew))) b1; have hca := HXC.out Va bva)
                   | (go_at_call 23; (with_reducible refine (CO _ bva).mono ?_); rintro r Vb ⟨Ab, nb, cb, rfl, hb, b1⟩; have bvb := bel_step bva b1; have hcb := HXC.out Vb bvb)
                   | (go_at_call 24; (with_reducible refine (CR _ bvb).mono ?_); rintro r Vc ⟨Ac, nc, cc, rfl, hc, b1⟩; have bvc := bel_step bvb b1; have hb2 := hb.up b1; have hcc := HXC.out Vc bvc)
                   | (go_at_call 22; (with_reducible refine (all_up bvc hb2 hc).mono ?_); rintro r Vd ⟨rfl, bvd⟩; have hcd := HXC.out Vd bvd))
                 all_goals
                   have HE := Lib.hid (HREL.out.up P bvd)
                   clear HXC CI CO CR z0 z1 z2 hca hcb hcc hcd bva bvb bvc bvd hb hb2 hc HREL HXX
                   go_wp2
                   go_roundw
                   case rel => exact ⟨k + 1, p2, TT, SS, A1, n1, c1, A2, n2, c2, by omega, by go_num, rfl, HE.out⟩
                   case measure => simp [intOf]; omega
               ·
                 have kq0 : ((p.kind : Int) == 0) = false := by rw [beq_eq_false_iff_ne]; omega
                 have kq1 : ((p.kind : Int) == 1) = false := by rw [beq_eq_false_iff_ne]; omega
                 have kq2 : ((p.kind : Int) == 2) = false := by rw [beq_eq_false_iff_ne]; omega
                 have kq3 : ((p.kind : Int) == 3) = false := by rw [beq_eq_false_iff_ne]; omega
                 have kq4 : ((p.kind : Int) == 4) = false := by rw [beq_eq_false_iff_ne]; omega
                 clear hk0 hk1 hk2 hk3 hk4
                 obtain ⟨sc, sl⟩ := S
                 have CS := P.copy w3 b T (sc, sl) HM.out.lay (HM.out.bd.lim (by omega))
                 go_wp2_with fail
                 refine CS.mono ?_
                 rintro r w4 ⟨p2, rfl, T2, hr2, ht2, b4⟩
                 have CM := P.same w4 b T (sc, sl) p2 T2 (sc, sl) (P.up HM.out.lay b4) hr2 (HM.out.bd.lim (by omega)) (HM.out.bd.lim (by omega))
                 rw [decide_eq_true rfl] at CM
                 have HB4 := Lib.hid b4
                 clear CS hr2 ht2 b4 x0 x1 x2 x3 x4 x5 x6 x7 x8
                 go_wp2_with fail
                 refine CM.mono ?_
                 rintro r w5 ⟨rfl, b5⟩
                 have hb5 := HB4.out.trans (b5.mono HB4.out.size)
                 have hm5 := HM.out.up P hb5
                 obtain ⟨SS, hSS⟩ : ∃ S : Bt, (sc, sl) = S := ⟨_, rfl⟩
                 obtain ⟨TT, hTT⟩ : ∃ T2 : Nat → Prop, T = T2 := ⟨_, rfl⟩
                 rw [hSS, hTT] at hm5
                 have HX : Hid (Mid R w wn.heap.size (k + 1) w5 b TT SS A1 n1 c1 A2 n2 c2) := Lib.hid ⟨hm5.lay, hm5.own, hm5.box, hm5.at_, hm5.ctx, hm5.evts, hm5.bd.more (Nat.le_succ _), hm5.below⟩
                 have AX := Lib.hid (AA.out.below hb5 AA.out.lt)
                 clear hm5 hb5 b5 HB4 hSS hTT CM HM AA hk
                 go_upto_region 35 with fail
                 have HXC : Hid (∀ V, Below w5.heap.size w5 V → V.cell? ⟨wn.heap.size, 0, none⟩ = some (.slice A1 n1 c1) ∧ V.cell? ⟨wn.heap.size, 1, none⟩ = some (.slice A2 n2 c2) ∧ V.cell? ⟨wr.heap.size, 4, none⟩ = some (.int .u64 (p.ev.cid : Int))) := Lib.hid (fun V hV => by
                   have h1 := HX.out.at_.below hV HX.out.at_.lt
                   have h2 := AX.out.below hV AX.out.lt
                   exact ⟨h1.cell 0, h1.cell 1, h2.cell 4⟩)
                 have hlim := HX.out.bd.lim (by omega)
                 have CI := fun V (hV : Below w5.heap.size w5 V) => is_any P V b TT SS A1 A2 n1 c1 n2 c2 (P.up HX.out.lay hV) hlim (HX.out.ctx.up hV) (HX.out.evts.up hV)
                 have CO := fun V (hV : Below w5.heap.size w5 V) => P.of V b TT SS p.ev.cid (P.up HX.out.lay hV) hlim (by rw [HP.out.evt.cid]; exact HP.out.evt.fits.cid)
                 have CR := fun V (hV : Below w5.heap.size w5 V) => rbof_any V A1 A2 SS.2 n1 c1 n2 c2 p.ev.cid (HX.out.evts.up hV) (Nat.le_trans (Nat.le_of_eq HX.out.evts.len.symm) (Nat.le_trans hlim.few (by decide)))
                 have HXX := Lib.hid HX.out.below
                 have HREL := HX
                 clear HX AX hlim
                 obtain ⟨z0, z1, z2⟩ := HXC.out w5 (Below.refl _ _)
                 go_region_held3 (fun V => V.cell? ⟨wn.heap.size, 0, none⟩ = some (.slice A1 n1 c1) ∧ V.cell? ⟨wn.heap.size, 1, none⟩ = some (.slice A2 n2 c2) ∧ V.cell? ⟨wr.heap.size, 4, none⟩ = some (.int .u64 (p.ev.cid : Int))) (first | exact ⟨z0, z1, z2⟩ | assumption | exact HXC.out _ (by (repeat (first | exact Below.refl _ _ | assumption | apply Ev.bel_drew)))) (first
                   | (go_at_call 21; (with_reducible refine (CI _ ?_).mono ?_); (focus (repeat (first | exact Below.refl _ _ | assumption | apply Ev.bel_drew | apply Ev.bel_alloc))); rintro r Va ⟨rfl, b1⟩; have bva : Below w5.heap.size w5 Va := bel_step (by (repeat (first | exact Below.refl _ _ | apply Ev.bel_drew))) b1; have hca := HXC.out Va bva)
                   | (go_at_call 23; (with_reducible refine (CO _ bva).mono ?_); rintro r Vb ⟨Ab, nb, cb, rfl, hb, b1⟩; have bvb := bel_step bva b1; have hcb := HXC.out Vb bvb)
                   | (go_at_call 24; (with_reducible refine (CR _ bvb).mono ?_); rintro r Vc ⟨Ac, nc, cc, rfl, hc, b1⟩; have bvc := bel_step bvb b1; have hb2 := hb.up b1; have hcc := HXC.out Vc bvc)
                   | (go_at_call 22; (with_reducible refine (all_up bvc hb2 hc).mono ?_); rintro r Vd ⟨rfl, bvd⟩; have hcd := HXC.out Vd bvd))
                 all_goals
                   have HE := Lib.hid (HREL.out.up P bvd)
                   clear HXC CI CO CR z0 z1 z2 hca hcb hcc hcd bva bvb bvc bvd hb hb2 hc HREL HXX
                   go_wp2
                   go_roundw
                   case rel => exact ⟨k + 1, b, TT, SS, A1, n1, c1, A2, n2, c2, by omega, by go_num, rfl, HE.out⟩
                   case measure => simp [intOf]; omega
     · obtain rfl : k = n := by omega
       have CI := is_any P wr b T S A1 A2 n1 c1 n2 c2 hm.lay (hm.bd.lim (by omega)) hm.ctx hm.evts
       have y0 := hm.at_.cell 0
       have y1 := hm.at_.cell 1
       simp at y0 y1
       have HM := Lib.hid hm
       clear hm
       go_wp2_with fail
       refine CI.mono ?_
       rintro r w5 ⟨rfl, b5⟩
       have HV := Lib.hid (HM.out.below.trans (b5.mono HM.out.below.size))
       clear b5 y0 y1 CI
       go_wp2_with fail
       refine (works_any P w5).mono ?_
       rintro r w6 ⟨rfl, b6⟩
       have HV2 := Lib.hid (HV.out.trans (b6.mono HV.out.size))
       clear b6
       go_wp2
       go_ret
       exact ⟨rfl, HV2.out⟩
end Go.Proofs.YtgaegfddobpomaaGreat.Bk

namespace Go.Proofs.YtgaegfddobpomaaGreat.Kl
open Go.ChangeShapes Go.WideShapes Go.ChangeAt Go.RowKit
set_option linter.unusedVariables false
set_option maxRecDepth 4000
theorem puts_len (l m : List Dt.Dot) : (l.foldl Dt.putD m).length ≤ m.length + l.length := by
 induction l generalizing m with
 | nil => exact Nat.le_refl _
 | cons x l ih =>
   have h1 := ih (Dt.putD m x)
   have h2 := Dt.put_length m x
   rw [List.foldl_cons, List.length_cons]
   omega
def keepTo (f : Dt.Dot → Bool) (l : List Dt.Dot) (k : Nat) : List Dt.Dot := Dt.sortD ((l.take k).filter f)
end Go.Proofs.YtgaegfddobpomaaGreat.Kl

namespace Go.Proofs.YtgaegfddobpomaaGreat.Bk
open Go.ChangeShapes Go.WideShapes Go.ChangeAt Go.RowKit Go.Proofs.YtgaegfddobpomaaGreat.Kl
set_option linter.unusedVariables false
set_option maxRecDepth 4000
noncomputable def okB (l : List Ev.Evt) (k : Nat) : Bool := match l[k]? with
 | none => true
 | some x => Ev.goodE x && (match k with | 0 => true | j + 1 => (match l[j]? with | none => true | some y => !decide (Dt.cmpD y.dot x.dot ≥ 0))) && !(decide (x.kind = 1) && deadB l x.dot)
noncomputable def fromB (c : List Cx.Part) (l : List Ev.Evt) : Bool := (List.range l.length).all (okB l) && (Cx.goodC c && decide (((Ev.dotsE l).filter (fun d => !Cx.hasC c d)) = []))
end Go.Proofs.YtgaegfddobpomaaGreat.Bk
