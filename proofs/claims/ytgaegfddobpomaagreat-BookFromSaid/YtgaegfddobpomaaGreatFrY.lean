/- Words and contracts that the proofs of this seat stand on, part 25 of 28. -/
import Derived.Test.YtgaegfddobpomaaGreatFrX
import Derived.Test.YtgaegfddobpomaaGreatFrT
import Derived.Deep.DeepCutAuto
import Derived.Test.YtgaegfddobpomaaGreatFrU

namespace Go.Proofs.YtgaegfddobpomaaGreat.Bk
open Go.ChangeShapes Go.WideShapes Go.ChangeAt Go.RowKit Go.Proofs.YtgaegfddobpomaaGreat.Kl Go.Maps
set_option linter.unusedVariables false
set_option maxRecDepth 4000
def KeepPost (w : World) (p : Nat) (A : Option Addr) (n k : Nat) (m1 m2 : Option Nat) (L1 L2 : List Ev.EV) (x : Ev.Evt) (w' : World) : Prop :=
 ∃ (q' : Ev.EV) (m1' m2' : Option Nat), BkMem w' p A n k m1' m2' (if x.kind = 2 then L1 else q' :: but x.dot L1) (if x.kind = 2 then q' :: but x.dot L2 else L2) ∧ Turns w p m1 m2 m1' m2' w' ∧ Ev.EventIs w' w'.heap.size q' x ∧ Ev.Free w' w.heap.size q'.adr q'.len
theorem copy_later {w W : World} {q : Ev.EV} {x : Ev.Evt} (h : Ev.EventIs w w.heap.size q x) (hW : Below w.heap.size w W) :
   Calls Tryz.prog 94 #[q.val] W fun e V => ∃ q' : Ev.EV, e = .returned q'.val ∧ Ev.EventIs V V.heap.size q' x ∧ Ev.Free V w.heap.size q'.adr q'.len ∧ Below w.heap.size w V :=
 (Ev.pcopy_any W q x (h.up hW)).mono fun e V ⟨q', h1, h2, h3, h4⟩ => ⟨q', h1, h2, h3.less hW.size, hW.trans (h4.mono hW.size)⟩
theorem evt_grown {w W : World} {b : Nat} {L : List Ev.EV} (h : MapE w b L) (hg : w.grownBy W (some b)) {q : Ev.EV} {x : Ev.Evt} (hq : Ev.EventIs w w.heap.size q x) : Ev.EventIs W W.heap.size q x :=
 evt_off (F := (· = b)) (fun k hk i u hu => absurd (hk ▸ hu) (h.nocell i u)) (off_grown hg) hq
theorem free_grown {w W : World} {b B n : Nat} {L : List Ev.EV} {A : Option Addr} {l : List Dt.Dot} {c : Nat} (h : MapE w b L) (hg : w.grownBy W (some b)) (hd : Ev.DotsAt w w.heap.size A l n c) (hf : Ev.Free w B A n) : Ev.Free W B A n := fun j hj => by
 obtain ⟨ad, h1, h2, h3, h4⟩ := hf j hj
 obtain ⟨ad', h5, h6, h7⟩ := hd.dots.2 (by rw [Dt.dv_length]; have := hd.len; omega)
 rw [h1] at h5
 cases h5
 have hne : ad.block ≠ b := fun e => by
   have h8 : w.cell? (ad.add 0) ≠ none := by
     rw [h7 0 _ (List.getElem?_eq_getElem (by rw [Dt.dv_length]; have := hd.len; omega))]
     exact fun e => (by cases e)
   refine h8 ?_
   cases hc : w.cell? (ad.add 0) with
   | none => rfl
   | some u =>
     have h9 := cell_spot hc
     rw [h9, Dt.block_add, e] at hc
     exact absurd hc (h.nocell _ u)
 have hfz : ∀ i, W.frozen? (ad.add i) = w.frozen? (ad.add i) := fun i => World.frozen?_of_block (hg.block _ (by rw [Dt.block_add]; exact h6) (by rw [Dt.block_add]; exact fun e => hne (Option.some.inj e)))
 exact ⟨ad, h1, h2, by rw [hfz]; exact h3, by rw [hfz]; exact h4⟩
theorem keep_start {w : World} {p g : Nat} {A : Option Addr} {n k : Nat} {L1 L2 : List Ev.EV} {T : TypeId} {cs : Array Value} {q : Ev.EV} {x : Ev.Evt} (h : BkMem w p A n k none none L1 L2) (ha : At w g T cs) (hg : g ≠ p) (hq : Ev.EventIs w w.heap.size q x) :
   BkMem ((((w.alloc (.map #[] 0)).alloc (.map #[] 0)).setCell ⟨p, 1, none⟩ (.map (some w.heap.size))).setCell ⟨p, 2, none⟩ (.map (some (w.heap.size + 1)))) p A n k (some w.heap.size) (some (w.heap.size + 1)) L1 L2 ∧
   Turns w p none none (some w.heap.size) (some (w.heap.size + 1)) ((((w.alloc (.map #[] 0)).alloc (.map #[] 0)).setCell ⟨p, 1, none⟩ (.map (some w.heap.size))).setCell ⟨p, 2, none⟩ (.map (some (w.heap.size + 1)))) ∧
   At ((((w.alloc (.map #[] 0)).alloc (.map #[] 0)).setCell ⟨p, 1, none⟩ (.map (some w.heap.size))).setCell ⟨p, 2, none⟩ (.map (some (w.heap.size + 1)))) g T cs ∧
   Ev.EventIs ((((w.alloc (.map #[] 0)).alloc (.map #[] 0)).setCell ⟨p, 1, none⟩ (.map (some w.heap.size))).setCell ⟨p, 2, none⟩ (.map (some (w.heap.size + 1)))) ((((w.alloc (.map #[] 0)).alloc (.map #[] 0)).setCell ⟨p, 1, none⟩ (.map (some w.heap.size))).setCell ⟨p, 2, none⟩ (.map (some (w.heap.size + 1)))).heap.size q x := by
 have hb := Ev.below_new2 w (.map #[] 0) (.map #[] 0)
 have hm := h.up hb
 have e1 : MapE ((w.alloc (.map #[] 0)).alloc (.map #[] 0)) w.heap.size [] := (mapE_new w).up (Ev.below_new _ _)
 have e2 : MapE ((w.alloc (.map #[] 0)).alloc (.map #[] 0)) (w.heap.size + 1) [] := by have := mapE_new (w.alloc (.map #[] 0)); rwa [Ev.alloc_size] at this
 have hl1 : L1 = [] := by rcases h.live with ⟨_, h1⟩ | ⟨b, h1, _⟩; exact h1; cases h1
 have hl2 : L2 = [] := by rcases h.tomb with ⟨_, h1⟩ | ⟨b, h1, _⟩; exact h1; cases h1
 subst hl1 hl2
 have ha2 := ha.below hb ha.lt
 have hq2 := hq.up hb
 have hp := h.at_.lt
 generalize (w.alloc (.map #[] 0)).alloc (.map #[] 0) = W at *
 have ho : Off (· = p) W ((W.setCell ⟨p, 1, none⟩ (.map (some w.heap.size))).setCell ⟨p, 2, none⟩ (.map (some (w.heap.size + 1)))) := (off_set W p 1 _).trans (off_set _ p 2 _)
 have hat : At ((W.setCell ⟨p, 1, none⟩ (.map (some w.heap.size))).setCell ⟨p, 2, none⟩ (.map (some (w.heap.size + 1)))) p 84 #[.slice A n k, .map (some w.heap.size), .map (some (w.heap.size + 1))] := (hm.at_.set 1 _).set 2 _
 refine ⟨⟨hat, .some_ (e1.at_block (ho.block _ e1.lt (by omega))), .some_ (e2.at_block (ho.block _ e2.lt (by omega))), ⟨(fun e => by cases e), (fun e => by cases e)⟩, fun b e1 e2 => by cases e1; simp at e2⟩, ⟨fun b hb2 => ?_, ?_⟩, (ho.block g ha2.lt hg).trans ha2, ?_⟩
 · rcases hb2 with rfl | hb2 | hb2
   · exact .inl (.inl rfl)
   · cases hb2; exact .inr (Nat.le_refl _)
   · cases hb2; exact .inr (Nat.le_succ _)
 · exact (off_of (Own p none none) hb).trans (ho.more (fun b _ e => .inl e))
 · exact evt_off (F := (· = p)) (fun b hb2 i u hu => hm.nonum b (.inl hb2) i u hu) ho hq2
theorem keep_end2 {w wc V W : World} {p : Nat} {A : Option Addr} {n k b1 b2 : Nat} {m1 m2 : Option Nat} {L1 L2 : List Ev.EV} {x : Ev.Evt} {q' : Ev.EV} (hm : BkMem wc p A n k (some b1) (some b2) L1 L2) (ht : Turns w p m1 m2 (some b1) (some b2) wc) (hV : Below wc.heap.size wc V)
   (he : Ev.EventIs V V.heap.size q' x) (hf : Ev.Free V w.heap.size q'.adr q'.len) (h6 : MapE W b2 (q' :: but x.dot L2)) (hg : V.grownBy W (some b2)) (hk : x.kind = 2) : KeepPost w p A n k m1 m2 L1 L2 x W := by
 have hmV := hm.up hV
 have hne := hmV.ne
 refine ⟨q', some b1, some b2, ?_, (ht.trans (Turns.below hV)).trans (Turns.grown2 rfl hg), evt_grown hmV.tomb.some_of hg he, free_grown hmV.tomb.some_of hg he.kills hf⟩
 rw [if_pos hk, if_pos hk]
 exact ⟨(hg.block p hmV.at_.lt (fun e => hne.2 e.symm)).trans hmV.at_, .some_ (hmV.live.some_of.kept hg (fun e => hm.apart b1 rfl e.symm)), .some_ h6, hm.both, hm.apart⟩
theorem keep_end1 {w wc V W : World} {p : Nat} {A : Option Addr} {n k b1 b2 : Nat} {m1 m2 : Option Nat} {L1 L2 : List Ev.EV} {x : Ev.Evt} {q' : Ev.EV} (hm : BkMem wc p A n k (some b1) (some b2) L1 L2) (ht : Turns w p m1 m2 (some b1) (some b2) wc) (hV : Below wc.heap.size wc V)
   (he : Ev.EventIs V V.heap.size q' x) (hf : Ev.Free V w.heap.size q'.adr q'.len) (h6 : MapE W b1 (q' :: but x.dot L1)) (hg : V.grownBy W (some b1)) (hk : ¬ x.kind = 2) : KeepPost w p A n k m1 m2 L1 L2 x W := by
 have hmV := hm.up hV
 have hne := hmV.ne
 refine ⟨q', some b1, some b2, ?_, (ht.trans (Turns.below hV)).trans (Turns.grown1 rfl hg), evt_grown hmV.live.some_of hg he, free_grown hmV.live.some_of hg he.kills hf⟩
 rw [if_neg hk, if_neg hk]
 exact ⟨(hg.block p hmV.at_.lt (fun e => hne.1 e.symm)).trans hmV.at_, .some_ h6, .some_ (hmV.tomb.some_of.kept hg (fun e => hm.apart b1 rfl e)), hm.both, hm.apart⟩
theorem box_kept {W V : World} {g b : Nat} {q : Ev.EV} {L : List Ev.EV} (hM : MapE V b L) (hg : V.grownBy W (some b)) (h : V.cell? ⟨g, 0, none⟩ = some (.int .u16 (q.dev : Int)) ∧ V.cell? ⟨g, 1, none⟩ = some (.int .u64 (q.num : Int)) ∧ V.cell? ⟨g, 2, none⟩ = some (.int .u8 (q.kind : Int)) ∧ V.cell? ⟨g, 3, none⟩ = some (.int .u64 (q.cid : Int)) ∧ V.cell? ⟨g, 4, none⟩ = some (.int .u8 (q.fld : Int)) ∧ V.cell? ⟨g, 5, none⟩ = some (.string q.txt) ∧ V.cell? ⟨g, 6, none⟩ = some (.slice q.adr q.len q.cap)) :
   W.cell? ⟨g, 0, none⟩ = some (.int .u16 (q.dev : Int)) ∧ W.cell? ⟨g, 1, none⟩ = some (.int .u64 (q.num : Int)) ∧ W.cell? ⟨g, 2, none⟩ = some (.int .u8 (q.kind : Int)) ∧ W.cell? ⟨g, 3, none⟩ = some (.int .u64 (q.cid : Int)) ∧ W.cell? ⟨g, 4, none⟩ = some (.int .u8 (q.fld : Int)) ∧ W.cell? ⟨g, 5, none⟩ = some (.string q.txt) ∧ W.cell? ⟨g, 6, none⟩ = some (.slice q.adr q.len q.cap) := by
 have hne : some g ≠ some b := fun e => by cases e; exact hM.nocell _ _ h.1
 exact ⟨hg.cell h.1 hne, hg.cell h.2.1 hne, hg.cell h.2.2.1 hne, hg.cell h.2.2.2.1 hne, hg.cell h.2.2.2.2.1 hne, hg.cell h.2.2.2.2.2.1 hne, hg.cell h.2.2.2.2.2.2 hne⟩
theorem spot_kept {W V : World} {p b i : Nat} {u : Value} {L : List Ev.EV} (hM : MapE V b L) (hg : V.grownBy W (some b)) (h : V.cell? ⟨p, i, none⟩ = some u) : W.cell? ⟨p, i, none⟩ = some u := by
 have hne : some p ≠ some b := fun e => by cases e; exact hM.nocell _ _ h
 exact hg.cell h hne
set_option maxHeartbeats 8000000 in
theorem pkeepb_any (w : World) (p : Nat) (A : Option Addr) (n k : Nat) (m1 m2 : Option Nat) (L1 L2 : List Ev.EV) (q : Ev.EV) (x : Ev.Evt) (h : BkMem w p A n k m1 m2 L1 L2) (hq : Ev.EventIs w w.heap.size q x) (h1 : L1.length ≤ 1024) (h2 : L2.length ≤ 1024) :
   Calls Tryz.prog 49 #[.pointer (some ⟨p, 0, none⟩), q.val] w fun e w' => e = .returned (.tuple #[]) ∧ KeepPost w p A n k m1 m2 L1 L2 x w' := by
 have hbx := Ev.below_new w q.box
 have HA := Lib.hid (At.new w 38 (ebox q))
 have HM := Lib.hid (h.up hbx)
 have HQ := Lib.hid (hq.up hbx)
 have HT := Lib.hid (Turns.below (p := p) (m1 := m1) (m2 := m2) hbx)
 have HX := Lib.hid (show dotV q = x.dot from (Ev.is_dot hq).symm)
 have HF := Lib.hid hq.fits
 have HK := Lib.hid hq.kind
 have HS : Hid (w.heap.size < (w.alloc q.box).heap.size) := Lib.hid (by rw [Ev.alloc_size]; exact Nat.lt_succ_self _)
 have H1 := Lib.hid (Nat.le_trans h1 (show 1024 ≤ 8796093022208 by decide))
 have H2 := Lib.hid (Nat.le_trans h2 (show 1024 ≤ 8796093022208 by decide))
 have hq0 := fun W => eql_none W m1
 have hmm := @run_makeMap Tryz.prog
 obtain ⟨c0, c1, c2⟩ := (h.up hbx).cells (Below.refl _ _)
 have f1 := (h.up hbx).frozen (Below.refl _ _) 1
 have f2 := (h.up hbx).frozen (Below.refl _ _) 2
 have hpg : p ≠ w.heap.size := fun e => by have := h.at_.lt; omega
 have HP := Lib.hid hpg
 simp only [ebox, Ev.EV.box] at HA HM HQ HT HS c0 c1 c2 f1 f2
 simp only [Ev.EV.val]
 clear hbx h hq h1 h2 hpg
 go_enter Tryz.func49, Tryz.ntmps49
 go_upto_if 8 with fail
 generalize w.alloc (.cells #[.int .u16 (q.dev : Int), .int .u64 (q.num : Int), .int .u8 (q.kind : Int), .int .u64 (q.cid : Int), .int .u8 (q.fld : Int), .string q.txt, .slice q.adr q.len q.cap] 38) = w1 at *
 go_cut [] (fun wx => ∃ b1 b2, BkMem wx p A n k (some b1) (some b2) L1 L2 ∧ Turns w p m1 m2 (some b1) (some b2) wx ∧ At wx w.heap.size 38 #[.int .u16 (q.dev : Int), .int .u64 (q.num : Int), .int .u8 (q.kind : Int), .int .u64 (q.cid : Int), .int .u8 (q.fld : Int), .string q.txt, .slice q.adr q.len q.cap] ∧ Ev.EventIs wx wx.heap.size q x)
 case first =>
   cases m1 with
   | some b1 =>
     cases m2 with
     | none => exact absurd (HM.out.both.2 rfl) (by simp)
     | some b2 =>
       go_wp2
       go_meet
       exact ⟨b1, b2, HM.out, HT.out, HA.out, HQ.out⟩
   | none =>
     obtain rfl : m2 = none := HM.out.both.1 rfl
     obtain ⟨d0, d1, d2⟩ := HM.out.cells (Ev.below_new2 w1 (.map #[] 0) (.map #[] 0))
     have g1 := HM.out.frozen (Ev.below_new2 w1 (.map #[] 0) (.map #[] 0)) 1
     have g2 := HM.out.frozen (Ev.below_new2 w1 (.map #[] 0) (.map #[] 0)) 2
     have HK2 := Lib.hid (keep_start HM.out HA.out (Ne.symm HP.out) HQ.out)
     go_wp2
     go_meet
     obtain ⟨k1, k2, k3, k4⟩ := HK2.out
     exact ⟨_, _, k1, HT.out.trans k2, k3, k4⟩
 case rest =>
   obtain ⟨b1, b2, hm, ht, ha, hq⟩ := hcut
   have HM2 := Lib.hid hm
   have HT2 := Lib.hid ht
   have HA2 := Lib.hid ha
   have HS2 : Hid (w.heap.size ≤ wc.heap.size) := Lib.hid ht.off.size
   have CC := fun W (hW : Below wc.heap.size wc W) => (copy_later hq hW).mono (R' := fun e V => ∃ q' : Ev.EV, e = .returned q'.val ∧ Ev.EventIs V V.heap.size q' x ∧ Ev.Free V w.heap.size q'.adr q'.len ∧ Below wc.heap.size wc V) (fun e V ⟨q', a1, a2, a3, a4⟩ => ⟨q', a1, a2, a3.less HS2.out, a4⟩)
   clear HM HA HQ HT c0 c1 c2 f1 f2 hq0 hmm hm ht ha hq HS
   simp only [Ev.EV.val] at CC
   by_cases hk : x.kind = 2
   · have hk2 : ((q.kind : Int) == 2) = true := by rw [HK.out, hk]; rfl
     have HMB := Lib.hid (fun V (hV : Below wc.heap.size wc V) => (HM2.out.up hV).tomb.some_of)
     have HXC : Hid (∀ V, Below wc.heap.size wc V → V.cell? ⟨p, 2, none⟩ = some (.map (some b2)) ∧ V.cell? ⟨w.heap.size, 0, none⟩ = some (.int .u16 (q.dev : Int)) ∧ V.cell? ⟨w.heap.size, 1, none⟩ = some (.int .u64 (q.num : Int)) ∧ V.cell? ⟨w.heap.size, 2, none⟩ = some (.int .u8 (q.kind : Int)) ∧ V.cell? ⟨w.heap.size, 3, none⟩ = some (.int .u64 (q.cid : Int)) ∧ V.cell? ⟨w.heap.size, 4, none⟩ = some (.int .u8 (q.fld : Int)) ∧ V.cell? ⟨w.heap.size, 5, none⟩ = some (.string q.txt) ∧ V.cell? ⟨w.heap.size, 6, none⟩ = some (.slice q.adr q.len q.cap)) :=
       Lib.hid (fun V hV => ⟨(HM2.out.cells hV).2.2, ev_cells (HA2.out.below hV HA2.out.lt)⟩)
     obtain ⟨z0, q0, q1, q2, q3, q4, q5, q6⟩ := HXC.out wc (Below.refl _ _)
     go_wp2
     go_region_held3 (fun V => V.cell? ⟨p, 2, none⟩ = some (.map (some b2)) ∧ V.cell? ⟨w.heap.size, 0, none⟩ = some (.int .u16 (q.dev : Int)) ∧ V.cell? ⟨w.heap.size, 1, none⟩ = some (.int .u64 (q.num : Int)) ∧ V.cell? ⟨w.heap.size, 2, none⟩ = some (.int .u8 (q.kind : Int)) ∧ V.cell? ⟨w.heap.size, 3, none⟩ = some (.int .u64 (q.cid : Int)) ∧ V.cell? ⟨w.heap.size, 4, none⟩ = some (.int .u8 (q.fld : Int)) ∧ V.cell? ⟨w.heap.size, 5, none⟩ = some (.string q.txt) ∧ V.cell? ⟨w.heap.size, 6, none⟩ = some (.slice q.adr q.len q.cap)) (first | exact ⟨z0, q0, q1, q2, q3, q4, q5, q6⟩ | assumption | exact HXC.out _ (by (repeat (first | exact Below.refl _ _ | assumption | apply Ev.bel_drew)))) (first
       | (go_at_call 94; (with_reducible refine (CC _ ?_).mono ?_); (focus (repeat (first | exact Below.refl _ _ | assumption | apply Ev.bel_drew))); rintro r Va ⟨q', rfl, he, hfr, bva⟩; have hca := HXC.out Va bva; obtain ⟨w6, hrun6, hm6, hg6⟩ := run_putE (HMB.out Va bva) H2.out (Ev.is_dot he).symm HF.out.dot HX.out.symm; have HR := Lib.hid (keep_end2 HM2.out HT2.out bva he hfr hm6 hg6 hk); have hc6 := And.intro (spot_kept (HMB.out Va bva) hg6 hca.1) (box_kept (HMB.out Va bva) hg6 hca.2)))
     all_goals
       clear hca hc6 hm6 hg6 he hfr bva z0 q0 q1 q2 q3 q4 q5 q6
       go_wp2
       go_end0
       exact ⟨rfl, HR.out⟩
   · have hk2 : ((q.kind : Int) == 2) = false := by rw [HK.out, beq_eq_false_iff_ne]; omega
     have HMB := Lib.hid (fun V (hV : Below wc.heap.size wc V) => (HM2.out.up hV).live.some_of)
     have HXC : Hid (∀ V, Below wc.heap.size wc V → V.cell? ⟨p, 1, none⟩ = some (.map (some b1)) ∧ V.cell? ⟨w.heap.size, 0, none⟩ = some (.int .u16 (q.dev : Int)) ∧ V.cell? ⟨w.heap.size, 1, none⟩ = some (.int .u64 (q.num : Int)) ∧ V.cell? ⟨w.heap.size, 2, none⟩ = some (.int .u8 (q.kind : Int)) ∧ V.cell? ⟨w.heap.size, 3, none⟩ = some (.int .u64 (q.cid : Int)) ∧ V.cell? ⟨w.heap.size, 4, none⟩ = some (.int .u8 (q.fld : Int)) ∧ V.cell? ⟨w.heap.size, 5, none⟩ = some (.string q.txt) ∧ V.cell? ⟨w.heap.size, 6, none⟩ = some (.slice q.adr q.len q.cap)) :=
       Lib.hid (fun V hV => ⟨(HM2.out.cells hV).2.1, ev_cells (HA2.out.below hV HA2.out.lt)⟩)
     obtain ⟨z0, q0, q1, q2, q3, q4, q5, q6⟩ := HXC.out wc (Below.refl _ _)
     go_wp2
     go_region_held3 (fun V => V.cell? ⟨p, 1, none⟩ = some (.map (some b1)) ∧ V.cell? ⟨w.heap.size, 0, none⟩ = some (.int .u16 (q.dev : Int)) ∧ V.cell? ⟨w.heap.size, 1, none⟩ = some (.int .u64 (q.num : Int)) ∧ V.cell? ⟨w.heap.size, 2, none⟩ = some (.int .u8 (q.kind : Int)) ∧ V.cell? ⟨w.heap.size, 3, none⟩ = some (.int .u64 (q.cid : Int)) ∧ V.cell? ⟨w.heap.size, 4, none⟩ = some (.int .u8 (q.fld : Int)) ∧ V.cell? ⟨w.heap.size, 5, none⟩ = some (.string q.txt) ∧ V.cell? ⟨w.heap.size, 6, none⟩ = some (.slice q.adr q.len q.cap)) (first | exact ⟨z0, q0, q1, q2, q3, q4, q5, q6⟩ | assumption | exact HXC.out _ (by (repeat (first | exact Below.refl _ _ | assumption | apply Ev.bel_drew)))) (first
       | (go_at_call 94; (with_reducible refine (CC _ ?_).mono ?_); (focus (repeat (first | exact Below.refl _ _ | assumption | apply Ev.bel_drew))); rintro r Va ⟨q', rfl, he, hfr, bva⟩; have hca := HXC.out Va bva; obtain ⟨w6, hrun6, hm6, hg6⟩ := run_putE (HMB.out Va bva) H1.out (Ev.is_dot he).symm HF.out.dot HX.out.symm; have HR := Lib.hid (keep_end1 HM2.out HT2.out bva he hfr hm6 hg6 hk); have hc6 := And.intro (spot_kept (HMB.out Va bva) hg6 hca.1) (box_kept (HMB.out Va bva) hg6 hca.2)))
     all_goals
       clear hca hc6 hm6 hg6 he hfr bva z0 q0 q1 q2 q3 q4 q5 q6
       go_wp2
       go_end0
       exact ⟨rfl, HR.out⟩
end Go.Proofs.YtgaegfddobpomaaGreat.Bk

namespace Go.Proofs.YtgaegfddobpomaaGreat.Ev
open Go.ChangeShapes Go.WideShapes Go.ChangeAt Go.RowKit
set_option linter.unusedVariables false
set_option maxRecDepth 4000
def gath (l : List Evt) : List Dt.Dot := l.flatMap fun x => x.dot :: x.kills
theorem fold_gath (l : List Evt) : ∀ acc : List Dt.Dot, (gath l).foldl Dt.putD acc = l.foldl dotsOne acc := by
 induction l with
 | nil => intro acc; rfl
 | cons x l ih =>
   intro acc
   have e : gath (x :: l) = (x.dot :: x.kills) ++ gath l := rfl
   rw [e, List.foldl_append, ih]
   rfl
theorem gath_dots (l : List Evt) : Dt.sortD (gath l) = dotsE l := fold_gath l []
theorem gath_len (l : List Evt) : (gath l).length = manyE l := by
 induction l with
 | nil => rfl
 | cons x l ih =>
   have e : gath (x :: l) = (x.dot :: x.kills) ++ gath l := rfl
   have e2 : manyE (x :: l) = (x.kills.length + 1) + manyE l := rfl
   rw [e, e2, List.length_append, ih, List.length_cons]
theorem gath_next {l : List Evt} {k : Nat} {x : Evt} (h : l[k]? = some x) : gath (l.take (k + 1)) = gath (l.take k) ++ [x.dot] ++ x.kills := by
 rw [take_one h]
 unfold gath
 rw [List.flatMap_append]
 simp
theorem gath_most (l : List Evt) (k : Nat) : (gath (l.take k)).length ≤ manyE l := by
 rw [← gath_len l]
 conv => rhs; rw [← List.take_append_drop k l]
 unfold gath
 rw [List.flatMap_append, List.length_append]
 omega
theorem gath_fit {w : World} {B : Nat} {A : Option Addr} {l : List Evt} {n c : Nat} (h : EventsAt w B A l n c) : Dt.Fit (gath l) := fun r hr => by
 obtain ⟨x, hx, hr⟩ := List.mem_flatMap.1 hr
 obtain ⟨k, hk, rfl⟩ := List.getElem_of_mem hx
 obtain ⟨_, p, y, _, _, hy, hp, _⟩ := h.at_ (k := k) (by rw [← h.len]; exact hk)
 rw [List.getElem?_eq_getElem hk] at hy
 cases hy
 rcases List.mem_cons.1 hr with rfl | hr
 · exact hp.fits.dot
 · exact hp.kills.dots.1 r hr
theorem sortD_long (l : List Dt.Dot) : ∀ acc : List Dt.Dot, (l.foldl Dt.putD acc).length ≤ acc.length + l.length := by
 induction l with
 | nil => intro acc; simp
 | cons d l ih =>
   intro acc
   have h1 := ih (Dt.putD acc d)
   have h2 := Dt.put_length acc d
   rw [List.foldl_cons, List.length_cons]
   omega
set_option maxHeartbeats 8000000 in
theorem pdotsE_any (w : World) (A0 : Option Addr) (l : List Evt) (n c0 : Nat) (hl : EventsAt w w.heap.size A0 l n c0) (h43 : manyE l ≤ 8796093022208) :
   Calls Tryz.prog 48 #[.slice A0 n c0] w (OwnDots w (dotsE l)) := by
 have HL := Lib.hid hl
 have HM := Lib.hid (fun k => gath_most l k)
 have h63 : n ≤ 2199023255552 := hl.wide
 clear hl
 go_enter Tryz.func48, Tryz.ntmps48
 go_wp2_with fail
 go_loopw [3, 8] (fun v i wr => ∃ (k m : Nat) (A : Option Addr) (c : Nat), k ≤ n ∧ i = .int .i64 (k : Int) ∧ v = .slice A m c ∧ (gath (l.take k)).length = m ∧ wr.ownsRow w.heap.size 35 2 (.slice A m c) m (Dt.dv (gath (l.take k))) ∧ Below w.heap.size w wr) (fun _ i _ => n - (intOf i).toNat)
 case atStart => exact ⟨0, 0, none, 0, Nat.zero_le _, rfl, rfl, rfl, World.ownsRow_nil _ _ _ _, Below.refl _ _⟩
 case round =>
   obtain ⟨k, m, A, c, hk, rfl, rfl, hm, ho, hw⟩ := hrel
   have HO := Lib.hid ho
   have HW := Lib.hid hw
   have HML := Lib.hid hm
   have hmm := HM.out k
   rw [hm] at hmm
   clear hm
   by_cases hlt : k < n
   · obtain ⟨ad, p, x, rfl, hB, hly, hp, cp⟩ := HL.out.at_ hlt
     have cq := fun (a : Addr) (v : Value) (h : w.cell? a = some v) => (hw.cell (World.block_lt_of_cell? w _ h)).trans h
     have hz : (k : Int) < (n : Int) := by omega
     have hmany := HM.out (k + 1)
     have hnext := gath_next hly
     rw [hnext, List.length_append, List.length_append, HML.out, List.length_singleton, hp.kills.len] at hmany
     have HD := Lib.hid (is_dot hp)
     have HNX := Lib.hid hnext
     have HA := Lib.hid (bel_alloc p.box hw)
     have HB2 := Lib.hid (bel_alloc (.cells #[.int .u16 (p.dev : Int), .int .u64 (p.num : Int)] 35) HA.out)
     have hOB : (((wr.alloc p.box).alloc (.cells #[.int .u16 (p.dev : Int), .int .u64 (p.num : Int)] 35))).ownsRow w.heap.size 35 2 (.slice A m c) m (Dt.dv (gath (l.take k))) := (ho.alloc _).alloc _
     have hne : some wr.heap.size ≠ (Value.slice A m c).ownBlock := fun e => by have := (ho.lt wr.heap.size e.symm).2; omega
     have hb6 := (box_first wr p (.cells #[.int .u16 (p.dev : Int), .int .u64 (p.num : Int)] 35)).all
     have hb7 := (box_new wr p _ (Below.refl _ _)).all
     have hbx := fun (V3 : World) (hg : (((wr.alloc p.box).alloc (.cells #[.int .u16 (p.dev : Int), .int .u64 (p.num : Int)] 35))).grownBy V3 (Value.slice A m c).ownBlock) => hg.cell hb6.2.2.2.2.2.2 hne
     have hks := fun (V3 : World) (hb : Below w.heap.size w V3) => (hp.up hb).kills
     obtain ⟨p1, p2, p3, p4, p5, p6, pA, pn, pc⟩ := p
     simp only [EV.box] at HA HB2 hOB hb6 hb7 hbx
     obtain ⟨x0, x1, x2, x3, x4, x5, x6⟩ := cp
     have x0 := cq _ _ x0
     have x1 := cq _ _ x1
     have x2 := cq _ _ x2
     have x3 := cq _ _ x3
     have x4 := cq _ _ x4
     have x5 := cq _ _ x5
     have x6 := cq _ _ x6
     obtain ⟨b0, b1, b2, b3, b4, b5, b6⟩ := hb7
     have HOB := Lib.hid hOB
     have HBX := Lib.hid hbx
     have HKS := Lib.hid hks
     have HLIE : Hid (Dt.Lies ((wr.alloc (.cells #[.int .u16 (p1 : Int), .int .u64 (p2 : Int), .int .u8 (p3 : Int), .int .u64 (p4 : Int), .int .u8 (p5 : Int), .string p6, .slice pA pn pc] 38)).alloc (.cells #[.int .u16 (p1 : Int), .int .u64 (p2 : Int)] 35)) ((wr.alloc (.cells #[.int .u16 (p1 : Int), .int .u64 (p2 : Int), .int .u8 (p3 : Int), .int .u64 (p4 : Int), .int .u8 (p5 : Int), .string p6, .slice pA pn pc] 38)).alloc (.cells #[.int .u16 (p1 : Int), .int .u64 (p2 : Int)] 35)).heap.size (some ⟨wr.heap.size + 1, 0, none⟩) (Dt.dv [(p1, p2)])) := Lib.hid (by have h := Dt.lies_one (wr.alloc (.cells #[.int .u16 (p1 : Int), .int .u64 (p2 : Int), .int .u8 (p3 : Int), .int .u64 (p4 : Int), .int .u8 (p5 : Int), .string p6, .slice pA pn pc] 38)) (p1, p2); rw [show (wr.alloc (.cells #[.int .u16 (p1 : Int), .int .u64 (p2 : Int), .int .u8 (p3 : Int), .int .u64 (p4 : Int), .int .u8 (p5 : Int), .string p6, .slice pA pn pc] 38)).heap.size = wr.heap.size + 1 from alloc_size _ _] at h; exact h)
     simp only at HD HKS hmany
     clear hly hp cq hnext hOB hb6 hbx hks hne ho hw
     go_wp2_with (first
       | (at_builtin; refine Dt.wpList_any rfl (.tmp 12) (.tmp 15) rfl rfl _ w.heap.size m (.slice A m c) (gath (l.take k)) (some ⟨wr.heap.size + 1, 0, none⟩) [(p1, p2)] 1 1 rfl rfl HOB.out (fun h => by cases h) HLIE.out rfl (by omega) HB2.out.size ?_; intro A3 c3 V3 ho3 hg3; have HO3 := Lib.hid ho3; have y6 := HBX.out V3 hg3; have HW3 := Lib.hid (Dt.any_grown HOB.out HB2.out hg3); have HK3 := Lib.hid (HKS.out V3 HW3.out); clear ho3 hg3)
       | (at_builtin; refine Dt.wpList_any rfl (.tmp 17) (.tmp 19) rfl rfl _ w.heap.size (m + 1) (.slice A3 (m + 1) c3) (gath (l.take k) ++ [(p1, p2)]) pA x.kills pn pc rfl rfl HO3.out HK3.out.nil HK3.out.dots.2 HK3.out.len (by omega) HW3.out.size ?_; intro A4 c4 V4 ho4 hg4; have HO4 := Lib.hid ho4; have HW4 := Lib.hid (Dt.any_grown HO3.out HW3.out hg4); clear ho4 hg4))
     go_roundw
     case rel => exact ⟨k + 1, m + 1 + pn, A4, c4, by omega, by go_num, rfl, by rw [HNX.out, List.length_append, List.length_append, HML.out, List.length_singleton, HK3.out.len], by rw [HNX.out, HD.out]; exact HO4.out, HW4.out⟩
     case measure => simp [intOf]; omega
   · obtain rfl : k = n := by omega
     have e : l.take k = l := List.take_of_length_le (by rw [HL.out.len]; exact Nat.le_refl _)
     rw [e] at ho
     have hlen : (gath l).length = m := by rw [← HML.out, e]
     obtain ⟨h1, h2, h3⟩ := Dt.own_len ho
     have hfit := gath_fit HL.out
     have CC := Dt.psort_any wr A (gath l) m c hlen h3 (Dt.dots_own ho hfit) (by omega)
     rw [gath_dots] at CC
     have HF : Hid (Dt.Fit (dotsE l)) := Lib.hid (by rw [← gath_dots]; have := (Dt.sort_fit (gath l) hfit (gath l).length).1; rwa [List.take_length] at this)
     have hlong := sortD_long (gath l) []
     rw [show (gath l).foldl Dt.putD [] = dotsE l from gath_dots l] at hlong
     have HLONG : Hid ((dotsE l).length ≤ 8796093022208) := Lib.hid (by simp only [List.length_nil, Nat.zero_add] at hlong; omega)
     clear ho hw e hlen h1 h2 h3 hfit hlong
     go_wp2_with fail
     refine CC.mono ?_
     rintro e w4 ⟨A4, n4, c4, rfl, hn4, ho4, hb4⟩
     have HD4 := Lib.hid (own_dotsAt ho4 hn4 HF.out (by rw [← hn4]; exact HLONG.out))
     have HF4 := Lib.hid ((own_free ho4).less HW.out.size)
     have HW4 := Lib.hid (HW.out.trans (hb4.mono HW.out.size))
     clear CC ho4 hb4
     go_wp2
     go_ret
     exact ⟨A4, n4, c4, rfl, HD4.out, HF4.out, HW4.out⟩
theorem pfield_any (w : World) (f : Nat) (hf : f < 256) : Calls Tryz.prog 125 #[.int .u8 (f : Int)] w fun e w' => e = .returned (.bool (Fd.goodB f)) ∧ w' = w := by
 by_cases h1 : 1 ≤ f
 · have d1 : decide (1 ≤ (f : Int)) = true := decide_eq_true (by omega)
   have HR : Hid (Fd.goodB f = decide ((f : Int) ≤ 5)) := Lib.hid (by unfold Fd.goodB; rw [Bool.eq_iff_iff]; simp; omega)
   go_enter Tryz.func125, Tryz.ntmps125
   go_wp2
   all_goals
     go_ret
     exact ⟨ret_bool HR.out.symm, rfl⟩
 · have d1 : decide (1 ≤ (f : Int)) = false := decide_eq_false (by omega)
   have HR : Hid (Fd.goodB f = false) := Lib.hid (decide_eq_false (by omega))
   go_enter Tryz.func125, Tryz.ntmps125
   go_wp2
   all_goals
     go_ret
     exact ⟨ret_bool HR.out.symm, rfl⟩
set_option maxHeartbeats 8000000 in
theorem pkind_any (w : World) (p : EV) (hf5 : p.fld < 256) (hsh : Short p.txt) :
   Calls Tryz.prog 88 #[p.val] w fun e w' => e = .returned (.bool (headB p.kind p.fld p.txt)) ∧ Below w.heap.size w w' := by
 have HB := Lib.hid (below_new w p.box)
 have hb := (box_new w p _ (Below.refl _ _)).all
 have CF := fun W => pfield_any W p.fld hf5
 have CT := fun W => Fd.ptext_any p.txt W (by unfold Short at hsh; omega)
 have he := empty_text p.txt
 obtain ⟨p1, p2, p3, p4, p5, p6, A, n, c⟩ := p
 simp only [EV.val]
 simp only [EV.box] at HB hb
 simp only at CF CT he hf5 hsh
 obtain ⟨a0, a1, a2, a3, a4, a5, a6⟩ := hb
 by_cases k1 : p3 = 1
 · have hd : Hid (headB p3 p5 p6 = (Fd.goodB p5 && Fd.textB p6.data.toList)) := Lib.hid (by unfold headB; rw [if_pos k1])
   have hk : ((p3 : Int) == 1) = true := by rw [beq_iff_eq]; omega
   rw [hd.out]
   clear hd he k1
   generalize Fd.textB p6.data.toList = tb at CT ⊢
   generalize Fd.goodB p5 = gb at CF ⊢
   cases gb with
   | true =>
     go_enter Tryz.func88, Tryz.ntmps88
     go_wp2_with fail
     refine (CF _).mono ?_
     rintro e w1 ⟨rfl, rfl⟩
     go_wp2_with fail
     refine (CT _).mono ?_
     rintro e w2 ⟨rfl, rfl⟩
     clear CF CT
     go_wp2
     go_ret
     exact ⟨rfl, HB.out⟩
   | false =>
     go_enter Tryz.func88, Tryz.ntmps88
     go_wp2_with fail
     refine (CF _).mono ?_
     rintro e w1 ⟨rfl, rfl⟩
     clear CF CT
     go_wp2
     go_ret
     exact ⟨rfl, HB.out⟩
 · have e1 : ((p3 : Int) == 1) = false := by rw [beq_eq_false_iff_ne]; omega
   by_cases k2 : p3 = 2
   · have hd : Hid (headB p3 p5 p6 = (decide (p5 = 0) && decide (p6 = ⟨#[]⟩))) := Lib.hid (by unfold headB; rw [if_neg k1, if_pos k2])
     have hk : ((p3 : Int) == 2) = true := by rw [beq_iff_eq]; omega
     rw [hd.out]
     clear hd CF CT k1 k2
     by_cases h0 : p5 = 0
     · have e2 : ((p5 : Int) == 0) = true := by rw [beq_iff_eq]; omega
       rw [decide_eq_true h0]
       clear h0
       generalize decide (p6 = ⟨#[]⟩) = tb at he ⊢
       go_enter Tryz.func88, Tryz.ntmps88
       go_wp2
       go_ret
       exact ⟨rfl, HB.out⟩
     · have e2 : ((p5 : Int) == 0) = false := by rw [beq_eq_false_iff_ne]; omega
       rw [decide_eq_false h0]
       clear h0 he
       go_enter Tryz.func88, Tryz.ntmps88
       go_wp2
       go_ret
       exact ⟨rfl, HB.out⟩
   · have hd : Hid (headB p3 p5 p6 = false) := Lib.hid (by unfold headB; rw [if_neg k1, if_neg k2])
     have e2 : ((p3 : Int) == 2) = false := by rw [beq_eq_false_iff_ne]; omega
     rw [hd.out]
     clear hd CF CT k1 k2 he
     go_enter Tryz.func88, Tryz.ntmps88
     go_wp2
     go_ret
     exact ⟨rfl, HB.out⟩
def killsB (x : Evt) : Bool := decide (x.kills.length ≤ 256) && Dt.riseB x.kills && x.kills.all (fun d => !decide (d = x.dot) && Dt.mayD d)
def AllOk (e : Dt.Dot) (l : List Dt.Dot) (k : Nat) : Prop := (l.take k).all (fun d => !decide (d = e) && Dt.mayD d) = true
theorem ok_next {e x : Dt.Dot} {l : List Dt.Dot} {k : Nat} (h : AllOk e l k) (hx : l[k]? = some x) (h1 : x ≠ e) (h2 : Dt.mayD x = true) : AllOk e l (k + 1) := by
 unfold AllOk at *
 rw [List.take_add_one, hx, List.all_append, h]
 simp [h1, h2]
theorem ok_bad {e x : Dt.Dot} {l : List Dt.Dot} {k : Nat} (hx : l[k]? = some x) (h : x = e ∨ Dt.mayD x = false) : l.all (fun d => !decide (d = e) && Dt.mayD d) = false := by
 rw [List.all_eq_false]
 refine ⟨x, List.mem_of_getElem? hx, ?_⟩
 rcases h with h | h <;> simp [h]
theorem ok_done {e : Dt.Dot} {l : List Dt.Dot} {n : Nat} (hn : l.length = n) (h : AllOk e l n) : l.all (fun d => !decide (d = e) && Dt.mayD d) = true := by
 unfold AllOk at h
 rwa [List.take_of_length_le (by rw [hn]; exact Nat.le_refl _)] at h
theorem good_parts (x : Evt) : goodE x = ((Dt.unpackD x.cid).2 && Dt.mayD x.dot && headB x.kind x.fld x.txt && killsB x) := by
 unfold goodE killsB
 have e : x.kills.all (fun d => !decide (d = x.dot) && Dt.mayD d) = (x.kills.all Dt.mayD && !decide (x.dot ∈ x.kills)) := by
   rw [Bool.eq_iff_iff]
   simp only [List.all_eq_true, Bool.and_eq_true, Bool.not_eq_true', decide_eq_false_iff_not]
   constructor
   · intro h
     exact ⟨fun d hd => (h d hd).2, fun hm => (h _ hm).1 rfl⟩
   · rintro ⟨h1, h2⟩ d hd
     exact ⟨fun ee => h2 (ee ▸ hd), h1 d hd⟩
 rw [e]
 cases (Dt.unpackD x.cid).2 <;> cases Dt.mayD x.dot <;> cases headB x.kind x.fld x.txt <;> cases x.kills.all Dt.mayD <;> cases decide (x.kills.length ≤ 256) <;> cases Dt.riseB x.kills <;> cases decide (x.dot ∈ x.kills) <;> rfl
set_option maxHeartbeats 8000000 in
theorem pkillsB_any (w : World) (p : EV) (x : Evt) (h : EventIs w w.heap.size p x) :
   Calls Tryz.prog 89 #[p.val] w fun e w' => e = .returned (.bool (killsB x)) ∧ Below w.heap.size w w' := by
 have HK := Lib.hid (h.up (below_new w p.box)).kills
 have HB := Lib.hid (below_new w p.box)
 have hb := box_new w p _ (Below.refl _ _)
 have HX := Lib.hid (fun (V : World) (hV : Below (w.alloc p.box).heap.size (w.alloc p.box) V) => (hb.kept hV).all)
 have hdot := is_dot h
 have HE : Hid (killsB x = (decide (x.kills.length ≤ 256) && Dt.riseB x.kills && x.kills.all (fun d => !decide (d = (p.dev, p.num)) && Dt.mayD d))) := Lib.hid (by unfold killsB; rw [hdot])
 generalize killsB x = ans at HE ⊢
 have hn := h.kills.len
 generalize x.kills = l at HK HE hn
 have CR := Dt.prising_any (w.alloc p.box) p.adr l p.len p.cap HK.out.len HK.out.dots (Nat.le_trans HK.out.wide (by decide))
 have h63 := h.kills.wide
 clear h hb hdot
 obtain ⟨p1, p2, p3, p4, p5, p6, A, n, c⟩ := p
 simp only [EV.val]
 simp only [EV.box] at HB HX HK CR
 simp only at HE hn h63 CR
 obtain ⟨a0, a1, a2, a3, a4, a5, a6⟩ := HX.out _ (Below.refl _ _)
 have HN := Lib.hid hn
 by_cases h256 : n ≤ 256
 · have e1 : decide ((n : Int) > 256) = false := decide_eq_false (by omega)
   have e1' : ¬ (256 : Int) < (n : Int) := by omega
   have HE2 : Hid (ans = (Dt.riseB l && l.all (fun d => !decide (d = (p1, p2)) && Dt.mayD d))) := Lib.hid (by rw [HE.out, hn, decide_eq_true h256]; rfl)
   clear HE hn
   cases hr : Dt.riseB l with
   | false =>
     have hd : Hid (ans = false) := Lib.hid (by rw [HE2.out, hr]; rfl)
     rw [hr] at CR
     clear hr HE2
     go_enter Tryz.func89, Tryz.ntmps89
     go_wp2_with fail
     refine CR.mono ?_
     rintro e w1 ⟨rfl, hb1⟩
     have HW := Lib.hid (HB.out.trans (hb1.mono HB.out.size))
     clear hb1 CR a0 a1 a2 a3 a4 a5 a6
     go_wp2
     go_ret
     exact ⟨ret_bool hd.out.symm, HW.out⟩
   | true =>
     have HE3 : Hid (ans = l.all (fun d => !decide (d = (p1, p2)) && Dt.mayD d)) := Lib.hid (by rw [HE2.out, hr]; rfl)
     rw [hr] at CR
     clear hr HE2
     go_enter Tryz.func89, Tryz.ntmps89
     go_wp2_with fail
     refine CR.mono ?_
     rintro e w1 ⟨rfl, hb1⟩
     have HV1 := Lib.hid hb1
     clear a0 a1 a2 a3 a4 a5 a6
     obtain ⟨a0, a1, a2, a3, a4, a5, a6⟩ := HX.out _ hb1
     clear hb1 CR
     go_wp2
     clear a0 a1 a2 a3 a4 a5 a6
     go_loopw [18] (fun i wr => ∃ k : Nat, k ≤ n ∧ i = .int .i64 (k : Int) ∧ AllOk (p1, p2) l k ∧ Below (w.alloc (.cells #[.int .u16 (p1 : Int), .int .u64 (p2 : Int), .int .u8 (p3 : Int), .int .u64 (p4 : Int), .int .u8 (p5 : Int), .string p6, .slice A n c] 38)).heap.size (w.alloc (.cells #[.int .u16 (p1 : Int), .int .u64 (p2 : Int), .int .u8 (p3 : Int), .int .u64 (p4 : Int), .int .u8 (p5 : Int), .string p6, .slice A n c] 38)) wr) (fun i _ => n - (intOf i).toNat)
     case atStart => exact ⟨0, Nat.zero_le _, rfl, by simp [AllOk], HV1.out⟩
     case round =>
       obtain ⟨k, hk, rfl, hok, hw⟩ := hrel
       have HOK := Lib.hid hok
       have HW := Lib.hid hw
       by_cases hlt : k < n
       · obtain ⟨ad, d, rfl, hB, hld, hd1, hd2, hcs⟩ := HK.out.dots.cells (k := k) (by rw [HN.out]; exact hlt)
         obtain ⟨c0, c1⟩ := hcs wr hw
         have hw2 : Below (w.alloc (.cells #[.int .u16 (p1 : Int), .int .u64 (p2 : Int), .int .u8 (p3 : Int), .int .u64 (p4 : Int), .int .u8 (p5 : Int), .string p6, .slice (some ad) n c] 38)).heap.size (w.alloc (.cells #[.int .u16 (p1 : Int), .int .u64 (p2 : Int), .int .u8 (p3 : Int), .int .u64 (p4 : Int), .int .u8 (p5 : Int), .string p6, .slice (some ad) n c] 38)) (wr.alloc (.cells #[.int .u16 (d.1 : Int), .int .u64 (d.2 : Int)] 35)) := hw.alloc hw.size _
         have HW2 := Lib.hid hw2
         clear hw2
         obtain ⟨a0, a1, a2, a3, a4, a5, a6⟩ := HX.out _ HW2.out
         have b0 : (wr.alloc (.cells #[.int .u16 (d.1 : Int), .int .u64 (d.2 : Int)] 35)).cell? ⟨wr.heap.size, 0, none⟩ = some (.int .u16 (d.1 : Int)) := by simp [go_sem]
         have b1 : (wr.alloc (.cells #[.int .u16 (d.1 : Int), .int .u64 (d.2 : Int)] 35)).cell? ⟨wr.heap.size, 1, none⟩ = some (.int .u64 (d.2 : Int)) := by simp [go_sem]
         have CG := Dt.pgood_any (wr.alloc (.cells #[.int .u16 (d.1 : Int), .int .u64 (d.2 : Int)] 35)) d.1 d.2
         have HLD := Lib.hid hld
         clear hld hcs hw hok hd1 hd2
         obtain ⟨d1, d2⟩ := d
         simp only at c0 c1 b0 b1 CG HW2 HLD a0 a1 a2 a3 a4 a5 a6
         have hz : (k : Int) < (n : Int) := by omega
         by_cases hsame : d1 = p1 ∧ d2 = p2
         · obtain ⟨rfl, rfl⟩ := hsame
           have hd : Hid (ans = false) := Lib.hid (by rw [HE3.out]; exact ok_bad HLD.out (.inl rfl))
           clear CG
           go_wp2
           go_ret
           exact ⟨ret_bool hd.out.symm, HB.out.trans (HW2.out.mono HB.out.size)⟩
         · have hne : ((d1 : Int) == (p1 : Int)) = false ∨ (d1 = p1 ∧ ((d2 : Int) == (p2 : Int)) = false) := by
             by_cases e : d1 = p1
             · refine .inr ⟨e, ?_⟩; rw [beq_eq_false_iff_ne]; intro e2; exact hsame ⟨e, by omega⟩
             · refine .inl ?_; rw [beq_eq_false_iff_ne]; omega
           cases hm : Dt.mayD (d1, d2) with
           | false =>
             have hd : Hid (ans = false) := Lib.hid (by rw [HE3.out]; exact ok_bad HLD.out (.inr hm))
             rw [hm] at CG
             clear hm hsame
             rcases hne with q | ⟨rfl, q⟩
             all_goals
               go_wp2_with fail
               refine CG.mono ?_
               rintro e w3 ⟨rfl, hb3⟩
               have HW3 := Lib.hid (HW2.out.trans (hb3.mono HW2.out.size))
               clear hb3 CG a0 a1 a2 a3 a4 a5 a6 b0 b1 c0 c1
               go_wp2
               go_ret
               exact ⟨ret_bool hd.out.symm, HB.out.trans (HW3.out.mono HB.out.size)⟩
           | true =>
             have HO2 := Lib.hid (ok_next HOK.out HLD.out (fun e => hsame (by injection e with e1 e2; exact ⟨e1, e2⟩)) hm)
             rw [hm] at CG
             clear hm hsame
             rcases hne with q | ⟨rfl, q⟩
             all_goals
               go_wp2_with fail
               refine CG.mono ?_
               rintro e w3 ⟨rfl, hb3⟩
               have HW3 := Lib.hid (HW2.out.trans (hb3.mono HW2.out.size))
               clear hb3 CG a0 a1 a2 a3 a4 a5 a6 b0 b1 c0 c1
               go_wp2
               go_roundw
               case rel => exact ⟨k + 1, by omega, by go_num, HO2.out, HW3.out⟩
               case measure => simp [intOf]; omega
       · obtain rfl : k = n := by omega
         have hd : Hid (ans = true) := Lib.hid (by rw [HE3.out]; exact ok_done HN.out HOK.out)
         clear hok hw
         go_wp2
         go_ret
         exact ⟨ret_bool hd.out.symm, HB.out.trans (HW.out.mono HB.out.size)⟩
 · have e1 : decide ((n : Int) > 256) = true := decide_eq_true (by omega)
   have e1' : (256 : Int) < (n : Int) := by omega
   have hd : Hid (ans = false) := Lib.hid (by rw [HE.out, hn, decide_eq_false h256]; rfl)
   clear HE CR h256
   go_enter Tryz.func89, Tryz.ntmps89
   go_wp2
   go_ret
   exact ⟨ret_bool hd.out.symm, HB.out⟩
set_option maxHeartbeats 8000000 in
theorem pgoodE_any (w : World) (p : EV) (x : Evt) (h : EventIs w w.heap.size p x) :
   Calls Tryz.prog 45 #[p.val] w fun e w' => e = .returned (.bool (goodE x)) ∧ Below w.heap.size w w' := by
 have HB := Lib.hid (below_new w p.box)
 have hb := box_new w p _ (Below.refl _ _)
 have HX := Lib.hid (fun (V : World) (hV : Below (w.alloc p.box).heap.size (w.alloc p.box) V) => (hb.kept hV).all)
 have HE := Lib.hid (h.up (below_new w p.box))
 have CU := fun W => Dt.punpack_any W p.cid (by rw [h.cid]; exact h.fits.cid)
 have CG := fun W => Dt.pgood_any W p.dev p.num
 have CK := fun W => pkind_any W p (by rw [h.fld]; exact h.fits.fld) (by rw [h.txt]; exact h.fits.txt)
 have CL := fun (W : World) (hW : Below (w.alloc p.box).heap.size (w.alloc p.box) W) => pkillsB_any W p x (HE.out.up hW)
 have hg : goodE x = ((Dt.unpackD p.cid).2 && Dt.mayD (p.dev, p.num) && headB p.kind p.fld p.txt && killsB x) := by rw [good_parts, h.cid, is_dot h, h.kind, h.fld, h.txt]
 rw [hg]
 clear hg h hb HE
 obtain ⟨p1, p2, p3, p4, p5, p6, A, n, c⟩ := p
 simp only [EV.val] at CK CL ⊢
 simp only [EV.box] at HB HX CL
 simp only at CU CG CK
 obtain ⟨a0, a1, a2, a3, a4, a5, a6⟩ := HX.out _ (Below.refl _ _)
 generalize (Dt.unpackD p4).1.1 = d1 at CU
 generalize (Dt.unpackD p4).1.2 = d2 at CU
 generalize (Dt.unpackD p4).2 = b1 at CU ⊢
 generalize Dt.mayD (p1, p2) = b2 at CG ⊢
 generalize headB p3 p5 p6 = b3 at CK ⊢
 generalize killsB x = b4 at CL ⊢
 cases b1 with
 | false =>
   go_enter Tryz.func45, Tryz.ntmps45
   go_wp2_with fail
   refine (CU _).mono ?_
   rintro e w1 ⟨rfl, hb1⟩
   have HV1 := Lib.hid (bel_alloc (.cells #[.int .u16 (d1 : Int), .int .u64 (d2 : Int)] 35) hb1)
   clear hb1 CU a0 a1 a2 a3 a4 a5 a6
   obtain ⟨a0, a1, a2, a3, a4, a5, a6⟩ := HX.out _ HV1.out
   go_wp2
   go_ret
   exact ⟨rfl, HB.out.trans (HV1.out.mono HB.out.size)⟩
 | true =>
   cases b2 with
   | false =>
     go_enter Tryz.func45, Tryz.ntmps45
     go_wp2_with fail
     refine (CU _).mono ?_
     rintro e w1 ⟨rfl, hb1⟩
     have HV1 := Lib.hid (bel_alloc (.cells #[.int .u16 (d1 : Int), .int .u64 (d2 : Int)] 35) hb1)
     clear hb1 CU a0 a1 a2 a3 a4 a5 a6
     obtain ⟨a0, a1, a2, a3, a4, a5, a6⟩ := HX.out _ HV1.out
     go_wp2_with fail
     refine (CG _).mono ?_
     rintro e w3 ⟨rfl, hb2⟩
     have HV3 := Lib.hid (HV1.out.trans (hb2.mono HV1.out.size))
     clear hb2 a0 a1 a2 a3 a4 a5 a6
     obtain ⟨a0, a1, a2, a3, a4, a5, a6⟩ := HX.out _ HV3.out
     go_wp2
     go_ret
     exact ⟨rfl, HB.out.trans (HV3.out.mono HB.out.size)⟩
   | true =>
     cases b3 with
     | false =>
       go_enter Tryz.func45, Tryz.ntmps45
       go_wp2_with fail
       refine (CU _).mono ?_
       rintro e w1 ⟨rfl, hb1⟩
       have HV1 := Lib.hid (bel_alloc (.cells #[.int .u16 (d1 : Int), .int .u64 (d2 : Int)] 35) hb1)
       clear hb1 CU a0 a1 a2 a3 a4 a5 a6
       obtain ⟨a0, a1, a2, a3, a4, a5, a6⟩ := HX.out _ HV1.out
       go_wp2_with fail
       refine (CG _).mono ?_
       rintro e w3 ⟨rfl, hb2⟩
       have HV3 := Lib.hid (HV1.out.trans (hb2.mono HV1.out.size))
       clear hb2 a0 a1 a2 a3 a4 a5 a6
       obtain ⟨a0, a1, a2, a3, a4, a5, a6⟩ := HX.out _ HV3.out
       go_wp2_with fail
       refine (CK _).mono ?_
       rintro e w4 ⟨rfl, hb2⟩
       have HV4 := Lib.hid (HV3.out.trans (hb2.mono HV3.out.size))
       clear hb2 a0 a1 a2 a3 a4 a5 a6
       obtain ⟨a0, a1, a2, a3, a4, a5, a6⟩ := HX.out _ HV4.out
       go_wp2
       go_ret
       exact ⟨rfl, HB.out.trans (HV4.out.mono HB.out.size)⟩
     | true =>
       go_enter Tryz.func45, Tryz.ntmps45
       go_wp2_with fail
       refine (CU _).mono ?_
       rintro e w1 ⟨rfl, hb1⟩
       have HV1 := Lib.hid (bel_alloc (.cells #[.int .u16 (d1 : Int), .int .u64 (d2 : Int)] 35) hb1)
       clear hb1 CU a0 a1 a2 a3 a4 a5 a6
       obtain ⟨a0, a1, a2, a3, a4, a5, a6⟩ := HX.out _ HV1.out
       go_wp2_with fail
       refine (CG _).mono ?_
       rintro e w3 ⟨rfl, hb2⟩
       have HV3 := Lib.hid (HV1.out.trans (hb2.mono HV1.out.size))
       clear hb2 a0 a1 a2 a3 a4 a5 a6
       obtain ⟨a0, a1, a2, a3, a4, a5, a6⟩ := HX.out _ HV3.out
       go_wp2_with fail
       refine (CK _).mono ?_
       rintro e w4 ⟨rfl, hb2⟩
       have HV4 := Lib.hid (HV3.out.trans (hb2.mono HV3.out.size))
       clear hb2 a0 a1 a2 a3 a4 a5 a6
       obtain ⟨a0, a1, a2, a3, a4, a5, a6⟩ := HX.out _ HV4.out
       go_wp2_with fail
       refine (CL _ HV4.out).mono ?_
       rintro e w5 ⟨rfl, hb2⟩
       have HV5 := Lib.hid (HV4.out.trans (hb2.mono HV4.out.size))
       clear hb2 a0 a1 a2 a3 a4 a5 a6
       obtain ⟨a0, a1, a2, a3, a4, a5, a6⟩ := HX.out _ HV5.out
       go_wp2
       go_ret
       exact ⟨rfl, HB.out.trans (HV5.out.mono HB.out.size)⟩
end Go.Proofs.YtgaegfddobpomaaGreat.Ev
