/- Words and contracts that the proofs of this seat stand on, part 35 of 39. -/
import Derived.Test.YtgaegfddobpomaaGreatOrW
import Derived.Test.YtgaegfddobpomaaGreatOrO
import Derived.Test.YtgaegfddobpomaaGreatOrBH
import Derived.Test.YtgaegfddobpomaaGreatOrBB
import Derived.Deep.DeepCutAuto

namespace Go.Proofs.YtgaegfddobpomaaGreat.Bk
open Go.ChangeShapes Go.WideShapes Go.ChangeAt Go.RowKit Go.Proofs.YtgaegfddobpomaaGreat.Kl
set_option linter.unusedVariables false
set_option maxRecDepth 4000
theorem perm_of {l m : List Ev.Evt} (hl : l.Nodup) (hm : m.Nodup) (h : ∀ y, y ∈ l ↔ y ∈ m) : l.Perm m := (List.perm_ext_iff_of_nodup hl hm).2 h
theorem ord_nodup {l : List Ev.Evt} (h : Ev.OrdE l) : l.Nodup := List.Pairwise.imp (fun {a b : Ev.Evt} (h : Dt.aheadD a.dot b.dot = true) (e : a = b) => Ev.ahead_ne h (congrArg Ev.Evt.dot e)) h
def butL (ks : List Dt.Dot) (L : List Ev.EV) : List Ev.EV := L.filter fun q => !decide (dotV q ∈ ks)
theorem butL_nil (L : List Ev.EV) : butL [] L = L := by
 unfold butL
 rw [List.filter_eq_self]
 intro q _
 simp
theorem but_butL (d : Dt.Dot) (ks : List Dt.Dot) (L : List Ev.EV) : but d (butL ks L) = butL (ks ++ [d]) L := by
 unfold but butL
 rw [List.filter_filter]
 refine List.filter_congr (fun q _ => ?_)
 by_cases h1 : dotV q = d
 · simp [h1]
 · simp [h1]
theorem butL_len (ks : List Dt.Dot) (L : List Ev.EV) : (butL ks L).length ≤ L.length := List.length_filter_le _ _
def killsN (ks : List Dt.Dot) (y : Ev.Evt) : Bool := !decide (y.dot ∈ ks)
def dotN (d : Dt.Dot) (y : Ev.Evt) : Bool := decide (y.dot ≠ d)
theorem match_butL {w : World} {B : Nat} {L : List Ev.EV} {l : List Ev.Evt} (ks : List Dt.Dot) (h : Ev.Match w B L l) : Ev.Match w B (butL ks L) (l.filter (killsN ks)) :=
 match_some (fun p x hx => by unfold killsN; rw [Ev.is_dot hx]) h
theorem match_but {w : World} {B : Nat} {L : List Ev.EV} {l : List Ev.Evt} (d : Dt.Dot) (h : Ev.Match w B L l) : Ev.Match w B (but d L) (l.filter (dotN d)) :=
 match_some (fun p x hx => by unfold dotN; rw [Ev.is_dot hx]) h
theorem put_members {S : Bt} {x : Ev.Evt} (hl : Leg S) (hs : Cx.hasC S.1 x.dot = false) (y : Ev.Evt) : y ∈ Ev.putE (S.2.filter (leftB x)) x ↔ (y ∈ S.2 ∧ leftB x y = true) ∨ y = x := by
 rw [Ev.put_mem, List.mem_filter]
 constructor
 · rintro (h | ⟨_, h⟩)
   · exact .inl h
   · exact .inr h
 · rintro (h | h)
   · exact .inl h
   · refine .inr ⟨fun z hz e => ?_, h⟩
     have h1 := hl.seen z (List.mem_filter.1 hz).1 z.dot (.inl rfl)
     rw [e, hs] at h1
     cases h1
theorem put_ordS {S : Bt} {x : Ev.Evt} (hl : Leg S) : Ev.OrdE (Ev.putE (S.2.filter (leftB x)) x) := Ev.put_ord x (ord_some hl.rise _)
theorem not_dot {S : Bt} {x y : Ev.Evt} (hl : Leg S) (hs : Cx.hasC S.1 x.dot = false) (hy : y ∈ S.2) : y.dot ≠ x.dot := fun e => by
 have h1 := hl.seen y hy y.dot (.inl rfl)
 rw [e, hs] at h1
 cases h1
theorem left_kind {x y : Ev.Evt} (hk : y.kind = 1) : leftB x y = killsN x.kills y := by
 unfold leftB killsN
 rw [hk]
 simp
theorem left_tomb {x y : Ev.Evt} (hk : y.kind = 2) : leftB x y = true := by
 unfold leftB
 rw [hk]
 simp
theorem live_put1 {S : Bt} {x : Ev.Evt} (hl : Leg S) (hs : Cx.hasC S.1 x.dot = false) (hk : x.kind = 1) :
   (x :: ((S.2.filter (kindB 1)).filter (killsN x.kills)).filter (dotN x.dot)).Perm ((Ev.putE (S.2.filter (leftB x)) x).filter (kindB 1)) := by
 refine perm_of (List.nodup_cons.2 ⟨fun h => ?_, ((ord_nodup hl.rise).filter _ |>.filter _).filter _⟩) ((ord_nodup (put_ordS hl)).filter _) (fun y => ?_)
 · have := (List.mem_filter.1 h).2
   simp [dotN] at this
 · rw [List.mem_cons, List.mem_filter, List.mem_filter, List.mem_filter, List.mem_filter, put_members hl hs]
   unfold kindB dotN
   constructor
   · rintro (rfl | ⟨⟨⟨h1, h2⟩, h3⟩, h4⟩)
     · exact ⟨.inr rfl, decide_eq_true hk⟩
     · exact ⟨.inl ⟨h1, by rw [left_kind (of_decide_eq_true h2)]; exact h3⟩, h2⟩
   · rintro ⟨⟨h1, h2⟩ | rfl, h3⟩
     · exact .inr ⟨⟨⟨h1, h3⟩, by rw [← left_kind (of_decide_eq_true h3)]; exact h2⟩, decide_eq_true (not_dot hl hs h1)⟩
     · exact .inl rfl
theorem tomb_put1 {S : Bt} {x : Ev.Evt} (hl : Leg S) (hs : Cx.hasC S.1 x.dot = false) (hk : x.kind = 1) :
   (S.2.filter (kindB 2)).Perm ((Ev.putE (S.2.filter (leftB x)) x).filter (kindB 2)) := by
 refine perm_of ((ord_nodup hl.rise).filter _) ((ord_nodup (put_ordS hl)).filter _) (fun y => ?_)
 rw [List.mem_filter, List.mem_filter, put_members hl hs]
 unfold kindB
 constructor
 · rintro ⟨h1, h2⟩
   exact ⟨.inl ⟨h1, left_tomb (of_decide_eq_true h2)⟩, h2⟩
 · rintro ⟨⟨h1, h2⟩ | rfl, h3⟩
   · exact ⟨h1, h3⟩
   · have := of_decide_eq_true h3
     omega
theorem live_put2 {S : Bt} {x : Ev.Evt} (hl : Leg S) (hs : Cx.hasC S.1 x.dot = false) (hk : x.kind = 2) :
   ((S.2.filter (kindB 1)).filter (killsN x.kills)).Perm ((Ev.putE (S.2.filter (leftB x)) x).filter (kindB 1)) := by
 refine perm_of (((ord_nodup hl.rise).filter _).filter _) ((ord_nodup (put_ordS hl)).filter _) (fun y => ?_)
 rw [List.mem_filter, List.mem_filter, List.mem_filter, put_members hl hs]
 unfold kindB
 constructor
 · rintro ⟨⟨h1, h2⟩, h3⟩
   exact ⟨.inl ⟨h1, by rw [left_kind (of_decide_eq_true h2)]; exact h3⟩, h2⟩
 · rintro ⟨⟨h1, h2⟩ | rfl, h3⟩
   · exact ⟨⟨h1, h3⟩, by rw [← left_kind (of_decide_eq_true h3)]; exact h2⟩
   · have := of_decide_eq_true h3
     omega
theorem tomb_put2 {S : Bt} {x : Ev.Evt} (hl : Leg S) (hs : Cx.hasC S.1 x.dot = false) (hk : x.kind = 2) :
   (x :: (S.2.filter (kindB 2)).filter (dotN x.dot)).Perm ((Ev.putE (S.2.filter (leftB x)) x).filter (kindB 2)) := by
 refine perm_of (List.nodup_cons.2 ⟨fun h => ?_, ((ord_nodup hl.rise).filter _).filter _⟩) ((ord_nodup (put_ordS hl)).filter _) (fun y => ?_)
 · have := (List.mem_filter.1 h).2
   simp [dotN] at this
 · rw [List.mem_cons, List.mem_filter, List.mem_filter, List.mem_filter, put_members hl hs]
   unfold kindB dotN
   constructor
   · rintro (rfl | ⟨⟨h1, h2⟩, h3⟩)
     · exact ⟨.inr rfl, decide_eq_true hk⟩
     · exact ⟨.inl ⟨h1, left_tomb (of_decide_eq_true h2)⟩, h2⟩
   · rintro ⟨⟨h1, h2⟩ | rfl, h3⟩
     · exact .inr ⟨⟨h1, h3⟩, decide_eq_true (not_dot hl hs h1)⟩
     · exact .inl rfl
theorem put_end {w w4 w' : World} {p : Nat} {A A' : Option Addr} {n k n' k' : Nat} {m1 m2 m1' m2' : Option Nat} {L1 L2 : List Ev.EV} {q q' : Ev.EV} {x : Ev.Evt} {S : Bt} (h : BkIs w p A n k m1 m2 L1 L2 S) (hq : Ev.EventIs w w.heap.size q x) (hg : Ev.goodE x = true) (hs : Cx.hasC S.1 x.dot = false)
   (h4 : Below w.heap.size w w4) (hc : Cx.CtxAt w4 A' (Cx.setC S.1 (Cx.ofC (Ev.dotsE [x])) 0) n' k') (ht4 : Turns w4 p m1 m2 m1' m2' w')
   (hm : BkMem w' p A' n' k' m1' m2' (if x.kind = 2 then butL x.kills L1 else q' :: but x.dot (butL x.kills L1)) (if x.kind = 2 then q' :: but x.dot L2 else L2)) (he : Ev.EventIs w' w'.heap.size q' x) : Goes w p m1 m2 (putB S x).1 w' := by
 have hT := (Turns.below (p := p) (m1 := m1) (m2 := m2) h4).trans ht4
 have hM1 := match_off h.mem.nonum hT.off h.liveM
 have hM2 := match_off h.mem.nonum hT.off h.tombM
 have hC := ctx_off (h.mem.up h4).nonum ht4.off hc
 have hL := leg_put h.leg hq
 have e : (putB S x).1 = (Cx.setC S.1 (Cx.ofC (Ev.dotsE [x])) 0, Ev.putE (S.2.filter (leftB x)) x) := by
   unfold putB
   rw [hg, hs]
   rfl
 rw [e] at hL ⊢
 rcases kind_good hg with hk | hk
 · rw [if_neg (by omega), if_neg (by omega)] at hm
   obtain ⟨qs, p1, p2⟩ := match_perm (live_put1 h.leg hs hk) (match_cons.2 ⟨he, match_but x.dot (match_butL x.kills hM1)⟩)
   obtain ⟨rs, p3, p4⟩ := match_perm (tomb_put1 h.leg hs hk) hM2
   exact ⟨A', n', k', m1', m2', qs, rs, ⟨⟨hm.at_, hm.live.perm p1, hm.tomb.perm p3, hm.both, hm.apart⟩, hL, hC, p2, p4⟩, hT⟩
 · rw [if_pos hk, if_pos hk] at hm
   obtain ⟨qs, p1, p2⟩ := match_perm (live_put2 h.leg hs hk) (match_butL x.kills hM1)
   obtain ⟨rs, p3, p4⟩ := match_perm (tomb_put2 h.leg hs hk) (match_cons.2 ⟨he, match_but x.dot hM2⟩)
   exact ⟨A', n', k', m1', m2', qs, rs, ⟨⟨hm.at_, hm.live.perm p1, hm.tomb.perm p3, hm.both, hm.apart⟩, hL, hC, p2, p4⟩, hT⟩
end Go.Proofs.YtgaegfddobpomaaGreat.Bk

namespace Go.Proofs.YtgaegfddobpomaaGreat.Bk
open Go.ChangeShapes Go.WideShapes Go.ChangeAt Go.RowKit Go.Proofs.YtgaegfddobpomaaGreat.Kl Go.Maps
set_option linter.unusedVariables false
set_option maxRecDepth 4000
def KeepPost (w : World) (p : Nat) (A : Option Addr) (n k : Nat) (m1 m2 : Option Nat) (L1 L2 : List Ev.EV) (x : Ev.Evt) (w' : World) : Prop :=
 ∃ (q' : Ev.EV) (m1' m2' : Option Nat), BkMem w' p A n k m1' m2' (if x.kind = 2 then L1 else q' :: but x.dot L1) (if x.kind = 2 then q' :: but x.dot L2 else L2) ∧ Turns w p m1 m2 m1' m2' w' ∧ Ev.EventIs w' w'.heap.size q' x ∧ Ev.Free w' w.heap.size q'.adr q'.len
theorem copy_later {w W : World} {q : Ev.EV} {x : Ev.Evt} (h : Ev.EventIs w w.heap.size q x) (hW : Below w.heap.size w W) :
   Calls Tryz.prog 94 #[q.val] W fun e V => ∃ q' : Ev.EV, e = .returned q'.val ∧ Ev.EventIs V V.heap.size q' x ∧ Ev.Free V w.heap.size q'.adr q'.len ∧ Below w.heap.size w V :=
 (Ev.pcopy_any W q x (h.up hW)).mono fun e V ⟨q', h1, h2, h3, h4⟩ => ⟨q', h1, h2, h3.less hW.size, hW.trans (h4.mono hW.size)⟩
theorem evt_grown {w W : World} {b : Nat} {L : List Ev.EV} (h : MapE w b L) (hg : w.grownBy W (some b)) {q : Ev.EV} {x : Ev.Evt} (hq : Ev.EventIs w w.heap.size q x) : Ev.EventIs W W.heap.size q x :=
 evt_off (F := (· = b)) (fun k hk i u hu => absurd (hk ▸ hu) (h.nocell i u)) (off_grown hg) hq
theorem free_grown {w W : World} {b B n : Nat} {L : List Ev.EV} {A : Option Addr} {l : List Dt.Dot} {c : Nat} (h : MapE w b L) (hg : w.grownBy W (some b)) (hd : Ev.DotsAt w w.heap.size A l n c) (hf : Ev.Free w B A n) : Ev.Free W B A n := fun j hj => by
 obtain ⟨ad, h1, h2, h3, h4⟩ := hf j hj
 obtain ⟨ad', h5, h6, h7⟩ := hd.dots.2 (by rw [Dt.dv_length]; have := hd.len; omega)
 rw [h1] at h5
 cases h5
 have hne : ad.block ≠ b := fun e => by
   have h8 : w.cell? (ad.add 0) ≠ none := by
     rw [h7 0 _ (List.getElem?_eq_getElem (by rw [Dt.dv_length]; have := hd.len; omega))]
     exact fun e => (by cases e)
   refine h8 ?_
   cases hc : w.cell? (ad.add 0) with
   | none => rfl
   | some u =>
     have h9 := cell_spot hc
     rw [h9, Dt.block_add, e] at hc
     exact absurd hc (h.nocell _ u)
 have hfz : ∀ i, W.frozen? (ad.add i) = w.frozen? (ad.add i) := fun i => World.frozen?_of_block (hg.block _ (by rw [Dt.block_add]; exact h6) (by rw [Dt.block_add]; exact fun e => hne (Option.some.inj e)))
 exact ⟨ad, h1, h2, by rw [hfz]; exact h3, by rw [hfz]; exact h4⟩
theorem keep_start {w : World} {p g : Nat} {A : Option Addr} {n k : Nat} {L1 L2 : List Ev.EV} {T : TypeId} {cs : Array Value} {q : Ev.EV} {x : Ev.Evt} (h : BkMem w p A n k none none L1 L2) (ha : At w g T cs) (hg : g ≠ p) (hq : Ev.EventIs w w.heap.size q x) :
   BkMem ((((w.alloc (.map #[] 0)).alloc (.map #[] 0)).setCell ⟨p, 1, none⟩ (.map (some w.heap.size))).setCell ⟨p, 2, none⟩ (.map (some (w.heap.size + 1)))) p A n k (some w.heap.size) (some (w.heap.size + 1)) L1 L2 ∧
   Turns w p none none (some w.heap.size) (some (w.heap.size + 1)) ((((w.alloc (.map #[] 0)).alloc (.map #[] 0)).setCell ⟨p, 1, none⟩ (.map (some w.heap.size))).setCell ⟨p, 2, none⟩ (.map (some (w.heap.size + 1)))) ∧
   At ((((w.alloc (.map #[] 0)).alloc (.map #[] 0)).setCell ⟨p, 1, none⟩ (.map (some w.heap.size))).setCell ⟨p, 2, none⟩ (.map (some (w.heap.size + 1)))) g T cs ∧
   Ev.EventIs ((((w.alloc (.map #[] 0)).alloc (.map #[] 0)).setCell ⟨p, 1, none⟩ (.map (some w.heap.size))).setCell ⟨p, 2, none⟩ (.map (some (w.heap.size + 1)))) ((((w.alloc (.map #[] 0)).alloc (.map #[] 0)).setCell ⟨p, 1, none⟩ (.map (some w.heap.size))).setCell ⟨p, 2, none⟩ (.map (some (w.heap.size + 1)))).heap.size q x := by
 have hb := Ev.below_new2 w (.map #[] 0) (.map #[] 0)
 have hm := h.up hb
 have e1 : MapE ((w.alloc (.map #[] 0)).alloc (.map #[] 0)) w.heap.size [] := (mapE_new w).up (Ev.below_new _ _)
 have e2 : MapE ((w.alloc (.map #[] 0)).alloc (.map #[] 0)) (w.heap.size + 1) [] := by have := mapE_new (w.alloc (.map #[] 0)); rwa [Ev.alloc_size] at this
 have hl1 : L1 = [] := by rcases h.live with ⟨_, h1⟩ | ⟨b, h1, _⟩; exact h1; cases h1
 have hl2 : L2 = [] := by rcases h.tomb with ⟨_, h1⟩ | ⟨b, h1, _⟩; exact h1; cases h1
 subst hl1 hl2
 have ha2 := ha.below hb ha.lt
 have hq2 := hq.up hb
 have hp := h.at_.lt
 generalize (w.alloc (.map #[] 0)).alloc (.map #[] 0) = W at *
 have ho : Off (· = p) W ((W.setCell ⟨p, 1, none⟩ (.map (some w.heap.size))).setCell ⟨p, 2, none⟩ (.map (some (w.heap.size + 1)))) := (off_set W p 1 _).trans (off_set _ p 2 _)
 have hat : At ((W.setCell ⟨p, 1, none⟩ (.map (some w.heap.size))).setCell ⟨p, 2, none⟩ (.map (some (w.heap.size + 1)))) p 84 #[.slice A n k, .map (some w.heap.size), .map (some (w.heap.size + 1))] := (hm.at_.set 1 _).set 2 _
 refine ⟨⟨hat, .some_ (e1.at_block (ho.block _ e1.lt (by omega))), .some_ (e2.at_block (ho.block _ e2.lt (by omega))), ⟨(fun e => by cases e), (fun e => by cases e)⟩, fun b e1 e2 => by cases e1; simp at e2⟩, ⟨fun b hb2 => ?_, ?_⟩, (ho.block g ha2.lt hg).trans ha2, ?_⟩
 · rcases hb2 with rfl | hb2 | hb2
   · exact .inl (.inl rfl)
   · cases hb2; exact .inr (Nat.le_refl _)
   · cases hb2; exact .inr (Nat.le_succ _)
 · exact (off_of (Own p none none) hb).trans (ho.more (fun b _ e => .inl e))
 · exact evt_off (F := (· = p)) (fun b hb2 i u hu => hm.nonum b (.inl hb2) i u hu) ho hq2
theorem keep_end2 {w wc V W : World} {p : Nat} {A : Option Addr} {n k b1 b2 : Nat} {m1 m2 : Option Nat} {L1 L2 : List Ev.EV} {x : Ev.Evt} {q' : Ev.EV} (hm : BkMem wc p A n k (some b1) (some b2) L1 L2) (ht : Turns w p m1 m2 (some b1) (some b2) wc) (hV : Below wc.heap.size wc V)
   (he : Ev.EventIs V V.heap.size q' x) (hf : Ev.Free V w.heap.size q'.adr q'.len) (h6 : MapE W b2 (q' :: but x.dot L2)) (hg : V.grownBy W (some b2)) (hk : x.kind = 2) : KeepPost w p A n k m1 m2 L1 L2 x W := by
 have hmV := hm.up hV
 have hne := hmV.ne
 refine ⟨q', some b1, some b2, ?_, (ht.trans (Turns.below hV)).trans (Turns.grown2 rfl hg), evt_grown hmV.tomb.some_of hg he, free_grown hmV.tomb.some_of hg he.kills hf⟩
 rw [if_pos hk, if_pos hk]
 exact ⟨(hg.block p hmV.at_.lt (fun e => hne.2 e.symm)).trans hmV.at_, .some_ (hmV.live.some_of.kept hg (fun e => hm.apart b1 rfl e.symm)), .some_ h6, hm.both, hm.apart⟩
theorem keep_end1 {w wc V W : World} {p : Nat} {A : Option Addr} {n k b1 b2 : Nat} {m1 m2 : Option Nat} {L1 L2 : List Ev.EV} {x : Ev.Evt} {q' : Ev.EV} (hm : BkMem wc p A n k (some b1) (some b2) L1 L2) (ht : Turns w p m1 m2 (some b1) (some b2) wc) (hV : Below wc.heap.size wc V)
   (he : Ev.EventIs V V.heap.size q' x) (hf : Ev.Free V w.heap.size q'.adr q'.len) (h6 : MapE W b1 (q' :: but x.dot L1)) (hg : V.grownBy W (some b1)) (hk : ¬ x.kind = 2) : KeepPost w p A n k m1 m2 L1 L2 x W := by
 have hmV := hm.up hV
 have hne := hmV.ne
 refine ⟨q', some b1, some b2, ?_, (ht.trans (Turns.below hV)).trans (Turns.grown1 rfl hg), evt_grown hmV.live.some_of hg he, free_grown hmV.live.some_of hg he.kills hf⟩
 rw [if_neg hk, if_neg hk]
 exact ⟨(hg.block p hmV.at_.lt (fun e => hne.1 e.symm)).trans hmV.at_, .some_ h6, .some_ (hmV.tomb.some_of.kept hg (fun e => hm.apart b1 rfl e)), hm.both, hm.apart⟩
theorem box_kept {W V : World} {g b : Nat} {q : Ev.EV} {L : List Ev.EV} (hM : MapE V b L) (hg : V.grownBy W (some b)) (h : V.cell? ⟨g, 0, none⟩ = some (.int .u16 (q.dev : Int)) ∧ V.cell? ⟨g, 1, none⟩ = some (.int .u64 (q.num : Int)) ∧ V.cell? ⟨g, 2, none⟩ = some (.int .u8 (q.kind : Int)) ∧ V.cell? ⟨g, 3, none⟩ = some (.int .u64 (q.cid : Int)) ∧ V.cell? ⟨g, 4, none⟩ = some (.int .u8 (q.fld : Int)) ∧ V.cell? ⟨g, 5, none⟩ = some (.string q.txt) ∧ V.cell? ⟨g, 6, none⟩ = some (.slice q.adr q.len q.cap)) :
   W.cell? ⟨g, 0, none⟩ = some (.int .u16 (q.dev : Int)) ∧ W.cell? ⟨g, 1, none⟩ = some (.int .u64 (q.num : Int)) ∧ W.cell? ⟨g, 2, none⟩ = some (.int .u8 (q.kind : Int)) ∧ W.cell? ⟨g, 3, none⟩ = some (.int .u64 (q.cid : Int)) ∧ W.cell? ⟨g, 4, none⟩ = some (.int .u8 (q.fld : Int)) ∧ W.cell? ⟨g, 5, none⟩ = some (.string q.txt) ∧ W.cell? ⟨g, 6, none⟩ = some (.slice q.adr q.len q.cap) := by
 have hne : some g ≠ some b := fun e => by cases e; exact hM.nocell _ _ h.1
 exact ⟨hg.cell h.1 hne, hg.cell h.2.1 hne, hg.cell h.2.2.1 hne, hg.cell h.2.2.2.1 hne, hg.cell h.2.2.2.2.1 hne, hg.cell h.2.2.2.2.2.1 hne, hg.cell h.2.2.2.2.2.2 hne⟩
theorem spot_kept {W V : World} {p b i : Nat} {u : Value} {L : List Ev.EV} (hM : MapE V b L) (hg : V.grownBy W (some b)) (h : V.cell? ⟨p, i, none⟩ = some u) : W.cell? ⟨p, i, none⟩ = some u := by
 have hne : some p ≠ some b := fun e => by cases e; exact hM.nocell _ _ h
 exact hg.cell h hne
set_option maxHeartbeats 8000000 in
theorem pkeepb_any (w : World) (p : Nat) (A : Option Addr) (n k : Nat) (m1 m2 : Option Nat) (L1 L2 : List Ev.EV) (q : Ev.EV) (x : Ev.Evt) (h : BkMem w p A n k m1 m2 L1 L2) (hq : Ev.EventIs w w.heap.size q x) (h1 : L1.length ≤ 1024) (h2 : L2.length ≤ 1024) :
   Calls Tryz.prog 49 #[.pointer (some ⟨p, 0, none⟩), q.val] w fun e w' => e = .returned (.tuple #[]) ∧ KeepPost w p A n k m1 m2 L1 L2 x w' := by
 have hbx := Ev.below_new w q.box
 have HA := Lib.hid (At.new w 38 (ebox q))
 have HM := Lib.hid (h.up hbx)
 have HQ := Lib.hid (hq.up hbx)
 have HT := Lib.hid (Turns.below (p := p) (m1 := m1) (m2 := m2) hbx)
 have HX := Lib.hid (show dotV q = x.dot from (Ev.is_dot hq).symm)
 have HF := Lib.hid hq.fits
 have HK := Lib.hid hq.kind
 have HS : Hid (w.heap.size < (w.alloc q.box).heap.size) := Lib.hid (by rw [Ev.alloc_size]; exact Nat.lt_succ_self _)
 have H1 := Lib.hid (Nat.le_trans h1 (show 1024 ≤ 8796093022208 by decide))
 have H2 := Lib.hid (Nat.le_trans h2 (show 1024 ≤ 8796093022208 by decide))
 have hq0 := fun W => eql_none W m1
 have hmm := @run_makeMap Tryz.prog
 obtain ⟨c0, c1, c2⟩ := (h.up hbx).cells (Below.refl _ _)
 have f1 := (h.up hbx).frozen (Below.refl _ _) 1
 have f2 := (h.up hbx).frozen (Below.refl _ _) 2
 have hpg : p ≠ w.heap.size := fun e => by have := h.at_.lt; omega
 have HP := Lib.hid hpg
 simp only [ebox, Ev.EV.box] at HA HM HQ HT HS c0 c1 c2 f1 f2
 simp only [Ev.EV.val]
 clear hbx h hq h1 h2 hpg
 go_enter Tryz.func49, Tryz.ntmps49
 go_upto_if 8 with fail
 generalize w.alloc (.cells #[.int .u16 (q.dev : Int), .int .u64 (q.num : Int), .int .u8 (q.kind : Int), .int .u64 (q.cid : Int), .int .u8 (q.fld : Int), .string q.txt, .slice q.adr q.len q.cap] 38) = w1 at *
 go_cut [] (fun wx => ∃ b1 b2, BkMem wx p A n k (some b1) (some b2) L1 L2 ∧ Turns w p m1 m2 (some b1) (some b2) wx ∧ At wx w.heap.size 38 #[.int .u16 (q.dev : Int), .int .u64 (q.num : Int), .int .u8 (q.kind : Int), .int .u64 (q.cid : Int), .int .u8 (q.fld : Int), .string q.txt, .slice q.adr q.len q.cap] ∧ Ev.EventIs wx wx.heap.size q x)
 case first =>
   cases m1 with
   | some b1 =>
     cases m2 with
     | none => exact absurd (HM.out.both.2 rfl) (by simp)
     | some b2 =>
       go_wp2
       go_meet
       exact ⟨b1, b2, HM.out, HT.out, HA.out, HQ.out⟩
   | none =>
     obtain rfl : m2 = none := HM.out.both.1 rfl
     obtain ⟨d0, d1, d2⟩ := HM.out.cells (Ev.below_new2 w1 (.map #[] 0) (.map #[] 0))
     have g1 := HM.out.frozen (Ev.below_new2 w1 (.map #[] 0) (.map #[] 0)) 1
     have g2 := HM.out.frozen (Ev.below_new2 w1 (.map #[] 0) (.map #[] 0)) 2
     have HK2 := Lib.hid (keep_start HM.out HA.out (Ne.symm HP.out) HQ.out)
     go_wp2
     go_meet
     obtain ⟨k1, k2, k3, k4⟩ := HK2.out
     exact ⟨_, _, k1, HT.out.trans k2, k3, k4⟩
 case rest =>
   obtain ⟨b1, b2, hm, ht, ha, hq⟩ := hcut
   have HM2 := Lib.hid hm
   have HT2 := Lib.hid ht
   have HA2 := Lib.hid ha
   have HS2 : Hid (w.heap.size ≤ wc.heap.size) := Lib.hid ht.off.size
   have CC := fun W (hW : Below wc.heap.size wc W) => (copy_later hq hW).mono (R' := fun e V => ∃ q' : Ev.EV, e = .returned q'.val ∧ Ev.EventIs V V.heap.size q' x ∧ Ev.Free V w.heap.size q'.adr q'.len ∧ Below wc.heap.size wc V) (fun e V ⟨q', a1, a2, a3, a4⟩ => ⟨q', a1, a2, a3.less HS2.out, a4⟩)
   clear HM HA HQ HT c0 c1 c2 f1 f2 hq0 hmm hm ht ha hq HS
   simp only [Ev.EV.val] at CC
   by_cases hk : x.kind = 2
   · have hk2 : ((q.kind : Int) == 2) = true := by rw [HK.out, hk]; rfl
     have HMB := Lib.hid (fun V (hV : Below wc.heap.size wc V) => (HM2.out.up hV).tomb.some_of)
     have HXC : Hid (∀ V, Below wc.heap.size wc V → V.cell? ⟨p, 2, none⟩ = some (.map (some b2)) ∧ V.cell? ⟨w.heap.size, 0, none⟩ = some (.int .u16 (q.dev : Int)) ∧ V.cell? ⟨w.heap.size, 1, none⟩ = some (.int .u64 (q.num : Int)) ∧ V.cell? ⟨w.heap.size, 2, none⟩ = some (.int .u8 (q.kind : Int)) ∧ V.cell? ⟨w.heap.size, 3, none⟩ = some (.int .u64 (q.cid : Int)) ∧ V.cell? ⟨w.heap.size, 4, none⟩ = some (.int .u8 (q.fld : Int)) ∧ V.cell? ⟨w.heap.size, 5, none⟩ = some (.string q.txt) ∧ V.cell? ⟨w.heap.size, 6, none⟩ = some (.slice q.adr q.len q.cap)) :=
       Lib.hid (fun V hV => ⟨(HM2.out.cells hV).2.2, ev_cells (HA2.out.below hV HA2.out.lt)⟩)
     obtain ⟨z0, q0, q1, q2, q3, q4, q5, q6⟩ := HXC.out wc (Below.refl _ _)
     go_wp2
     go_region_held3 (fun V => V.cell? ⟨p, 2, none⟩ = some (.map (some b2)) ∧ V.cell? ⟨w.heap.size, 0, none⟩ = some (.int .u16 (q.dev : Int)) ∧ V.cell? ⟨w.heap.size, 1, none⟩ = some (.int .u64 (q.num : Int)) ∧ V.cell? ⟨w.heap.size, 2, none⟩ = some (.int .u8 (q.kind : Int)) ∧ V.cell? ⟨w.heap.size, 3, none⟩ = some (.int .u64 (q.cid : Int)) ∧ V.cell? ⟨w.heap.size, 4, none⟩ = some (.int .u8 (q.fld : Int)) ∧ V.cell? ⟨w.heap.size, 5, none⟩ = some (.string q.txt) ∧ V.cell? ⟨w.heap.size, 6, none⟩ = some (.slice q.adr q.len q.cap)) (first | exact ⟨z0, q0, q1, q2, q3, q4, q5, q6⟩ | assumption | exact HXC.out _ (by (repeat (first | exact Below.refl _ _ | assumption | apply Ev.bel_drew)))) (first
       | (go_at_call 94; (with_reducible refine (CC _ ?_).mono ?_); (focus (repeat (first | exact Below.refl _ _ | assumption | apply Ev.bel_drew))); rintro r Va ⟨q', rfl, he, hfr, bva⟩; have hca := HXC.out Va bva; obtain ⟨w6, hrun6, hm6, hg6⟩ := run_putE (HMB.out Va bva) H2.out (Ev.is_dot he).symm HF.out.dot HX.out.symm; have HR := Lib.hid (keep_end2 HM2.out HT2.out bva he hfr hm6 hg6 hk); have hc6 := And.intro (spot_kept (HMB.out Va bva) hg6 hca.1) (box_kept (HMB.out Va bva) hg6 hca.2)))
     all_goals
       clear hca hc6 hm6 hg6 he hfr bva z0 q0 q1 q2 q3 q4 q5 q6
       go_wp2
       go_end0
       exact ⟨rfl, HR.out⟩
   · have hk2 : ((q.kind : Int) == 2) = false := by rw [HK.out, beq_eq_false_iff_ne]; omega
     have HMB := Lib.hid (fun V (hV : Below wc.heap.size wc V) => (HM2.out.up hV).live.some_of)
     have HXC : Hid (∀ V, Below wc.heap.size wc V → V.cell? ⟨p, 1, none⟩ = some (.map (some b1)) ∧ V.cell? ⟨w.heap.size, 0, none⟩ = some (.int .u16 (q.dev : Int)) ∧ V.cell? ⟨w.heap.size, 1, none⟩ = some (.int .u64 (q.num : Int)) ∧ V.cell? ⟨w.heap.size, 2, none⟩ = some (.int .u8 (q.kind : Int)) ∧ V.cell? ⟨w.heap.size, 3, none⟩ = some (.int .u64 (q.cid : Int)) ∧ V.cell? ⟨w.heap.size, 4, none⟩ = some (.int .u8 (q.fld : Int)) ∧ V.cell? ⟨w.heap.size, 5, none⟩ = some (.string q.txt) ∧ V.cell? ⟨w.heap.size, 6, none⟩ = some (.slice q.adr q.len q.cap)) :=
       Lib.hid (fun V hV => ⟨(HM2.out.cells hV).2.1, ev_cells (HA2.out.below hV HA2.out.lt)⟩)
     obtain ⟨z0, q0, q1, q2, q3, q4, q5, q6⟩ := HXC.out wc (Below.refl _ _)
     go_wp2
     go_region_held3 (fun V => V.cell? ⟨p, 1, none⟩ = some (.map (some b1)) ∧ V.cell? ⟨w.heap.size, 0, none⟩ = some (.int .u16 (q.dev : Int)) ∧ V.cell? ⟨w.heap.size, 1, none⟩ = some (.int .u64 (q.num : Int)) ∧ V.cell? ⟨w.heap.size, 2, none⟩ = some (.int .u8 (q.kind : Int)) ∧ V.cell? ⟨w.heap.size, 3, none⟩ = some (.int .u64 (q.cid : Int)) ∧ V.cell? ⟨w.heap.size, 4, none⟩ = some (.int .u8 (q.fld : Int)) ∧ V.cell? ⟨w.heap.size, 5, none⟩ = some (.string q.txt) ∧ V.cell? ⟨w.heap.size, 6, none⟩ = some (.slice q.adr q.len q.cap)) (first | exact ⟨z0, q0, q1, q2, q3, q4, q5, q6⟩ | assumption | exact HXC.out _ (by (repeat (first | exact Below.refl _ _ | assumption | apply Ev.bel_drew)))) (first
       | (go_at_call 94; (with_reducible refine (CC _ ?_).mono ?_); (focus (repeat (first | exact Below.refl _ _ | assumption | apply Ev.bel_drew))); rintro r Va ⟨q', rfl, he, hfr, bva⟩; have hca := HXC.out Va bva; obtain ⟨w6, hrun6, hm6, hg6⟩ := run_putE (HMB.out Va bva) H1.out (Ev.is_dot he).symm HF.out.dot HX.out.symm; have HR := Lib.hid (keep_end1 HM2.out HT2.out bva he hfr hm6 hg6 hk); have hc6 := And.intro (spot_kept (HMB.out Va bva) hg6 hca.1) (box_kept (HMB.out Va bva) hg6 hca.2)))
     all_goals
       clear hca hc6 hm6 hg6 he hfr bva z0 q0 q1 q2 q3 q4 q5 q6
       go_wp2
       go_end0
       exact ⟨rfl, HR.out⟩
end Go.Proofs.YtgaegfddobpomaaGreat.Bk

namespace Go.Proofs.YtgaegfddobpomaaGreat.Ev
open Go.ChangeShapes Go.WideShapes Go.ChangeAt Go.RowKit
set_option linter.unusedVariables false
set_option maxRecDepth 4000
def gath (l : List Evt) : List Dt.Dot := l.flatMap fun x => x.dot :: x.kills
theorem fold_gath (l : List Evt) : ∀ acc : List Dt.Dot, (gath l).foldl Dt.putD acc = l.foldl dotsOne acc := by
 induction l with
 | nil => intro acc; rfl
 | cons x l ih =>
   intro acc
   have e : gath (x :: l) = (x.dot :: x.kills) ++ gath l := rfl
   rw [e, List.foldl_append, ih]
   rfl
theorem gath_dots (l : List Evt) : Dt.sortD (gath l) = dotsE l := fold_gath l []
theorem gath_len (l : List Evt) : (gath l).length = manyE l := by
 induction l with
 | nil => rfl
 | cons x l ih =>
   have e : gath (x :: l) = (x.dot :: x.kills) ++ gath l := rfl
   have e2 : manyE (x :: l) = (x.kills.length + 1) + manyE l := rfl
   rw [e, e2, List.length_append, ih, List.length_cons]
theorem gath_next {l : List Evt} {k : Nat} {x : Evt} (h : l[k]? = some x) : gath (l.take (k + 1)) = gath (l.take k) ++ [x.dot] ++ x.kills := by
 rw [take_one h]
 unfold gath
 rw [List.flatMap_append]
 simp
theorem gath_most (l : List Evt) (k : Nat) : (gath (l.take k)).length ≤ manyE l := by
 rw [← gath_len l]
 conv => rhs; rw [← List.take_append_drop k l]
 unfold gath
 rw [List.flatMap_append, List.length_append]
 omega
theorem gath_fit {w : World} {B : Nat} {A : Option Addr} {l : List Evt} {n c : Nat} (h : EventsAt w B A l n c) : Dt.Fit (gath l) := fun r hr => by
 obtain ⟨x, hx, hr⟩ := List.mem_flatMap.1 hr
 obtain ⟨k, hk, rfl⟩ := List.getElem_of_mem hx
 obtain ⟨_, p, y, _, _, hy, hp, _⟩ := h.at_ (k := k) (by rw [← h.len]; exact hk)
 rw [List.getElem?_eq_getElem hk] at hy
 cases hy
 rcases List.mem_cons.1 hr with rfl | hr
 · exact hp.fits.dot
 · exact hp.kills.dots.1 r hr
theorem sortD_long (l : List Dt.Dot) : ∀ acc : List Dt.Dot, (l.foldl Dt.putD acc).length ≤ acc.length + l.length := by
 induction l with
 | nil => intro acc; simp
 | cons d l ih =>
   intro acc
   have h1 := ih (Dt.putD acc d)
   have h2 := Dt.put_length acc d
   rw [List.foldl_cons, List.length_cons]
   omega
set_option maxHeartbeats 8000000 in
theorem pdotsE_any (w : World) (A0 : Option Addr) (l : List Evt) (n c0 : Nat) (hl : EventsAt w w.heap.size A0 l n c0) (h43 : manyE l ≤ 8796093022208) :
   Calls Tryz.prog 48 #[.slice A0 n c0] w (OwnDots w (dotsE l)) := by
 have HL := Lib.hid hl
 have HM := Lib.hid (fun k => gath_most l k)
 have h63 : n ≤ 2199023255552 := hl.wide
 clear hl
 go_enter Tryz.func48, Tryz.ntmps48
 go_wp2_with fail
 go_loopw [3, 8] (fun v i wr => ∃ (k m : Nat) (A : Option Addr) (c : Nat), k ≤ n ∧ i = .int .i64 (k : Int) ∧ v = .slice A m c ∧ (gath (l.take k)).length = m ∧ wr.ownsRow w.heap.size 35 2 (.slice A m c) m (Dt.dv (gath (l.take k))) ∧ Below w.heap.size w wr) (fun _ i _ => n - (intOf i).toNat)
 case atStart => exact ⟨0, 0, none, 0, Nat.zero_le _, rfl, rfl, rfl, World.ownsRow_nil _ _ _ _, Below.refl _ _⟩
 case round =>
   obtain ⟨k, m, A, c, hk, rfl, rfl, hm, ho, hw⟩ := hrel
   have HO := Lib.hid ho
   have HW := Lib.hid hw
   have HML := Lib.hid hm
   have hmm := HM.out k
   rw [hm] at hmm
   clear hm
   by_cases hlt : k < n
   · obtain ⟨ad, p, x, rfl, hB, hly, hp, cp⟩ := HL.out.at_ hlt
     have cq := fun (a : Addr) (v : Value) (h : w.cell? a = some v) => (hw.cell (World.block_lt_of_cell? w _ h)).trans h
     have hz : (k : Int) < (n : Int) := by omega
     have hmany := HM.out (k + 1)
     have hnext := gath_next hly
     rw [hnext, List.length_append, List.length_append, HML.out, List.length_singleton, hp.kills.len] at hmany
     have HD := Lib.hid (is_dot hp)
     have HNX := Lib.hid hnext
     have HA := Lib.hid (bel_alloc p.box hw)
     have HB2 := Lib.hid (bel_alloc (.cells #[.int .u16 (p.dev : Int), .int .u64 (p.num : Int)] 35) HA.out)
     have hOB : (((wr.alloc p.box).alloc (.cells #[.int .u16 (p.dev : Int), .int .u64 (p.num : Int)] 35))).ownsRow w.heap.size 35 2 (.slice A m c) m (Dt.dv (gath (l.take k))) := (ho.alloc _).alloc _
     have hne : some wr.heap.size ≠ (Value.slice A m c).ownBlock := fun e => by have := (ho.lt wr.heap.size e.symm).2; omega
     have hb6 := (box_first wr p (.cells #[.int .u16 (p.dev : Int), .int .u64 (p.num : Int)] 35)).all
     have hb7 := (box_new wr p _ (Below.refl _ _)).all
     have hbx := fun (V3 : World) (hg : (((wr.alloc p.box).alloc (.cells #[.int .u16 (p.dev : Int), .int .u64 (p.num : Int)] 35))).grownBy V3 (Value.slice A m c).ownBlock) => hg.cell hb6.2.2.2.2.2.2 hne
     have hks := fun (V3 : World) (hb : Below w.heap.size w V3) => (hp.up hb).kills
     obtain ⟨p1, p2, p3, p4, p5, p6, pA, pn, pc⟩ := p
     simp only [EV.box] at HA HB2 hOB hb6 hb7 hbx
     obtain ⟨x0, x1, x2, x3, x4, x5, x6⟩ := cp
     have x0 := cq _ _ x0
     have x1 := cq _ _ x1
     have x2 := cq _ _ x2
     have x3 := cq _ _ x3
     have x4 := cq _ _ x4
     have x5 := cq _ _ x5
     have x6 := cq _ _ x6
     obtain ⟨b0, b1, b2, b3, b4, b5, b6⟩ := hb7
     have HOB := Lib.hid hOB
     have HBX := Lib.hid hbx
     have HKS := Lib.hid hks
     have HLIE : Hid (Dt.Lies ((wr.alloc (.cells #[.int .u16 (p1 : Int), .int .u64 (p2 : Int), .int .u8 (p3 : Int), .int .u64 (p4 : Int), .int .u8 (p5 : Int), .string p6, .slice pA pn pc] 38)).alloc (.cells #[.int .u16 (p1 : Int), .int .u64 (p2 : Int)] 35)) ((wr.alloc (.cells #[.int .u16 (p1 : Int), .int .u64 (p2 : Int), .int .u8 (p3 : Int), .int .u64 (p4 : Int), .int .u8 (p5 : Int), .string p6, .slice pA pn pc] 38)).alloc (.cells #[.int .u16 (p1 : Int), .int .u64 (p2 : Int)] 35)).heap.size (some ⟨wr.heap.size + 1, 0, none⟩) (Dt.dv [(p1, p2)])) := Lib.hid (by have h := Dt.lies_one (wr.alloc (.cells #[.int .u16 (p1 : Int), .int .u64 (p2 : Int), .int .u8 (p3 : Int), .int .u64 (p4 : Int), .int .u8 (p5 : Int), .string p6, .slice pA pn pc] 38)) (p1, p2); rw [show (wr.alloc (.cells #[.int .u16 (p1 : Int), .int .u64 (p2 : Int), .int .u8 (p3 : Int), .int .u64 (p4 : Int), .int .u8 (p5 : Int), .string p6, .slice pA pn pc] 38)).heap.size = wr.heap.size + 1 from alloc_size _ _] at h; exact h)
     simp only at HD HKS hmany
     clear hly hp cq hnext hOB hb6 hbx hks hne ho hw
     go_wp2_with (first
       | (at_builtin; refine Dt.wpList_any rfl (.tmp 12) (.tmp 15) rfl rfl _ w.heap.size m (.slice A m c) (gath (l.take k)) (some ⟨wr.heap.size + 1, 0, none⟩) [(p1, p2)] 1 1 rfl rfl HOB.out (fun h => by cases h) HLIE.out rfl (by omega) HB2.out.size ?_; intro A3 c3 V3 ho3 hg3; have HO3 := Lib.hid ho3; have y6 := HBX.out V3 hg3; have HW3 := Lib.hid (Dt.any_grown HOB.out HB2.out hg3); have HK3 := Lib.hid (HKS.out V3 HW3.out); clear ho3 hg3)
       | (at_builtin; refine Dt.wpList_any rfl (.tmp 17) (.tmp 19) rfl rfl _ w.heap.size (m + 1) (.slice A3 (m + 1) c3) (gath (l.take k) ++ [(p1, p2)]) pA x.kills pn pc rfl rfl HO3.out HK3.out.nil HK3.out.dots.2 HK3.out.len (by omega) HW3.out.size ?_; intro A4 c4 V4 ho4 hg4; have HO4 := Lib.hid ho4; have HW4 := Lib.hid (Dt.any_grown HO3.out HW3.out hg4); clear ho4 hg4))
     go_roundw
     case rel => exact ⟨k + 1, m + 1 + pn, A4, c4, by omega, by go_num, rfl, by rw [HNX.out, List.length_append, List.length_append, HML.out, List.length_singleton, HK3.out.len], by rw [HNX.out, HD.out]; exact HO4.out, HW4.out⟩
     case measure => simp [intOf]; omega
   · obtain rfl : k = n := by omega
     have e : l.take k = l := List.take_of_length_le (by rw [HL.out.len]; exact Nat.le_refl _)
     rw [e] at ho
     have hlen : (gath l).length = m := by rw [← HML.out, e]
     obtain ⟨h1, h2, h3⟩ := Dt.own_len ho
     have hfit := gath_fit HL.out
     have CC := Dt.psort_any wr A (gath l) m c hlen h3 (Dt.dots_own ho hfit) (by omega)
     rw [gath_dots] at CC
     have HF : Hid (Dt.Fit (dotsE l)) := Lib.hid (by rw [← gath_dots]; have := (Dt.sort_fit (gath l) hfit (gath l).length).1; rwa [List.take_length] at this)
     have hlong := sortD_long (gath l) []
     rw [show (gath l).foldl Dt.putD [] = dotsE l from gath_dots l] at hlong
     have HLONG : Hid ((dotsE l).length ≤ 8796093022208) := Lib.hid (by simp only [List.length_nil, Nat.zero_add] at hlong; omega)
     clear ho hw e hlen h1 h2 h3 hfit hlong
     go_wp2_with fail
     refine CC.mono ?_
     rintro e w4 ⟨A4, n4, c4, rfl, hn4, ho4, hb4⟩
     have HD4 := Lib.hid (own_dotsAt ho4 hn4 HF.out (by rw [← hn4]; exact HLONG.out))
     have HF4 := Lib.hid ((own_free ho4).less HW.out.size)
     have HW4 := Lib.hid (HW.out.trans (hb4.mono HW.out.size))
     clear CC ho4 hb4
     go_wp2
     go_ret
     exact ⟨A4, n4, c4, rfl, HD4.out, HF4.out, HW4.out⟩
end Go.Proofs.YtgaegfddobpomaaGreat.Ev
