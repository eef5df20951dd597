/- Words and contracts that the proofs of this seat stand on, part 38 of 39. -/
import Derived.Test.YtgaegfddobpomaaGreatOrBK
import Derived.Test.YtgaegfddobpomaaGreatOrBI
import Derived.Test.YtgaegfddobpomaaGreatOrBH
import Derived.Test.YtgaegfddobpomaaGreatOrBJ
import Derived.Test.YtgaegfddobpomaaGreatOrN

namespace Go.Proofs.YtgaegfddobpomaaGreat.Kl
open Go.ChangeShapes Go.WideShapes Go.ChangeAt Go.RowKit
set_option linter.unusedVariables false
set_option maxRecDepth 4000
theorem many_few {l : List Ev.Evt} (h : ∀ x ∈ l, x.kills.length ≤ 1024) : Ev.manyE l ≤ l.length * 1025 := by
 unfold Ev.manyE
 induction l with
 | nil => simp
 | cons x l ih =>
   have h1 := h x (List.mem_cons_self ..)
   have h2 := ih (fun y hy => h y (List.mem_cons_of_mem _ hy))
   simp only [List.map_cons, List.sum_cons, List.length_cons]
   omega
theorem free_far {w : World} {B B' n : Nat} {A : Option Addr} (h : Ev.Free w B A n) (hB : B' ≤ B) : 0 < n → ∀ ad : Addr, A = some ad → B' ≤ ad.block := fun h0 ad e => by
 obtain ⟨a2, e2, hb, _⟩ := h 0 h0
 rw [e] at e2
 cases e2
 omega
theorem row_of {w : World} {B n c : Nat} {A : Option Addr} {ps : List Ev.EV} (hn : ps.length = n) (h : w.ownsRow B 38 7 (.slice A n c) n (Ev.ev ps)) :
   (A = none ∧ n = 0 ∧ c = 0 ∧ ps = []) ∨ ∃ g : Nat, A = some ⟨g, 0, none⟩ ∧ B ≤ g ∧ n ≤ c ∧ c ≤ 9223372036854775807 ∧ Ev.RowE w g ps := by
 rcases h.2 with ⟨e0, h0⟩ | ⟨g, cap', cur, e, hB, hheap, hle, hmx, hsz, htk⟩
 · simp only [Value.slice.injEq] at e0
   obtain ⟨rfl, rfl, rfl⟩ := e0
   exact .inl ⟨rfl, rfl, rfl, List.eq_nil_of_length_eq_zero hn⟩
 · cases e
   subst hn
   have hlt : g < w.heap.size := (Array.getElem?_eq_some_iff.1 hheap).1
   have hcell : ∀ k p, ps[k]? = some p → ∀ j, j < 7 → w.cell? ⟨g, k * 7 + j, none⟩ = p.cells[j]? := fun k p hp j hj => by
     have hk := (List.getElem?_eq_some_iff.1 hp).1
     rw [← Ev.ev_get hp j hj, ← htk, List.getElem?_take, if_pos (by omega)]
     simp [World.cell?, hheap]
   refine .inr ⟨g, rfl, hB, hle, by unfold maxLen at hmx; omega, hlt, fun k p hp => ⟨?_, ?_, ?_, ?_, ?_, ?_, ?_⟩, fun k p hp j hj => by simp [World.frozen?, hheap]⟩
   · exact hcell k p hp 0 (by omega)
   · exact hcell k p hp 1 (by omega)
   · exact hcell k p hp 2 (by omega)
   · exact hcell k p hp 3 (by omega)
   · exact hcell k p hp 4 (by omega)
   · exact hcell k p hp 5 (by omega)
   · exact hcell k p hp 6 (by omega)
theorem row_events {w : World} {g m c : Nat} {ps : List Ev.EV} {l : List Ev.Evt} (hr : Ev.RowE w g ps) (hm : Ev.Match w w.heap.size ps l) (hl : ps.length = m) (hc : m ≤ c) (hmx : c ≤ 9223372036854775807) (hw : m ≤ 2199023255552) : Ev.EventsAt w w.heap.size (some ⟨g, 0, none⟩) l m c :=
 ⟨by rw [← hm.1]; exact hl, (fun e => by cases e), hc, hmx, hw, ps, row_lies hr, hm⟩
theorem match_filter {w : World} {B : Nat} {p : Ev.EV → Bool} {f : Ev.Evt → Bool} (hpf : ∀ q x, Ev.EventIs w B q x → p q = f x) : ∀ (ps : List Ev.EV) (l : List Ev.Evt), Ev.Match w B ps l → Ev.Match w B (ps.filter p) (l.filter f)
 | [], [], _ => Ev.Match.nil_ _ _
 | [], _ :: _, h => by have := h.1; simp at this
 | _ :: _, [], h => by have := h.1; simp at this
 | q :: ps, x :: l, h => by
   have h0 : Ev.EventIs w B q x := h.2 0 q x rfl rfl
   have ih := match_filter hpf ps l ⟨by have := h.1; simpa using this, fun k r y hr hy => h.2 (k + 1) r y (by simpa using hr) (by simpa using hy)⟩
   have e := hpf q x h0
   cases hx : f x with
   | false => rw [hx] at e; rw [List.filter_cons_of_neg (by rw [e]; decide), List.filter_cons_of_neg (by rw [hx]; decide)]; exact ih
   | true =>
     rw [hx] at e
     rw [List.filter_cons_of_pos e, List.filter_cons_of_pos hx]
     refine ⟨by rw [List.length_cons, List.length_cons, ih.1], fun k r y hr hy => ?_⟩
     cases k with
     | zero =>
       simp at hr hy
       subst hr hy
       exact h0
     | succ k => exact ih.2 k r y (by simpa using hr) (by simpa using hy)
theorem edit_two (l : List Ev.Evt) (cid f : Nat) : l.filter (editB cid f) = (l.filter (delB cid)).filter (fun x => decide (x.fld = f)) := by
 rw [List.filter_filter]
 congr 1
 funext x
 unfold editB delB
 rw [Bool.and_comm]
theorem bel_row {B : Nat} {a w w' : World} {g : Nat} (h : Below B a w) (hg : w.grownBy w' (some g)) (hB : B ≤ w.heap.size) (hr : B ≤ g) : Below B a w' := h.grown hg hB (fun k e => by cases e; exact hr)
set_option maxHeartbeats 1000000 in
theorem nil_delF (w : World) (g : Nat) (cb : Array Value) : Calls Tryz.prog 138 #[.slice none 0 0, .func (.func g) #[] cb] w fun e w' => e = .returned (.slice none 0 0) ∧ w' = w := by
 have C : Calls Tryz.prog 166 #[.slice none 0 0, .func (.func g) #[] cb] w fun e w' => e = .returned (.int .i64 (-1)) ∧ w' = w := by
   go_enter Tryz.func166, Tryz.ntmps166
   go_wp2
   refine wp_loop_rounds 1 ?_
   rw [rounds_succ]
   go_wp2
   go_ret
   exact ⟨rfl, rfl⟩
 go_enter Tryz.func138, Tryz.ntmps138
 go_wp2_with fail
 refine C.mono ?_
 rintro e w1 ⟨rfl, rfl⟩
 clear C
 go_wp2
 go_ret
 exact ⟨rfl, rfl⟩
set_option maxHeartbeats 4000000 in
theorem pedit_any (w : World) (A0 : Option Addr) (l : List Ev.Evt) (n c0 cid f : Nat) (hl : Ev.EventsAt w w.heap.size A0 l n c0) (hn : n ≤ 1024) (hk : ∀ x ∈ l, x.kills.length ≤ 1024) :
   Calls Tryz.prog 96 #[.slice A0 n c0, .int .u64 (cid : Int), .int .u8 (f : Int)] w (DotsFar w (Ev.dotsE (l.filter (editB cid f)))) := by
 have hmany : Ev.manyE (l.filter (editB cid f)) ≤ 8796093022208 := by
   have h1 := many_few (l := l.filter (editB cid f)) (fun x hx => hk x (List.mem_filter.1 hx).1)
   have h2 := List.length_filter_le (editB cid f) l
   have h3 := hl.len
   omega
 have HMY := Lib.hid hmany
 have HB0 := Lib.hid (Ev.below_new w (.cells #[.int .u8 (f : Int)] 5))
 have CE := pedits (w.alloc (.cells #[.int .u8 (f : Int)] 5)) A0 l n c0 cid (hl.up HB0.out) (by omega)
 have hc0 : (w.alloc (.cells #[.int .u8 (f : Int)] 5)).cell? ⟨w.heap.size, 0, none⟩ = some (.int .u8 (f : Int)) := by simp [go_sem]
 have HC := Lib.hid hc0
 have HSZ := Lib.hid (Ev.alloc_size w (.cells #[.int .u8 (f : Int)] 5))
 have HE2 := Lib.hid (edit_two l cid f)
 clear hl hk hmany hc0
 go_enter Tryz.func96, Tryz.ntmps96
 go_wp2_with fail
 generalize w.alloc (.cells #[.int .u8 (f : Int)] 5) = w0 at *
 refine CE.mono ?_
 rintro e w1 ⟨A, m, c, ps, rfl, hm, hmn, hma, ho, hb⟩
 have HB1 := Lib.hid (HB0.out.trans (hb.mono HB0.out.size))
 rcases row_of hm ho with ⟨rfl, rfl, rfl, rfl⟩ | ⟨g, rfl, hg, hmc, hcm, hrow⟩
 · have hz : l.filter (editB cid f) = [] := by
     rw [HE2.out, List.eq_nil_of_length_eq_zero (l := l.filter (delB cid)) (by rw [← hma.1]; rfl)]
     rfl
   have CD := nil_delF w1 137 #[.pointer (some ⟨w.heap.size, 0, none⟩)]
   have CX : Calls Tryz.prog 48 #[.slice none 0 0] w1 (Ev.OwnDots w1 (Ev.dotsE (l.filter (editB cid f)))) := by
     rw [hz]
     exact Ev.pdotsE_any w1 none [] 0 0 (Ev.EventsAt.none_ _ _) (by decide)
   clear CE hm hmn hma ho hb hz HE2 HMY
   go_wp2_with fail
   refine CD.mono ?_
   rintro e w2 ⟨rfl, rfl⟩
   go_wp2_with fail
   refine CX.mono ?_
   rintro e V ⟨A3, m3, c3, rfl, h3, hf3, hb3⟩
   have H3 := Lib.hid h3
   have HF3 := Lib.hid (free_far hf3 HB1.out.size)
   have HB3 := Lib.hid (HB1.out.trans (hb3.mono HB1.out.size))
   clear h3 hf3 hb3 CX CD
   go_wp2
   go_ret
   exact ⟨A3, m3, c3, rfl, H3.out, HF3.out, HB3.out⟩
 · have hgz : w.heap.size < g := by have := HSZ.out; omega
   have CD := pdelF w1 g ps m c hm hrow hmc (by omega) hcm 137 #[.pointer (some ⟨w.heap.size, 0, none⟩)] (fun q => (q.fld : Int) != (f : Int)) (enters_of Tryz.func137 (by kernel_rfl) rfl)
     (tells_edit (Ev.stays hb HC.out) (by simp; omega) ps)
   have HM := Lib.hid hm
   have HMA := Lib.hid hma
   have HB := Lib.hid hb
   have HG := Lib.hid hg
   have hmf : m ≤ 1024 := by omega
   clear CE hm hmn hma ho hb hrow hg
   go_wp2_with fail
   refine CD.mono ?_
   rintro e w2 ⟨m2, hm2, rfl, hrow2, hg2⟩
   have hB2 : Below w0.heap.size w0 w2 := bel_row HB.out hg2 HB.out.size HG.out
   have hm3 := match_filter (w := w0) (B := w0.heap.size) (p := fun q => !((q.fld : Int) != (f : Int))) (f := fun x => decide (x.fld = f)) (fun q x h => by
     rw [bne, eq_u8, h.fld, Bool.not_not]) ps _ HMA.out
   rw [← HE2.out] at hm3
   have hle : m2 ≤ m := by rw [← hm2, ← HM.out]; exact List.length_filter_le _ _
   have hE := row_events hrow2 ((hm3.below hB2).more hB2.size) hm2 (by omega) hcm (by omega)
   have HW2 := Lib.hid (HB0.out.trans (hB2.mono HB0.out.size))
   have CX := Ev.pdotsE_any w2 _ _ m2 c hE HMY.out
   clear CD hm2 hrow2 hg2 hB2 hm3 hE
   go_wp2_with fail
   refine CX.mono ?_
   rintro e V ⟨A3, m3, c3, rfl, h3, hf3, hb3⟩
   have H3 := Lib.hid h3
   have HF3 := Lib.hid (free_far hf3 HW2.out.size)
   have HB3 := Lib.hid (HW2.out.trans (hb3.mono HW2.out.size))
   clear h3 hf3 hb3 CX
   go_wp2
   go_ret
   exact ⟨A3, m3, c3, rfl, H3.out, HF3.out, HB3.out⟩
set_option maxHeartbeats 4000000 in
theorem pdel_any (w : World) (A0 : Option Addr) (l : List Ev.Evt) (n c0 cid : Nat) (hl : Ev.EventsAt w w.heap.size A0 l n c0) (hn : n ≤ 1024) (hk : ∀ x ∈ l, x.kills.length ≤ 1024) :
   Calls Tryz.prog 95 #[.slice A0 n c0, .int .u64 (cid : Int)] w (DotsFar w (Ev.dotsE (l.filter (delB cid)))) := by
 have hmany : Ev.manyE (l.filter (delB cid)) ≤ 8796093022208 := by
   have h1 := many_few (l := l.filter (delB cid)) (fun x hx => hk x (List.mem_filter.1 hx).1)
   have h2 := List.length_filter_le (delB cid) l
   have h3 := hl.len
   omega
 have HMY := Lib.hid hmany
 have CE := pedits w A0 l n c0 cid hl (by omega)
 clear hl hk hmany
 go_enter Tryz.func95, Tryz.ntmps95
 go_wp2_with fail
 refine CE.mono ?_
 rintro e w1 ⟨A, m, c, ps, rfl, hm, hmn, hma, ho, hb⟩
 have hE := Ev.own_events hb hma hm (by omega) ho
 have HB1 := Lib.hid hb
 have CX := Ev.pdotsE_any w1 _ _ m c hE HMY.out
 clear CE hm hmn hma ho hb hE
 go_wp2_with fail
 refine CX.mono ?_
 rintro e V ⟨A3, m3, c3, rfl, h3, hf3, hb3⟩
 have H3 := Lib.hid h3
 have HF3 := Lib.hid (free_far hf3 HB1.out.size)
 have HB3 := Lib.hid (HB1.out.trans (hb3.mono HB1.out.size))
 clear h3 hf3 hb3 CX
 go_wp2
 go_ret
 exact ⟨A3, m3, c3, rfl, H3.out, HF3.out, HB3.out⟩
end Go.Proofs.YtgaegfddobpomaaGreat.Kl

namespace Go.Proofs.YtgaegfddobpomaaGreat.Bk
open Go.ChangeShapes Go.WideShapes Go.ChangeAt Go.RowKit Go.Proofs.YtgaegfddobpomaaGreat.Kl Go.Maps
set_option linter.unusedVariables false
set_option maxRecDepth 4000
theorem see_end {w w4 : World} {p : Nat} {A A' : Option Addr} {n k n' k' : Nat} {m1 m2 : Option Nat} {L1 L2 : List Ev.EV} {S : Bt} {c : List Cx.Part} (h : BkIs w p A n k m1 m2 L1 L2 S) (hf : Cx.FitC c) (h4 : Below w.heap.size w w4) (hc : Cx.CtxAt w4 A' (Cx.setC S.1 c 0) n' k') :
   Goes w p m1 m2 (Cx.setC S.1 c 0, S.2) (w4.setCell ⟨p, 0, none⟩ (.slice A' n' k')) := by
 have h5 := h.up h4
 have ht : Turns w4 p m1 m2 m1 m2 (w4.setCell ⟨p, 0, none⟩ (.slice A' n' k')) := Turns.set 0 _
 exact ⟨A', n', k', m1, m2, L1, L2, ⟨h5.mem.see, leg_see h.leg hf, ctx_off h5.mem.nonum ht.off hc, match_off h5.mem.nonum ht.off h5.liveM, match_off h5.mem.nonum ht.off h5.tombM⟩, (Turns.below h4).trans ht⟩
theorem psee_is (w : World) (p : Nat) (A : Option Addr) (n k : Nat) (m1 m2 : Option Nat) (L1 L2 : List Ev.EV) (S : Bt) (A2 : Option Addr) (c : List Cx.Part) (n2 k2 : Nat) (h : BkIs w p A n k m1 m2 L1 L2 S) (hs : Lim S) (hc : Cx.CtxAt w A2 c n2 k2) (hw : Cx.Wide 134217728 c) :
   Calls Tryz.prog 15 #[.pointer (some ⟨p, 0, none⟩), .slice A2 n2 k2] w fun e w' => e = .returned (.tuple #[]) ∧ Goes w p m1 m2 (Cx.setC S.1 c 0, S.2) w' := by
 obtain ⟨c0, c1, c2⟩ := h.mem.cells (Below.refl _ _)
 have CJ := Cx.pjoin_any w A A2 S.1 c n n2 k k2 h.seen hc ((Cx.small_wide hs.ctx).more (by decide)) hw
 have HI := Lib.hid h
 have HF := Lib.hid hc.fit
 clear h hs hc hw
 go_enter Tryz.func15, Tryz.ntmps15
 go_wp2_with fail
 refine CJ.mono ?_
 rintro e w4 hp
 obtain ⟨A', n', k', rfl, hx, hb⟩ := Cx.post_ctx hp
 have HR := Lib.hid (see_end HI.out HF.out hb hx)
 obtain ⟨d0, d1, d2⟩ := HI.out.mem.cells hb
 have f0 := HI.out.mem.frozen hb 0
 clear CJ hp hx hb c0 c1 c2
 go_wp2
 go_end0
 exact ⟨rfl, HR.out⟩
theorem of_edit (S : List Ev.Evt) (cid f : Nat) : (S.filter (ofB cid)).filter (editB cid f) = (S.filter (kindB 1)).filter (editB cid f) := by
 rw [List.filter_filter, List.filter_filter]
 refine List.filter_congr (fun x _ => ?_)
 unfold editB ofB kindB
 cases decide (x.kind = 1) <;> cases decide (x.cid = cid) <;> simp
theorem of_del (S : List Ev.Evt) (cid : Nat) : (S.filter (ofB cid)).filter (delB cid) = (S.filter (kindB 1)).filter (delB cid) := by
 rw [List.filter_filter, List.filter_filter]
 refine List.filter_congr (fun x _ => ?_)
 unfold delB ofB kindB
 cases decide (x.kind = 1) <;> cases decide (x.cid = cid) <;> simp
theorem far_up {w W V : World} {l : List Dt.Dot} {e : Ending} (hb : Below w.heap.size w W) (h : DotsFar W l e V) : DotsFar w l e V := by
 obtain ⟨A, n, c, h1, h2, h3, h4⟩ := h
 exact ⟨A, n, c, h1, h2, fun h0 ad e => Nat.le_trans hb.size (h3 h0 ad e), hb.trans (h4.mono hb.size)⟩
set_option maxHeartbeats 4000000 in
theorem pputout_is (w : World) (p : Nat) (A : Option Addr) (n k : Nat) (m1 m2 : Option Nat) (L1 L2 : List Ev.EV) (S : Bt) (q : Ev.EV) (x : Ev.Evt) (h : BkIs w p A n k m1 m2 L1 L2 S) (hs : Lim S) (hq : Ev.EventIs w w.heap.size q (bareE x)) (hk : x.kind = 1 ∨ x.kind = 2) :
   Calls Tryz.prog 50 #[.pointer (some ⟨p, 0, none⟩), q.val] w (DotsFar w (newK S.2 x)) := by
 have hbx := Ev.below_new w q.box
 have HA := Lib.hid (At.new w 38 (ebox q))
 have HB := Lib.hid hbx
 have CO := pof_is (w.alloc q.box) p A n k m1 m2 L1 L2 S q.cid (h.up hbx) hs
 have hcid : q.cid = x.cid := hq.cid
 have hfld : q.fld = x.fld := hq.fld
 have hkd : q.kind = x.kind := hq.kind
 have HC := Lib.hid hcid
 have HFL := Lib.hid hfld
 have HK := Lib.hid hkd
 have HKK : Hid (∀ y ∈ S.2.filter (ofB q.cid), y.kills.length ≤ 1024) := Lib.hid (fun y hy => hs.kills y (List.mem_filter.1 hy).1)
 have HN : Hid ((S.2.filter (ofB q.cid)).length ≤ 64) := Lib.hid (Nat.le_trans (List.length_filter_le _ _) hs.few)
 obtain ⟨y0, y1, y2, y3, y4, y5, y6⟩ := ev_cells HA.out
 simp only [ebox, Ev.EV.box] at HA HB CO y0 y1 y2 y3 y4 y5 y6
 simp only [Ev.EV.val]
 clear h hs hq hbx hcid hfld hkd
 go_enter Tryz.func50, Tryz.ntmps50
 go_wp2_with fail
 refine CO.mono ?_
 rintro r w2 hp
 obtain ⟨A5, n5, c5, rfl, hl, hb⟩ := owns_evt hp
 have HL := Lib.hid hl
 have HB2 := Lib.hid (HB.out.trans (hb.mono HB.out.size))
 have hn : n5 ≤ 1024 := by rw [← hl.len]; exact Nat.le_trans HN.out (by decide)
 obtain ⟨x0, x1, x2, x3, x4, x5, x6⟩ := ev_cells (q := q) (HA.out.below hb HA.out.lt)
 have CD := pdel_any w2 A5 _ n5 c5 q.cid hl hn HKK.out
 have CE := pedit_any w2 A5 _ n5 c5 q.cid q.fld hl hn HKK.out
 rw [of_del] at CD
 rw [of_edit] at CE
 clear CO hp hl hb y0 y1 y2 y3 y4 y5 y6 hn
 rcases hk with hk | hk
 · have hk2 : ((q.kind : Int) == 2) = false := by rw [HK.out, hk]; rfl
   have HNK : Hid (newK S.2 x = Ev.dotsE ((S.2.filter (kindB 1)).filter (editB q.cid q.fld))) := Lib.hid (by unfold newK; rw [if_pos hk, HC.out, HFL.out])
   clear CD hk
   go_wp2_with fail
   refine CE.mono ?_
   rintro r w3 hp
   have HP := Lib.hid (far_up HB2.out hp)
   rw [← HNK.out] at HP
   obtain ⟨A6, n6, c6, rfl, _⟩ := hp
   clear CE
   go_wp2
   go_ret
   exact HP.out
 · have hk2 : ((q.kind : Int) == 2) = true := by rw [HK.out, hk]; rfl
   have HNK : Hid (newK S.2 x = Ev.dotsE ((S.2.filter (kindB 1)).filter (delB q.cid))) := Lib.hid (by unfold newK; rw [if_neg (by omega), HC.out])
   clear CE hk
   go_wp2_with fail
   refine CD.mono ?_
   rintro r w3 hp
   have HP := Lib.hid (far_up HB2.out hp)
   rw [← HNK.out] at HP
   obtain ⟨A6, n6, c6, rfl, _⟩ := hp
   clear CD
   go_wp2
   go_ret
   exact HP.out
set_option maxHeartbeats 16000000 in
theorem pmake_is (w : World) (p : Nat) (A : Option Addr) (n k : Nat) (m1 m2 : Option Nat) (L1 L2 : List Ev.EV) (S : Bt) (q : Ev.EV) (x : Ev.Evt) (h : BkIs w p A n k m1 m2 L1 L2 S) (hs : Lim S) (hq : Ev.EventIs w w.heap.size q x) :
   Calls Tryz.prog 12 #[.pointer (some ⟨p, 0, none⟩), q.val] w (MkPost w (makeB S x)) := by
 have HB2 := Lib.hid (Ev.bel_alloc (.cells #[.int .u16 0, .int .u64 0, .int .u8 0, .int .u64 0, .int .u8 0, .string ⟨#[]⟩, .slice none 0 0] 38) (Ev.below_new w (.cells (ebox q) 38)))
 have R1 : Hid (At ((w.alloc (.cells (ebox q) 38)).alloc (.cells #[.int .u16 0, .int .u64 0, .int .u8 0, .int .u64 0, .int .u8 0, .string ⟨#[]⟩, .slice none 0 0] 38)) w.heap.size 38 (ebox q)) := Lib.hid ((At.new w _ _).below (Ev.below_new _ _) (by simp))
 have R2 : Hid (At ((w.alloc (.cells (ebox q) 38)).alloc (.cells #[.int .u16 0, .int .u64 0, .int .u8 0, .int .u64 0, .int .u8 0, .string ⟨#[]⟩, .slice none 0 0] 38)) (w.heap.size + 1) 38 #[.int .u16 0, .int .u64 0, .int .u8 0, .int .u64 0, .int .u8 0, .string ⟨#[]⟩, .slice none 0 0]) := Lib.hid (by
   have h := At.new (w.alloc (.cells (ebox q) 38)) 38 #[.int .u16 0, .int .u64 0, .int .u8 0, .int .u64 0, .int .u8 0, .string ⟨#[]⟩, .slice none 0 0]
   rw [Ev.alloc_size] at h; exact h)
 have HI := Lib.hid h
 have HS := Lib.hid hs
 have HQW := Lib.hid hq
 have HP : Hid (makeB S x = if Ev.goodE (bareE x) = false then (zeroX, 1) else if Cx.hasC S.1 x.dot = true then (zeroX, 7) else if 256 < (newK S.2 x).length then (zeroX, 3) else (⟨x.dot, x.kind, x.cid, x.fld, x.txt, newK S.2 x⟩, 0)) := Lib.hid rfl
 clear h hs hq
 simp only [ebox] at HB2 R1 R2
 simp only [Ev.EV.val]
 go_enter Tryz.func12, Tryz.ntmps12
 go_upto_region 1 with fail
 generalize (w.alloc (.cells #[.int .u16 (q.dev : Int), .int .u64 (q.num : Int), .int .u8 (q.kind : Int), .int .u64 (q.cid : Int), .int .u8 (q.fld : Int), .string q.txt, .slice q.adr q.len q.cap] 38)).alloc (.cells #[.int .u16 0, .int .u64 0, .int .u8 0, .int .u64 0, .int .u8 0, .string ⟨#[]⟩, .slice none 0 0] 38) = w2 at *
 have x6 := R1.out.cell 6
 have g6 := R1.out.frozen 6
 simp at x6
 have HB : Hid (Below w.heap.size w (w2.setCell ⟨w.heap.size, 6, none⟩ (.slice none 0 0))) := Lib.hid (bel_set HB2.out (Nat.le_refl _) _)
 have Q1 : Hid (At (w2.setCell ⟨w.heap.size, 6, none⟩ (.slice none 0 0)) w.heap.size 38 #[.int .u16 (q.dev : Int), .int .u64 (q.num : Int), .int .u8 (q.kind : Int), .int .u64 (q.cid : Int), .int .u8 (q.fld : Int), .string q.txt, .slice none 0 0]) := Lib.hid (at_sub (R1.out.set 6 (.slice none 0 0)) (by simp))
 have Q2 := Lib.hid (R2.out.other (h := w.heap.size) (i := 6) (by omega) (.slice none 0 0))
 go_upto_region 2 with fail
 generalize w2.setCell ⟨w.heap.size, 6, none⟩ (.slice none 0 0) = w3 at *
 clear x6 g6 R1 R2 HB2
 have hg1 := Q1.out.lt
 have hg2 := Q2.out.lt
 have HQB : Hid (Ev.EventIs w3 w3.heap.size ⟨q.dev, q.num, q.kind, q.cid, q.fld, q.txt, none, 0, 0⟩ (bareE x)) := Lib.hid (ev_bare (HQW.out.up HB.out))
 have CG := Ev.pgoodE_any w3 _ _ HQB.out
 simp only [Ev.EV.val] at CG
 have HK1 : Hid (∀ V, Below w3.heap.size w3 V → V.cell? ⟨w.heap.size, 0, none⟩ = some (.int .u16 (q.dev : Int)) ∧ V.cell? ⟨w.heap.size, 1, none⟩ = some (.int .u64 (q.num : Int)) ∧ V.cell? ⟨w.heap.size, 2, none⟩ = some (.int .u8 (q.kind : Int)) ∧ V.cell? ⟨w.heap.size, 3, none⟩ = some (.int .u64 (q.cid : Int)) ∧ V.cell? ⟨w.heap.size, 4, none⟩ = some (.int .u8 (q.fld : Int)) ∧ V.cell? ⟨w.heap.size, 5, none⟩ = some (.string q.txt) ∧ V.cell? ⟨w.heap.size, 6, none⟩ = some (.slice none 0 0)) := Lib.hid (fun V hV => ev_cells (q := ⟨q.dev, q.num, q.kind, q.cid, q.fld, q.txt, none, 0, 0⟩) (Q1.out.below hV hg1))
 obtain ⟨x0, x1, x2, x3, x4, x5, x6⟩ := HK1.out w3 (Below.refl _ _)
 cases hgd : Ev.goodE (bareE x) with
 | false =>
   rw [hgd] at CG
   rw [hgd, if_pos rfl] at HP
   go_wp2_with fail
   refine CG.mono ?_
   rintro e V ⟨rfl, bv⟩
   clear x0 x1 x2 x3 x4 x5 x6 CG
   obtain ⟨⟨z0, f0⟩, ⟨z1, f1⟩, ⟨z2, f2⟩, ⟨z3, f3⟩, ⟨z4, f4⟩, ⟨z5, f5⟩, ⟨z6, f6⟩, hat⟩ := fill7 (Q2.out.below bv hg2) (.int .u16 0) (.int .u64 0) (.int .u8 0) (.int .u64 0) (.int .u8 0) (.string ⟨#[]⟩) (.slice none 0 0)
   obtain ⟨y0, y1, y2, y3, y4, y5, y6⟩ := ev_cells (q := ⟨0, 0, 0, 0, 0, ⟨#[]⟩, none, 0, 0⟩) hat
   simp at y0 y1 y2 y3 y4 y5 y6
   have HF := Lib.hid (fill7_bel (HB.out.trans (bv.mono HB.out.size)) (g := w.heap.size + 1) (by omega) (.int .u16 0) (.int .u64 0) (.int .u8 0) (.int .u64 0) (.int .u8 0) (.string ⟨#[]⟩) (.slice none 0 0))
   clear hat
   go_wp2
   refine bodyPost_ret (v := .tuple #[.agg #[.int .u16 0, .int .u64 0, .int .u8 0, .int .u64 0, .int .u8 0, .string ⟨#[]⟩, .slice none 0 0], .int .i64 1]) ?_ rfl ?_
   · simp [results, Tryz.f12, go_sem, y0, y1, y2, y3, y4, y5, y6]
   · rw [HP.out]
     exact ⟨⟨0, 0, 0, 0, 0, ⟨#[]⟩, none, 0, 0⟩, rfl, zero_is _ _, HF.out⟩
 | true =>
   rw [hgd] at CG
   rw [hgd, if_neg (by decide)] at HP
   go_wp2_with fail
   refine CG.mono ?_
   rintro e V0 ⟨rfl, bv⟩
   have HBV := Lib.hid bv
   have HIV := Lib.hid (HI.out.up (HB.out.trans (bv.mono HB.out.size)))
   have HKD : Hid (x.kind = 1 ∨ x.kind = 2) := Lib.hid (show x.kind = 1 ∨ x.kind = 2 from kind_good (x := bareE x) hgd)
   have HXC : Hid (∀ V, Below V0.heap.size V0 V → V.cell? ⟨p, 0, none⟩ = some (.slice A n k) ∧ V.cell? ⟨w.heap.size, 0, none⟩ = some (.int .u16 (q.dev : Int)) ∧ V.cell? ⟨w.heap.size, 1, none⟩ = some (.int .u64 (q.num : Int))) := Lib.hid (fun V hV => by
     have h1 := HK1.out V (HBV.out.trans (hV.mono HBV.out.size))
     exact ⟨(HIV.out.mem.cells hV).1, h1.1, h1.2.1⟩)
   have CH := fun W (hW : Below V0.heap.size V0 W) => has_laterC HIV.out.seen (Ev.is_dot HQW.out).symm HQW.out.fits hW
   obtain ⟨z0, z1, z2⟩ := HXC.out V0 (Below.refl _ _)
   clear x0 x1 x2 x3 x4 x5 x6 CG bv
   obtain ⟨b, hsn⟩ : ∃ b, Cx.hasC S.1 x.dot = b := ⟨_, rfl⟩
   rw [hsn] at CH HP
   go_wp2
   go_region_held3 (fun V => V.cell? ⟨p, 0, none⟩ = some (.slice A n k) ∧ V.cell? ⟨w.heap.size, 0, none⟩ = some (.int .u16 (q.dev : Int)) ∧ V.cell? ⟨w.heap.size, 1, none⟩ = some (.int .u64 (q.num : Int))) (first | exact ⟨z0, z1, z2⟩ | assumption | exact HXC.out _ (by (repeat (first | exact Below.refl _ _ | assumption | apply Ev.bel_drew)))) (first
     | (go_at_call 46; (with_reducible refine (CH _ ?_).mono ?_); (focus (repeat (first | exact Below.refl _ _ | assumption | apply Ev.bel_drew))); rintro r V3 ⟨rfl, bv3⟩; have hca := HXC.out V3 bv3))
   have bv : Below w3.heap.size w3 V3 := HBV.out.trans (bv3.mono HBV.out.size)
   cases b with
   | true =>
     rw [if_pos rfl] at HP
     clear hca bv3 CH HXC z0 z1 z2
     obtain ⟨⟨z0, f0⟩, ⟨z1, f1⟩, ⟨z2, f2⟩, ⟨z3, f3⟩, ⟨z4, f4⟩, ⟨z5, f5⟩, ⟨z6, f6⟩, hat⟩ := fill7 (Q2.out.below bv hg2) (.int .u16 0) (.int .u64 0) (.int .u8 0) (.int .u64 0) (.int .u8 0) (.string ⟨#[]⟩) (.slice none 0 0)
     obtain ⟨y0, y1, y2, y3, y4, y5, y6⟩ := ev_cells (q := ⟨0, 0, 0, 0, 0, ⟨#[]⟩, none, 0, 0⟩) hat
     simp at y0 y1 y2 y3 y4 y5 y6
     have HF := Lib.hid (fill7_bel (HB.out.trans (bv.mono HB.out.size)) (g := w.heap.size + 1) (by omega) (.int .u16 0) (.int .u64 0) (.int .u8 0) (.int .u64 0) (.int .u8 0) (.string ⟨#[]⟩) (.slice none 0 0))
     clear hat
     go_wp2
     refine bodyPost_ret (v := .tuple #[.agg #[.int .u16 0, .int .u64 0, .int .u8 0, .int .u64 0, .int .u8 0, .string ⟨#[]⟩, .slice none 0 0], .int .i64 7]) ?_ rfl ?_
     · simp [results, Tryz.f12, go_sem, y0, y1, y2, y3, y4, y5, y6]
     · rw [HP.out]
       exact ⟨⟨0, 0, 0, 0, 0, ⟨#[]⟩, none, 0, 0⟩, rfl, zero_is _ _, HF.out⟩
   | false =>
     rw [if_neg (by decide)] at HP
     have HB3 := Lib.hid (HB.out.trans (bv.mono HB.out.size))
     have HI3 := Lib.hid (HI.out.up HB3.out)
     have T1 := Lib.hid (Q1.out.below bv hg1)
     have T2 := Lib.hid (Q2.out.below bv hg2)
     have HQ3 := Lib.hid (HQB.out.up bv)
     obtain ⟨x0, x1, x2, x3, x4, x5, x6⟩ := HK1.out V3 bv
     clear hca bv3 CH HXC z0 z1 z2 HBV HIV HK1 HQB Q1 Q2 HB bv hg1 hg2
     have CP := pputout_is V3 p A n k m1 m2 L1 L2 S ⟨q.dev, q.num, q.kind, q.cid, q.fld, q.txt, none, 0, 0⟩ x HI3.out HS.out HQ3.out HKD.out
     simp only [Ev.EV.val] at CP
     go_wp2_with fail
     refine CP.mono ?_
     rintro r V2 ⟨A6, n6, c6, rfl, hd6, hf6, bv2⟩
     have hs3 := HB3.out.size
     have hlt1 := T1.out.lt
     have hlt2 := T2.out.lt
     have hne : 0 < n6 → ∀ ad : Addr, A6 = some ad → ad.block ≠ w.heap.size := fun h0 ad e => by have := hf6 h0 ad e; omega
     have HD := Lib.hid (dots_set hd6 hne 6 (.slice A6 n6 c6))
     have HFR : Hid (0 < n6 → ∀ ad : Addr, A6 = some ad → ad.block ≠ w.heap.size + 1) := Lib.hid (fun h0 ad e => by have := hf6 h0 ad e; omega)
     have HBW : Hid (Below w.heap.size w (V2.setCell ⟨w.heap.size, 6, none⟩ (.slice A6 n6 c6))) := Lib.hid (bel_set (HB3.out.trans (bv2.mono HB3.out.size)) (Nat.le_refl _) _)
     have P1 : Hid (At (V2.setCell ⟨w.heap.size, 6, none⟩ (.slice A6 n6 c6)) w.heap.size 38 #[.int .u16 (q.dev : Int), .int .u64 (q.num : Int), .int .u8 (q.kind : Int), .int .u64 (q.cid : Int), .int .u8 (q.fld : Int), .string q.txt, .slice A6 n6 c6]) := Lib.hid (at_sub ((T1.out.below bv2 hlt1).set 6 (.slice A6 n6 c6)) (by simp))
     have P2 := Lib.hid ((T2.out.below bv2 hlt2).other (h := w.heap.size) (i := 6) (by omega) (.slice A6 n6 c6))
     have r0 := (T1.out.below bv2 hlt1).cell 6
     have r1 := (T1.out.below bv2 hlt1).frozen 6
     simp at r0
     clear CP hd6 hf6 bv2 hne x0 x1 x2 x3 x4 x5 x6 hlt1 hlt2 hs3
     go_upto_region 7 with fail
     clear r0 r1
     generalize V2.setCell ⟨w.heap.size, 6, none⟩ (.slice A6 n6 c6) = w7 at *
     obtain ⟨x0, x1, x2, x3, x4, x5, x6⟩ := ev_cells (q := ⟨q.dev, q.num, q.kind, q.cid, q.fld, q.txt, A6, n6, c6⟩) P1.out
     by_cases hlong : 256 < n6
     · have hgt : decide ((256 : Int) < (n6 : Int)) = true := decide_eq_true (by omega)
       rw [if_pos (by rw [HD.out.len]; exact hlong)] at HP
       clear x0 x1 x3 x4 x5
       obtain ⟨⟨z0, f0⟩, ⟨z1, f1⟩, ⟨z2, f2⟩, ⟨z3, f3⟩, ⟨z4, f4⟩, ⟨z5, f5⟩, ⟨z6, f6⟩, hat⟩ := fill7 (P2.out) (.int .u16 0) (.int .u64 0) (.int .u8 0) (.int .u64 0) (.int .u8 0) (.string ⟨#[]⟩) (.slice none 0 0)
       obtain ⟨y0, y1, y2, y3, y4, y5, y6⟩ := ev_cells (q := ⟨0, 0, 0, 0, 0, ⟨#[]⟩, none, 0, 0⟩) hat
       simp at y0 y1 y2 y3 y4 y5 y6
       have HF := Lib.hid (fill7_bel (HBW.out) (g := w.heap.size + 1) (by omega) (.int .u16 0) (.int .u64 0) (.int .u8 0) (.int .u64 0) (.int .u8 0) (.string ⟨#[]⟩) (.slice none 0 0))
       clear hat
       go_wp2
       refine bodyPost_ret (v := .tuple #[.agg #[.int .u16 0, .int .u64 0, .int .u8 0, .int .u64 0, .int .u8 0, .string ⟨#[]⟩, .slice none 0 0], .int .i64 3]) ?_ rfl ?_
       · simp [results, Tryz.f12, go_sem, y0, y1, y2, y3, y4, y5, y6]
       · rw [HP.out]
         exact ⟨⟨0, 0, 0, 0, 0, ⟨#[]⟩, none, 0, 0⟩, rfl, zero_is _ _, HF.out⟩
     · have hgt : decide ((256 : Int) < (n6 : Int)) = false := decide_eq_false (by omega)
       rw [if_neg (by rw [HD.out.len]; exact hlong)] at HP
       obtain ⟨⟨z0, f0⟩, ⟨z1, f1⟩, ⟨z2, f2⟩, ⟨z3, f3⟩, ⟨z4, f4⟩, ⟨z5, f5⟩, ⟨z6, f6⟩, hat⟩ := fill7 P2.out (.int .u16 (q.dev : Int)) (.int .u64 (q.num : Int)) (.int .u8 (q.kind : Int)) (.int .u64 (q.cid : Int)) (.int .u8 (q.fld : Int)) (.string q.txt) (.slice A6 n6 c6)
       obtain ⟨v0, v1, v2, v3, v4, v5, v6⟩ := ev_cells (q := ⟨q.dev, q.num, q.kind, q.cid, q.fld, q.txt, A6, n6, c6⟩) hat
       simp at v0 v1 v2 v3 v4 v5 v6
       have HF := Lib.hid (fill7_bel HBW.out (g := w.heap.size + 1) (by omega) (.int .u16 (q.dev : Int)) (.int .u64 (q.num : Int)) (.int .u8 (q.kind : Int)) (.int .u64 (q.cid : Int)) (.int .u8 (q.fld : Int)) (.string q.txt) (.slice A6 n6 c6))
       have HDF := Lib.hid (fill7_dots HD.out HFR.out (.int .u16 (q.dev : Int)) (.int .u64 (q.num : Int)) (.int .u8 (q.kind : Int)) (.int .u64 (q.cid : Int)) (.int .u8 (q.fld : Int)) (.string q.txt) (.slice A6 n6 c6))
       clear hat
       go_wp2
       refine bodyPost_ret (v := .tuple #[.agg #[.int .u16 (q.dev : Int), .int .u64 (q.num : Int), .int .u8 (q.kind : Int), .int .u64 (q.cid : Int), .int .u8 (q.fld : Int), .string q.txt, .slice A6 n6 c6], .int .i64 0]) ?_ rfl ?_
       · simp [results, Tryz.f12, go_sem, v0, v1, v2, v3, v4, v5, v6]
       · rw [HP.out]
         refine ⟨⟨q.dev, q.num, q.kind, q.cid, q.fld, q.txt, A6, n6, c6⟩, rfl, ⟨HQW.out.dev, HQW.out.num, HQW.out.kind, HQW.out.cid, HQW.out.fld, HQW.out.txt, ⟨HQW.out.fits.dot, HQW.out.fits.kind, HQW.out.fits.cid, HQW.out.fits.fld, HQW.out.fits.txt⟩, ?_⟩, HF.out⟩
         exact HDF.out
end Go.Proofs.YtgaegfddobpomaaGreat.Bk

namespace Go.Proofs.YtgaegfddobpomaaGreat.Bk
open Go.ChangeShapes Go.WideShapes Go.ChangeAt Go.RowKit Go.Proofs.YtgaegfddobpomaaGreat.Kl
set_option linter.unusedVariables false
set_option maxRecDepth 4000
def inC (c : List Cx.Part) (l : List Ev.Evt) : List Dt.Dot := (l.filter fun y => Cx.hasC c y.dot).map (·.dot)
theorem inC_mem {c : List Cx.Part} {l : List Ev.Evt} {x : Ev.Evt} (h : x ∈ l) : x.dot ∈ inC c l ↔ Cx.hasC c x.dot = true := by
 unfold inC
 rw [List.mem_map]
 constructor
 · rintro ⟨y, hy, e⟩
   rw [← e]
   exact (List.mem_filter.1 hy).2
 · intro hc
   exact ⟨x, List.mem_filter.2 ⟨h, hc⟩, rfl⟩
theorem inC_of {c : List Cx.Part} {l : List Ev.Evt} {d : Dt.Dot} (h : d ∈ inC c l) : ∃ x ∈ l, x.dot = d := by
 unfold inC at h
 obtain ⟨y, hy, e⟩ := List.mem_map.1 h
 exact ⟨y, (List.mem_filter.1 hy).1, e⟩
def bareIn (ds : List Dt.Dot) (x : Ev.Evt) : Ev.Evt := if x.dot ∈ ds then bareE x else x
theorem bareIn_dot (ds : List Dt.Dot) (x : Ev.Evt) : (bareIn ds x).dot = x.dot := by unfold bareIn; split <;> rfl
theorem bareIn_nil (x : Ev.Evt) : bareIn [] x = x := by unfold bareIn; rw [if_neg (by simp)]
theorem bare_bareIn (ds : List Dt.Dot) (x : Ev.Evt) : bareE (bareIn ds x) = bareE x := by unfold bareIn; split <;> rfl
theorem bareIn_more (ds : List Dt.Dot) (d : Dt.Dot) (x : Ev.Evt) : bareIn (ds ++ [d]) x = if x.dot = d then bareE x else bareIn ds x := by
 unfold bareIn
 by_cases h1 : x.dot = d
 · rw [if_pos h1, if_pos (by simp [h1])]
 · rw [if_neg h1]
   by_cases h2 : x.dot ∈ ds
   · rw [if_pos h2, if_pos (by simp [h2])]
   · rw [if_neg h2, if_neg (by simp [h1, h2])]
theorem map_nodup {l : List Ev.Evt} (h : Ev.OrdE l) {f : Ev.Evt → Ev.Evt} (hf : ∀ x, (f x).dot = x.dot) : (l.map f).Nodup := by
 refine ord_nodup ?_
 unfold Ev.OrdE
 refine List.pairwise_map.2 (List.Pairwise.imp (fun {a b} h => ?_) h)
 rw [hf, hf]
 exact h
theorem one_dot {l : List Ev.Evt} (h : Ev.OrdE l) {x y : Ev.Evt} (hx : x ∈ l) (hy : y ∈ l) (e : x.dot = y.dot) : x = y := by
 induction l with
 | nil => cases hx
 | cons z l ih =>
   obtain ⟨h1, h2⟩ := List.pairwise_cons.1 h
   rcases List.mem_cons.1 hx with e1 | hx2
   · rcases List.mem_cons.1 hy with e2 | hy2
     · rw [e1, e2]
     · exact absurd e (by rw [e1]; exact Ev.ahead_ne (h1 y hy2))
   · rcases List.mem_cons.1 hy with e2 | hy2
     · exact absurd e.symm (by rw [e2]; exact Ev.ahead_ne (h1 x hx2))
     · exact ih h2 hx2 hy2
theorem bare_step {l : List Ev.Evt} (h : Ev.OrdE l) {x : Ev.Evt} (hx : x ∈ l) (ds : List Dt.Dot) : (bareE x :: (l.map (bareIn ds)).filter (dotN x.dot)).Perm (l.map (bareIn (ds ++ [x.dot]))) := by
 refine perm_of (List.nodup_cons.2 ⟨fun h2 => ?_, (map_nodup h (bareIn_dot ds)).filter _⟩) (map_nodup h (bareIn_dot _)) (fun y => ?_)
 · have := (List.mem_filter.1 h2).2
   simp [dotN, bareE] at this
 · rw [List.mem_cons, List.mem_filter, List.mem_map, List.mem_map]
   unfold dotN
   constructor
   · rintro (rfl | ⟨⟨z, hz, rfl⟩, h4⟩)
     · exact ⟨x, hx, by rw [bareIn_more, if_pos rfl]⟩
     · rw [bareIn_dot] at h4
       exact ⟨z, hz, by rw [bareIn_more, if_neg (of_decide_eq_true h4)]⟩
   · rintro ⟨z, hz, rfl⟩
     by_cases hd : z.dot = x.dot
     · obtain rfl := one_dot h hz hx hd
       exact .inl (by rw [bareIn_more, if_pos rfl])
     · refine .inr ⟨⟨z, hz, by rw [bareIn_more, if_neg hd]⟩, ?_⟩
       rw [bareIn_dot]
       exact decide_eq_true hd
theorem bare_all {c : List Cx.Part} {l : List Ev.Evt} : l.map (bareIn (inC c l)) = l.map (stripE c) := by
 refine List.map_congr_left (fun x hx => ?_)
 unfold bareIn stripE
 by_cases h : Cx.hasC c x.dot = true
 · rw [if_pos ((inC_mem hx).2 h), if_pos h]
   rfl
 · rw [if_neg (fun e => h ((inC_mem hx).1 e)), if_neg h]
theorem filter_strip (c : List Cx.Part) (k : Nat) (l : List Ev.Evt) : (l.map (stripE c)).filter (kindB k) = (l.filter (kindB k)).map (stripE c) := by
 rw [List.filter_map]
 refine congrArg (List.map (stripE c)) (List.filter_congr (fun x _ => ?_))
 show kindB k (stripE c x) = kindB k x
 unfold kindB
 rw [(strip_dot c x).2.1]
theorem live_prune (c : List Cx.Part) (S : Bt) : (pruneB S c).1.2.filter (kindB 1) = (S.2.filter (kindB 1)).map (stripE c) := by
 show ((S.2.filter (stayB c)).map (stripE c)).filter (kindB 1) = _
 rw [filter_strip, List.filter_filter]
 refine congrArg (List.map (stripE c)) (List.filter_congr (fun x _ => ?_))
 unfold kindB stayB
 cases decide (x.kind = 1) <;> simp
theorem tomb_prune (c : List Cx.Part) (S : Bt) : (pruneB S c).1.2.filter (kindB 2) = (S.2.filter (kindB 2)).filter (killsN (inC c (S.2.filter (kindB 2)))) := by
 show ((S.2.filter (stayB c)).map (stripE c)).filter (kindB 2) = _
 rw [filter_strip]
 have e1 : (S.2.filter (stayB c)).filter (kindB 2) = (S.2.filter (kindB 2)).filter (fun x => !Cx.hasC c x.dot) := by
   rw [List.filter_filter, List.filter_filter]
   refine List.filter_congr (fun x _ => ?_)
   unfold kindB stayB
   by_cases h : x.kind = 2
   · simp [h]
   · simp [h]
 rw [e1]
 have e2 : (S.2.filter (kindB 2)).filter (killsN (inC c (S.2.filter (kindB 2)))) = (S.2.filter (kindB 2)).filter (fun x => !Cx.hasC c x.dot) := by
   refine List.filter_congr (fun x hx => ?_)
   unfold killsN
   rw [Bool.not_inj_iff, Bool.eq_iff_iff, decide_eq_true_iff]
   exact inC_mem hx
 rw [e2]
 have e3 : ∀ l : List Ev.Evt, (∀ x ∈ l, Cx.hasC c x.dot = false) → l.map (stripE c) = l := fun l hl => by
   conv => rhs; rw [← List.map_id l]
   refine List.map_congr_left (fun x hx => ?_)
   unfold stripE
   rw [if_neg (by rw [hl x hx]; simp)]
   rfl
 exact e3 _ (fun x hx => by have := (List.mem_filter.1 hx).2; simpa using this)
theorem prune_count (c : List Cx.Part) (S : Bt) (hg : ∀ x ∈ S.2, Ev.goodE x = true) : (pruneB S c).2 = (inC c (S.2.filter (kindB 2))).length := by
 show S.2.length - (S.2.filter (stayB c)).length = _
 unfold inC
 rw [List.length_map, List.filter_filter]
 have h : ∀ l : List Ev.Evt, (∀ x ∈ l, Ev.goodE x = true) → l.length = (l.filter (stayB c)).length + (l.filter fun x => Cx.hasC c x.dot && kindB 2 x).length := by
   intro l
   induction l with
   | nil => intro _; rfl
   | cons x l ih =>
     intro hl
     have h1 := ih (fun y hy => hl y (List.mem_cons_of_mem _ hy))
     rw [List.filter_cons, List.filter_cons]
     have h2 := kind_good (hl x (List.mem_cons_self ..))
     unfold stayB kindB at *
     rcases h2 with h2 | h2
     · simp [h2]; omega
     · cases hc : Cx.hasC c x.dot <;> simp [h2] <;> omega
 have := h S.2 hg
 omega
theorem prune_end {w w' : World} {p : Nat} {A : Option Addr} {n k : Nat} {m1 m2 : Option Nat} {L1 L2 L1' : List Ev.EV} {S : Bt} {c : List Cx.Part} (h : BkIs w p A n k m1 m2 L1 L2 S) (ht : Turns w p m1 m2 m1 m2 w')
   (hm : BkMem w' p A n k m1 m2 L1' (butL (inC c (S.2.filter (kindB 2))) L2)) (h1 : Ev.Match w' w'.heap.size L1' ((S.2.filter (kindB 1)).map (bareIn (inC c (S.2.filter (kindB 1)))))) : Goes w p m1 m2 (pruneB S c).1 w' := by
 refine ⟨A, n, k, m1, m2, L1', _, ⟨hm, leg_prune h.leg, ctx_off h.mem.nonum ht.off h.seen, ?_, ?_⟩, ht⟩
 · rw [live_prune, ← bare_all]
   exact h1
 · rw [tomb_prune]
   exact match_butL _ (match_off h.mem.nonum ht.off h.tombM)
end Go.Proofs.YtgaegfddobpomaaGreat.Bk
