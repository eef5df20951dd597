/- Words and contracts that the proofs of this seat stand on, part 12 of 28. -/
import Derived.Test.YtgaegfddobpomaaGreatFrK
import Derived.Test.YtgaegfddobpomaaGreatFrJ
import Derived.Test.YtgaegfddobpomaaGreatFrI
import Derived.Deep.AppendLies

namespace Go.Proofs.YtgaegfddobpomaaGreat.Bk
open Go.ChangeShapes Go.WideShapes Go.ChangeAt Go.RowKit Go.Proofs.YtgaegfddobpomaaGreat.Kl
set_option linter.unusedVariables false
structure Leg (S : Bt) : Prop where
 ctx : Cx.OrdC S.1
 rise : Ev.OrdE S.2
 good : ∀ x ∈ S.2, Ev.goodE x = true
 live : ∀ x ∈ S.2, x.kind = 1 → ∀ z ∈ S.2, x.dot ∉ z.kills
 seen : ∀ x ∈ S.2, ∀ d, d = x.dot ∨ d ∈ x.kills → Cx.hasC S.1 d = true
theorem leg_nil : Leg ([], []) := ⟨Cx.ord_nil, List.Pairwise.nil, (fun x hx => by cases hx), (fun x hx => by cases hx), (fun x hx => by cases hx)⟩
theorem hasC_set {a b : List Cx.Part} (ha : Cx.FitC a) (hb : Cx.FitC b) (d : Dt.Dot) : Cx.hasC (Cx.setC a b 0) d = (Cx.hasC a d || Cx.hasC b d) := by
 unfold Cx.hasC
 rw [Cx.has_set0 ha hb]
 cases Dt.mayD d <;> simp
theorem good_own {x : Ev.Evt} (h : Ev.goodE x = true) : x.dot ∉ x.kills ∧ Dt.mayD x.dot = true ∧ ∀ d ∈ x.kills, Dt.mayD d = true := by
 unfold Ev.goodE at h
 simp only [Bool.and_eq_true, Bool.not_eq_true', decide_eq_false_iff_not, List.all_eq_true] at h
 exact ⟨h.2, h.1.1.1.1.1.2, h.1.1.1.2⟩
theorem hasC_of {l : List Dt.Dot} (hl : Dt.Fit l) {d : Dt.Dot} (hd : d ∈ l) (hm : Dt.mayD d = true) : Cx.hasC (Cx.ofC l) d = true := by
 unfold Cx.hasC
 rw [Cx.has_of hl, hm, Bool.true_and, List.any_eq_true]
 exact ⟨d, hd, by unfold Cx.isDot; simp [hm]⟩
theorem leg_put {S : Bt} {w : World} {B : Nat} {q : Ev.EV} {x : Ev.Evt} (h : Leg S) (hx : Ev.EventIs w B q x) : Leg (putB S x).1 := by
 unfold putB
 split
 · exact h
 · split
   · exact h
   · rename_i hg hs
     have hgx : Ev.goodE x = true := by cases h2 : Ev.goodE x with | true => rfl | false => exact absurd h2 hg
     have hf := dots_fit hx
     have hmem : ∀ y, y ∈ Ev.putE (S.2.filter (leftB x)) x → (y ∈ S.2 ∧ leftB x y = true) ∨ y = x := fun y hy => by
       rcases (Ev.put_mem y).1 hy with h1 | ⟨_, h1⟩
       · exact .inl (List.mem_filter.1 h1)
       · exact .inr h1
     have hsx : ∀ z ∈ S.2, x.dot ∉ z.kills := fun z hz hk => hs (h.seen z hz x.dot (.inr hk))
     refine ⟨Cx.ord_set h.ctx.fit (Cx.ord_of hf).fit 0, Ev.put_ord x (h.rise.filter _), fun y hy => ?_, fun y hy hk z hz => ?_, fun y hy d hd => ?_⟩
     · rcases hmem y hy with h1 | rfl
       · exact h.good y h1.1
       · exact hgx
     · rcases hmem y hy with ⟨h1, h2⟩ | rfl
       · rcases hmem z hz with ⟨h3, _⟩ | rfl
         · exact h.live y h1 hk z h3
         · unfold leftB at h2
           simpa [hk] using h2
       · rcases hmem z hz with ⟨h3, _⟩ | rfl
         · exact hsx z h3
         · exact (good_own hgx).1
     · show Cx.hasC (Cx.setC S.1 (Cx.ofC (Ev.dotsE [x])) 0) d = true
       rw [hasC_set h.ctx.fit (Cx.ord_of hf).fit]
       rcases hmem y hy with ⟨h1, _⟩ | rfl
       · rw [h.seen y h1 d hd, Bool.true_or]
       · have hin : d ∈ Ev.dotsE [y] := (dots_mem [y] d).2 ⟨y, List.mem_singleton.2 rfl, hd⟩
         have hm : Dt.mayD d = true := by
           rcases hd with rfl | hd
           · exact (good_own hgx).2.1
           · exact (good_own hgx).2.2 d hd
         rw [hasC_of hf hin hm, Bool.or_true]
theorem leg_see {S : Bt} {c : List Cx.Part} (h : Leg S) (hc : Cx.FitC c) : Leg (Cx.setC S.1 c 0, S.2) :=
 ⟨Cx.ord_set h.ctx.fit hc 0, h.rise, h.good, h.live, fun x hx d hd => by
   show Cx.hasC (Cx.setC S.1 c 0) d = true
   rw [hasC_set h.ctx.fit hc, h.seen x hx d hd, Bool.true_or]⟩
theorem strip_dot (c : List Cx.Part) (x : Ev.Evt) : (stripE c x).dot = x.dot ∧ (stripE c x).kind = x.kind ∧ (∀ d ∈ (stripE c x).kills, d ∈ x.kills) := by
 unfold stripE
 split
 · exact ⟨rfl, rfl, fun d hd => by cases hd⟩
 · exact ⟨rfl, rfl, fun d hd => hd⟩
theorem strip_good {c : List Cx.Part} {x : Ev.Evt} (h : Ev.goodE x = true) : Ev.goodE (stripE c x) = true := by
 unfold stripE
 split
 · unfold Ev.goodE at h ⊢
   simp only [Bool.and_eq_true] at h ⊢
   obtain ⟨⟨⟨⟨⟨⟨h1, h2⟩, h3⟩, _⟩, _⟩, _⟩, _⟩ := h
   exact ⟨⟨⟨⟨⟨⟨h1, h2⟩, h3⟩, rfl⟩, by simp⟩, rfl⟩, by simp⟩
 · exact h
theorem leg_prune {S : Bt} {c : List Cx.Part} (h : Leg S) : Leg (pruneB S c).1 := by
 have hmem : ∀ y, y ∈ (S.2.filter (stayB c)).map (stripE c) → ∃ x ∈ S.2, y = stripE c x := fun y hy => by
   obtain ⟨x, hx, rfl⟩ := List.mem_map.1 hy
   exact ⟨x, (List.mem_filter.1 hx).1, rfl⟩
 refine ⟨h.ctx, ?_, fun y hy => ?_, fun y hy hk z hz => ?_, fun y hy d hd => ?_⟩
 · show ((S.2.filter (stayB c)).map (stripE c)).Pairwise _
   refine List.Pairwise.map _ (fun a b hab => ?_) (h.rise.filter (stayB c))
   rw [(strip_dot c a).1, (strip_dot c b).1]; exact hab
 · obtain ⟨x, hx, rfl⟩ := hmem y hy
   exact strip_good (h.good x hx)
 · obtain ⟨x, hx, rfl⟩ := hmem y hy
   obtain ⟨u, hu, rfl⟩ := hmem z hz
   rw [(strip_dot c x).1]
   exact fun hd => h.live x hx (by rw [← (strip_dot c x).2.1]; exact hk) u hu ((strip_dot c u).2.2 _ hd)
 · obtain ⟨x, hx, rfl⟩ := hmem y hy
   refine h.seen x hx d ?_
   rcases hd with rfl | hd
   · exact .inl (strip_dot c x).1
   · exact .inr ((strip_dot c x).2.2 d hd)
theorem leg_from {S : Bt} (h : Leg S) : fromB S.1 S.2 = true := by
 rw [from_ok (fun k hk => ?_), Cx.ord_good h.ctx, Bool.true_and, decide_eq_true_iff]
 · rw [List.filter_eq_nil_iff]
   intro d hd
   obtain ⟨x, hx, h2⟩ := (dots_mem S.2 d).1 hd
   rw [h.seen x hx d h2]; simp
 · have hg := List.getElem?_eq_getElem hk
   have hm := List.getElem_mem hk
   have hd : (decide (S.2[k].kind = 1) && deadB S.2 S.2[k].dot) = false := by
     by_cases h1 : S.2[k].kind = 1
     · rw [decide_eq_true h1, Bool.true_and, ← Bool.not_eq_true, dead_iff]
       rintro ⟨z, hz, hk2⟩
       exact h.live _ hm h1 z hz hk2
     · rw [decide_eq_false h1, Bool.false_and]
   cases k with
   | zero => rw [ok_first hg, h.good _ hm, hd]; rfl
   | succ j =>
     have hj : j < S.2.length := by omega
     have hgj := List.getElem?_eq_getElem hj
     have ha : Dt.aheadD S.2[j].dot S.2[j + 1].dot = true := List.pairwise_iff_getElem.1 h.rise j (j + 1) hj hk (Nat.lt_succ_self j)
     rw [ok_next hg hgj, h.good _ hm, hd, Dt.cmp_less ha]
     rfl
theorem set_one {c : List Cx.Part} (h : Cx.OrdC c) {d : Dt.Dot} (h1 : d.1 < 65536) (h2 : d.2 < 18446744073709551616) (hm : Dt.mayD d = true) : decide (c = Cx.setC c (Cx.dotC d) 0) = Cx.hasC c d := by
 have hf := Cx.fit_dot h1 h2
 have hdot : ∀ e n, Ru.has (Cx.runsC (Cx.dotC d) e) n = true → e = d.1 ∧ n = d.2 := fun e n he => by
   have hof : Cx.dotC d = Cx.dotC d := rfl
   have h3 := (Cx.runs_from (Cx.dotC d) e [] Ru.order_nil).2.1 n
   have h4 : Ru.has (Cx.runsC (Cx.dotC d) e) n = _ := h3
   rw [h4] at he
   simp [Cx.dotC, Ru.has] at he
   omega
 have hin : Cx.hasC (Cx.dotC d) d = true := by
   unfold Cx.hasC
   rw [hm, Bool.true_and]
   have h3 := (Cx.runs_from (Cx.dotC d) d.1 [] Ru.order_nil).2.1 d.2
   have h4 : Ru.has (Cx.runsC (Cx.dotC d) d.1) d.2 = _ := h3
   rw [h4]
   have hd0 : d.1 ≠ 0 := fun h0 => by
     unfold Dt.mayD at hm
     simp [h0] at hm
   have hmr : Ru.mayR (d.2, d.2) = true := by
     have h5 := (Dt.may_iff d).1 hm
     unfold Ru.mayR
     simp only [decide_eq_true_iff]
     omega
   simp [Cx.dotC, Ru.has, hd0, hmr]
 cases hh : Cx.hasC c d with
 | true =>
   refine decide_eq_true (Cx.ord_eq h (Cx.ord_set h.fit hf 0) (fun e n => ?_))
   rw [Cx.has_set0 h.fit hf]
   cases hb : Ru.has (Cx.runsC (Cx.dotC d) e) n with
   | false => rw [Bool.or_false]
   | true =>
     obtain ⟨rfl, rfl⟩ := hdot e n hb
     unfold Cx.hasC at hh
     rw [hm, Bool.true_and] at hh
     rw [hh]; rfl
 | false =>
   refine decide_eq_false (fun e => ?_)
   have h5 := hasC_set h.fit hf d
   rw [← e, hh, hin] at h5
   cases h5
end Go.Proofs.YtgaegfddobpomaaGreat.Bk

namespace Go.Proofs.YtgaegfddobpomaaGreat.Bk
open Go.ChangeShapes Go.WideShapes Go.ChangeAt Go.RowKit Go.Proofs.YtgaegfddobpomaaGreat.Kl
set_option linter.unusedVariables false
set_option maxRecDepth 4000
def wX : Ev.Evt := ⟨(1, 1), 1, 281474976710657, 1, ⟨#[97]⟩, []⟩
def wY : Ev.Evt := ⟨(1, 2), 2, 281474976710657, 0, ⟨#[]⟩, []⟩
def wZ : Ev.Evt := ⟨(1, 2), 2, 281474976710657, 0, ⟨#[]⟩, [(1, 1)]⟩
noncomputable def wc1 : List Cx.Part := Cx.setC [] (Cx.ofC [(1, 1)]) 0
noncomputable def wc2 : List Cx.Part := Cx.setC wc1 (Cx.ofC [(1, 1), (1, 2)]) 0
theorem good_x : Ev.goodE wX = true := by decide
theorem good_y : Ev.goodE wY = true := by decide
theorem good_z : Ev.goodE wZ = true := by decide
theorem fit1 : Dt.Fit [(1, 1)] := fun r hr => by rw [List.mem_singleton.1 hr]; exact ⟨by decide, by decide⟩
theorem fit2 : Dt.Fit [(1, 1), (1, 2)] := fun r hr => by
 simp only [List.mem_cons, List.not_mem_nil, or_false] at hr
 rcases hr with rfl | rfl <;> exact ⟨by decide, by decide⟩
theorem fit_c1 : Cx.FitC wc1 := (Cx.ord_set Cx.ord_nil.fit (Cx.ord_of fit1).fit 0).fit
theorem has_nil (d : Dt.Dot) : Cx.hasC [] d = false := by unfold Cx.hasC; rw [Cx.runs_nil]; simp [Ru.has]
theorem has_c1 (d : Dt.Dot) : Cx.hasC wc1 d = (Dt.mayD d && [((1 : Nat), (1 : Nat))].any (Cx.isDot d.1 d.2)) := by
 unfold Cx.hasC wc1
 rw [Cx.has_set0 Cx.ord_nil.fit (Cx.ord_of fit1).fit, Cx.has_of fit1, Cx.runs_nil]; rfl
theorem has_c2 (d : Dt.Dot) : Cx.hasC wc2 d = (Dt.mayD d && ([((1 : Nat), (1 : Nat))].any (Cx.isDot d.1 d.2) || [((1 : Nat), (1 : Nat)), (1, 2)].any (Cx.isDot d.1 d.2))) := by
 unfold Cx.hasC wc2
 rw [Cx.has_set0 fit_c1 (Cx.ord_of fit2).fit, Cx.has_of fit2]
 unfold wc1
 rw [Cx.has_set0 Cx.ord_nil.fit (Cx.ord_of fit1).fit, Cx.has_of fit1, Cx.runs_nil]; rfl
theorem dots_x : Ev.dotsE [wX] = [(1, 1)] := by decide
theorem dots_z : Ev.dotsE [wZ] = [(1, 1), (1, 2)] := by decide
theorem newk_x : newK [] wX = [] := by unfold newK; rw [if_pos (by decide)]; decide
theorem newk_y : newK [wX] wY = [(1, 1)] := by unfold newK; rw [if_neg (by decide)]; decide
theorem left_z : [wX].filter (leftB wZ) = [] := by decide
theorem wk1 : makeB ([], []) wX = (wX, 0) := by
 unfold makeB
 rw [show bareE wX = wX from rfl, if_neg (by rw [good_x]; decide), if_neg (by rw [has_nil]; decide), newk_x]
 rfl
theorem wk2 : putB ([], []) wX = ((wc1, [wX]), 0) := by
 unfold putB
 rw [if_neg (by rw [good_x]; decide), if_neg (by rw [has_nil]; decide), dots_x]
 rfl
theorem wk3 : makeB (wc1, [wX]) wY = (wZ, 0) := by
 unfold makeB
 rw [show bareE wY = wY from rfl, if_neg (by rw [good_y]; decide), if_neg (by rw [has_c1]; decide), newk_y]
 rfl
theorem wk4 : putB (wc1, [wX]) wZ = ((wc2, [wZ]), 0) := by
 unfold putB
 rw [if_neg (by rw [good_z]; decide), if_neg (by rw [has_c1]; decide), dots_z]
 show ((Cx.setC wc1 (Cx.ofC [(1, 1), (1, 2)]) 0, Ev.putE ([wX].filter (leftB wZ)) wZ), 0) = _
 rw [left_z]
 rfl
theorem wk5 : pruneB (wc2, [wZ]) (Cx.ofC [(1, 2)]) = ((wc2, []), 1) := by
 have hf : Dt.Fit [((1 : Nat), (2 : Nat))] := fun r hr => by rw [List.mem_singleton.1 hr]; exact ⟨by decide, by decide⟩
 have h : [wZ].filter (stayB (Cx.ofC [(1, 2)])) = [] := by
   have h1 : stayB (Cx.ofC [(1, 2)]) wZ = false := by
     unfold stayB Cx.hasC
     rw [Cx.has_of hf]
     decide
   rw [List.filter_cons_of_neg (by rw [h1]; decide), List.filter_nil]
 unfold pruneB
 show ((wc2, ([wZ].filter (stayB (Cx.ofC [(1, 2)]))).map (stripE _)), [wZ].length - ([wZ].filter (stayB (Cx.ofC [(1, 2)]))).length) = _
 rw [h]
 rfl
theorem wh1 : Cx.hasC wc2 (1, 1) = true := by rw [has_c2]; decide
theorem wh2 : Cx.hasC wc2 (1, 2) = true := by rw [has_c2]; decide
theorem bdw1 : Bd 1 (wc1, [wX]) := ⟨(Cx.wt_nil.set (Cx.wt_of fit1)).more (by decide) (by decide), by decide, by decide⟩
theorem bdw2 : Bd 2 (wc2, [wZ]) := ⟨(((Cx.wt_nil.set (Cx.wt_of fit1)).set (Cx.wt_of fit2))).more (by decide) (by decide), by decide, by decide⟩
theorem bdw3 : Bd 2 (wc2, []) := ⟨bdw2.ctx, by decide, fun y hy => by cases hy⟩
theorem fits_w (x : Ev.Evt) (h : x = wX ∨ x = wY) : Ev.Fits x := by
 rcases h with rfl | rfl <;> exact ⟨⟨by decide, by decide⟩, by decide, by decide, by decide, by unfold Ev.Short; decide⟩
theorem is_x (w : World) : Ev.EventIs w w.heap.size ⟨1, 1, 1, 281474976710657, 1, ⟨#[97]⟩, none, 0, 0⟩ wX := ⟨rfl, rfl, rfl, rfl, rfl, rfl, fits_w _ (.inl rfl), Ev.DotsAt.none_ _ _⟩
theorem is_y (w : World) : Ev.EventIs w w.heap.size ⟨1, 2, 2, 281474976710657, 0, ⟨#[]⟩, none, 0, 0⟩ wY := ⟨rfl, rfl, rfl, rfl, rfl, rfl, fits_w _ (.inr rfl), Ev.DotsAt.none_ _ _⟩
theorem lies_dot1 (V : World) (d : Dt.Dot) (T : TypeId) : Dt.Lies (V.alloc (.cells #[.int .u16 (d.1 : Int), .int .u64 (d.2 : Int)] T)) (V.alloc (.cells #[.int .u16 (d.1 : Int), .int .u64 (d.2 : Int)] T)).heap.size (some ⟨V.heap.size, 0, none⟩) (Dt.dv [d]) := fun _ => by
 refine ⟨_, rfl, by rw [Ev.alloc_size]; exact Nat.lt_succ_self _, fun j u hu => ?_⟩
 rw [Dt.zero_add, World.cell?_alloc_new]
 have e : Dt.dv [d] = [.int .u16 (d.1 : Int), .int .u64 (d.2 : Int)] := by simp [Dt.dv]
 rw [e] at hu
 simpa using hu
theorem lies_drew {W : World} {A : Option Addr} {vs : List Value} (h : Dt.Lies W W.heap.size A vs) : Dt.Lies W.drew W.drew.heap.size A vs := (h.below (Ev.bel_drew (Below.refl _ _))).more (Nat.le_refl _)
theorem of12 (V : World) (T : TypeId) : Calls Tryz.prog 41 #[.slice (some ⟨V.heap.size, 0, none⟩) 1 1] (V.alloc (.cells #[.int .u16 1, .int .u64 2] T)).drew (CxOut (V.alloc (.cells #[.int .u16 1, .int .u64 2] T)).drew (Cx.ofC [(1, 2)])) := by
 have h := lies_drew (lies_dot1 V (1, 2) T)
 refine (of_later (w := (V.alloc (.cells #[.int .u16 1, .int .u64 2] T)).drew) (l := [(1, 2)]) ⟨rfl, (fun e => by cases e), Nat.le_refl _, by decide, by decide, fun r hr => by rw [List.mem_singleton.1 hr]; exact ⟨by decide, by decide⟩, h⟩ (by decide) (Below.refl _ _)).mono ?_
 rintro e W ⟨A5, n5, c5, h1, h2, h3, h4⟩
 exact ⟨A5, n5, c5, h1, h2, h4⟩
theorem few12 : Cx.fewC (Cx.ofC [(1, 2)]) = true := by
 have h := Cx.wt_of (l := [((1 : Nat), (2 : Nat))]) (fun r hr => by rw [List.mem_singleton.1 hr]; exact ⟨by decide, by decide⟩)
 refine decide_eq_true ⟨Nat.le_trans h.parts (by decide), fun x hx => ?_⟩
 have h2 := Cx.mem_sum hx
 have h3 := h.runs
 have h4 : [((1 : Nat), (2 : Nat))].length = 1 := rfl
 omega
theorem bel_step {w W V : World} (h : Below w.heap.size w W) (b : Below W.heap.size W V) : Below w.heap.size w V := h.trans (b.mono h.size)
theorem box_dot {V : World} {g : Nat} {q : Ev.EV} {T : TypeId} (h : At V g T (ebox q)) {a b : Nat} (ha : q.dev = a) (hb : q.num = b) : V.cell? ⟨g, 0, none⟩ = some (.int .u16 (a : Int)) ∧ V.cell? ⟨g, 1, none⟩ = some (.int .u64 (b : Int)) := by
 subst ha hb
 exact ⟨h.cell 0, h.cell 1⟩
set_option maxHeartbeats 16000000 in
theorem works_any {R : Lay} (P : PBk R) (w : World) : Calls Tryz.prog 8 #[] w fun e w' => e = .returned (.bool true) ∧ Below w.heap.size w w' := by
 go_enter Tryz.func8, Tryz.ntmps8
 go_wp2_with fail
 refine (P.new w).mono ?_
 rintro r w1 ⟨p, rfl, T1, hr1, ht1, hb1⟩
 have HB1 := Lib.hid hb1
 have HR1 := Lib.hid hr1
 have HT1 := Lib.hid ht1
 clear hr1 ht1 hb1
 have CM : Calls Tryz.prog 12 #[.pointer (some ⟨p, 0, none⟩), .agg #[.int .u16 1, .int .u64 1, .int .u8 1, .int .u64 281474976710657, .int .u8 1, .string ⟨#[97]⟩, .slice none 0 0]] w1 (MkPost w1 (wX, 0)) := by
   have h := P.make w1 p T1 ([], []) _ wX HR1.out (bd_nil.lim (by decide)) (is_x w1)
   rw [wk1] at h
   exact h
 go_wp2_with fail
 refine CM.mono ?_
 rintro r w2 ⟨q, rfl, hq, hb2⟩
 clear CM
 have hbx := Ev.below_new w2 (.cells (ebox q) 38)
 have HB2 := Lib.hid (HB1.out.trans ((hb2.trans (hbx.mono hb2.size)).mono HB1.out.size))
 have HR2 := Lib.hid (P.up HR1.out (hb2.trans (hbx.mono hb2.size)))
 have AX2 := Lib.hid (At.new w2 38 (ebox q))
 have HQ2 := Lib.hid (hq.up hbx)
 have hg : w1.heap.size ≤ w2.heap.size := hb2.size
 have HNX : Hid (¬ T1 w2.heap.size) := Lib.hid (fun h => by have := (P.dom _ _ _ _ HR1.out).2 _ h; omega)
 have HGX : Hid (w.heap.size ≤ w2.heap.size) := Lib.hid (Nat.le_trans HB1.out.size hg)
 clear hq hb2 hbx hg HB1 HR1
 simp only [ebox] at HB2 HR2 HQ2 AX2
 go_wp2_with fail
 generalize w2.alloc (.cells #[.int .u16 (q.dev : Int), .int .u64 (q.num : Int), .int .u8 (q.kind : Int), .int .u64 (q.cid : Int), .int .u8 (q.fld : Int), .string q.txt, .slice q.adr q.len q.cap] 38) = w3 at *
 have CP := P.put w3 p T1 ([], []) q wX HR2.out (bd_nil.lim (by decide)) HQ2.out
 rw [wk2] at CP
 refine CP.mono ?_
 rintro r w4 ⟨rfl, hwent⟩
 obtain ⟨T2, hr4, ht4, K⟩ := hwent.kept
 have HR4 := Lib.hid hr4
 have AX4 := Lib.hid (K.at_ _ _ _ AX2.out HNX.out)
 have HNX4 : Hid (¬ T2 w2.heap.size) := Lib.hid (fun h => (ht4 _ h).elim HNX.out (fun h2 => by have := AX2.out.lt; omega))
 have HB4 := Lib.hid (K.below w HB2.out HT1.out)
 have HT4 : Hid (∀ k, T2 k → w.heap.size ≤ k) := Lib.hid (fun k h => (ht4 _ h).elim (HT1.out k) (fun h2 => Nat.le_trans HB2.out.size h2))
 have HQD := Lib.hid (show q.dev = 1 from HQ2.out.dev)
 have HQN := Lib.hid (show q.num = 1 from HQ2.out.num)
 clear CP hwent hr4 ht4 K HR2 AX2 HNX HB2 HT1 HQ2
 have CM : Calls Tryz.prog 12 #[.pointer (some ⟨p, 0, none⟩), .agg #[.int .u16 1, .int .u64 2, .int .u8 2, .int .u64 281474976710657, .int .u8 0, .string ⟨#[]⟩, .slice none 0 0]] w4 (MkPost w4 (wZ, 0)) := by
   have h := P.make w4 p T2 (wc1, [wX]) _ wY HR4.out (bdw1.lim (by decide)) (is_y w4)
   rw [wk3] at h
   exact h
 go_wp2_with fail
 refine CM.mono ?_
 rintro r w5 ⟨z, rfl, hz, hb5⟩
 clear CM
 have hbx := Ev.below_new w5 (.cells (ebox z) 38)
 have hb6 := hb5.trans (hbx.mono hb5.size)
 have HB6 := Lib.hid (HB4.out.trans (hb6.mono HB4.out.size))
 have HR6 := Lib.hid (P.up HR4.out hb6)
 have AX6 := Lib.hid (AX4.out.below hb6 AX4.out.lt)
 have AZ6 := Lib.hid (At.new w5 38 (ebox z))
 have HZ6 := Lib.hid (hz.up hbx)
 have hg : w4.heap.size ≤ w5.heap.size := hb5.size
 have HNZ : Hid (¬ T2 w5.heap.size) := Lib.hid (fun h => by have := (P.dom _ _ _ _ HR4.out).2 _ h; omega)
 have HGZ : Hid (w.heap.size ≤ w5.heap.size) := Lib.hid (Nat.le_trans HB4.out.size hg)
 clear hz hb5 hbx hg hb6 HB4 HR4 AX4
 simp only [ebox] at HB6 HR6 HZ6 AX6 AZ6
 go_wp2_with fail
 generalize w5.alloc (.cells #[.int .u16 (z.dev : Int), .int .u64 (z.num : Int), .int .u8 (z.kind : Int), .int .u64 (z.cid : Int), .int .u8 (z.fld : Int), .string z.txt, .slice z.adr z.len z.cap] 38) = w6 at *
 have CP := P.put w6 p T2 (wc1, [wX]) z wZ HR6.out (bdw1.lim (by decide)) HZ6.out
 rw [wk4] at CP
 refine CP.mono ?_
 rintro r w7 ⟨rfl, hwent⟩
 obtain ⟨T3, hr7, ht7, K⟩ := hwent.kept
 have HR7 := Lib.hid hr7
 have AX7 := Lib.hid (K.at_ _ _ _ AX6.out HNX4.out)
 have AZ7 := Lib.hid (K.at_ _ _ _ AZ6.out HNZ.out)
 have HNX7 : Hid (¬ T3 w2.heap.size) := Lib.hid (fun h => (ht7 _ h).elim HNX4.out (fun h2 => by have := AX6.out.lt; omega))
 have HNZ7 : Hid (¬ T3 w5.heap.size) := Lib.hid (fun h => (ht7 _ h).elim HNZ.out (fun h2 => by have := AZ6.out.lt; omega))
 have HB7 := Lib.hid (K.below w HB6.out HT4.out)
 have HT7 : Hid (∀ k, T3 k → w.heap.size ≤ k) := Lib.hid (fun k h => (ht7 _ h).elim (HT4.out k) (fun h2 => Nat.le_trans HB6.out.size h2))
 have HZD := Lib.hid (show z.dev = 1 from HZ6.out.dev)
 have HZN := Lib.hid (show z.num = 2 from HZ6.out.num)
 have hzl : z.len = 1 := HZ6.out.kills.len.symm
 clear CP hwent hr7 ht7 K HR6 AX6 AZ6 HNX4 HNZ HB6 HT4 HZ6
 have z6 := AZ7.out.cell 6
 simp at z6
 go_wp2_with fail
 refine (P.live w7 p T3 (wc2, [wZ]) HR7.out (bdw2.lim (by decide))).mono ?_
 rintro r w8 ⟨A8, n8, c8, rfl, h8, b8⟩
 have hn8 : n8 = 0 := h8.len.symm
 have B8 := Lib.hid b8
 have HB8 := Lib.hid (HB7.out.trans (b8.mono HB7.out.size))
 have HR8 := Lib.hid (P.up HR7.out b8)
 clear h8 b8
 go_wp2_with fail
 refine (P.tombs w8 p T3 (wc2, [wZ]) HR8.out (bdw2.lim (by decide))).mono ?_
 rintro r w9 ⟨A9, n9, c9, rfl, h9, b9⟩
 have hn9 : n9 = 1 := h9.len.symm
 have HB9 := Lib.hid (HB8.out.trans (b9.mono HB8.out.size))
 have HR9 := Lib.hid (P.up HR8.out b9)
 have B9 := B8.out.trans (b9.mono B8.out.size)
 have HX9 : Hid (∀ V, Below w9.heap.size w9 V → V.cell? ⟨w2.heap.size, 0, none⟩ = some (.int .u16 1) ∧ V.cell? ⟨w2.heap.size, 1, none⟩ = some (.int .u64 1) ∧ V.cell? ⟨w5.heap.size, 0, none⟩ = some (.int .u16 1) ∧ V.cell? ⟨w5.heap.size, 1, none⟩ = some (.int .u64 2)) := Lib.hid (fun V hV => by
   have hb := B9.trans (hV.mono B9.size)
   have h1 := box_dot (AX7.out.below hb AX7.out.lt) HQD.out HQN.out
   have h2 := box_dot (AZ7.out.below hb AZ7.out.lt) HZD.out HZN.out
   exact ⟨h1.1, h1.2, h2.1, h2.2⟩)
 clear h9 b9 B9 B8 HR7 HR8 HB7 HB8 AX7 AZ7 HQD HQN HZD HZN z6
 go_upto_region 8 with fail
 have CPR := fun V A n k (hV : Below w9.heap.size w9 V) (hc : Cx.CtxAt V A (Cx.ofC [(1, 2)]) n k) => P.prune V p T3 (wc2, [wZ]) A _ n k (P.up HR9.out hV) (bdw2.lim (by decide)) hc few12
 rw [wk5] at CPR
 have CHX : ∀ V A n k, Cx.CtxAt V A wc2 n k → Calls Tryz.prog 31 #[.slice A n k, .agg #[.int .u16 1, .int .u64 1]] V (fun e w' => e = .returned (.bool true) ∧ Below V.heap.size V w') := fun V A n k h => by
   have h2 := Cx.rhas_any V A wc2 n k (1, 1) h (bdw2.lim (by decide)).ctx ⟨by decide, by decide⟩
   rw [wh1] at h2
   exact h2
 have CHZ : ∀ V A n k, Cx.CtxAt V A wc2 n k → Calls Tryz.prog 31 #[.slice A n k, .agg #[.int .u16 1, .int .u64 2]] V (fun e w' => e = .returned (.bool true) ∧ Below V.heap.size V w') := fun V A n k h => by
   have h2 := Cx.rhas_any V A wc2 n k (1, 2) h (bdw2.lim (by decide)).ctx ⟨by decide, by decide⟩
   rw [wh2] at h2
   exact h2
 obtain ⟨x0, x1, x2, x3⟩ := HX9.out w9 (Below.refl _ _)
 go_region_held3 (fun V => V.cell? ⟨w2.heap.size, 0, none⟩ = some (.int .u16 1) ∧ V.cell? ⟨w2.heap.size, 1, none⟩ = some (.int .u64 1) ∧ V.cell? ⟨w5.heap.size, 0, none⟩ = some (.int .u16 1) ∧ V.cell? ⟨w5.heap.size, 1, none⟩ = some (.int .u64 2)) (first | exact ⟨x0, x1, x2, x3⟩ | assumption | exact HX9.out _ (by (repeat (first | exact Below.refl _ _ | assumption | apply Ev.bel_drew | apply Ev.bel_alloc)))) (first
   | (go_at_call 29; (with_reducible refine (P.ctx _ p T4 _ hRe (bdw3.lim (by decide))).mono ?_); rintro r Vf ⟨Af, nf, cf, rfl, hf, b5⟩; have hcf := (⟨Ev.stays b5 hce.1, Ev.stays b5 hce.2.1, Ev.stays b5 hce.2.2.1, Ev.stays b5 hce.2.2.2⟩ : Vf.cell? ⟨w2.heap.size, 0, none⟩ = some (.int .u16 1) ∧ Vf.cell? ⟨w2.heap.size, 1, none⟩ = some (.int .u64 1) ∧ Vf.cell? ⟨w5.heap.size, 0, none⟩ = some (.int .u16 1) ∧ Vf.cell? ⟨w5.heap.size, 1, none⟩ = some (.int .u64 2)); have hBf := bel_step hBe b5)
   | (go_at_call 31; (with_reducible refine (CHZ _ _ _ _ hf).mono ?_); rintro r Vg ⟨rfl, b6⟩; have hcg := (⟨Ev.stays b6 hcf.1, Ev.stays b6 hcf.2.1, Ev.stays b6 hcf.2.2.1, Ev.stays b6 hcf.2.2.2⟩ : Vg.cell? ⟨w2.heap.size, 0, none⟩ = some (.int .u16 1) ∧ Vg.cell? ⟨w2.heap.size, 1, none⟩ = some (.int .u64 1) ∧ Vg.cell? ⟨w5.heap.size, 0, none⟩ = some (.int .u16 1) ∧ Vg.cell? ⟨w5.heap.size, 1, none⟩ = some (.int .u64 2)); have hBg := bel_step hBf b6)
   | (go_at_call 29; (with_reducible refine (P.ctx _ p T4 _ hRc (bdw3.lim (by decide))).mono ?_); rintro r Vd ⟨Ad, nd, cd, rfl, hd, b3⟩; have hcd := (⟨Ev.stays b3 hcc.1, Ev.stays b3 hcc.2.1, Ev.stays b3 hcc.2.2.1, Ev.stays b3 hcc.2.2.2⟩ : Vd.cell? ⟨w2.heap.size, 0, none⟩ = some (.int .u16 1) ∧ Vd.cell? ⟨w2.heap.size, 1, none⟩ = some (.int .u64 1) ∧ Vd.cell? ⟨w5.heap.size, 0, none⟩ = some (.int .u16 1) ∧ Vd.cell? ⟨w5.heap.size, 1, none⟩ = some (.int .u64 2)); have hBd := bel_step hBc b3; have hRd := P.up hRc b3)
   | (go_at_call 31; (with_reducible refine (CHX _ _ _ _ hd).mono ?_); rintro r Ve ⟨rfl, b4⟩; have hce := (⟨Ev.stays b4 hcd.1, Ev.stays b4 hcd.2.1, Ev.stays b4 hcd.2.2.1, Ev.stays b4 hcd.2.2.2⟩ : Ve.cell? ⟨w2.heap.size, 0, none⟩ = some (.int .u16 1) ∧ Ve.cell? ⟨w2.heap.size, 1, none⟩ = some (.int .u64 1) ∧ Ve.cell? ⟨w5.heap.size, 0, none⟩ = some (.int .u16 1) ∧ Ve.cell? ⟨w5.heap.size, 1, none⟩ = some (.int .u64 2)); have hBe := bel_step hBd b4; have hRe := P.up hRd b4)
   | (go_at_call 30; (with_reducible refine (P.all _ p T4 (wc2, []) hr4 (bdw3.lim (by decide))).mono ?_); rintro r Vc ⟨Ac, nc, cc, rfl, hc0, b2⟩; have hnc : nc = 0 := hc0.at_.len.symm; have hcc := (⟨Ev.stays b2 hcb.1, Ev.stays b2 hcb.2.1, Ev.stays b2 hcb.2.2.1, Ev.stays b2 hcb.2.2.2⟩ : Vc.cell? ⟨w2.heap.size, 0, none⟩ = some (.int .u16 1) ∧ Vc.cell? ⟨w2.heap.size, 1, none⟩ = some (.int .u64 1) ∧ Vc.cell? ⟨w5.heap.size, 0, none⟩ = some (.int .u16 1) ∧ Vc.cell? ⟨w5.heap.size, 1, none⟩ = some (.int .u64 2)); have hBc := bel_step hBb b2; have hRc := P.up hr4 b2)
   | (go_at_call 18; (with_reducible refine (CPR _ _ _ _ bva ha).mono ?_); rintro r Vb ⟨rfl, hwent⟩; obtain ⟨T4, hr4, ht4, K⟩ := hwent.kept; have hcb := (⟨K.cell _ _ hca.1 HNX7.out, K.cell _ _ hca.2.1 HNX7.out, K.cell _ _ hca.2.2.1 HNZ7.out, K.cell _ _ hca.2.2.2 HNZ7.out⟩ : Vb.cell? ⟨w2.heap.size, 0, none⟩ = some (.int .u16 1) ∧ Vb.cell? ⟨w2.heap.size, 1, none⟩ = some (.int .u64 1) ∧ Vb.cell? ⟨w5.heap.size, 0, none⟩ = some (.int .u16 1) ∧ Vb.cell? ⟨w5.heap.size, 1, none⟩ = some (.int .u64 2)); have hBb := K.below w (bel_step HB9.out bva) HT7.out)
   | (go_at_call 41; (refine (of12 _ _).mono ?_); rintro r Va ⟨Aa, na, ca, rfl, ha, b1⟩; have bva := bel_step (w := w9) (by (repeat (first | exact Below.refl _ _ | apply Ev.bel_drew | apply Ev.bel_alloc))) b1; have hca := HX9.out Va bva))
 all_goals
   have HV := Lib.hid hBg
   go_wp2
   go_ret
   exact ⟨rfl, HV.out⟩
def FrPost (R : Lay) (w : World) (c : List Cx.Part) (l : List Ev.Evt) (e : Ending) (w' : World) : Prop :=
 if fromB c l = true then ∃ p, e = .returned (.tuple #[.pointer (some ⟨p, 0, none⟩), .int .i64 0]) ∧ Fresh R w (c, l) p w' else e = .returned (.tuple #[.pointer none, .int .i64 1]) ∧ Below w.heap.size w w'
structure PFr (R : Lay) : Prop where
 from_ : ∀ w A1 A2 c l n1 c1 n2 c2, Cx.CtxAt w A1 c n1 c1 → Ev.EventsAt w w.heap.size A2 l n2 c2 → Lim (c, l) → Calls Tryz.prog 27 #[.slice A1 n1 c1, .slice A2 n2 c2] w (FrPost R w c l)
theorem Bd.lim31 {k : Nat} {S : Bt} (h : Bd k S) (hk : k ≤ 31) : Lim S := ⟨h.ctx.small (by omega) (by omega), Nat.le_trans h.few (by omega), fun y hy => Nat.le_trans (h.kills y hy) (by decide)⟩
theorem bd_prune0 {k : Nat} {S : Bt} {c : List Cx.Part} (h : Bd k S) : Bd k (pruneB S c).1 := by
 have h1 := bd_prune (c := c) h
 refine ⟨h.ctx, ?_, h1.kills⟩
 show ((S.2.filter (stayB c)).map (stripE c)).length ≤ k
 rw [List.length_map]
 exact Nat.le_trans (List.length_filter_le _ _) h.few
theorem few_all2 {l : List Ev.Evt} {m : Nat} (h : Ev.fewB l m = true) : l.length ≤ m ∧ ∀ x ∈ l, x.kills.length ≤ 300 := by
 unfold Ev.fewB at h
 rw [Bool.and_eq_true, decide_eq_true_iff, List.all_eq_true] at h
 refine ⟨h.1, fun x hx => ?_⟩
 have h2 := h.2 x hx
 unfold Ev.fewE at h2
 rw [Bool.and_eq_true, decide_eq_true_iff] at h2
 exact h2.1
theorem lit_ctx (V : World) (a b : Nat) (h1 : a < 65536) (h2 : b < 18446744073709551616) (T1 T2 : TypeId) :
   Cx.CtxAt ((V.alloc (.cells #[.int .u64 (b : Int), .int .u64 (b : Int)] T1)).alloc (.cells #[.int .u16 (a : Int), .slice (some ⟨V.heap.size, 0, none⟩) 1 1] T2)) (some ⟨V.heap.size + 1, 0, none⟩) (Cx.dotC (a, b)) 1 1 := by
 have hb := Ev.below_new (V.alloc (.cells #[.int .u64 (b : Int), .int .u64 (b : Int)] T1)) (.cells #[.int .u16 (a : Int), .slice (some ⟨V.heap.size, 0, none⟩) 1 1] T2)
 have hr : Ru.Runs (V.alloc (.cells #[.int .u64 (b : Int), .int .u64 (b : Int)] T1)) (V.alloc (.cells #[.int .u64 (b : Int), .int .u64 (b : Int)] T1)).heap.size (some ⟨V.heap.size, 0, none⟩) [(b, b)] := by
   refine ⟨fun r hr => by rw [List.mem_singleton.1 hr]; exact ⟨h2, h2⟩, fun _ => ⟨_, rfl, by rw [Ev.alloc_size]; exact Nat.lt_succ_self _, fun j u hu => ?_⟩⟩
   rw [Dt.zero_add, World.cell?_alloc_new]
   have e : Ru.rv [(b, b)] = [.int .u64 (b : Int), .int .u64 (b : Int)] := by simp [Ru.rv]
   rw [e] at hu
   simpa using hu
 refine ⟨rfl, (fun e => by cases e), Nat.le_refl _, by decide, [⟨a, some ⟨V.heap.size, 0, none⟩, 1, 1⟩], fun _ => ⟨_, rfl, by rw [Ev.alloc_size, Ev.alloc_size]; exact Nat.lt_succ_self _, fun j u hu => ?_⟩, rfl, fun k p x hp hx => ?_⟩
 · rw [show (⟨V.heap.size + 1, 0, none⟩ : Addr) = ⟨(V.alloc (.cells #[.int .u64 (b : Int), .int .u64 (b : Int)] T1)).heap.size, 0, none⟩ by rw [Ev.alloc_size], Dt.zero_add, World.cell?_alloc_new]
   have e : Cx.cv [⟨a, some ⟨V.heap.size, 0, none⟩, 1, 1⟩] = [.int .u16 (a : Int), .slice (some ⟨V.heap.size, 0, none⟩) 1 1] := by simp [Cx.cv]
   rw [e] at hu
   simpa using hu
 · have hk : k = 0 := by have := (List.getElem?_eq_some_iff.1 hp).1; simp at this; omega
   subst hk
   cases hp; cases hx
   exact ⟨rfl, h1, rfl, (fun e => by cases e), Nat.le_refl _, (show (1 : Nat) ≤ 9223372036854775807 by decide), (hr.below hb).more hb.size⟩
theorem few_dotC (d : Dt.Dot) : Cx.fewC (Cx.dotC d) = true := decide_eq_true ⟨by simp [Cx.dotC], fun x hx => by rw [List.mem_singleton.1 hx]; exact (show (1 : Nat) ≤ 30 by decide)⟩
theorem went_two {R : Lay} (P : PBk R) {w W : World} {p p2 : Nat} {T T2 : Nat → Prop} {S S2 : Bt} (h : Went R w p T S W) (h2 : R w p2 T2 S2) (hd : ∀ k, T2 k → ¬ T k) : ∃ T', R W p T' S ∧ R W p2 T2 S2 ∧ Kept w W T := by
 obtain ⟨_, _, _, K⟩ := h.kept
 obtain ⟨T', F, h3, h4, h5, h6, h7⟩ := h
 exact ⟨T', h3, P.off _ _ _ _ _ _ h2 h7 h6 (fun k hk hf => hd k hk (h5 k hf)), K⟩
theorem same_pair (a b : List Cx.Part) (l : List Ev.Evt) : decide (((a, l) : Bt) = (b, l)) = decide (a = b) := by
 rw [Bool.eq_iff_iff, decide_eq_true_iff, decide_eq_true_iff]
 exact ⟨fun h => congrArg Prod.fst h, fun h => by rw [h]⟩
set_option maxHeartbeats 32000000 in
theorem from_walk {R : Lay} (P : PBk R) (F : PFr R) (w : World) (A1 A2 A3 : Option Addr) (c : List Cx.Part) (l : List Ev.Evt) (ac : List Ac) (n1 c1 n2 c2 n3 c3 : Nat) (hc : Cx.CtxAt w A1 c n1 c1) (hl : Ev.EventsAt w w.heap.size A2 l n2 c2) (ha : ActsAt w A3 ac n3 c3) :
   Calls Tryz.prog 4 #[.slice A1 n1 c1, .slice A2 n2 c2, .slice A3 n3 c3] w fun e w' => e = .returned (.bool true) ∧ Below w.heap.size w w' := by
 have HC := Lib.hid hc
 have HL := Lib.hid hl
 have HA := Lib.hid ha
 have h63 : n3 ≤ 9223372036854775807 := Nat.le_trans ha.cap ha.max
 clear hc hl ha
 have C1 := Cx.rfew_any w A1 c n1 c1 HC.out
 go_enter Tryz.func4, Tryz.ntmps4
 go_wp2_with fail
 refine C1.mono ?_
 rintro r w1 ⟨rfl, b1⟩
 have HB1 := Lib.hid b1
 clear C1 b1
 cases h1 : Cx.fewC c with
 | false =>
   clear h1
   go_wp2_with fail
   refine (works_any P w1).mono ?_
   rintro r w2 ⟨rfl, b2⟩
   have HV := Lib.hid (HB1.out.trans (b2.mono HB1.out.size))
   clear b2
   go_wp2
   go_ret
   exact ⟨rfl, HV.out⟩
 | true =>
   have HF1 := Lib.hid h1
   clear h1
   go_wp2_with fail
   refine (Ev.rfew_any w1 A2 l n2 c2 15 (by decide) (HL.out.up HB1.out)).mono ?_
   rintro r w1' ⟨rfl, rfl⟩
   cases h2 : Ev.fewB l 15 with
   | false =>
     clear h2
     go_wp2_with fail
     refine (works_any P w1').mono ?_
     rintro r w2 ⟨rfl, b2⟩
     have HV := Lib.hid (HB1.out.trans (b2.mono HB1.out.size))
     clear b2
     go_wp2
     go_ret
     exact ⟨rfl, HV.out⟩
   | true =>
     have HF2 := Lib.hid (few_all2 h2)
     clear h2
     go_wp2_with fail
     refine (rfewa_any w1' A3 ac n3 c3 15 (by decide) (HA.out.up HB1.out)).mono ?_
     rintro r w3 ⟨rfl, b3⟩
     have HB3 := Lib.hid (HB1.out.trans (b3.mono HB1.out.size))
     clear b3 HB1
     cases h3 : fewA ac 15 with
     | false =>
       clear h3
       go_wp2_with fail
       refine (works_any P w3).mono ?_
       rintro r w4 ⟨rfl, b4⟩
       have HV := Lib.hid (HB3.out.trans (b4.mono HB3.out.size))
       clear b4
       go_wp2
       go_ret
       exact ⟨rfl, HV.out⟩
     | true =>
       have HF3 := Lib.hid (fewA_all h3)
       clear h3
       have hn3 : n3 ≤ 15 := by have h := HF3.out.1; rw [HA.out.len] at h; exact h
       have HLM : Hid (Lim (c, l)) := Lib.hid ⟨Cx.few_is HF1.out, Nat.le_trans HF2.out.1 (by decide), fun y hy => Nat.le_trans (HF2.out.2 y hy) (by decide)⟩
       have HCW := Lib.hid (HC.out.up HB3.out)
       have HLW := Lib.hid (HL.out.up HB3.out)
       have CFR := F.from_ w3 A1 A2 c l n1 c1 n2 c2 HCW.out HLW.out HLM.out
       unfold FrPost at CFR
       cases hfb : fromB c l with
       | false =>
         simp only [hfb, Bool.false_eq_true, if_false] at CFR
         go_wp2_with fail
         refine CFR.mono ?_
         rintro r w4 ⟨rfl, b4⟩
         have HB4 := Lib.hid (HB3.out.trans (b4.mono HB3.out.size))
         have CR := rfrom_any w4 A1 A2 c l n1 c1 n2 c2 (HCW.out.up b4) (HLW.out.up b4) (Cx.few_is HF1.out) (by rw [← HLW.out.len]; exact Nat.le_trans HF2.out.1 (by decide)) (fun y hy => Nat.le_trans (HF2.out.2 y hy) (by decide))
         rw [hfb] at CR
         clear b4 CFR hfb HCW HLW HB3
         go_wp2_with fail
         refine CR.mono ?_
         rintro r wq ⟨rfl, b5⟩
         have HBQ := Lib.hid (HB4.out.trans (b5.mono HB4.out.size))
         clear b5 CR HB4
         go_wp2_with fail
         refine (P.new wq).mono ?_
         rintro r wn ⟨p0, rfl, T0, hr0, ht0, b0⟩
         have HR0 := Lib.hid hr0
         have HT0 : Hid (∀ k, T0 k → w.heap.size ≤ k) := Lib.hid (fun k hk => Nat.le_trans HBQ.out.size (ht0 k hk))
         have HB0 := Lib.hid (HBQ.out.trans (b0.mono HBQ.out.size))
         clear hr0 ht0 b0 HBQ
         go_wp2
         go_loopw [10] (fun i wr => ∃ (k : Nat) (T : Nat → Prop) (S : Bt), k ≤ n3 ∧ i = .int .i64 (k : Int) ∧ R wr p0 T S ∧ (∀ j, T j → w.heap.size ≤ j) ∧ Leg S ∧ Bd k S ∧ Below w.heap.size w wr) (fun i _ => n3 - (intOf i).toNat)
         case atStart => exact ⟨0, T0, ([], []), Nat.zero_le _, rfl, HR0.out, HT0.out, leg_nil, bd_nil, HB0.out⟩
         case round =>
           obtain ⟨k, T, S, hk, rfl, hr, ho, hleg, hbd, hw⟩ := hrel
           have HR := Lib.hid hr
           have HO := Lib.hid ho
           have HG := Lib.hid hleg
           have HD := Lib.hid hbd
           have HW := Lib.hid hw
           clear hr ho hleg hbd hw HR0 HT0 HB0
           by_cases hlt : k < n3
           · obtain ⟨ad, p, x, rfl, hB, hlx, hp, cp⟩ := HA.out.at_ hlt
             have HP := Lib.hid hp
             have HCP := Lib.hid cp
             have hfc : Cx.fewC x.c = true := by have h := HF3.out.2 x (List.mem_of_getElem? hlx); unfold fewO at h; rw [Bool.and_eq_true] at h; exact h.2
             clear hlx hp cp
             obtain ⟨x0, x1, x2, x3, x4, x5, x6, x7, x8⟩ := HCP.out.kept HW.out
             have CP := P.put wr p0 T S p.ev x.e HR.out (HD.out.lim31 (by omega)) (HP.out.evt.up HW.out)
             go_wp2_with fail
             refine CP.mono ?_
             rintro r w6 ⟨rfl, hwent⟩
             obtain ⟨T6, hr6, ht6, K⟩ := hwent.kept
             have HR6 := Lib.hid hr6
             have HG6 := Lib.hid (leg_put HG.out HP.out.evt)
             have HD6 := Lib.hid (bd_put HD.out HP.out.evt)
             have HO6 : Hid (∀ j, T6 j → w.heap.size ≤ j) := Lib.hid (fun j hj => (ht6 j hj).elim (HO.out j) (fun h => Nat.le_trans HW.out.size h))
             have HW6 := Lib.hid (K.below w HW.out HO.out)
             clear CP hwent hr6 ht6 K HR HG HD HO HW x0 x1 x2 x3 x4 x5 x6 x7 x8
             obtain ⟨x0, x1, x2, x3, x4, x5, x6, x7, x8⟩ := HCP.out.kept HW6.out
             have CP := P.prune w6 p0 T6 _ p.adr x.c p.len p.cap HR6.out (HD6.out.lim31 (by omega)) (HP.out.ctx.up HW6.out) hfc
             go_wp2_with fail
             refine CP.mono ?_
             rintro r w7 ⟨rfl, hwent⟩
             obtain ⟨T7, hr7, ht7, K⟩ := hwent.kept
             have HR7 := Lib.hid hr7
             have HG7 := Lib.hid (leg_prune (c := x.c) HG6.out)
             have HD7 := Lib.hid (bd_prune0 (c := x.c) HD6.out)
             have HO7 : Hid (∀ j, T7 j → w.heap.size ≤ j) := Lib.hid (fun j hj => (ht7 j hj).elim (HO6.out j) (fun h => Nat.le_trans HW6.out.size h))
             have HW7 := Lib.hid (K.below w HW6.out HO6.out)
             clear CP hwent hr7 ht7 K HR6 HG6 HD6 HO6 HW6 HCP HP x0 x1 x2 x3 x4 x5 x6 x7 x8
             go_wp2
             go_roundw
             case rel => exact ⟨k + 1, T7, _, by omega, by go_num, HR7.out, HO7.out, HG7.out, HD7.out, HW7.out⟩
             case measure => simp [intOf]; omega
           · obtain rfl : k = n3 := by omega
             obtain ⟨sc, sl⟩ := S
             have HLS : Hid (Lim (sc, sl)) := Lib.hid (HD.out.lim31 (by omega))
             have HFB := Lib.hid (leg_from HG.out)
             go_wp2_with fail
             refine (P.ctx wr p0 T (sc, sl) HR.out HLS.out).mono ?_
             rintro r wa ⟨Aa, na, ca, rfl, ha, ba⟩
             have HRa := Lib.hid (P.up HR.out ba)
             have HWa := Lib.hid (HW.out.trans (ba.mono HW.out.size))
             have HCa := Lib.hid ha
             clear ha ba HR HW
             go_wp2_with fail
             refine (P.all wa p0 T (sc, sl) HRa.out HLS.out).mono ?_
             rintro r wb ⟨Ab, nb, cb, rfl, hb, bb⟩
             have HRb := Lib.hid (P.up HRa.out bb)
             have HWb := Lib.hid (HWa.out.trans (bb.mono HWa.out.size))
             have HCb := Lib.hid (HCa.out.up bb)
             have HLb := Lib.hid hb.at_
             clear hb bb HRa HWa HCa
             go_wp2_with fail
             refine (F.from_ wb Aa Ab sc sl na ca nb cb HCb.out HLb.out HLS.out).mono ?_
             rintro r wc hpost
             unfold FrPost at hpost
             rw [if_pos HFB.out] at hpost
             obtain ⟨py, rfl, Ty, hry, hty, bc⟩ := hpost
             have HRc := Lib.hid (P.up HRb.out bc)
             have HRy := Lib.hid hry
             have HWc := Lib.hid (HWb.out.trans (bc.mono HWb.out.size))
             clear hry hty bc HRb HWb HCb HLb
             go_wp2_with fail
             refine (P.copy wc p0 T (sc, sl) HRc.out HLS.out).mono ?_
             rintro r wd ⟨pz, rfl, Tz, hrz, htz, bd⟩
             have HDZ : Hid (∀ k, T k → ¬ Tz k) := Lib.hid (fun k h1 h2 => by have h3 := (P.dom _ _ _ _ HRc.out).2 _ h1; have h4 := htz _ h2; omega)
             have HOZ : Hid (∀ k, Tz k → w.heap.size ≤ k) := Lib.hid (fun k h => Nat.le_trans HWc.out.size (htz k h))
             have HRd := Lib.hid (P.up HRc.out bd)
             have HRy2 := Lib.hid (P.up HRy.out bd)
             have HRz := Lib.hid hrz
             have HWd := Lib.hid (HWc.out.trans (bd.mono HWc.out.size))
             clear hrz htz bd HRc HRy HWc
             have CS := P.same wd p0 T (sc, sl) py Ty (sc, sl) HRd.out HRy2.out HLS.out HLS.out
             rw [decide_eq_true rfl] at CS
             go_wp2_with fail
             refine CS.mono ?_
             rintro r we ⟨rfl, be⟩
             have HRe := Lib.hid (P.up HRd.out be)
             have HRy3 := Lib.hid (P.up HRy2.out be)
             have HRz3 := Lib.hid (P.up HRz.out be)
             have HWe := Lib.hid (HWd.out.trans (be.mono HWd.out.size))
             clear CS be HRd HRy2 HRz HWd
             have CS := P.same we py Ty (sc, sl) pz Tz (sc, sl) HRy3.out HRz3.out HLS.out HLS.out
             rw [decide_eq_true rfl] at CS
             go_wp2_with fail
             refine CS.mono ?_
             rintro r wf ⟨rfl, bf⟩
             have HRf := Lib.hid (P.up HRe.out bf)
             have HRz4 := Lib.hid (P.up HRz3.out bf)
             have HWf := Lib.hid (HWe.out.trans (bf.mono HWe.out.size))
             clear CS bf HRe HRy3 HRz3 HWe
             go_wp2_with fail
             have hlit : Cx.CtxAt ((wf.alloc (.cells #[.int .u64 281474976710655, .int .u64 281474976710655] 68)).alloc (.cells #[.int .u16 65535, .slice (some ⟨wf.heap.size, 0, none⟩) 1 1] 71)) (some ⟨wf.heap.size + 1, 0, none⟩) (Cx.dotC (65535, 281474976710655)) 1 1 := lit_ctx wf 65535 281474976710655 (by decide) (by decide) _ _
             have hbl := Ev.bel_alloc (.cells #[.int .u16 65535, .slice (some ⟨wf.heap.size, 0, none⟩) 1 1] 71) (Ev.below_new wf (.cells #[.int .u64 281474976710655, .int .u64 281474976710655] 68))
             have hrx := P.up HRf.out hbl
             have CS := P.see _ pz Tz (sc, sl) _ _ 1 1 (P.up HRz4.out hbl) HLS.out hlit (few_dotC _)
             have HBG := Lib.hid (HWf.out.trans (hbl.mono HWf.out.size))
             have HD2 : Hid (Lim (Cx.setC sc (Cx.dotC (65535, 281474976710655)) 0, sl)) := Lib.hid ((bd_see HD.out hlit.fit (few_dotC _)).lim31 (by omega))
             refine CS.mono ?_
             rintro r wh ⟨rfl, hwent⟩
             obtain ⟨Tw, hz, hx, K⟩ := went_two P hwent hrx HDZ.out
             have HRX := Lib.hid hx
             have HRZ := Lib.hid hz
             have HWh := Lib.hid (K.below w HBG.out HOZ.out)
             clear hlit hbl hrx CS HBG hwent hz hx K HRf HRz4 HWf HDZ HOZ
             obtain ⟨h, hh⟩ : ∃ h, Cx.hasC sc (65535, 281474976710655) = h := ⟨_, rfl⟩
             have CS := P.same wh p0 T (sc, sl) pz Tw _ HRX.out HRZ.out HLS.out HD2.out
             rw [same_pair, set_one HG.out.ctx (by decide) (by decide) (by decide), hh] at CS
             go_wp2_with fail
             refine CS.mono ?_
             rintro r wi ⟨rfl, bi⟩
             have HRi := Lib.hid (P.up HRX.out bi)
             have HWi := Lib.hid (HWh.out.trans (bi.mono HWh.out.size))
             clear CS bi HRX HRZ HWh
             go_wp2_with fail
             refine (P.ctx wi p0 T (sc, sl) HRi.out HLS.out).mono ?_
             rintro r wj ⟨Aj, nj, cj, rfl, hj, bj⟩
             have HWj := Lib.hid (HWi.out.trans (bj.mono HWi.out.size))
             have CH : Calls Tryz.prog 31 #[.slice Aj nj cj, .agg #[.int .u16 65535, .int .u64 281474976710655]] wj (fun e w' => e = .returned (.bool h) ∧ Below wj.heap.size wj w') := by
               have h2 := Cx.rhas_any wj Aj sc nj cj (65535, 281474976710655) hj HLS.out.ctx ⟨by decide, by decide⟩
               rw [hh] at h2
               exact h2
             clear hj bj HRi HWi hh
             go_wp2_with fail
             refine CH.mono ?_
             rintro r wk ⟨rfl, bk⟩
             have HWk := Lib.hid (HWj.out.trans (bk.mono HWj.out.size))
             clear CH bk HWj
             cases h <;>
             ( go_wp2_with fail
               refine (works_any P wk).mono ?_
               rintro r wl ⟨rfl, bl⟩
               have HV := Lib.hid (HWk.out.trans (bl.mono HWk.out.size))
               clear bl
               go_wp2
               go_ret
               exact ⟨rfl, HV.out⟩)
       | true =>
         simp only [hfb, if_true] at CFR
         go_wp2_with fail
         refine CFR.mono ?_
         rintro r w4 ⟨pb, rfl, Tb, hrb, htb, b4⟩
         have HB4 := Lib.hid (HB3.out.trans (b4.mono HB3.out.size))
         have HRB := Lib.hid hrb
         have HC4 := Lib.hid (HCW.out.up b4)
         have HL4 := Lib.hid (HLW.out.up b4)
         have CR := rfrom_any w4 A1 A2 c l n1 c1 n2 c2 HC4.out HL4.out (Cx.few_is HF1.out) (by rw [← HLW.out.len]; exact Nat.le_trans HF2.out.1 (by decide)) (fun y hy => Nat.le_trans (HF2.out.2 y hy) (by decide))
         rw [hfb] at CR
         clear b4 CFR hfb HCW HLW HB3 hrb htb
         go_wp2_with fail
         refine CR.mono ?_
         rintro r w5 ⟨rfl, b5⟩
         have HB5 := Lib.hid (HB4.out.trans (b5.mono HB4.out.size))
         have CI := is_any P w5 pb Tb (c, l) A1 A2 n1 c1 n2 c2 (P.up HRB.out b5) HLM.out (HC4.out.up b5) (HL4.out.up b5)
         clear b5 CR HB4 HRB HC4 HL4
         go_wp2_with fail
         refine CI.mono ?_
         rintro r wq ⟨rfl, b6⟩
         have HBQ := Lib.hid (HB5.out.trans (b6.mono HB5.out.size))
         clear b6 CI HB5
         go_wp2_with fail
         refine (P.new wq).mono ?_
         rintro r wn ⟨p0, rfl, T0, hr0, ht0, b0⟩
         have HR0 := Lib.hid hr0
         have HT0 : Hid (∀ k, T0 k → w.heap.size ≤ k) := Lib.hid (fun k hk => Nat.le_trans HBQ.out.size (ht0 k hk))
         have HB0 := Lib.hid (HBQ.out.trans (b0.mono HBQ.out.size))
         clear hr0 ht0 b0 HBQ
         go_wp2
         go_loopw [10] (fun i wr => ∃ (k : Nat) (T : Nat → Prop) (S : Bt), k ≤ n3 ∧ i = .int .i64 (k : Int) ∧ R wr p0 T S ∧ (∀ j, T j → w.heap.size ≤ j) ∧ Leg S ∧ Bd k S ∧ Below w.heap.size w wr) (fun i _ => n3 - (intOf i).toNat)
         case atStart => exact ⟨0, T0, ([], []), Nat.zero_le _, rfl, HR0.out, HT0.out, leg_nil, bd_nil, HB0.out⟩
         case round =>
           obtain ⟨k, T, S, hk, rfl, hr, ho, hleg, hbd, hw⟩ := hrel
           have HR := Lib.hid hr
           have HO := Lib.hid ho
           have HG := Lib.hid hleg
           have HD := Lib.hid hbd
           have HW := Lib.hid hw
           clear hr ho hleg hbd hw HR0 HT0 HB0
           by_cases hlt : k < n3
           · obtain ⟨ad, p, x, rfl, hB, hlx, hp, cp⟩ := HA.out.at_ hlt
             have HP := Lib.hid hp
             have HCP := Lib.hid cp
             have hfc : Cx.fewC x.c = true := by have h := HF3.out.2 x (List.mem_of_getElem? hlx); unfold fewO at h; rw [Bool.and_eq_true] at h; exact h.2
             clear hlx hp cp
             obtain ⟨x0, x1, x2, x3, x4, x5, x6, x7, x8⟩ := HCP.out.kept HW.out
             have CP := P.put wr p0 T S p.ev x.e HR.out (HD.out.lim31 (by omega)) (HP.out.evt.up HW.out)
             go_wp2_with fail
             refine CP.mono ?_
             rintro r w6 ⟨rfl, hwent⟩
             obtain ⟨T6, hr6, ht6, K⟩ := hwent.kept
             have HR6 := Lib.hid hr6
             have HG6 := Lib.hid (leg_put HG.out HP.out.evt)
             have HD6 := Lib.hid (bd_put HD.out HP.out.evt)
             have HO6 : Hid (∀ j, T6 j → w.heap.size ≤ j) := Lib.hid (fun j hj => (ht6 j hj).elim (HO.out j) (fun h => Nat.le_trans HW.out.size h))
             have HW6 := Lib.hid (K.below w HW.out HO.out)
             clear CP hwent hr6 ht6 K HR HG HD HO HW x0 x1 x2 x3 x4 x5 x6 x7 x8
             obtain ⟨x0, x1, x2, x3, x4, x5, x6, x7, x8⟩ := HCP.out.kept HW6.out
             have CP := P.prune w6 p0 T6 _ p.adr x.c p.len p.cap HR6.out (HD6.out.lim31 (by omega)) (HP.out.ctx.up HW6.out) hfc
             go_wp2_with fail
             refine CP.mono ?_
             rintro r w7 ⟨rfl, hwent⟩
             obtain ⟨T7, hr7, ht7, K⟩ := hwent.kept
             have HR7 := Lib.hid hr7
             have HG7 := Lib.hid (leg_prune (c := x.c) HG6.out)
             have HD7 := Lib.hid (bd_prune0 (c := x.c) HD6.out)
             have HO7 : Hid (∀ j, T7 j → w.heap.size ≤ j) := Lib.hid (fun j hj => (ht7 j hj).elim (HO6.out j) (fun h => Nat.le_trans HW6.out.size h))
             have HW7 := Lib.hid (K.below w HW6.out HO6.out)
             clear CP hwent hr7 ht7 K HR6 HG6 HD6 HO6 HW6 HCP HP x0 x1 x2 x3 x4 x5 x6 x7 x8
             go_wp2
             go_roundw
             case rel => exact ⟨k + 1, T7, _, by omega, by go_num, HR7.out, HO7.out, HG7.out, HD7.out, HW7.out⟩
             case measure => simp [intOf]; omega
           · obtain rfl : k = n3 := by omega
             obtain ⟨sc, sl⟩ := S
             have HLS : Hid (Lim (sc, sl)) := Lib.hid (HD.out.lim31 (by omega))
             have HFB := Lib.hid (leg_from HG.out)
             go_wp2_with fail
             refine (P.ctx wr p0 T (sc, sl) HR.out HLS.out).mono ?_
             rintro r wa ⟨Aa, na, ca, rfl, ha, ba⟩
             have HRa := Lib.hid (P.up HR.out ba)
             have HWa := Lib.hid (HW.out.trans (ba.mono HW.out.size))
             have HCa := Lib.hid ha
             clear ha ba HR HW
             go_wp2_with fail
             refine (P.all wa p0 T (sc, sl) HRa.out HLS.out).mono ?_
             rintro r wb ⟨Ab, nb, cb, rfl, hb, bb⟩
             have HRb := Lib.hid (P.up HRa.out bb)
             have HWb := Lib.hid (HWa.out.trans (bb.mono HWa.out.size))
             have HCb := Lib.hid (HCa.out.up bb)
             have HLb := Lib.hid hb.at_
             clear hb bb HRa HWa HCa
             go_wp2_with fail
             refine (F.from_ wb Aa Ab sc sl na ca nb cb HCb.out HLb.out HLS.out).mono ?_
             rintro r wc hpost
             unfold FrPost at hpost
             rw [if_pos HFB.out] at hpost
             obtain ⟨py, rfl, Ty, hry, hty, bc⟩ := hpost
             have HRc := Lib.hid (P.up HRb.out bc)
             have HRy := Lib.hid hry
             have HWc := Lib.hid (HWb.out.trans (bc.mono HWb.out.size))
             clear hry hty bc HRb HWb HCb HLb
             go_wp2_with fail
             refine (P.copy wc p0 T (sc, sl) HRc.out HLS.out).mono ?_
             rintro r wd ⟨pz, rfl, Tz, hrz, htz, bd⟩
             have HDZ : Hid (∀ k, T k → ¬ Tz k) := Lib.hid (fun k h1 h2 => by have h3 := (P.dom _ _ _ _ HRc.out).2 _ h1; have h4 := htz _ h2; omega)
             have HOZ : Hid (∀ k, Tz k → w.heap.size ≤ k) := Lib.hid (fun k h => Nat.le_trans HWc.out.size (htz k h))
             have HRd := Lib.hid (P.up HRc.out bd)
             have HRy2 := Lib.hid (P.up HRy.out bd)
             have HRz := Lib.hid hrz
             have HWd := Lib.hid (HWc.out.trans (bd.mono HWc.out.size))
             clear hrz htz bd HRc HRy HWc
             have CS := P.same wd p0 T (sc, sl) py Ty (sc, sl) HRd.out HRy2.out HLS.out HLS.out
             rw [decide_eq_true rfl] at CS
             go_wp2_with fail
             refine CS.mono ?_
             rintro r we ⟨rfl, be⟩
             have HRe := Lib.hid (P.up HRd.out be)
             have HRy3 := Lib.hid (P.up HRy2.out be)
             have HRz3 := Lib.hid (P.up HRz.out be)
             have HWe := Lib.hid (HWd.out.trans (be.mono HWd.out.size))
             clear CS be HRd HRy2 HRz HWd
             have CS := P.same we py Ty (sc, sl) pz Tz (sc, sl) HRy3.out HRz3.out HLS.out HLS.out
             rw [decide_eq_true rfl] at CS
             go_wp2_with fail
             refine CS.mono ?_
             rintro r wf ⟨rfl, bf⟩
             have HRf := Lib.hid (P.up HRe.out bf)
             have HRz4 := Lib.hid (P.up HRz3.out bf)
             have HWf := Lib.hid (HWe.out.trans (bf.mono HWe.out.size))
             clear CS bf HRe HRy3 HRz3 HWe
             go_wp2_with fail
             have hlit : Cx.CtxAt ((wf.alloc (.cells #[.int .u64 281474976710655, .int .u64 281474976710655] 68)).alloc (.cells #[.int .u16 65535, .slice (some ⟨wf.heap.size, 0, none⟩) 1 1] 71)) (some ⟨wf.heap.size + 1, 0, none⟩) (Cx.dotC (65535, 281474976710655)) 1 1 := lit_ctx wf 65535 281474976710655 (by decide) (by decide) _ _
             have hbl := Ev.bel_alloc (.cells #[.int .u16 65535, .slice (some ⟨wf.heap.size, 0, none⟩) 1 1] 71) (Ev.below_new wf (.cells #[.int .u64 281474976710655, .int .u64 281474976710655] 68))
             have hrx := P.up HRf.out hbl
             have CS := P.see _ pz Tz (sc, sl) _ _ 1 1 (P.up HRz4.out hbl) HLS.out hlit (few_dotC _)
             have HBG := Lib.hid (HWf.out.trans (hbl.mono HWf.out.size))
             have HD2 : Hid (Lim (Cx.setC sc (Cx.dotC (65535, 281474976710655)) 0, sl)) := Lib.hid ((bd_see HD.out hlit.fit (few_dotC _)).lim31 (by omega))
             refine CS.mono ?_
             rintro r wh ⟨rfl, hwent⟩
             obtain ⟨Tw, hz, hx, K⟩ := went_two P hwent hrx HDZ.out
             have HRX := Lib.hid hx
             have HRZ := Lib.hid hz
             have HWh := Lib.hid (K.below w HBG.out HOZ.out)
             clear hlit hbl hrx CS HBG hwent hz hx K HRf HRz4 HWf HDZ HOZ
             obtain ⟨h, hh⟩ : ∃ h, Cx.hasC sc (65535, 281474976710655) = h := ⟨_, rfl⟩
             have CS := P.same wh p0 T (sc, sl) pz Tw _ HRX.out HRZ.out HLS.out HD2.out
             rw [same_pair, set_one HG.out.ctx (by decide) (by decide) (by decide), hh] at CS
             go_wp2_with fail
             refine CS.mono ?_
             rintro r wi ⟨rfl, bi⟩
             have HRi := Lib.hid (P.up HRX.out bi)
             have HWi := Lib.hid (HWh.out.trans (bi.mono HWh.out.size))
             clear CS bi HRX HRZ HWh
             go_wp2_with fail
             refine (P.ctx wi p0 T (sc, sl) HRi.out HLS.out).mono ?_
             rintro r wj ⟨Aj, nj, cj, rfl, hj, bj⟩
             have HWj := Lib.hid (HWi.out.trans (bj.mono HWi.out.size))
             have CH : Calls Tryz.prog 31 #[.slice Aj nj cj, .agg #[.int .u16 65535, .int .u64 281474976710655]] wj (fun e w' => e = .returned (.bool h) ∧ Below wj.heap.size wj w') := by
               have h2 := Cx.rhas_any wj Aj sc nj cj (65535, 281474976710655) hj HLS.out.ctx ⟨by decide, by decide⟩
               rw [hh] at h2
               exact h2
             clear hj bj HRi HWi hh
             go_wp2_with fail
             refine CH.mono ?_
             rintro r wk ⟨rfl, bk⟩
             have HWk := Lib.hid (HWj.out.trans (bk.mono HWj.out.size))
             clear CH bk HWj
             cases h <;>
             ( go_wp2_with fail
               refine (works_any P wk).mono ?_
               rintro r wl ⟨rfl, bl⟩
               have HV := Lib.hid (HWk.out.trans (bl.mono HWk.out.size))
               clear bl
               go_wp2
               go_ret
               exact ⟨rfl, HV.out⟩)
end Go.Proofs.YtgaegfddobpomaaGreat.Bk

namespace Go.Proofs.YtgaegfddobpomaaGreat.Cx
open Go.ChangeShapes Go.WideShapes Go.ChangeAt Go.RowKit
set_option linter.unusedVariables false
theorem run_lit (V : World) (b lo hi : Nat) (hb : b = V.heap.size) (h1 : lo < 18446744073709551616) (h2 : hi < 18446744073709551616) :
   RunsAt (V.alloc (.cells #[.int .u64 (lo : Int), .int .u64 (hi : Int)] 68)) (some ⟨b, 0, none⟩) [(lo, hi)] 1 1 := by
 subst hb
 refine ⟨rfl, (fun h => by cases h), Nat.le_refl _, by decide, ⟨fun r hr => by obtain rfl := List.mem_singleton.1 hr; exact ⟨h1, h2⟩, fun _ => ⟨_, rfl, by simp, fun j u hu => ?_⟩⟩⟩
 have e3 : Ru.rv [(lo, hi)] = [.int .u64 (lo : Int), .int .u64 (hi : Int)] := rfl
 rw [e3] at hu
 rw [Dt.zero_add, World.cell?_alloc_new]
 simpa using hu
structure DotsAt (w : World) (A : Option Addr) (l : List Dot) (n c : Nat) : Prop where
 len : l.length = n
 nil : A = none → n = 0 ∧ c = 0
 cap : n ≤ c
 max : c ≤ 9223372036854775807
 dots : Dt.Dots w w.heap.size A l
theorem DotsAt.fit {w : World} {A : Option Addr} {l : List Dot} {n c : Nat} (h : DotsAt w A l n c) : Dt.Fit l := h.dots.1
def DotsHas (w : World) (m : List Dot) (e : Ending) (w' : World) : Prop := ∃ A n c, e = .returned (.slice A n c) ∧ DotsAt w' A m n c ∧ Below w.heap.size w w'
def RunsHas (w : World) (m : List Run) (e : Ending) (w' : World) : Prop := ∃ A n c, e = .returned (.slice A n c) ∧ RunsAt w' A m n c ∧ Below w.heap.size w w'
def wC (c : List Part) : Nat := (c.map (fun x => x.2.length)).sum
def Wide (k : Nat) (c : List Part) : Prop := c.length ≤ k ∧ wC c ≤ k
theorem Wide.more {k m : Nat} {c : List Part} (h : Wide k c) (hk : k ≤ m) : Wide m c := ⟨Nat.le_trans h.1 hk, Nat.le_trans h.2 hk⟩
theorem small_wide {c : List Part} (h : Small c) : Wide 80000 c := ⟨Nat.le_trans h.1 (by decide), h.2⟩
structure PCtx : Prop where
 norm : ∀ (w : World) (A : Option Addr) (a : List Part) (n c : Nat), CtxAt w A a n c → Wide 67108864 a → Calls Tryz.prog 69 #[.slice A n c] w (CtxHas w (normC a))
 good : ∀ (w : World) (A : Option Addr) (a : List Part) (n c : Nat), CtxAt w A a n c → Wide 67108864 a → Calls Tryz.prog 64 #[.slice A n c] w fun e w' => e = .returned (.bool (goodC a)) ∧ Below w.heap.size w w'
 of : ∀ (w : World) (A : Option Addr) (l : List Dot) (n c : Nat), DotsAt w A l n c → n ≤ 67108864 → Calls Tryz.prog 68 #[.slice A n c] w (CtxHas w (ofC l))
 has : ∀ (w : World) (A : Option Addr) (a : List Part) (n c : Nat) (d : Dot), CtxAt w A a n c → Wide 67108864 a → d.1 < 65536 ∧ d.2 < 18446744073709551616 → Calls Tryz.prog 46 #[.slice A n c, .agg #[.int .u16 (d.1 : Int), .int .u64 (d.2 : Int)]] w fun e w' => e = .returned (.bool (hasC a d)) ∧ Below w.heap.size w w'
 add : ∀ (w : World) (A A2 : Option Addr) (a : List Part) (l : List Dot) (n n2 c c2 : Nat), CtxAt w A a n c → DotsAt w A2 l n2 c2 → Wide 67108864 a → n2 ≤ 67108864 → Calls Tryz.prog 47 #[.slice A n c, .slice A2 n2 c2] w (CtxHas w (setC a (ofC l) 0))
 join : ∀ (w : World) (A1 A2 : Option Addr) (a b : List Part) (n1 n2 c1 c2 : Nat), CtxAt w A1 a n1 c1 → CtxAt w A2 b n2 c2 → Wide 67108864 a → Wide 67108864 b → Calls Tryz.prog 55 #[.slice A1 n1 c1, .slice A2 n2 c2] w (CtxHas w (setC a b 0))
 meet : ∀ (w : World) (A1 A2 : Option Addr) (a b : List Part) (n1 n2 c1 c2 : Nat), CtxAt w A1 a n1 c1 → CtxAt w A2 b n2 c2 → Wide 67108864 a → Wide 67108864 b → Calls Tryz.prog 140 #[.slice A1 n1 c1, .slice A2 n2 c2] w (CtxHas w (setC a b 1))
 minus : ∀ (w : World) (A1 A2 : Option Addr) (a b : List Part) (n1 n2 c1 c2 : Nat), CtxAt w A1 a n1 c1 → CtxAt w A2 b n2 c2 → Wide 67108864 a → Wide 67108864 b → Calls Tryz.prog 113 #[.slice A1 n1 c1, .slice A2 n2 c2] w (CtxHas w (setC a b 2))
 within : ∀ (w : World) (A1 A2 : Option Addr) (a b : List Part) (n1 n2 c1 c2 : Nat), CtxAt w A1 a n1 c1 → CtxAt w A2 b n2 c2 → Wide 67108864 a → Wide 67108864 b → Calls Tryz.prog 67 #[.slice A1 n1 c1, .slice A2 n2 c2] w fun e w' => e = .returned (.bool (withinC a b)) ∧ Below w.heap.size w w'
 same : ∀ (w : World) (A1 A2 : Option Addr) (a b : List Part) (n1 n2 c1 c2 : Nat), CtxAt w A1 a n1 c1 → CtxAt w A2 b n2 c2 → Wide 67108864 a → Wide 67108864 b → Calls Tryz.prog 59 #[.slice A1 n1 c1, .slice A2 n2 c2] w fun e w' => e = .returned (.bool (sameC a b)) ∧ Below w.heap.size w w'
/-! The chapter's example. -/
def exC : List Part := [(1, [(1, 2), (4, 4)]), (2, [(2, 2)])]
def exL : List Dot := [(1, 1), (1, 2), (1, 4), (2, 2)]
end Go.Proofs.YtgaegfddobpomaaGreat.Cx
