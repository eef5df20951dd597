/- Words and contracts that the proofs of this seat stand on, part 16 of 39. -/
import Derived.Test.YtgaegfddobpomaaGreatOrE
import Derived.Test.YtgaegfddobpomaaGreatOrO
import Derived.Test.YtgaegfddobpomaaGreatOrN
import Derived.Test.YtgaegfddobpomaaGreatOrI
import Derived.Deep.RegionLaw

namespace Go.Proofs.YtgaegfddobpomaaGreat.Bk
open Go.ChangeShapes Go.WideShapes Go.ChangeAt Go.RowKit Go.Proofs.YtgaegfddobpomaaGreat.Kl
set_option linter.unusedVariables false
def seenS (S : Bt) (d : Dt.Dot) : Bool := Ru.has (Cx.runsC S.1 d.1) d.2
theorem ctx_ext {a b : List Cx.Part} (ha : Cx.OrdC a) (hb : Cx.OrdC b) (h : ∀ d : Dt.Dot, Ru.has (Cx.runsC a d.1) d.2 = Ru.has (Cx.runsC b d.1) d.2) : a = b := by
 obtain ⟨f, hf, rfl⟩ := ha
 obtain ⟨g, hg, rfl⟩ := hb
 rw [Cx.tells_uniq hf hg (fun d n => by have := h (d, n); rwa [Cx.runs_list hf, Cx.runs_list hg] at this)]
theorem seen_of {l : List Dt.Dot} (hl : Dt.Fit l) (hm : ∀ d ∈ l, Dt.mayD d = true) (d : Dt.Dot) : Ru.has (Cx.runsC (Cx.ofC l) d.1) d.2 = decide (d ∈ l) := by
 rw [Cx.has_of hl, Bool.eq_iff_iff, List.any_eq_true, decide_eq_true_iff]
 unfold Cx.isDot
 constructor
 · rintro ⟨x, hx, h⟩
   simp only [Bool.and_eq_true, decide_eq_true_iff] at h
   rw [show d = x from Prod.ext h.2.1.symm h.2.2.symm]
   exact hx
 · intro h
   exact ⟨d, h, by simp [hm d h]⟩
theorem putS_of {S : Bt} {w : World} {B : Nat} {q : Ev.EV} {x : Ev.Evt} (h : Cx.OrdC S.1) (hx : Ev.EventIs w B q x) : putS Ev.goodE (seenS S, S.2) x = (seenS (putB S x).1, (putB S x).1.2) := by
 unfold putS putB
 cases hg : Ev.goodE x with
 | false => rw [if_neg (fun h2 => by cases h2.1), if_pos rfl]
 | true =>
   rw [if_neg (show ¬ (true = false) by decide)]
   have hm := good_own hg
   have e : Cx.hasC S.1 x.dot = seenS S x.dot := by unfold Cx.hasC seenS; rw [hm.2.1, Bool.true_and]
   rw [e]
   show (if true = true ∧ seenS S x.dot = false then _ else _) = _
   cases hs : seenS S x.dot with
   | true => rw [if_neg (fun h2 => by cases h2.2), if_pos rfl]
   | false =>
     rw [if_pos ⟨rfl, rfl⟩, if_neg (show ¬ (false = true) by decide)]
     refine Prod.ext (funext fun d => ?_) rfl
     show (seenS S d || (decide (d = x.dot) || decide (d ∈ x.kills))) = Ru.has (Cx.runsC (Cx.setC S.1 (Cx.ofC (Ev.dotsE [x])) 0) d.1) d.2
     have hf := dots_fit hx
     rw [Cx.has_set0 h.fit (Cx.ord_of hf).fit, seen_of hf (fun d hd => ?_)]
     · show (seenS S d || _) = (seenS S d || _)
       congr 1
       rw [Bool.eq_iff_iff, Bool.or_eq_true, decide_eq_true_iff, decide_eq_true_iff, decide_eq_true_iff, dots_mem]
       simp
     · obtain ⟨y, hy, hd2⟩ := (dots_mem [x] d).1 hd
       rw [List.mem_singleton] at hy
       subst hy
       rcases hd2 with rfl | hd2
       · exact hm.2.1
       · exact hm.2.2 d hd2
structure InvB (p : List Ev.Evt) (S : Bt) : Prop where
 ord : Cx.OrdC S.1
 inv : Inv Ev.goodE p (seenS S, S.2)
theorem invb_none : InvB [] ([], []) := ⟨Cx.ord_nil, by
 have h := inv_none Ev.goodE
 have e : seenS ([], []) = fun _ => false := funext fun d => by
   unfold seenS
   rw [Cx.runs_nil]; rfl
 rw [e]
 exact h⟩
theorem ord_put {S : Bt} {w : World} {B : Nat} {q : Ev.EV} {x : Ev.Evt} (h : Cx.OrdC S.1) (hx : Ev.EventIs w B q x) : Cx.OrdC (putB S x).1.1 := by
 unfold putB
 split
 · exact h
 · split
   · exact h
   · exact Cx.ord_set h.fit (Cx.ord_of (dots_fit hx)).fit 0
theorem InvB.step {s p : List Ev.Evt} {S : Bt} {w : World} {B : Nat} {q : Ev.EV} {x : Ev.Evt} (h : InvB p S) (F : Fine s) (hp : ∀ y ∈ p, y ∈ s) (hx : x ∈ s) (hq : Ev.EventIs w B q x) : InvB (p ++ [x]) (putB S x).1 :=
 ⟨ord_put h.ord hq, by rw [← putS_of h.ord hq]; exact inv_step F hp hx h.inv⟩
theorem InvB.same {p q : List Ev.Evt} {S S2 : Bt} (ha : InvB p S) (hb : InvB q S2) (h : ∀ x, x ∈ p ↔ x ∈ q) : S = S2 := by
 obtain ⟨h1, h2⟩ := inv_same ha.inv hb.inv h
 exact Prod.ext (ctx_ext ha.ord hb.ord h2) h1
theorem InvB.again {p : List Ev.Evt} {S : Bt} {x : Ev.Evt} (h : InvB p S) (hx : x ∈ p) (hg : Ev.goodE x = true) : putB S x = (S, 7) := by
 unfold putB
 rw [hg, if_neg (show ¬ (true = false) by decide), if_pos]
 unfold Cx.hasC
 rw [(good_own hg).2.1, Bool.true_and]
 exact (h.inv.seen x.dot).2 ⟨x, hx, hg, .inl rfl⟩
noncomputable def joinK (x y : Ev.Evt) : Ev.Evt := ⟨x.dot, x.kind, x.cid, x.fld, x.txt, Dt.sortD (x.kills ++ y.kills)⟩
structure Mids (U : List Dt.Dot) (s : List Ev.Evt) : Prop where
 ord : Ev.OrdE s
 rank : rankB s = true
 few : ∀ x ∈ s, (x.kills.length ≤ 300 ∨ x.kills.Nodup) ∧ ∀ d ∈ x.kills, d ∈ U
theorem nodup_len {α : Type} [DecidableEq α] {l U : List α} (h : l.Nodup) (hs : ∀ d ∈ l, d ∈ U) : l.length ≤ U.length := by
 induction l generalizing U with
 | nil => exact Nat.zero_le _
 | cons a l ih =>
   obtain ⟨h1, h2⟩ := List.nodup_cons.1 h
   have hm := hs a (List.mem_cons_self ..)
   have := ih (U := U.erase a) h2 (fun d hd => (List.mem_erase_of_ne (fun e => h1 (by rw [← e]; exact hd))).2 (hs d (List.mem_cons_of_mem _ hd)))
   rw [List.length_erase_of_mem hm] at this
   have := List.length_pos_of_mem hm
   simp only [List.length_cons]
   omega
theorem Mids.len {U : List Dt.Dot} {s : List Ev.Evt} (h : Mids U s) (hU : U.length ≤ 3600) {x : Ev.Evt} (hx : x ∈ s) : x.kills.length ≤ 3600 := by
 rcases (h.few x hx).1 with h1 | h1
 · omega
 · exact Nat.le_trans (nodup_len h1 (h.few x hx).2) hU
theorem rank_iff (s : List Ev.Evt) : rankB s = true ↔ ∀ x ∈ s, ∀ d ∈ x.kills, d.2 < x.dot.2 := by
 unfold rankB rankO
 simp only [List.all_eq_true, Bool.not_eq_true', decide_eq_false_iff_not, Nat.not_le]
theorem kills_nodup {l : List Dt.Dot} (h : Dt.Ord l) : l.Nodup :=
 List.Pairwise.imp (fun {a b} hab e => by
   subst e
   unfold Dt.aheadD at hab
   simp at hab) h
theorem sum_three {s : List Ev.Evt} (h : ∀ x ∈ s, x.kills.length ≤ 300) : (s.flatMap (·.kills)).length ≤ s.length * 300 := by
 induction s with
 | nil => exact Nat.le_refl _
 | cons x s ih =>
   have h1 := h x (List.mem_cons_self ..)
   have h2 := ih (fun y hy => h y (List.mem_cons_of_mem _ hy))
   simp only [List.flatMap_cons, List.length_append, List.length_cons]
   omega
theorem mids_start {s : List Ev.Evt} (ho : Ev.OrdE s) (hr : rankB s = true) (hk : ∀ x ∈ s, x.kills.length ≤ 300) : Mids (s.flatMap (·.kills)) s :=
 ⟨ho, hr, fun x hx => ⟨.inl (hk x hx), fun d hd => List.mem_flatMap.2 ⟨x, hx, hd⟩⟩⟩
theorem mids_join {U : List Dt.Dot} {s : List Ev.Evt} {i k : Nat} {x y : Ev.Evt} (h : Mids U s) (hx : s[i]? = some x) (hy : s[k]? = some y) (hd : y.dot ∈ x.kills) : Mids U (s.set i (joinK x y)) := by
 have hxs := List.mem_of_getElem? hx
 have hys := List.mem_of_getElem? hy
 have hr := (rank_iff s).1 h.rank
 have hi := (List.getElem?_eq_some_iff.1 hx).1
 refine ⟨?_, (rank_iff _).2 fun z hz d hd2 => ?_, fun z hz => ?_⟩
 · have e : (s.set i (joinK x y)).map (·.dot) = s.map (·.dot) := by
     rw [List.map_set]
     show (s.map (·.dot)).set i x.dot = _
     refine List.ext_getElem? fun j => ?_
     rw [List.getElem?_set]
     by_cases e : i = j
     · subst e
       rw [if_pos rfl, List.getElem?_map, hx, if_pos (by rw [List.length_map]; exact hi)]
       rfl
     · rw [if_neg e]
   have h1 : (s.map (·.dot)).Pairwise (fun a b => Dt.aheadD a b = true) := List.pairwise_map.2 h.ord
   rw [← e] at h1
   exact List.pairwise_map.1 h1
 · rcases List.mem_or_eq_of_mem_set hz with hz | rfl
   · exact hr z hz d hd2
   · show d.2 < x.dot.2
     rcases List.mem_append.1 ((Dt.sort_mem _ _).1 hd2) with h1 | h1
     · exact hr x hxs d h1
     · exact Nat.lt_trans (hr y hys d h1) (hr x hxs _ hd)
 · rcases List.mem_or_eq_of_mem_set hz with hz | rfl
   · exact h.few z hz
   · refine ⟨.inr (kills_nodup (Dt.sort_ord _)), fun d hd2 => ?_⟩
     rcases List.mem_append.1 ((Dt.sort_mem _ _).1 hd2) with h1 | h1
     · exact (h.few x hxs).2 d h1
     · exact (h.few y hys).2 d h1
theorem mids_fine {U : List Dt.Dot} {s : List Ev.Evt} (h : Mids U s) (hc : closeB s = true) : Fine s := by
 have hc := (close_iff s).1 hc
 have hr := (rank_iff s).1 h.rank
 exact ⟨fun x hx y hy e => ord_one h.ord hx hy e, fun x hx hd => Nat.lt_irrefl _ (hr x hx _ hd), fun x hx y hy hd => (hc x hx y hy hd).1, fun x hx y hy hd => (hc x hx y hy hd).2⟩
theorem join_is {w W : World} {B : Nat} {p : Ev.EV} {x y : Ev.Evt} {A : Option Addr} {n c : Nat} (h : Ev.EventIs w B p x) (hd : Ev.DotsAt W W.heap.size A (Dt.sortD (x.kills ++ y.kills)) n c) : Ev.EventIs W W.heap.size ⟨p.dev, p.num, p.kind, p.cid, p.fld, p.txt, A, n, c⟩ (joinK x y) :=
 ⟨h.dev, h.num, h.kind, h.cid, h.fld, h.txt, ⟨h.fits.dot, h.fits.kind, h.fits.cid, h.fits.fld, h.fits.txt⟩, hd⟩
def plc (n g k : Nat) : Nat := (n - 1 - k + g) % n
theorem plc_lt {n g k : Nat} (h : 0 < n) : plc n g k < n := Nat.mod_lt _ h
theorem plc_back {n g p : Nat} (hp : p < n) : plc n g (plc n g p) = p := by
 unfold plc
 have hn : 0 < n := by omega
 have h1 := Nat.div_add_mod (n - 1 - p + g) n
 have h2 := Nat.mod_lt (n - 1 - p + g) hn
 obtain ⟨q, hq⟩ : ∃ q, (n - 1 - p + g) / n = q := ⟨_, rfl⟩
 obtain ⟨r, hr⟩ : ∃ r, (n - 1 - p + g) % n = r := ⟨_, rfl⟩
 rw [hq, hr] at h1
 rw [hr] at h2 ⊢
 have e : n - 1 - r + g = p + n * q := by omega
 rw [e, Nat.add_mul_mod_self_left, Nat.mod_eq_of_lt hp]
def turnE (l : List Ev.Evt) (g k : Nat) : List Ev.Evt := (List.range k).filterMap (fun j => l[plc l.length g j]?)
theorem turn_next {l : List Ev.Evt} {g k : Nat} {x : Ev.Evt} (h : l[plc l.length g k]? = some x) : turnE l g (k + 1) = turnE l g k ++ [x] := by
 unfold turnE
 rw [List.range_succ, List.filterMap_append]
 simp [h]
theorem turn_mem {l : List Ev.Evt} {g : Nat} (x : Ev.Evt) : x ∈ turnE l g l.length ↔ x ∈ l := by
 constructor
 · intro hx
   unfold turnE at hx
   obtain ⟨j, _, hj⟩ := List.mem_filterMap.1 hx
   exact List.mem_of_getElem? hj
 · intro hx
   obtain ⟨p, hp, e⟩ := List.mem_iff_getElem.1 hx
   unfold turnE
   refine List.mem_filterMap.2 ⟨plc l.length g p, List.mem_range.2 (plc_lt (by omega)), ?_⟩
   rw [plc_back hp, List.getElem?_eq_getElem hp, e]
theorem turn_sub {l : List Ev.Evt} {g k : Nat} (x : Ev.Evt) (h : x ∈ turnE l g k) : x ∈ l := by
 unfold turnE at h
 obtain ⟨j, _, hj⟩ := List.mem_filterMap.1 h
 exact List.mem_of_getElem? hj
end Go.Proofs.YtgaegfddobpomaaGreat.Bk

namespace Go.Proofs.YtgaegfddobpomaaGreat.Bk
open Go.ChangeShapes Go.WideShapes Go.ChangeAt Go.RowKit Go.Proofs.YtgaegfddobpomaaGreat.Kl
set_option linter.unusedVariables false
set_option maxRecDepth 4000
def wX : Ev.Evt := ⟨(1, 1), 1, 281474976710657, 1, ⟨#[97]⟩, []⟩
def wY : Ev.Evt := ⟨(1, 2), 2, 281474976710657, 0, ⟨#[]⟩, []⟩
def wZ : Ev.Evt := ⟨(1, 2), 2, 281474976710657, 0, ⟨#[]⟩, [(1, 1)]⟩
noncomputable def wc1 : List Cx.Part := Cx.setC [] (Cx.ofC [(1, 1)]) 0
noncomputable def wc2 : List Cx.Part := Cx.setC wc1 (Cx.ofC [(1, 1), (1, 2)]) 0
theorem good_x : Ev.goodE wX = true := by decide
theorem good_y : Ev.goodE wY = true := by decide
theorem good_z : Ev.goodE wZ = true := by decide
theorem fit1 : Dt.Fit [(1, 1)] := fun r hr => by rw [List.mem_singleton.1 hr]; exact ⟨by decide, by decide⟩
theorem fit2 : Dt.Fit [(1, 1), (1, 2)] := fun r hr => by
 simp only [List.mem_cons, List.not_mem_nil, or_false] at hr
 rcases hr with rfl | rfl <;> exact ⟨by decide, by decide⟩
theorem fit_c1 : Cx.FitC wc1 := (Cx.ord_set Cx.ord_nil.fit (Cx.ord_of fit1).fit 0).fit
theorem has_nil (d : Dt.Dot) : Cx.hasC [] d = false := by unfold Cx.hasC; rw [Cx.runs_nil]; simp [Ru.has]
theorem has_c1 (d : Dt.Dot) : Cx.hasC wc1 d = (Dt.mayD d && [((1 : Nat), (1 : Nat))].any (Cx.isDot d.1 d.2)) := by
 unfold Cx.hasC wc1
 rw [Cx.has_set0 Cx.ord_nil.fit (Cx.ord_of fit1).fit, Cx.has_of fit1, Cx.runs_nil]; rfl
theorem has_c2 (d : Dt.Dot) : Cx.hasC wc2 d = (Dt.mayD d && ([((1 : Nat), (1 : Nat))].any (Cx.isDot d.1 d.2) || [((1 : Nat), (1 : Nat)), (1, 2)].any (Cx.isDot d.1 d.2))) := by
 unfold Cx.hasC wc2
 rw [Cx.has_set0 fit_c1 (Cx.ord_of fit2).fit, Cx.has_of fit2]
 unfold wc1
 rw [Cx.has_set0 Cx.ord_nil.fit (Cx.ord_of fit1).fit, Cx.has_of fit1, Cx.runs_nil]; rfl
theorem dots_x : Ev.dotsE [wX] = [(1, 1)] := by decide
theorem dots_z : Ev.dotsE [wZ] = [(1, 1), (1, 2)] := by decide
theorem newk_x : newK [] wX = [] := by unfold newK; rw [if_pos (by decide)]; decide
theorem newk_y : newK [wX] wY = [(1, 1)] := by unfold newK; rw [if_neg (by decide)]; decide
theorem left_z : [wX].filter (leftB wZ) = [] := by decide
theorem wk1 : makeB ([], []) wX = (wX, 0) := by
 unfold makeB
 rw [show bareE wX = wX from rfl, if_neg (by rw [good_x]; decide), if_neg (by rw [has_nil]; decide), newk_x]
 rfl
theorem wk2 : putB ([], []) wX = ((wc1, [wX]), 0) := by
 unfold putB
 rw [if_neg (by rw [good_x]; decide), if_neg (by rw [has_nil]; decide), dots_x]
 rfl
theorem wk3 : makeB (wc1, [wX]) wY = (wZ, 0) := by
 unfold makeB
 rw [show bareE wY = wY from rfl, if_neg (by rw [good_y]; decide), if_neg (by rw [has_c1]; decide), newk_y]
 rfl
theorem wk4 : putB (wc1, [wX]) wZ = ((wc2, [wZ]), 0) := by
 unfold putB
 rw [if_neg (by rw [good_z]; decide), if_neg (by rw [has_c1]; decide), dots_z]
 show ((Cx.setC wc1 (Cx.ofC [(1, 1), (1, 2)]) 0, Ev.putE ([wX].filter (leftB wZ)) wZ), 0) = _
 rw [left_z]
 rfl
theorem wk5 : pruneB (wc2, [wZ]) (Cx.ofC [(1, 2)]) = ((wc2, []), 1) := by
 have hf : Dt.Fit [((1 : Nat), (2 : Nat))] := fun r hr => by rw [List.mem_singleton.1 hr]; exact ⟨by decide, by decide⟩
 have h : [wZ].filter (stayB (Cx.ofC [(1, 2)])) = [] := by
   have h1 : stayB (Cx.ofC [(1, 2)]) wZ = false := by
     unfold stayB Cx.hasC
     rw [Cx.has_of hf]
     decide
   rw [List.filter_cons_of_neg (by rw [h1]; decide), List.filter_nil]
 unfold pruneB
 show ((wc2, ([wZ].filter (stayB (Cx.ofC [(1, 2)]))).map (stripE _)), [wZ].length - ([wZ].filter (stayB (Cx.ofC [(1, 2)]))).length) = _
 rw [h]
 rfl
theorem wh1 : Cx.hasC wc2 (1, 1) = true := by rw [has_c2]; decide
theorem wh2 : Cx.hasC wc2 (1, 2) = true := by rw [has_c2]; decide
theorem bdw1 : Bd 1 (wc1, [wX]) := ⟨(Cx.wt_nil.set (Cx.wt_of fit1)).more (by decide) (by decide), by decide, by decide⟩
theorem bdw2 : Bd 2 (wc2, [wZ]) := ⟨(((Cx.wt_nil.set (Cx.wt_of fit1)).set (Cx.wt_of fit2))).more (by decide) (by decide), by decide, by decide⟩
theorem bdw3 : Bd 2 (wc2, []) := ⟨bdw2.ctx, by decide, fun y hy => by cases hy⟩
theorem fits_w (x : Ev.Evt) (h : x = wX ∨ x = wY) : Ev.Fits x := by
 rcases h with rfl | rfl <;> exact ⟨⟨by decide, by decide⟩, by decide, by decide, by decide, by unfold Ev.Short; decide⟩
theorem is_x (w : World) : Ev.EventIs w w.heap.size ⟨1, 1, 1, 281474976710657, 1, ⟨#[97]⟩, none, 0, 0⟩ wX := ⟨rfl, rfl, rfl, rfl, rfl, rfl, fits_w _ (.inl rfl), Ev.DotsAt.none_ _ _⟩
theorem is_y (w : World) : Ev.EventIs w w.heap.size ⟨1, 2, 2, 281474976710657, 0, ⟨#[]⟩, none, 0, 0⟩ wY := ⟨rfl, rfl, rfl, rfl, rfl, rfl, fits_w _ (.inr rfl), Ev.DotsAt.none_ _ _⟩
theorem lies_dot1 (V : World) (d : Dt.Dot) (T : TypeId) : Dt.Lies (V.alloc (.cells #[.int .u16 (d.1 : Int), .int .u64 (d.2 : Int)] T)) (V.alloc (.cells #[.int .u16 (d.1 : Int), .int .u64 (d.2 : Int)] T)).heap.size (some ⟨V.heap.size, 0, none⟩) (Dt.dv [d]) := fun _ => by
 refine ⟨_, rfl, by rw [Ev.alloc_size]; exact Nat.lt_succ_self _, fun j u hu => ?_⟩
 rw [Dt.zero_add, World.cell?_alloc_new]
 have e : Dt.dv [d] = [.int .u16 (d.1 : Int), .int .u64 (d.2 : Int)] := by simp [Dt.dv]
 rw [e] at hu
 simpa using hu
theorem lies_drew {W : World} {A : Option Addr} {vs : List Value} (h : Dt.Lies W W.heap.size A vs) : Dt.Lies W.drew W.drew.heap.size A vs := (h.below (Ev.bel_drew (Below.refl _ _))).more (Nat.le_refl _)
theorem of12 (V : World) (T : TypeId) : Calls Tryz.prog 41 #[.slice (some ⟨V.heap.size, 0, none⟩) 1 1] (V.alloc (.cells #[.int .u16 1, .int .u64 2] T)).drew (CxOut (V.alloc (.cells #[.int .u16 1, .int .u64 2] T)).drew (Cx.ofC [(1, 2)])) := by
 have h := lies_drew (lies_dot1 V (1, 2) T)
 refine (of_later (w := (V.alloc (.cells #[.int .u16 1, .int .u64 2] T)).drew) (l := [(1, 2)]) ⟨rfl, (fun e => by cases e), Nat.le_refl _, by decide, by decide, fun r hr => by rw [List.mem_singleton.1 hr]; exact ⟨by decide, by decide⟩, h⟩ (by decide) (Below.refl _ _)).mono ?_
 rintro e W ⟨A5, n5, c5, h1, h2, h3, h4⟩
 exact ⟨A5, n5, c5, h1, h2, h4⟩
theorem few12 : Cx.fewC (Cx.ofC [(1, 2)]) = true := by
 have h := Cx.wt_of (l := [((1 : Nat), (2 : Nat))]) (fun r hr => by rw [List.mem_singleton.1 hr]; exact ⟨by decide, by decide⟩)
 refine decide_eq_true ⟨Nat.le_trans h.parts (by decide), fun x hx => ?_⟩
 have h2 := Cx.mem_sum hx
 have h3 := h.runs
 have h4 : [((1 : Nat), (2 : Nat))].length = 1 := rfl
 omega
theorem bel_step {w W V : World} (h : Below w.heap.size w W) (b : Below W.heap.size W V) : Below w.heap.size w V := h.trans (b.mono h.size)
theorem box_dot {V : World} {g : Nat} {q : Ev.EV} {T : TypeId} (h : At V g T (ebox q)) {a b : Nat} (ha : q.dev = a) (hb : q.num = b) : V.cell? ⟨g, 0, none⟩ = some (.int .u16 (a : Int)) ∧ V.cell? ⟨g, 1, none⟩ = some (.int .u64 (b : Int)) := by
 subst ha hb
 exact ⟨h.cell 0, h.cell 1⟩
set_option maxHeartbeats 16000000 in
theorem works_any {R : Lay} (P : PBk R) (w : World) : Calls Tryz.prog 8 #[] w fun e w' => e = .returned (.bool true) ∧ Below w.heap.size w w' := by
 go_enter Tryz.func8, Tryz.ntmps8
 go_wp2_with fail
 refine (P.new w).mono ?_
 rintro r w1 ⟨p, rfl, T1, hr1, ht1, hb1⟩
 have HB1 := Lib.hid hb1
 have HR1 := Lib.hid hr1
 have HT1 := Lib.hid ht1
 clear hr1 ht1 hb1
 have CM : Calls Tryz.prog 12 #[.pointer (some ⟨p, 0, none⟩), .agg #[.int .u16 1, .int .u64 1, .int .u8 1, .int .u64 281474976710657, .int .u8 1, .string ⟨#[97]⟩, .slice none 0 0]] w1 (MkPost w1 (wX, 0)) := by
   have h := P.make w1 p T1 ([], []) _ wX HR1.out (bd_nil.lim (by decide)) (is_x w1)
   rw [wk1] at h
   exact h
 go_wp2_with fail
 refine CM.mono ?_
 rintro r w2 ⟨q, rfl, hq, hb2⟩
 clear CM
 have hbx := Ev.below_new w2 (.cells (ebox q) 38)
 have HB2 := Lib.hid (HB1.out.trans ((hb2.trans (hbx.mono hb2.size)).mono HB1.out.size))
 have HR2 := Lib.hid (P.up HR1.out (hb2.trans (hbx.mono hb2.size)))
 have AX2 := Lib.hid (At.new w2 38 (ebox q))
 have HQ2 := Lib.hid (hq.up hbx)
 have hg : w1.heap.size ≤ w2.heap.size := hb2.size
 have HNX : Hid (¬ T1 w2.heap.size) := Lib.hid (fun h => by have := (P.dom _ _ _ _ HR1.out).2 _ h; omega)
 have HGX : Hid (w.heap.size ≤ w2.heap.size) := Lib.hid (Nat.le_trans HB1.out.size hg)
 clear hq hb2 hbx hg HB1 HR1
 simp only [ebox] at HB2 HR2 HQ2 AX2
 go_wp2_with fail
 generalize w2.alloc (.cells #[.int .u16 (q.dev : Int), .int .u64 (q.num : Int), .int .u8 (q.kind : Int), .int .u64 (q.cid : Int), .int .u8 (q.fld : Int), .string q.txt, .slice q.adr q.len q.cap] 38) = w3 at *
 have CP := P.put w3 p T1 ([], []) q wX HR2.out (bd_nil.lim (by decide)) HQ2.out
 rw [wk2] at CP
 refine CP.mono ?_
 rintro r w4 ⟨rfl, hwent⟩
 obtain ⟨T2, hr4, ht4, K⟩ := hwent.kept
 have HR4 := Lib.hid hr4
 have AX4 := Lib.hid (K.at_ _ _ _ AX2.out HNX.out)
 have HNX4 : Hid (¬ T2 w2.heap.size) := Lib.hid (fun h => (ht4 _ h).elim HNX.out (fun h2 => by have := AX2.out.lt; omega))
 have HB4 := Lib.hid (K.below w HB2.out HT1.out)
 have HT4 : Hid (∀ k, T2 k → w.heap.size ≤ k) := Lib.hid (fun k h => (ht4 _ h).elim (HT1.out k) (fun h2 => Nat.le_trans HB2.out.size h2))
 have HQD := Lib.hid (show q.dev = 1 from HQ2.out.dev)
 have HQN := Lib.hid (show q.num = 1 from HQ2.out.num)
 clear CP hwent hr4 ht4 K HR2 AX2 HNX HB2 HT1 HQ2
 have CM : Calls Tryz.prog 12 #[.pointer (some ⟨p, 0, none⟩), .agg #[.int .u16 1, .int .u64 2, .int .u8 2, .int .u64 281474976710657, .int .u8 0, .string ⟨#[]⟩, .slice none 0 0]] w4 (MkPost w4 (wZ, 0)) := by
   have h := P.make w4 p T2 (wc1, [wX]) _ wY HR4.out (bdw1.lim (by decide)) (is_y w4)
   rw [wk3] at h
   exact h
 go_wp2_with fail
 refine CM.mono ?_
 rintro r w5 ⟨z, rfl, hz, hb5⟩
 clear CM
 have hbx := Ev.below_new w5 (.cells (ebox z) 38)
 have hb6 := hb5.trans (hbx.mono hb5.size)
 have HB6 := Lib.hid (HB4.out.trans (hb6.mono HB4.out.size))
 have HR6 := Lib.hid (P.up HR4.out hb6)
 have AX6 := Lib.hid (AX4.out.below hb6 AX4.out.lt)
 have AZ6 := Lib.hid (At.new w5 38 (ebox z))
 have HZ6 := Lib.hid (hz.up hbx)
 have hg : w4.heap.size ≤ w5.heap.size := hb5.size
 have HNZ : Hid (¬ T2 w5.heap.size) := Lib.hid (fun h => by have := (P.dom _ _ _ _ HR4.out).2 _ h; omega)
 have HGZ : Hid (w.heap.size ≤ w5.heap.size) := Lib.hid (Nat.le_trans HB4.out.size hg)
 clear hz hb5 hbx hg hb6 HB4 HR4 AX4
 simp only [ebox] at HB6 HR6 HZ6 AX6 AZ6
 go_wp2_with fail
 generalize w5.alloc (.cells #[.int .u16 (z.dev : Int), .int .u64 (z.num : Int), .int .u8 (z.kind : Int), .int .u64 (z.cid : Int), .int .u8 (z.fld : Int), .string z.txt, .slice z.adr z.len z.cap] 38) = w6 at *
 have CP := P.put w6 p T2 (wc1, [wX]) z wZ HR6.out (bdw1.lim (by decide)) HZ6.out
 rw [wk4] at CP
 refine CP.mono ?_
 rintro r w7 ⟨rfl, hwent⟩
 obtain ⟨T3, hr7, ht7, K⟩ := hwent.kept
 have HR7 := Lib.hid hr7
 have AX7 := Lib.hid (K.at_ _ _ _ AX6.out HNX4.out)
 have AZ7 := Lib.hid (K.at_ _ _ _ AZ6.out HNZ.out)
 have HNX7 : Hid (¬ T3 w2.heap.size) := Lib.hid (fun h => (ht7 _ h).elim HNX4.out (fun h2 => by have := AX6.out.lt; omega))
 have HNZ7 : Hid (¬ T3 w5.heap.size) := Lib.hid (fun h => (ht7 _ h).elim HNZ.out (fun h2 => by have := AZ6.out.lt; omega))
 have HB7 := Lib.hid (K.below w HB6.out HT4.out)
 have HT7 : Hid (∀ k, T3 k → w.heap.size ≤ k) := Lib.hid (fun k h => (ht7 _ h).elim (HT4.out k) (fun h2 => Nat.le_trans HB6.out.size h2))
 have HZD := Lib.hid (show z.dev = 1 from HZ6.out.dev)
 have HZN := Lib.hid (show z.num = 2 from HZ6.out.num)
 have hzl : z.len = 1 := HZ6.out.kills.len.symm
 clear CP hwent hr7 ht7 K HR6 AX6 AZ6 HNX4 HNZ HB6 HT4 HZ6
 have z6 := AZ7.out.cell 6
 simp at z6
 go_wp2_with fail
 refine (P.live w7 p T3 (wc2, [wZ]) HR7.out (bdw2.lim (by decide))).mono ?_
 rintro r w8 ⟨A8, n8, c8, rfl, h8, b8⟩
 have hn8 : n8 = 0 := h8.len.symm
 have B8 := Lib.hid b8
 have HB8 := Lib.hid (HB7.out.trans (b8.mono HB7.out.size))
 have HR8 := Lib.hid (P.up HR7.out b8)
 clear h8 b8
 go_wp2_with fail
 refine (P.tombs w8 p T3 (wc2, [wZ]) HR8.out (bdw2.lim (by decide))).mono ?_
 rintro r w9 ⟨A9, n9, c9, rfl, h9, b9⟩
 have hn9 : n9 = 1 := h9.len.symm
 have HB9 := Lib.hid (HB8.out.trans (b9.mono HB8.out.size))
 have HR9 := Lib.hid (P.up HR8.out b9)
 have B9 := B8.out.trans (b9.mono B8.out.size)
 have HX9 : Hid (∀ V, Below w9.heap.size w9 V → V.cell? ⟨w2.heap.size, 0, none⟩ = some (.int .u16 1) ∧ V.cell? ⟨w2.heap.size, 1, none⟩ = some (.int .u64 1) ∧ V.cell? ⟨w5.heap.size, 0, none⟩ = some (.int .u16 1) ∧ V.cell? ⟨w5.heap.size, 1, none⟩ = some (.int .u64 2)) := Lib.hid (fun V hV => by
   have hb := B9.trans (hV.mono B9.size)
   have h1 := box_dot (AX7.out.below hb AX7.out.lt) HQD.out HQN.out
   have h2 := box_dot (AZ7.out.below hb AZ7.out.lt) HZD.out HZN.out
   exact ⟨h1.1, h1.2, h2.1, h2.2⟩)
 clear h9 b9 B9 B8 HR7 HR8 HB7 HB8 AX7 AZ7 HQD HQN HZD HZN z6
 go_upto_region 8 with fail
 have CPR := fun V A n k (hV : Below w9.heap.size w9 V) (hc : Cx.CtxAt V A (Cx.ofC [(1, 2)]) n k) => P.prune V p T3 (wc2, [wZ]) A _ n k (P.up HR9.out hV) (bdw2.lim (by decide)) hc few12
 rw [wk5] at CPR
 have CHX : ∀ V A n k, Cx.CtxAt V A wc2 n k → Calls Tryz.prog 31 #[.slice A n k, .agg #[.int .u16 1, .int .u64 1]] V (fun e w' => e = .returned (.bool true) ∧ Below V.heap.size V w') := fun V A n k h => by
   have h2 := Cx.rhas_any V A wc2 n k (1, 1) h (bdw2.lim (by decide)).ctx ⟨by decide, by decide⟩
   rw [wh1] at h2
   exact h2
 have CHZ : ∀ V A n k, Cx.CtxAt V A wc2 n k → Calls Tryz.prog 31 #[.slice A n k, .agg #[.int .u16 1, .int .u64 2]] V (fun e w' => e = .returned (.bool true) ∧ Below V.heap.size V w') := fun V A n k h => by
   have h2 := Cx.rhas_any V A wc2 n k (1, 2) h (bdw2.lim (by decide)).ctx ⟨by decide, by decide⟩
   rw [wh2] at h2
   exact h2
 obtain ⟨x0, x1, x2, x3⟩ := HX9.out w9 (Below.refl _ _)
 go_region_held3 (fun V => V.cell? ⟨w2.heap.size, 0, none⟩ = some (.int .u16 1) ∧ V.cell? ⟨w2.heap.size, 1, none⟩ = some (.int .u64 1) ∧ V.cell? ⟨w5.heap.size, 0, none⟩ = some (.int .u16 1) ∧ V.cell? ⟨w5.heap.size, 1, none⟩ = some (.int .u64 2)) (first | exact ⟨x0, x1, x2, x3⟩ | assumption | exact HX9.out _ (by (repeat (first | exact Below.refl _ _ | assumption | apply Ev.bel_drew | apply Ev.bel_alloc)))) (first
   | (go_at_call 29; (with_reducible refine (P.ctx _ p T4 _ hRe (bdw3.lim (by decide))).mono ?_); rintro r Vf ⟨Af, nf, cf, rfl, hf, b5⟩; have hcf := (⟨Ev.stays b5 hce.1, Ev.stays b5 hce.2.1, Ev.stays b5 hce.2.2.1, Ev.stays b5 hce.2.2.2⟩ : Vf.cell? ⟨w2.heap.size, 0, none⟩ = some (.int .u16 1) ∧ Vf.cell? ⟨w2.heap.size, 1, none⟩ = some (.int .u64 1) ∧ Vf.cell? ⟨w5.heap.size, 0, none⟩ = some (.int .u16 1) ∧ Vf.cell? ⟨w5.heap.size, 1, none⟩ = some (.int .u64 2)); have hBf := bel_step hBe b5)
   | (go_at_call 31; (with_reducible refine (CHZ _ _ _ _ hf).mono ?_); rintro r Vg ⟨rfl, b6⟩; have hcg := (⟨Ev.stays b6 hcf.1, Ev.stays b6 hcf.2.1, Ev.stays b6 hcf.2.2.1, Ev.stays b6 hcf.2.2.2⟩ : Vg.cell? ⟨w2.heap.size, 0, none⟩ = some (.int .u16 1) ∧ Vg.cell? ⟨w2.heap.size, 1, none⟩ = some (.int .u64 1) ∧ Vg.cell? ⟨w5.heap.size, 0, none⟩ = some (.int .u16 1) ∧ Vg.cell? ⟨w5.heap.size, 1, none⟩ = some (.int .u64 2)); have hBg := bel_step hBf b6)
   | (go_at_call 29; (with_reducible refine (P.ctx _ p T4 _ hRc (bdw3.lim (by decide))).mono ?_); rintro r Vd ⟨Ad, nd, cd, rfl, hd, b3⟩; have hcd := (⟨Ev.stays b3 hcc.1, Ev.stays b3 hcc.2.1, Ev.stays b3 hcc.2.2.1, Ev.stays b3 hcc.2.2.2⟩ : Vd.cell? ⟨w2.heap.size, 0, none⟩ = some (.int .u16 1) ∧ Vd.cell? ⟨w2.heap.size, 1, none⟩ = some (.int .u64 1) ∧ Vd.cell? ⟨w5.heap.size, 0, none⟩ = some (.int .u16 1) ∧ Vd.cell? ⟨w5.heap.size, 1, none⟩ = some (.int .u64 2)); have hBd := bel_step hBc b3; have hRd := P.up hRc b3)
   | (go_at_call 31; (with_reducible refine (CHX _ _ _ _ hd).mono ?_); rintro r Ve ⟨rfl, b4⟩; have hce := (⟨Ev.stays b4 hcd.1, Ev.stays b4 hcd.2.1, Ev.stays b4 hcd.2.2.1, Ev.stays b4 hcd.2.2.2⟩ : Ve.cell? ⟨w2.heap.size, 0, none⟩ = some (.int .u16 1) ∧ Ve.cell? ⟨w2.heap.size, 1, none⟩ = some (.int .u64 1) ∧ Ve.cell? ⟨w5.heap.size, 0, none⟩ = some (.int .u16 1) ∧ Ve.cell? ⟨w5.heap.size, 1, none⟩ = some (.int .u64 2)); have hBe := bel_step hBd b4; have hRe := P.up hRd b4)
   | (go_at_call 30; (with_reducible refine (P.all _ p T4 (wc2, []) hr4 (bdw3.lim (by decide))).mono ?_); rintro r Vc ⟨Ac, nc, cc, rfl, hc0, b2⟩; have hnc : nc = 0 := hc0.at_.len.symm; have hcc := (⟨Ev.stays b2 hcb.1, Ev.stays b2 hcb.2.1, Ev.stays b2 hcb.2.2.1, Ev.stays b2 hcb.2.2.2⟩ : Vc.cell? ⟨w2.heap.size, 0, none⟩ = some (.int .u16 1) ∧ Vc.cell? ⟨w2.heap.size, 1, none⟩ = some (.int .u64 1) ∧ Vc.cell? ⟨w5.heap.size, 0, none⟩ = some (.int .u16 1) ∧ Vc.cell? ⟨w5.heap.size, 1, none⟩ = some (.int .u64 2)); have hBc := bel_step hBb b2; have hRc := P.up hr4 b2)
   | (go_at_call 18; (with_reducible refine (CPR _ _ _ _ bva ha).mono ?_); rintro r Vb ⟨rfl, hwent⟩; obtain ⟨T4, hr4, ht4, K⟩ := hwent.kept; have hcb := (⟨K.cell _ _ hca.1 HNX7.out, K.cell _ _ hca.2.1 HNX7.out, K.cell _ _ hca.2.2.1 HNZ7.out, K.cell _ _ hca.2.2.2 HNZ7.out⟩ : Vb.cell? ⟨w2.heap.size, 0, none⟩ = some (.int .u16 1) ∧ Vb.cell? ⟨w2.heap.size, 1, none⟩ = some (.int .u64 1) ∧ Vb.cell? ⟨w5.heap.size, 0, none⟩ = some (.int .u16 1) ∧ Vb.cell? ⟨w5.heap.size, 1, none⟩ = some (.int .u64 2)); have hBb := K.below w (bel_step HB9.out bva) HT7.out)
   | (go_at_call 41; (refine (of12 _ _).mono ?_); rintro r Va ⟨Aa, na, ca, rfl, ha, b1⟩; have bva := bel_step (w := w9) (by (repeat (first | exact Below.refl _ _ | apply Ev.bel_drew | apply Ev.bel_alloc))) b1; have hca := HX9.out Va bva))
 all_goals
   have HV := Lib.hid hBg
   go_wp2
   go_ret
   exact ⟨rfl, HV.out⟩
structure Rw (g : Nat) (w : World) (A : Option Addr) (l : List Ev.Evt) (n c : Nat) : Prop where
 cap : n ≤ c
 max : c ≤ 9223372036854775807
 nil : A = none → n = 0 ∧ c = 0
 wide : n ≤ 2199023255552
 row : ∃ (ps : List Ev.EV), ps.length = n ∧ Ev.Match w w.heap.size ps l ∧ (∀ p ∈ ps, Ev.Off g p.adr p.len) ∧ (0 < n → A = some ⟨g, 0, none⟩ ∧ ∃ cur : Array Value, At w g 38 cur ∧ cur.toList.take (n * 7) = Ev.ev ps)
theorem Rw.len {g : Nat} {w : World} {A : Option Addr} {l : List Ev.Evt} {n c : Nat} (h : Rw g w A l n c) : l.length = n := by
 obtain ⟨ps, h1, h2, _⟩ := h.row
 rw [← h2.1]; exact h1
theorem Rw.evts {g : Nat} {w : World} {A : Option Addr} {l : List Ev.Evt} {n c : Nat} (h : Rw g w A l n c) : Ev.EventsAt w w.heap.size A l n c := by
 have hlen := h.len
 obtain ⟨ps, h1, h2, h3, h4⟩ := h.row
 refine ⟨hlen, h.nil, h.cap, h.max, h.wide, ps, fun hp => ?_, h2⟩
 rw [Ev.ev_length, h1] at hp
 obtain ⟨rfl, cur, h5, h6⟩ := h4 (by omega)
 refine ⟨_, rfl, h5.lt, fun j u hu => ?_⟩
 rw [Dt.zero_add, h5.cell, ← hu, ← h6, List.getElem?_take, Array.getElem?_toList]
 have hj := (List.getElem?_eq_some_iff.1 hu).1
 rw [Ev.ev_length, h1] at hj
 rw [if_pos hj]
theorem Rw.up {g : Nat} {w W : World} {A : Option Addr} {l : List Ev.Evt} {n c : Nat} (h : Rw g w A l n c) (hb : Below w.heap.size w W) : Rw g W A l n c := by
 obtain ⟨ps, h1, h2, h3, h4⟩ := h.row
 refine ⟨h.cap, h.max, h.nil, h.wide, ps, h1, (h2.below hb).more hb.size, h3, fun h0 => ?_⟩
 obtain ⟨e, cur, h5, h6⟩ := h4 h0
 exact ⟨e, cur, h5.below hb h5.lt, h6⟩
theorem rw_of {w V : World} {A : Option Addr} {l : List Ev.Evt} {n c : Nat} (h : Ev.RowO V w.heap.size A l n c) (hb : Below w.heap.size w V) (hn : n ≤ 2199023255552) : ∃ g, w.heap.size ≤ g ∧ Rw g V A l n c := by
 obtain ⟨ps, h1, h2, h3⟩ := h
 obtain ⟨k1, k2, k3⟩ := Dt.own_len h3
 rcases h3.2 with ⟨e, h0⟩ | ⟨g, cap, cur, e, hg, hh, r1, r2, r3, r4⟩
 · refine ⟨w.heap.size, Nat.le_refl _, k1, k2, k3, hn, ps, h1, h2.more hb.size, fun p hp => ?_, fun h => by omega⟩
   obtain rfl : ps = [] := List.eq_nil_of_length_eq_zero (by rw [h1]; exact h0)
   cases hp
 · refine ⟨g, hg, k1, k2, k3, hn, ps, h1, h2.more hb.size, fun p hp ad e h0 => ?_, fun _ => ⟨by cases e; rfl, cur, hh, r4⟩⟩
   obtain ⟨k, hk, rfl⟩ := List.getElem_of_mem hp
   have hkl : k < l.length := by rw [← h2.1]; exact hk
   have hq := h2.2 k _ _ (List.getElem?_eq_getElem hk) (List.getElem?_eq_getElem hkl)
   obtain ⟨ad2, e2, hB, _⟩ := hq.kills.dots.2 (by rw [Dt.dv_length, hq.kills.len]; omega)
   rw [e] at e2
   cases e2
   omega
theorem ev_set (ps : List Ev.EV) (i : Nat) (p : Ev.EV) (A : Option Addr) (n c : Nat) (h : ps[i]? = some p) : (Ev.ev ps).set (i * 7 + 6) (.slice A n c) = Ev.ev (ps.set i ⟨p.dev, p.num, p.kind, p.cid, p.fld, p.txt, A, n, c⟩) := by
 induction ps generalizing i with
 | nil => simp at h
 | cons x ps ih =>
   cases i with
   | zero =>
     obtain rfl : x = p := by simpa using h
     rfl
   | succ i =>
     have h2 := ih i (by simpa using h)
     show _ = _ ++ Ev.ev (ps.set i _)
     rw [← h2, show (i + 1) * 7 + 6 = (i * 7 + 6) + 7 by omega]
     rfl
theorem Rw.store {g : Nat} {w : World} {A : Option Addr} {l : List Ev.Evt} {n c i : Nat} {x y : Ev.Evt} {A2 : Option Addr} {n2 c2 : Nat} (h : Rw g w A l n c) (hi : i < n) (hx : l[i]? = some x) (hd : Ev.DotsAt w w.heap.size A2 (Dt.sortD (x.kills ++ y.kills)) n2 c2) (ho : Ev.Off g A2 n2) :
   Rw g (w.setCell ⟨g, i * 7 + 6, none⟩ (.slice A2 n2 c2)) A (l.set i (joinK x y)) n c := by
 obtain ⟨ps, h1, h2, h3, h4⟩ := h.row
 obtain ⟨e, cur, h5, h6⟩ := h4 (by omega)
 have hp := List.getElem?_eq_getElem (show i < ps.length by omega)
 have ha : Ev.Apart g w (w.setCell ⟨g, i * 7 + 6, none⟩ (.slice A2 n2 c2)) := (Ev.Apart.refl g w).setCell rfl _
 have hps : ∀ p ∈ ps.set i ⟨ps[i].dev, ps[i].num, ps[i].kind, ps[i].cid, ps[i].fld, ps[i].txt, A2, n2, c2⟩, Ev.Off g p.adr p.len := fun p hm => by
   rcases List.mem_or_eq_of_mem_set hm with hm | rfl
   · exact h3 p hm
   · exact ho
 refine ⟨h.cap, h.max, h.nil, h.wide, ps.set i ⟨ps[i].dev, ps[i].num, ps[i].kind, ps[i].cid, ps[i].fld, ps[i].txt, A2, n2, c2⟩, by rw [List.length_set]; exact h1, ⟨by rw [List.length_set, List.length_set]; exact h2.1, fun k q z hq hz => ?_⟩, hps, fun _ => ⟨e, _, h5.set _ _, ?_⟩⟩
 · have hoq : Ev.Off g q.adr q.len := hps q (List.mem_of_getElem? hq)
   rw [List.getElem?_set] at hq hz
   rw [ha.size]
   by_cases ek : i = k
   · subst ek
     have hl := h2.1
     rw [if_pos rfl, if_pos (show i < ps.length by omega)] at hq
     rw [if_pos rfl, if_pos (show i < l.length by omega)] at hz
     cases hq
     cases hz
     have h7 := join_is (y := y) (h2.2 i _ _ hp hx) hd
     exact ⟨h7.dev, h7.num, h7.kind, h7.cid, h7.fld, h7.txt, h7.fits, h7.kills.apart ha hoq⟩
   · rw [if_neg ek] at hq hz
     have h7 := h2.2 k _ _ hq hz
     exact ⟨h7.dev, h7.num, h7.kind, h7.cid, h7.fld, h7.txt, h7.fits, h7.kills.apart ha hoq⟩
 · rw [Array.toList_setIfInBounds, List.take_set, h6]
   exact ev_set ps i _ A2 n2 c2 hp
theorem rsortd_far (w : World) (A0 : Option Addr) (l : List Dt.Dot) (n c0 : Nat) (h : Ev.DotsAt w w.heap.size A0 l n c0) (h42 : n ≤ 4398046511104) : Calls Tryz.prog 35 #[.slice A0 n c0] w (DotsFar w (Dt.sortD l)) := by
 refine (Dt.rsort_any w A0 l n c0 h.len h.dots h42).mono ?_
 intro e w' hp
 have h1 := (Dt.sort_fit l h.dots.1 l.length)
 rw [List.take_length] at h1
 have h2 := h.len
 have h3 := h.wide
 obtain ⟨A, m, c, rfl, k1, k2, k3, k4, k5, k6, k7⟩ := Dt.post_dots hp h1.1
 exact ⟨A, m, c, rfl, ⟨k1, k2, k3, k4, by omega, k5⟩, (fun _ ad e => by subst e; exact (k6.lt ad.block rfl).1), k7⟩
theorem Rw.free {g : Nat} {w : World} {A : Option Addr} {l : List Ev.Evt} {n c : Nat} (h : Rw g w A l n c) (h0 : 0 < n) : A = some ⟨g, 0, none⟩ ∧ (∀ i, w.frozen? ⟨g, i, none⟩ = false) ∧ g < w.heap.size := by
 obtain ⟨ps, h1, h2, h3, h4⟩ := h.row
 obtain ⟨e, cur, h5, h6⟩ := h4 h0
 exact ⟨e, fun i => h5.frozen i, h5.lt⟩
theorem row_six (g i : Nat) : (⟨((⟨g, 0, none⟩ : Addr).add (i * 7)).block, ((⟨g, 0, none⟩ : Addr).add (i * 7)).off + 6, none⟩ : Addr) = ⟨g, i * 7 + 6, none⟩ := by
 rw [Ev.add_eq _ _ _ (by omega), Dt.zero_add]
theorem step_app {ops : Array Oper} {o : Oper} {a : Go.Act} {K : Go.Act → World → Prop} {Q : Exit → Go.Act → World → Prop} {E : Prop} (hwa : Region.wanted o (yielded ops a.tmps) = true) (s x : Operand) (ho : o.op = .call { callee := .builtin .append, args := #[s, x], argTypes := #[36, 36] }) (hty : o.type = 36)
   (w W : World) (k q : Nat) (v : Value) (xs : List Dt.Dot) (A : Option Addr) (m : List Dt.Dot) (n c : Nat) (hs : a.eval s = v) (hx : a.eval x = .slice A n c) (hbl : Below W.heap.size W w) (hw : w.ownsRow W.heap.size 35 2 v k (Dt.dv xs)) (hd : Ev.DotsAt w w.heap.size A m n c)
   (hq : k + n = q) (hn : q ≤ 8796093022208)
   (hK : ∀ A' c' w', w'.ownsRow W.heap.size 35 2 (.slice A' q c') q (Dt.dv (xs ++ m)) → w.grownBy w' v.ownBlock → Below W.heap.size W w' → K (a.put o.dst (.slice A' q c')) w') :
   if Region.wanted o (yielded ops a.tmps) = true then Oper.wp Tryz.prog o a w K Q else E := by
 subst hq
 rw [if_pos hwa]
 obtain ⟨A', c', w', hr, h2, h3⟩ := Dt.run_any w W.heap.size k v xs A m n c hw hd.nil hd.dots.2 hd.len hn hbl.size
 rw [← hty] at hr
 unfold Oper.wp execOp
 simp only [ho, resolve, invoke, builtin, Sem.run_bind, Sem.run_pure, Result.andThen_ok, List.map_toArray, List.map_cons, List.map_nil, hs, hx]
 rw [hty] at hr ⊢
 rw [hr]
 exact hK _ _ _ h2 h3 (Dt.any_grown hw hbl h3)
theorem own_lit0 {W V : World} (hB : Below W.heap.size W V) : (V.alloc (.cells #[] 35)).ownsRow W.heap.size 35 2 (.slice (some ⟨V.heap.size, 0, none⟩) 0 0) 0 (Dt.dv []) :=
 World.ownsRow_lit V #[] 0 hB.size (by simp [maxLen]) rfl
theorem dots_out {V W : World} {A B C : Option Addr} {x y : List Dt.Dot} {n m c c2 c3 : Nat} (h1 : Ev.DotsAt V V.heap.size A x n c) (h2 : Ev.DotsAt V V.heap.size B y m c2) (ho : W.ownsRow V.heap.size 35 2 (.slice C (n + m) c3) (n + m) (Dt.dv (x ++ y))) (hn : n + m ≤ 2199023255552) : Ev.DotsAt W W.heap.size C (x ++ y) (n + m) c3 := by
 obtain ⟨k1, k2, k3⟩ := Dt.own_len ho
 exact ⟨by rw [List.length_append, h1.len, h2.len], k3, k1, k2, by omega, Dt.dots_own ho (fun d hd => (List.mem_append.1 hd).elim (h1.dots.1 d) (h2.dots.1 d))⟩
structure Mid (R : Lay) (w : World) (g k : Nat) (wx : World) (p : Nat) (T : Nat → Prop) (S : Bt) (A1 : Option Addr) (n1 c1 : Nat) (A2 : Option Addr) (n2 c2 : Nat) : Prop where
 lay : R wx p T S
 own : ∀ k, T k → w.heap.size ≤ k
 box : ¬ T g
 at_ : At wx g 31 #[.slice A1 n1 c1, .slice A2 n2 c2]
 ctx : Cx.CtxAt wx A1 S.1 n1 c1
 evts : Ev.EventsAt wx wx.heap.size A2 S.2 n2 c2
 bd : Bd k S
 below : Below w.heap.size w wx
theorem Went.other {R : Lay} (P : PBk R) {w W : World} {p p2 : Nat} {T T2 : Nat → Prop} {S S2 : Bt} (h : Went R w p T S W) (h2 : R w p2 T2 S2) (hd : ∀ k, T2 k → ¬ T k) : ∃ T', R W p T' S ∧ R W p2 T2 S2 ∧ (∀ k, T2 k → ¬ T' k) ∧ (∀ k, T' k → T k ∨ w.heap.size ≤ k) ∧ Kept w W T := by
 obtain ⟨_, _, _, K⟩ := h.kept
 obtain ⟨T', F, h3, h4, h5, h6, h7⟩ := h
 refine ⟨T', h3, P.off _ _ _ _ _ _ h2 h7 h6 (fun k hk hf => hd k hk (h5 k hf)), fun k hk ht => (h4 k ht).elim (hd k hk) (fun h8 => ?_), h4, K⟩
 have := (P.dom _ _ _ _ h2).2 k hk
 omega
end Go.Proofs.YtgaegfddobpomaaGreat.Bk
