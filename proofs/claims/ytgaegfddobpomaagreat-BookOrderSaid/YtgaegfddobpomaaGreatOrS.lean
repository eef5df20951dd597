/- Words and contracts that the proofs of this seat stand on, part 19 of 39. -/
import Derived.Test.YtgaegfddobpomaaGreatOrR
import Derived.Deep.RegionHeld3
import Derived.RangeFuncNested
import Derived.RangeFuncBound
import Derived.RangeFuncCalls
import Derived.RangeFuncLeaves
import Derived.Shelf.Abstract
import Derived.Shelf.RegionOpen
import Derived.WalkKit
import Derived.OwnWalkIn
import Derived.TacticsInMore
import Derived.LoopNIn
import Derived.LoopIn
import Derived.Maps.AppendAt
import Derived.Test.YtgaegfddobpomaaGreatOrG

namespace Go.Proofs.YtgaegfddobpomaaGreat.Cx
open Go.ChangeShapes Go.WideShapes Go.ChangeAt Go.RowKit Go.Maps
set_option linter.unusedVariables false
set_option maxRecDepth 4000
theorem nrm_nil : Ru.nrm [] = [] := Ru.empty_of (Ru.nrm_spec []).1 fun n => by rw [(Ru.nrm_spec []).2, Ru.has_nil]
theorem tells_nrm {f : Nat → List Run} (h0 : f 0 = []) (hf : ∀ d, 65536 ≤ d → f d = []) : Tells (fun d => Ru.nrm (f d)) :=
 ⟨by show Ru.nrm (f 0) = []; rw [h0, nrm_nil], fun d hd => by show Ru.nrm (f d) = []; rw [hf d hd, nrm_nil], fun d => (Ru.nrm_spec _).1⟩
theorem nrm_rawC (c : List Part) : (fun d => Ru.nrm (rawC c d)) = runsC c := funext fun d => nrm_raw c d
theorem norm_raw (c : List Part) : listC (fun d => Ru.nrm (rawC c d)) = normC c := by rw [nrm_rawC]; rfl
/-! Add. -/
def stepA (f : Nat → List Run) (x : Dot) : Nat → List Run := if Dt.mayD x = true then (fun e => if e = x.1 then f x.1 ++ [(x.2, x.2)] else f e) else f
def addF (f : Nat → List Run) (l : List Dot) : Nat → List Run := l.foldl stepA f
theorem add_next {f : Nat → List Run} {l : List Dot} {k : Nat} {x : Dot} (h : l[k]? = some x) : addF f (l.take (k + 1)) = stepA (addF f (l.take k)) x := by
 unfold addF
 rw [List.take_add_one, h, List.foldl_append]; rfl
theorem stepA_not {f : Nat → List Run} {x : Dot} (h : Dt.mayD x = false) : stepA f x = f := if_neg (by rw [h]; simp)
theorem stepA_put {f : Nat → List Run} {x : Dot} (h : Dt.mayD x = true) : (fun e => if e = x.1 then f x.1 ++ [(x.2, x.2)] else f e) = stepA f x := (if_pos h).symm
theorem stepA_has (f : Nat → List Run) (x : Dot) (d n : Nat) : Ru.has (stepA f x d) n = (Ru.has (f d) n || isDot d n x) := by
 unfold stepA isDot
 cases h : Dt.mayD x with
 | false => simp
 | true =>
   rw [if_pos rfl, Bool.true_and]
   by_cases hd : d = x.1
   · subst hd
     rw [if_pos rfl, Ru.has_append, Ru.has_one, dot_may h]
     simp [eq_comm]
   · rw [if_neg hd, decide_eq_false (fun h => hd h.symm)]; simp
theorem add_has (l : List Dot) (f : Nat → List Run) (d n : Nat) : Ru.has (addF f l d) n = (Ru.has (f d) n || l.any (isDot d n)) := by
 unfold addF
 induction l generalizing f with
 | nil => simp
 | cons x l ih => rw [List.foldl_cons, ih, stepA_has, List.any_cons, Bool.or_assoc]
theorem add_keep (l : List Dot) (hl : Dt.Fit l) (f : Nat → List Run) : addF f l 0 = f 0 ∧ ∀ d, 65536 ≤ d → addF f l d = f d := by
 unfold addF
 induction l generalizing f with
 | nil => exact ⟨rfl, fun _ _ => rfl⟩
 | cons x l ih =>
   rw [List.foldl_cons]
   obtain ⟨h1, h2⟩ := ih (fun y hy => hl y (List.mem_cons_of_mem _ hy)) (stepA f x)
   have hx := (hl x (List.mem_cons_self ..)).1
   have key : ∀ d, (d = 0 ∨ 65536 ≤ d) → stepA f x d = f d := fun d hd => by
     unfold stepA
     cases h : Dt.mayD x with
     | false => simp
     | true =>
       have := ((Dt.may_iff x).1 h).1
       rw [if_pos rfl, if_neg (by omega)]
   exact ⟨by rw [h1]; exact key 0 (.inl rfl), fun d hd => by rw [h2 d hd]; exact key d (.inr hd)⟩
theorem add_len (l : List Dot) (f : Nat → List Run) (k d : Nat) : (addF f (l.take k) d).length ≤ (f d).length + k := by
 unfold addF
 induction l generalizing f k with
 | nil => simp
 | cons x l ih =>
   cases k with
   | zero => simp
   | succ k =>
     rw [List.take_succ_cons, List.foldl_cons]
     refine Nat.le_trans (ih (stepA f x) k) ?_
     have : (stepA f x d).length ≤ (f d).length + 1 := by
       unfold stepA
       split
       · show (if d = x.1 then f x.1 ++ [(x.2, x.2)] else f d).length ≤ (f d).length + 1
         by_cases hd : d = x.1
         · subst hd; rw [if_pos rfl, List.length_append]; simp
         · rw [if_neg hd]; omega
       · omega
     omega
theorem add_fin {a : List Part} {l : List Dot} (ha : FitC a) (hl : Dt.Fit l) : (fun d => Ru.nrm (addF (rawC a) l d)) = fun d => Ru.setL (runsC a d) (runsC (ofC l) d) 0 := by
 funext d
 refine Ru.uniq (Ru.nrm_spec _).1 (Ru.set_spec _ _ _).1 fun n => ?_
 rw [(Ru.nrm_spec _).2, add_has, Ru.has0, has_of hl, ← (Ru.nrm_spec (rawC a d)).2, nrm_raw]
theorem tells_add {a : List Part} {l : List Dot} (ha : FitC a) (hl : Dt.Fit l) : Tells (fun d => Ru.nrm (addF (rawC a) l d)) := by
 obtain ⟨h1, h2⟩ := add_keep l hl (rawC a)
 exact tells_nrm (by rw [h1]; exact raw_zero _ _) (fun d hd => by rw [h2 d hd]; exact raw_far ha hd rfl)
theorem norm_two {a b : List Part} (ha : FitC a) (hb : FitC b) : normC (a ++ b) = setC a b 0 := by
 unfold normC setC
 congr 1
 funext d
 refine Ru.uniq (runs_order _ _) (Ru.set_spec _ _ _).1 fun n => ?_
 rw [Ru.has0, runs_has, runs_has, runs_has, List.any_append]
 cases decide (d ≠ 0) <;> simp
theorem weight_two (a b : List Part) : wC (a ++ b) = wC a + wC b := by unfold wC; rw [List.map_append, List.sum_append]
/-! Same: each within the other. -/
theorem within_sub {a b : List Part} (ha : FitC a) (hb : FitC b) (h : withinC a b = true) (d n : Nat) (hn : Ru.has (runsC a d) n = true) : Ru.has (runsC b d) n = true := by
 have h1 : setC a b 2 = [] := of_decide_eq_true h
 have h2 := has_set2 ha hb d n
 rw [h1, hn, Bool.true_and] at h2
 have h3 : Ru.has (runsC [] d) n = false := by rw [runs_nil, Ru.has_nil]
 rw [h3] at h2
 cases h4 : Ru.has (runsC b d) n with
 | true => rfl
 | false => rw [h4] at h2; cases h2
theorem same_both {a b : List Part} (ha : FitC a) (hb : FitC b) : sameC a b = (withinC a b && withinC b a) := by
 rw [Bool.eq_iff_iff, Bool.and_eq_true]
 constructor
 · intro h
   have h1 : normC a = normC b := of_decide_eq_true h
   have h2 : runsC a = runsC b := by rw [← runs_norm ha, ← runs_norm hb, h1]
   exact ⟨within_iff ha hb fun d n hn => by rw [← h2]; exact hn, within_iff hb ha fun d n hn => by rw [h2]; exact hn⟩
 · rintro ⟨h1, h2⟩
   refine decide_eq_true (norm_eq ha hb fun d n => ?_)
   rw [Bool.eq_iff_iff]
   exact ⟨within_sub ha hb h1 d n, within_sub hb ha h2 d n⟩
/-! What a range over the map gathers. -/
theorem gatherN_start {w : World} {b : Nat} {D : DataW Value} {g : Nat → Option Sl} {f h : Nat → List Run} (hh : HoldsS D g) (hs : SlsAt w b g f) (hz : ∀ d, f d = [] → h d = []) : GatherS h g (Maps.has D) [] :=
 ⟨fun x hx => (by cases hx), (fun d hd hl => by
   rcases hs d with ⟨_, q⟩ | ⟨s, q, _⟩
   · exact absurd (hz d q) hd
   · have := (hh.some_ d (by rw [q]; rfl)).2
     rw [hl] at this; cases this), List.Pairwise.nil⟩
def okP (c : List Part) (k : Nat) : Prop := ∀ x, c[k]? = some x → 1 ≤ x.1 ∧ x.2 ≠ [] ∧ x.2 = Ru.nrm x.2 ∧ ∀ y, 0 < k → c[k - 1]? = some y → y.1 < x.1
/-! Has. -/
theorem has_none {c : List Part} {d : Dot} (h : Dt.mayD d = false) : hasC c d = false := by unfold hasC; rw [h]; rfl
def hitC (d : Dot) (x : Part) : Bool := decide (x.1 = d.1) && Ru.has x.2 d.2
theorem has_any' {c : List Part} {d : Dot} (h : Dt.mayD d = true) : hasC c d = c.any (hitC d) := by
 unfold hasC
 have := ((Dt.may_iff d).1 h).1
 rw [h, Bool.true_and, runs_has, decide_eq_true (by omega), Bool.true_and]
 rfl
theorem any_next {c : List Part} {d : Dot} {k : Nat} {x : Part} (h : c[k]? = some x) : (c.take (k + 1)).any (hitC d) = ((c.take k).any (hitC d) || hitC d x) := by
 rw [List.take_add_one, h, List.any_append]; simp
theorem any_hit {c : List Part} {d : Dot} {k : Nat} {x : Part} (h : c[k]? = some x) (hx : hitC d x = true) : c.any (hitC d) = true := List.any_eq_true.2 ⟨x, List.mem_of_getElem? h, hx⟩
theorem pbox_at (w : World) (d : Nat) (A : Option Addr) (n c : Nat) : ∀ V, Below (w.alloc (.cells #[.int .u16 (d : Int), .slice A n c] 71)).heap.size (w.alloc (.cells #[.int .u16 (d : Int), .slice A n c] 71)) V → V.cell? ⟨w.heap.size, 0, none⟩ = some (.int .u16 (d : Int)) ∧ V.cell? ⟨w.heap.size, 1, none⟩ = some (.slice A n c) := by
 intro V hV
 have h1 : (w.alloc (.cells #[.int .u16 (d : Int), .slice A n c] 71)).cell? ⟨w.heap.size, 0, none⟩ = some (.int .u16 (d : Int)) := by simp [go_sem]
 have h2 : (w.alloc (.cells #[.int .u16 (d : Int), .slice A n c] 71)).cell? ⟨w.heap.size, 1, none⟩ = some (.slice A n c) := by simp [go_sem]
 exact ⟨(hV.cell (World.block_lt_of_cell? _ _ h1)).trans h1, (hV.cell (World.block_lt_of_cell? _ _ h2)).trans h2⟩
set_option maxHeartbeats 4000000 in
theorem pbydev_any (w : World) (A1 : Option Addr) (a : List Part) (n1 c1 : Nat) (h1 : CtxAt w A1 a n1 c1) (ha : Wide 268435456 a) :
   Calls Tryz.prog 91 #[.slice A1 n1 c1] w fun e w' => e = .returned (.map (some w.heap.size)) ∧ MapO w' (w.heap.size + 1) w.heap.size n1 (rawC a) ∧ Below w.heap.size w w' := by
 have hmm := @run_makeMap Tryz.prog
 have H1 := Lib.hid h1
 have HM0 := Lib.hid (mapO_new w)
 have HB0 : Hid (Below w.heap.size w (w.alloc (.map #[] 0))) := Lib.hid (Dt.below_new _ _)
 have hn1 : n1 ≤ 268435456 := by rw [← h1.len]; exact ha.1
 have HL : Hid (∀ k d, (rawF (fun _ => []) (a.take k) d).length ≤ 268435456) := Lib.hid (fun k d => by
   have q1 := raw_len (fun _ => []) a k d
   have q2 := weight_take a k
   have q3 := ha.2
   simp only [List.length_nil] at q1
   omega)
 have HP : Hid (∀ (k : Nat) (x : Part), a[k]? = some x → x.2.length ≤ 268435456) := Lib.hid (fun k x hx => Nat.le_trans (weight_part hx) ha.2)
 have HF : Hid (∀ k d, Ru.Fit (rawF (fun _ => []) (a.take k) d)) := Lib.hid (fun k d => raw_fit (fun x hx => h1.fit x (List.mem_of_mem_take hx)) d (fun r hr => by cases hr))
 clear h1 ha
 go_enter Tryz.func91, Tryz.ntmps91
 go_wp2_with fail
 generalize w.alloc (.map #[] 0) = w0 at HM0 HB0 ⊢
 go_loopw [9] (fun i wr => ∃ k : Nat, k ≤ n1 ∧ i = .int .i64 (k : Int) ∧ MapO wr (w.heap.size + 1) w.heap.size k (rawF (fun _ => []) (a.take k)) ∧ Below w.heap.size w wr) (fun i _ => n1 - (intOf i).toNat)
 case atStart => exact ⟨0, Nat.zero_le _, rfl, HM0.out, HB0.out⟩
 case round =>
   obtain ⟨k, hk, rfl, hmk, hg⟩ := hrel
   have HMK := Lib.hid hmk
   have HW := Lib.hid hg
   have hsz := hmk.lt
   clear hmk hg
   by_cases hlt : k < n1
   · obtain ⟨ad, p, x, rfl, hB, hx, hp, hcell⟩ := H1.out.cells hlt
     have HN := Lib.hid (raw_next (f := fun _ => []) hx)
     have HPL := Lib.hid (HP.out k x hx)
     have HX := Lib.hid (hp.up HW.out)
     have hd1 := hp.fit
     have hpd := hp.dev
     obtain ⟨d1, d2⟩ := hcell wr HW.out
     clear hx hp hcell
     have BX : Hid (Below wr.heap.size wr (wr.alloc (.cells #[.int .u16 (x.1 : Int), .slice p.adr p.len p.cap] 71))) := Lib.hid (Dt.below_new _ _)
     obtain ⟨d3, d4⟩ := pbox_at wr x.1 p.adr p.len p.cap _ (Below.refl _ _)
     by_cases h0 : x.1 = 0
     · have dz : ((x.1 : Int) != 0) = false := by rw [bne_eq_false_iff_eq]; omega
       have HS : Hid (rawF (fun _ => []) (a.take (k + 1)) = rawF (fun _ => []) (a.take k)) := Lib.hid (by rw [HN.out]; exact raw_skip h0)
       have HR : Hid (MapO (wr.alloc (.cells #[.int .u16 (x.1 : Int), .slice p.adr p.len p.cap] 71)) (w.heap.size + 1) w.heap.size (k + 1) (rawF (fun _ => []) (a.take (k + 1)))) := Lib.hid (by rw [HS.out]; exact (HMK.out.up BX.out).more (by omega))
       have HW1 := Lib.hid (HW.out.trans (BX.out.mono HW.out.size))
       have hz : ((x.1 : Nat) : Int) = 0 := by omega
       rw [hz] at HR HW1
       clear HN HS HMK HX BX
       go_wp2
       go_roundw
       case rel => exact ⟨k + 1, hlt, by go_num, HR.out, HW1.out⟩
       case measure => simp [intOf]; omega
     · have dz : ((x.1 : Int) != 0) = true := by rw [bne_iff_ne]; omega
       have HS : Hid ((fun d => if d = x.1 then rawF (fun _ => []) (a.take k) x.1 ++ x.2 else rawF (fun _ => []) (a.take k) d) = rawF (fun _ => []) (a.take (k + 1))) := Lib.hid (by rw [HN.out]; exact raw_put h0)
       have HFN := Lib.hid (HF.out (k + 1) x.1)
       have HEN : Hid (rawF (fun _ => []) (a.take (k + 1)) x.1 = rawF (fun _ => []) (a.take k) x.1 ++ x.2) := Lib.hid (by rw [← HS.out]; exact if_pos rfl)
       rw [HEN.out] at HFN
       have HLK := Lib.hid (HL.out k x.1)
       generalize hwb : wr.alloc (.cells #[.int .u16 (x.1 : Int), .slice p.adr p.len p.cap] 71) = wb at BX d3 d4
       have hbox : wb.heap.size = wr.heap.size + 1 := by rw [← hwb]; simp
       have HXB := Lib.hid (HX.out.up BX.out)
       obtain ⟨A2, k2, c2, hA2, hk2, hlook, hstore⟩ := (HMK.out.up BX.out).look hd1
       have r1 := hlook wb (Ru.turn_refl _ _)
       have r2 := hlook wb.drew (bel_grown ((Below.refl _ _).drew) _)
       have BD : Hid (Below wb.heap.size wb wb.drew) := Lib.hid ((Below.refl _ _).drew)
       have HO2 := Lib.hid (Dt.own_kept hA2 BD.out)
       have hk2' : k2 ≤ 268435456 := by rw [← hk2]; exact HLK.out
       have hpl' : p.len ≤ 268435456 := by rw [← HX.out.len]; exact HPL.out
       have HBL : Hid (Ru.Lies wb.drew wb.drew.heap.size p.adr (Ru.rv x.2)) := Lib.hid ((HXB.out.up BD.out).runs.2)
       have HXL := Lib.hid HX.out.len
       have HXN := Lib.hid HX.out.nil
       have HOL := Lib.hid (fun j hj => (hA2.lt j hj))
       have HST := Lib.hid hstore
       have HW1 := Lib.hid ((HW.out.trans (BX.out.mono HW.out.size)).trans (BD.out.mono (Nat.le_trans HW.out.size BX.out.size)))
       have hBsz : w.heap.size + 1 ≤ wb.drew.heap.size := by show w.heap.size + 1 ≤ wb.heap.size; omega
       have HKC : Hid (∀ w5 : World, World.grownBy wb.drew w5 (Value.slice A2 k2 c2).ownBlock → w5.cell? ⟨wr.heap.size, 0, none⟩ = some (.int .u16 (x.1 : Int)) ∧ w5.cell? ⟨wr.heap.size, 1, none⟩ = some (.slice p.adr p.len p.cap)) := Lib.hid (fun w5 hg5 => by
         have hq := HMK.out
         have hne : some wr.heap.size ≠ (Value.slice A2 k2 c2).ownBlock := fun e => by
           obtain ⟨A9, k9, c9, hA9, _, hl9, _⟩ := hq.look hd1
           have e9 := hl9 wb (bel_grown BX.out _)
           rw [r1] at e9
           have e8 : Value.slice A2 k2 c2 = Value.slice A9 k9 c9 := by injection e9
           rw [e8] at e
           have := (hA9.lt wr.heap.size e.symm).2
           omega
         have hl2 : wr.heap.size < wb.drew.heap.size := by show wr.heap.size < wb.heap.size; omega
         exact ⟨(hg5.cell_far _ hl2 hne).trans d3, (hg5.cell_far _ hl2 hne).trans d4⟩)
       have HK6 : Hid (∀ w5 w6 : World, World.grownBy wb.drew w5 (Value.slice A2 k2 c2).ownBlock → w5.grownBy w6 (some w.heap.size) → w6.cell? ⟨wr.heap.size, 0, none⟩ = some (.int .u16 (x.1 : Int)) ∧ w6.cell? ⟨wr.heap.size, 1, none⟩ = some (.slice p.adr p.len p.cap)) := Lib.hid (fun w5 w6 hg5 hg6 => by
         obtain ⟨q1, q2⟩ := HKC.out w5 hg5
         have hl2 : wr.heap.size < w5.heap.size := by have := hg5.size; show wr.heap.size < w5.heap.size; have e : wb.drew.heap.size = wb.heap.size := rfl; omega
         have hne : some wr.heap.size ≠ some w.heap.size := fun e => by injection e with e; omega
         exact ⟨(hg6.cell_far _ hl2 hne).trans q1, (hg6.cell_far _ hl2 hne).trans q2⟩)
       clear HN hA2 hlook hstore HLK HPL HX HMK BX BD HXB hk2 HEN
       go_wp2_with fail
       go_region_held3 (fun V => V.cell? ⟨wr.heap.size, 0, none⟩ = some (.int .u16 (x.1 : Int)) ∧ V.cell? ⟨wr.heap.size, 1, none⟩ = some (.slice p.adr p.len p.cap)) (first | exact ⟨d3, d4⟩ | assumption) (first
         | (refine step_app rfl (.tmp 22) (.tmp 24) rfl rfl (w.heap.size + 1) k2 (.slice A2 k2 c2) (rawF (fun _ => []) (a.take k) x.1) p.adr x.2 p.len p.cap rfl rfl HO2.out HXN.out HBL.out HXL.out (by omega) hBsz ?_; intro A5 c5 w5 ho5 hg5 hl5; have hcV := HKC.out w5 hg5; obtain ⟨w6, hrun, hM6, hg6⟩ := HST.out w5 A5 (k2 + p.len) c5 _ (World.grownBy.trans (bel_grown ((Below.refl _ _).drew) _) hg5) ho5 HFN.out (hl5.imp (fun h => h) (fun h j hj => by rw [h] at hj; injection hj with hj; rw [← hj]; exact Nat.le_refl _)) (by omega); have hcV6 := HK6.out w5 w6 hg5 hg6))
       all_goals
         have HR : Hid (MapO w6 (w.heap.size + 1) w.heap.size (k + 1) (rawF (fun _ => []) (a.take (k + 1)))) := Lib.hid (hM6.turn HS.out)
         have HW6 : Hid (Below w.heap.size w w6) := Lib.hid ((HW1.out.grown hg5 HW1.out.size (fun j hj => by have := (HOL.out j hj).1; omega)).grown hg6 (Nat.le_trans HW1.out.size hg5.size) (fun j hj => by cases hj; exact Nat.le_refl _))
         clear hM6 hg6 hrun hg5 hl5 ho5 hcV hcV6 r1 r2 HO2 HBL HXL HXN HOL HST HW1 HKC HK6 HS HFN d1 d2 d3 d4
         go_wp2
         go_roundw
         case rel => exact ⟨k + 1, hlt, by go_num, HR.out, HW6.out⟩
         case measure => simp [intOf]; omega
   · obtain rfl : k = n1 := by omega
     have e : Hid (a.take k = a) := Lib.hid (List.take_of_length_le (by rw [H1.out.len]; exact Nat.le_refl _))
     rw [e.out] at HMK
     go_wp2
     go_ret
     exact ⟨rfl, HMK.out, HW.out⟩
theorem perm_map {α β : Type} {f : α → β} {s t : List β} (h : s.Perm t) : ∀ L : List α, L.map f = t → ∃ L' : List α, L'.Perm L ∧ L'.map f = s := by
 induction h with
 | nil => intro L hL; exact ⟨[], by rw [List.map_eq_nil_iff.1 hL], rfl⟩
 | cons x h ih =>
   intro L hL
   cases L with
   | nil => cases hL
   | cons y L =>
     rw [List.map_cons] at hL
     injection hL with h1 h2
     obtain ⟨L', h3, h4⟩ := ih L h2
     exact ⟨y :: L', h3.cons y, by rw [List.map_cons, h1, h4]⟩
 | swap x y l =>
   intro L hL
   cases L with
   | nil => cases hL
   | cons a L =>
     cases L with
     | nil => simp at hL
     | cons b L =>
       simp only [List.map_cons] at hL
       injection hL with h1 hL
       injection hL with h2 h3
       exact ⟨b :: a :: L, List.Perm.swap a b L, by simp only [List.map_cons, h1, h2, h3]⟩
 | trans _ _ ih1 ih2 =>
   intro L hL
   obtain ⟨L2, h1, h2⟩ := ih2 L hL
   obtain ⟨L1, h3, h4⟩ := ih1 L2 h2
   exact ⟨L1, h3.trans h1, h4⟩
theorem match_perm {w : World} {ps s : List PV} {m : List Part} (h : Match w ps m) (hp : s.Perm ps) : ∃ m', Match w s m' ∧ m'.Perm m := by
 have e1 : (ps.zip m).map Prod.fst = ps := List.map_fst_zip (Nat.le_of_eq h.1)
 have e2 : (ps.zip m).map Prod.snd = m := List.map_snd_zip (Nat.le_of_eq h.1.symm)
 obtain ⟨L, h1, h2⟩ := perm_map hp (ps.zip m) e1
 refine ⟨L.map Prod.snd, ⟨by rw [← h2, List.length_map, List.length_map], fun k p x hk hx => ?_⟩, ?_⟩
 · rw [← h2, List.getElem?_map] at hk
   rw [List.getElem?_map] at hx
   obtain ⟨r, hr, rfl⟩ := Option.map_eq_some_iff.1 hk
   rw [hr] at hx
   cases hx
   obtain ⟨i, hi, e⟩ := List.getElem_of_mem ((h1.mem_iff).1 (List.mem_of_getElem? hr))
   have hi2 := List.getElem?_eq_getElem hi
   rw [e] at hi2
   rw [List.getElem?_zip_eq_some] at hi2
   exact h.2 i r.1 r.2 hi2.1 hi2.2
 · rw [← e2]
   exact h1.map _
theorem wpList_nextS {ops : Array Oper} {rest : List Oper} {o : Oper} {a : Act} {w : World} {Q : Exit → Act → World → Prop} (hg : o.guard = none) (it : Operand) (hop : o.op = Op.next it false) (b r n : Nat) (D : DataW Value) (left : Lit → Bool) (cnt : Nat)
   (hit : a.eval it = .pointer (some ⟨r, 0, none⟩)) (h : w.ranges Tryz.prog 32 valS b r n D left cnt)
   (hDone : cnt = 0 → (∀ kl, left kl = false) → wpList Tryz.prog ops Q rest (a.put o.dst (.tuple #[.bool false])) w)
   (hMore : ∀ (x : Int) (s : Sl) (w' : World) (cnt' : Nat), (Lit.int .u16 x).wf = true → left (.int .u16 x) = true → (∀ zd, D.atKey (.int .u16 x) zd = .held (sv s)) → w'.ranges Tryz.prog 32 valS b r n D (fun z => left z && !z.sameKey (.int .u16 x)) cnt' → cnt' < cnt →
     w.grownBy w' (some r) → w'.heap.size = w.heap.size → (Instr.entry (.pointer (some ⟨r, 0, none⟩))).run Tryz.prog w' = .ok (.tuple #[.int .u16 x, .slice s.adr s.len s.cap]) w' → wpList Tryz.prog ops Q rest (a.put o.dst (.tuple #[.bool true, .int .u16 x, .slice s.adr s.len s.cap])) w') :
   wpList Tryz.prog ops Q (o :: rest) a w :=
 wpList_next_ranges w hg it hop 32 law16 valS (Value.int .u16) sv (fun key kl hkey => by obtain ⟨x, rfl, _⟩ := Maps.keyOf_int_inv Tryz.underlying32 hkey; exact ⟨x, rfl⟩) (fun v y hv => by obtain ⟨s, rfl, _⟩ := val_inv hv; exact ⟨s, rfl⟩)
   b r n D left cnt hit h hDone (fun x c kl y w' cnt' hkey hlk hv hat hrg hlt hgr hsz hen => by
     obtain ⟨x', ex, rfl, hwx⟩ := Maps.keyOf_int_inv Tryz.underlying32 hkey
     cases ex
     obtain ⟨s, es, rfl⟩ := val_inv hv
     have e := sv_inj es
     subst e
     exact hMore x c w' cnt' hwx hlk hat hrg hlt hgr hsz hen)
def SortsP : Prop := ∀ (W : World) (B : Nat) (A : Option Addr) (k c : Nat) (ps : List PV), ps.length = k → k < 4611686018427387904 → W.ownsRow B 71 2 (.slice A k c) k (cv ps) → Calls Tryz.prog 129 #[.slice A k c, .func (.func 130) #[] #[]] W fun e W' =>
 e = .returned (.tuple #[]) ∧ ∃ s : List PV, s.Perm ps ∧ s.Pairwise (fun p q => p.dev ≤ q.dev) ∧ W'.ownsRow B 71 2 (.slice A k c) k (cv s) ∧ W.grownBy W' (Value.slice A k c).ownBlock
theorem made_end {w : World} {f : Nat → List Run} {g : Nat → Option Sl} {left : Lit → Bool} {ps s : List PV} {m : List Part} (h : GatherS f g left m) (hf : Tells f) (hl : ∀ kl, left kl = false) (hm : Match w ps m) (hp : s.Perm ps) (hs : s.Pairwise (fun p q => p.dev ≤ q.dev)) : Match w s (listC f) := by
 obtain ⟨m', h1, h2⟩ := match_perm hm hp
 have h3 : m'.Pairwise (fun a b => a.1 ≤ b.1) := by
   rw [List.pairwise_iff_getElem]
   intro i j hi hj hij
   have hi2 : i < s.length := by rw [h1.1]; exact hi
   have hj2 : j < s.length := by rw [h1.1]; exact hj
   have q1 := h1.2 i _ _ (List.getElem?_eq_getElem hi2) (List.getElem?_eq_getElem hi)
   have q2 := h1.2 j _ _ (List.getElem?_eq_getElem hj2) (List.getElem?_eq_getElem hj)
   rw [← q1.dev, ← q2.dev]
   exact (List.pairwise_iff_getElem.1 hs) i j hi2 hj2 hij
 have h4 : m'.Pairwise (fun a b => a.1 ≠ b.1) := (h2.pairwise_iff (fun hab e => hab e.symm)).2 h.once
 have h5 : m'.Pairwise (fun a b => a.1 < b.1) := (h3.and h4).imp (fun ⟨q1, q2⟩ => Nat.lt_of_le_of_ne q1 q2)
 rw [← gatherS_end h hf hl h5 (fun x => h2.mem_iff)]
 exact h1
end Go.Proofs.YtgaegfddobpomaaGreat.Cx

namespace Go.Proofs.YtgaegfddobpomaaGreat.Ru
open Go.ChangeShapes Go.WideShapes Go.ChangeAt Go.RowKit Go.Shelf
set_option linter.unusedVariables false
attribute [local go_sem] Oper.semAt_some
theorem tells_any (w : World) (lo hi : Nat) :
   Calls Tryz.prog 145 #[.agg #[.int .u64 (lo : Int), .int .u64 (hi : Int)]] w fun e w' => e = .returned (.bool (mayR (lo, hi))) ∧ Below w.heap.size w w' := by
 by_cases c1 : lo = 0
 · have hd : mayR (lo, hi) = false := decide_eq_false (fun h => by have := h.1; simp at this; omega)
   have d1 : ((lo : Int) != 0) = false := by rw [bne_eq_false_iff_eq]; omega
   rw [hd]
   clear hd
   go_enter Tryz.func145, Tryz.ntmps145
   go_wp2
   go_ret
   exact ⟨rfl, below_new w _⟩
 · have d1 : ((lo : Int) != 0) = true := by rw [bne_iff_ne]; omega
   by_cases c2 : lo ≤ hi
   · have d2 : decide ((lo : Int) ≤ (hi : Int)) = true := decide_eq_true (by omega)
     have hd : mayR (lo, hi) = decide ((hi : Int) ≤ 281474976710655) := decide_eq_decide.2 ⟨fun h => by have := h.2.2; simp at this; omega, fun h => ⟨by simp; omega, c2, by simp; omega⟩⟩
     rw [hd]
     clear hd
     go_enter Tryz.func145, Tryz.ntmps145
     go_wp2
     go_ret
     exact ⟨rfl, below_new w _⟩
   · have hd : mayR (lo, hi) = false := decide_eq_false (fun h => c2 h.2.1)
     have d2 : decide ((lo : Int) ≤ (hi : Int)) = false := decide_eq_false (by omega)
     rw [hd]
     clear hd
     go_enter Tryz.func145, Tryz.ntmps145
     go_wp2
     go_ret
     exact ⟨rfl, below_new w _⟩
theorem apart_any (w : World) (alo ahi blo bhi : Nat) (h : ahi ≤ 281474976710656) :
   Calls Tryz.prog 146 #[.agg #[.int .u64 (alo : Int), .int .u64 (ahi : Int)], .agg #[.int .u64 (blo : Int), .int .u64 (bhi : Int)]] w fun e w' => e = .returned (.bool (decide (ahi + 1 < blo))) ∧ Below w.heap.size w w' := by
 have h1 : IntKind.u64.wrap ((ahi : Int) + 1) = ((ahi + 1 : Nat) : Int) := by simp [IntKind.wrap, IntKind.bits, IntKind.signed]; omega
 have hd : decide (ahi + 1 < blo) = decide (((ahi + 1 : Nat) : Int) < (blo : Int)) := decide_eq_decide.2 (by omega)
 rw [hd]
 generalize ((ahi + 1 : Nat) : Int) = z at h1 ⊢
 go_enter Tryz.func146, Tryz.ntmps146
 go_wp2
 go_ret
 exact ⟨rfl, (below_new w _).trans ((below_new _ _).mono (below_new w _).size)⟩
theorem telling_any (w : World) (A : Option Addr) (len c : Nat) :
   Calls Tryz.prog 127 #[.slice A len c] w fun e w' => e = .returned (.func (.func 156) #[] #[.pointer (some ⟨w.heap.size, 0, none⟩)]) ∧ w' = w.alloc (.cells #[.slice A len c] 69) := by
 go_enter Tryz.func127, Tryz.ntmps127
 go_wp2
 go_ret
 exact ⟨rfl, rfl⟩
theorem turn_below {w w' : World} (h : Below w.heap.size w w') (row : Option Nat) : w.grownBy w' row := ⟨h.os, h.tape, h.output, h.size, fun i hi _ => h.block i hi⟩
def encR (r : Run) : Array Value := #[.agg #[.int .u64 (r.1 : Int), .int .u64 (r.2 : Int)]]
theorem tells_take {l : List Run} {k : Nat} {r : Run} (h : l[k]? = some r) : tells (l.take (k + 1)) = tells (l.take k) ++ (if mayR r = true then [r] else []) := by
 unfold tells
 rw [List.take_add_one, h]
 simp only [Option.toList_some, List.filter_append, List.filter_cons, List.filter_nil]
theorem tells_part (l : List Run) (k : Nat) : tells (l.take k) <+: tells l := by
 refine ⟨tells (l.drop k), ?_⟩
 unfold tells
 rw [← List.filter_append, List.take_append_drop]
set_option maxRecDepth 100000 in
set_option maxHeartbeats 2000000 in
theorem telling1_in (n : Nat) (hn : 1 ≤ n) (l Bs n₀ : Nat) (A : Option Addr) (len c : Nat) (zs : List Run) (hl : zs.length = len) (h63 : len ≤ 9223372036854775807) (J Jx : List Run → World → Prop) (W : World)
   (hJ : AbidesFrom W.heap.size J) (hn₀ : n₀ ≤ W.heap.size)
   (hY : ∀ pre x W1, J pre W1 → pre.length < (tells zs).length → YieldAt Fence.wide (n - 1) Tryz.prog l (encR x) W1 fun e W' =>
     (e = .returned (.bool true) ∧ J (pre ++ [x]) W' ∧ Below n₀ W1 W') ∨ (e = .returned (.bool false) ∧ Jx (pre ++ [x]) W'))
   (hBs : W.cell? ⟨Bs, 0, none⟩ = some (.slice A len c)) (hc : Runs W n₀ A zs) (h0 : J [] W) :
   CallsIn Fence.wide n Tryz.prog 156 #[.func (.yield l) #[] #[], .pointer (some ⟨Bs, 0, none⟩)] W fun e W' => (∃ v, e = .returned v) ∧
     ((∃ ys, ys = tells zs ∧ J ys W') ∨ (∃ pre, pre <+: tells zs ∧ Jx pre W')) := by
 have HC := Lib.hid hc
 have HL := Lib.hid hl
 clear hc hl
 refine callsIn_of_wp Tryz.func156 rfl trivial ?_ rfl
 simp only [Tryz.ntmps156, List.size_toArray, List.length_cons, List.length_nil, Nat.reduceAdd, Nat.reduceSub, Array.replicate_succ, Array.replicate_zero, List.push_toArray, List.append_toArray, List.nil_append, List.cons_append]
 gi_wp2
 gi_loopw [7] (fun i wr => ∃ k : Nat, k ≤ len ∧ i = .int .i64 (k : Int) ∧ J (tells (zs.take k)) wr ∧ Below n₀ W wr)
   (fun i _ => len - (intOf i).toNat)
 case atStart => exact ⟨0, Nat.zero_le _, rfl, h0, Below.refl _ _⟩
 case round =>
   obtain ⟨k, hk, rfl, hJs, hnx⟩ := hrel
   have HX := Lib.hid hnx
   clear hnx
   by_cases hlt : k < len
   · obtain ⟨ad, lo, hi, rfl, hlk, hlo, hhi, hc1, hc2⟩ := (HC.out.below HX.out).at_ (k := k) (by rw [HL.out]; exact hlt)
     have LK := Lib.hid hlk
     have hc3 : wr.cell? ⟨(ad.add (k * 2)).block, (ad.add (k * 2)).off + 1, none⟩ = some (.int .u64 (hi : Int)) := by rw [add_next]; exact hc2
     clear hlk hc2
     have L0 : Hid (Below wr.heap.size wr (wr.alloc (.cells #[.int .u64 (lo : Int), .int .u64 (hi : Int)] 68))) := below_new _ _
     have C0 : Hid ((wr.alloc (.cells #[.int .u64 (lo : Int), .int .u64 (hi : Int)] 68)).cell? ⟨wr.heap.size, 0, none⟩ = some (.int .u64 (lo : Int)) ∧ (wr.alloc (.cells #[.int .u64 (lo : Int), .int .u64 (hi : Int)] 68)).cell? ⟨wr.heap.size, 1, none⟩ = some (.int .u64 (hi : Int))) := ⟨World.cell?_alloc_new _ _ _ _, World.cell?_alloc_new _ _ _ _⟩
     have S0 : Hid (wr.heap.size < (wr.alloc (.cells #[.int .u64 (lo : Int), .int .u64 (hi : Int)] 68)).heap.size) := by show _ < _; simp
     gi_wp2_with fail
     refine ⟨trivial, callsIn_wide.2 ((tells_any _ lo hi).mono ?_)⟩
     rintro e w4 ⟨rfl, hb4⟩
     have q1 := (hb4.cell (p := ⟨wr.heap.size, 0, none⟩) S0.out).trans C0.out.1
     have q2 := (hb4.cell (p := ⟨wr.heap.size, 1, none⟩) S0.out).trans C0.out.2
     have L4 : Hid (Below wr.heap.size wr w4) := L0.out.trans (hb4.mono L0.out.size)
     have X4 : Hid (Below n₀ W w4) := HX.out.trans (L4.out.mono (Nat.le_trans hn₀ HX.out.size))
     have hJ4 : J (tells (zs.take k)) w4 := hJ _ _ _ none hJs (turn_below L4.out none) (fun r e => by cases e)
     have T1 := Lib.hid (tells_take LK.out)
     clear hb4 hc1 hc3 C0 S0 hJs
     by_cases cm : mayR (lo, hi) = true
     · have T2 : Hid (tells (zs.take (k + 1)) = tells (zs.take k) ++ [(lo, hi)]) := by show _ = _; rw [T1.out, if_pos cm]
       obtain ⟨fn, tmps, assign, body, hy, hR⟩ := hY _ (lo, hi) w4 hJ4 (by
         have := (tells_part zs (k + 1)).length_le
         rw [T2.out, List.length_append, List.length_singleton] at this
         omega)
       dsimp only [encR] at hy
       rw [cm]
       gi_wp2
       refine hR.mono ?_
       rintro e W3 (⟨rfl, hJ3, hk3⟩ | ⟨rfl, hJx3⟩)
       · have X3 : Hid (Below n₀ W W3) := X4.out.trans hk3
         rw [← T2.out] at hJ3
         gi_wp2
         go_roundw
         case rel => exact ⟨k + 1, by omega, by go_num, hJ3, X3.out⟩
         case measure => simp [intOf]; omega
       · rw [← T2.out] at hJx3
         gi_wp2
         refine bodyPost_ret (results_none rfl _ _ _) rfl ?_
         exact ⟨⟨_, rfl⟩, .inr ⟨_, tells_part zs _, hJx3⟩⟩
     · have cm' : mayR (lo, hi) = false := by simpa using cm
       rw [if_neg cm, List.append_nil] at T1
       rw [← T1.out] at hJ4
       rw [cm']
       gi_wp2
       refine ⟨fun _ h => (by cases h), ?_⟩
       gi_wp2
       go_roundw
       case rel => exact ⟨k + 1, by omega, by go_num, hJ4, X4.out⟩
       case measure => simp [intOf]; omega
   · obtain rfl : k = len := by omega
     gi_wp2
     go_end0
     exact ⟨⟨_, rfl⟩, .inl ⟨_, by rw [List.take_of_length_le (by rw [HL.out]; exact Nat.le_refl _)], hJs⟩⟩
theorem telling_stops (n : Nat) (hn : 1 ≤ n) (Bs n₀ : Nat) (A : Option Addr) (len c : Nat) (zs : List Run) (hl : zs.length = len) (h63 : len ≤ 9223372036854775807) (w : World) (hB : Bs < w.heap.size) (hn₀ : n₀ ≤ w.heap.size)
   (hc : w.cell? ⟨Bs, 0, none⟩ = some (.slice A len c)) (hr : Runs w n₀ A zs) :
   SeqStopsK Fence.wide n Tryz.prog 156 #[.pointer (some ⟨Bs, 0, none⟩)] encR (Below n₀) (fun ys => ys = tells zs) (fun pre => pre <+: tells zs) (tells zs).length w := fun l J Jx W hW hJ hJx hY h0 =>
 telling1_in n hn l Bs n₀ A len c zs hl h63 J Jx W hJ (Nat.le_trans hn₀ hW.size) hY ((hW.cell (p := ⟨Bs, 0, none⟩) hB).trans hc) (hr.below (hW.mono hn₀)) h0
end Go.Proofs.YtgaegfddobpomaaGreat.Ru
