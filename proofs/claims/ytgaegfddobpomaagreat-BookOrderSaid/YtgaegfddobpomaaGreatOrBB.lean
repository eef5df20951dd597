/- Words and contracts that the proofs of this seat stand on, part 28 of 39. -/
import Derived.Test.YtgaegfddobpomaaGreatOrI
import Derived.Test.YtgaegfddobpomaaGreatOrW
import Derived.Test.YtgaegfddobpomaaGreatOrBA
import Derived.Test.YtgaegfddobpomaaGreatOrD
import Derived.Shelf.SlSortCmp.WholeK

namespace Go.Proofs.YtgaegfddobpomaaGreat.Ev
open Go.ChangeShapes Go.WideShapes Go.ChangeAt Go.RowKit
set_option linter.unusedVariables false
set_option maxRecDepth 4000
def EV.dot (p : EV) : Dt.Dot := (p.dev, p.num)
def cmpE (p q : EV) : Int := Dt.cmpD p.dot q.dot
def oneE (p q : EV) : Bool := decide (p.dot = q.dot)
theorem boxes_grow (w : World) (p q : EV) : (w.alloc p.box).alloc q.box = Sort.grow w (#[p.box] ++ #[q.box]) := by rw [Sort.alloc_eq_grow, Sort.alloc_eq_grow, Sort.grow_grow]
set_option maxHeartbeats 2000000 in
theorem bydot_any (w : World) (p q : EV) : Calls Tryz.prog 107 #[p.val, q.val] w fun e w' => e = .returned (.int .i64 (cmpE p q)) ∧ ∃ n os, w' = Sort.grow (w.drewN n) os := by
 have CC := Dt.closure_any p.dot q.dot ((w.alloc p.box).alloc q.box)
 have HG := Lib.hid (boxes_grow w p q)
 have hb1 := box_first w p (EV.box q)
 have hb2 := box_last w (EV.box p) q
 show Calls Tryz.prog 107 #[p.val, q.val] w fun e w' => e = .returned (.int .i64 (Dt.cmpD p.dot q.dot)) ∧ ∃ n os, w' = Sort.grow (w.drewN n) os
 generalize Dt.cmpD p.dot q.dot = cv at CC ⊢
 simp only [EV.dot] at CC
 obtain ⟨p1, p2, p3, p4, p5, p6, pA, pn, pc⟩ := p
 obtain ⟨q1, q2, q3, q4, q5, q6, qA, qn, qc⟩ := q
 obtain ⟨a0, a1, a2, a3, a4, a5, a6⟩ := hb1
 obtain ⟨b0, b1, b2, b3, b4, b5, b6⟩ := hb2
 simp only [EV.val]
 simp only [EV.box, Nat.zero_add] at HG CC a0 a1 a2 a3 a4 a5 a6 b0 b1 b2 b3 b4 b5 b6
 go_enter Tryz.func107, Tryz.ntmps107
 go_wp2_with fail
 refine CC.mono ?_
 rintro e w' ⟨rfl, n, os, hw'⟩
 have HW := Lib.hid hw'
 clear hw' CC
 go_wp2
 go_ret
 exact ⟨rfl, n, _, by
   rw [HW.out, HG.out]
   show Sort.grow (Sort.grow (w.drewN n) _) os = _
   rw [Sort.grow_grow]⟩
set_option maxHeartbeats 2000000 in
theorem onedot_any (w : World) (p q : EV) : Calls Tryz.prog 109 #[p.val, q.val] w fun e w' => e = .returned (.bool (oneE p q)) ∧ ∃ n os, w' = Sort.grow (w.drewN n) os := by
 have HG := Lib.hid (boxes_grow w p q)
 have hb1 := box_first w p (EV.box q)
 have hb2 := box_last w (EV.box p) q
 obtain ⟨p1, p2, p3, p4, p5, p6, pA, pn, pc⟩ := p
 obtain ⟨q1, q2, q3, q4, q5, q6, qA, qn, qc⟩ := q
 have hd : oneE ⟨p1, p2, p3, p4, p5, p6, pA, pn, pc⟩ ⟨q1, q2, q3, q4, q5, q6, qA, qn, qc⟩ = (decide (p1 = q1) && decide (p2 = q2)) := by
   unfold oneE EV.dot
   rw [Bool.eq_iff_iff]
   simp
 rw [hd]
 clear hd
 obtain ⟨a0, a1, a2, a3, a4, a5, a6⟩ := hb1
 obtain ⟨b0, b1, b2, b3, b4, b5, b6⟩ := hb2
 simp only [EV.val]
 simp only [EV.box, Nat.zero_add] at HG a0 a1 a2 a3 a4 a5 a6 b0 b1 b2 b3 b4 b5 b6
 by_cases e1 : p1 = q1
 · subst e1
   by_cases e2 : p2 = q2
   · subst e2
     rw [decide_eq_true rfl, decide_eq_true rfl]
     go_enter Tryz.func109, Tryz.ntmps109
     go_wp2
     go_ret
     exact ⟨rfl, 0, _, HG.out⟩
   · have hb := beq_nat e2
     rw [decide_eq_true rfl, decide_eq_false e2]
     clear e2
     go_enter Tryz.func109, Tryz.ntmps109
     go_wp2
     go_ret
     exact ⟨rfl, 0, _, HG.out⟩
 · have hb := beq_nat e1
   rw [decide_eq_false e1, Bool.false_and]
   clear e1
   go_enter Tryz.func109, Tryz.ntmps109
   go_wp2
   go_ret
   exact ⟨rfl, 0, _, HG.out⟩
theorem lt_dot (p q : EV) : ltOf cmpE p q = Dt.aheadD p.dot q.dot := Dt.ltD p.dot q.dot
section
variable {α : Type} (key : α → Dt.Dot)
theorem mem_firsts {ef : α → α → Bool} {A : Nat → α} (m : Nat) (a : α) : a ∈ St.firsts ef A m ↔ ∃ i, i < m ∧ A i = a ∧ (i = 0 ∨ ef (A i) (A (i - 1)) = false) := by
 induction m with
 | zero => simp [St.firsts]
 | succ m ih =>
   by_cases h : m ≠ 0 ∧ ef (A m) (A (m - 1)) = true
   · rw [St.firsts_skip (by omega) h.2, ih]
     constructor
     · rintro ⟨i, h1, h2, h3⟩
       exact ⟨i, by omega, h2, h3⟩
     · rintro ⟨i, h1, h2, h3⟩
       rcases Nat.lt_or_ge i m with hi | hi
       · exact ⟨i, hi, h2, h3⟩
       · obtain rfl : i = m := by omega
         rcases h3 with h3 | h3
         · exact absurd h3 h.1
         · rw [h.2] at h3; cases h3
   · have h' : m = 0 ∨ ef (A m) (A (m - 1)) = false := by
       by_cases h0 : m = 0
       · exact .inl h0
       · right
         cases he : ef (A m) (A (m - 1)) with
         | false => rfl
         | true => exact absurd ⟨h0, he⟩ h
     rw [St.firsts_keep h', List.mem_append, ih]
     constructor
     · rintro (⟨i, h1, h2, h3⟩ | h1)
       · exact ⟨i, by omega, h2, h3⟩
       · rw [List.mem_singleton] at h1
         exact ⟨m, by omega, h1.symm, h'⟩
     · rintro ⟨i, h1, h2, h3⟩
       rcases Nat.lt_or_ge i m with hi | hi
       · exact .inl ⟨i, hi, h2, h3⟩
       · obtain rfl : i = m := by omega
         exact .inr (by rw [List.mem_singleton]; exact h2.symm)
def ltK (x y : α) : Bool := Dt.aheadD (key x) (key y)
def eqK (x y : α) : Bool := decide (key x = key y)
theorem swoK : Sort.SWO (ltK key) where
 irrefl x := by have := Dt.swoD.irrefl (key x); rw [Dt.ltD] at this; exact this
 trans x y z h1 h2 := by have := Dt.swoD.trans (key x) (key y) (key z) (by rw [Dt.ltD]; exact h1) (by rw [Dt.ltD]; exact h2); rw [Dt.ltD] at this; exact this
 ntrans x y z h1 h2 := by have := Dt.swoD.ntrans (key x) (key y) (key z) (by rw [Dt.ltD]; exact h1) (by rw [Dt.ltD]; exact h2); rw [Dt.ltD] at this; exact this
theorem ltK_of {x y : α} (h : ltK key y x = false) (hn : key y ≠ key x) : ltK key x y = true := by
 refine ahead_total (a := key y) (b := key x) ?_ (fun e => hn e.symm)
 rw [show Dt.aheadD (key y) (key x) = ltK key y x from rfl, h]
 simp
variable {key} {A : Nat → α} {n : Nat}
theorem firsts_ord (h : St.Srt (ltK key) A 0 n) : ∀ m, m ≤ n → (St.firsts (eqK key) A m).Pairwise (fun a b => ltK key a b = true)
 | 0, _ => List.Pairwise.nil
 | m + 1, hm => by
   have ih := firsts_ord h m (by omega)
   by_cases hc : m ≠ 0 ∧ eqK key (A m) (A (m - 1)) = true
   · rw [St.firsts_skip (by omega) hc.2]
     exact ih
   · have h' : m = 0 ∨ eqK key (A m) (A (m - 1)) = false := by
       by_cases h0 : m = 0
       · exact .inl h0
       · right
         cases he : eqK key (A m) (A (m - 1)) with
         | false => rfl
         | true => exact absurd ⟨h0, he⟩ hc
     rw [St.firsts_keep h', List.pairwise_append]
     refine ⟨ih, List.pairwise_singleton _ _, fun a ha b hb => ?_⟩
     rw [List.mem_singleton] at hb
     subst hb
     obtain ⟨i, hi, rfl, _⟩ := (mem_firsts m a).1 ha
     rcases h' with h' | h'
     · omega
     · have h1 : ltK key (A (m - 1)) (A m) = true := ltK_of key (h (m - 1) m (Nat.zero_le _) (by omega) (by omega)) (of_decide_eq_false h')
       exact St.le_lt (swoK key) (h.le (swoK key) (Nat.zero_le _) (show i ≤ m - 1 by omega) (by omega)) h1
theorem firsts_find (h : St.Srt (ltK key) A 0 n) (a : α) : a ∈ St.firsts (eqK key) A n ↔ (St.seg A 0 n).find? (fun y => decide (key y = key a)) = some a := by
 have hl : (St.seg A 0 n).length = n := by simp [St.seg]
 have hg : ∀ i (hi : i < (St.seg A 0 n).length), (St.seg A 0 n)[i] = A i := fun i hi => by simp [St.seg]
 rw [mem_firsts, List.find?_eq_some_iff_getElem]
 constructor
 · rintro ⟨i, h1, rfl, h3⟩
   refine ⟨by simp, i, by omega, hg i (by omega), fun j hj => ?_⟩
   rw [hg j (by omega)]
   rcases h3 with h3 | h3
   · omega
   · have q1 : ltK key (A (i - 1)) (A i) = true := ltK_of key (h (i - 1) i (Nat.zero_le _) (by omega) h1) (of_decide_eq_false h3)
     have q2 := St.le_lt (swoK key) (h.le (swoK key) (Nat.zero_le _) (show j ≤ i - 1 by omega) (by omega)) q1
     have q3 : key (A j) ≠ key (A i) := ahead_ne q2
     simp [q3]
 · rintro ⟨_, i, hi, h2, h3⟩
   rw [hg i hi] at h2
   refine ⟨i, by omega, h2, ?_⟩
   by_cases h0 : i = 0
   · exact .inl h0
   · right
     have := h3 (i - 1) (by omega)
     rw [hg (i - 1) (by omega)] at this
     refine decide_eq_false (fun e => ?_)
     rw [← h2] at this
     simp [e] at this
end
structure PE where
 fst : EV
 snd : Evt
 same : fst.dot = snd.dot
instance : Inhabited PE := ⟨⟨⟨0, 0, 0, 0, 0, ⟨#[]⟩, none, 0, 0⟩, ⟨(0, 0), 0, 0, 0, ⟨#[]⟩, []⟩, rfl⟩⟩
def keyE (a : PE) : Dt.Dot := a.2.dot
theorem find_first {Z : List PE} {a : PE} : Z.find? (fun y => decide (keyE y = keyE a)) = some a → FirstE (Z.map PE.snd) a.2 := by
 rw [List.find?_eq_some_iff_getElem]
 rintro ⟨_, i, hi, h2, h3⟩
 refine ⟨i, by simp [hi, h2], fun j y hj hy => ?_⟩
 have hjl : j < Z.length := by omega
 simp [hjl] at hy
 have := h3 j hj
 simp only [Bool.not_eq_true', decide_eq_false_iff_not] at this
 rw [← hy]
 exact this
theorem first_find {Z : List PE} {x : Evt} (h : FirstE (Z.map PE.snd) x) : ∃ a, a.2 = x ∧ Z.find? (fun y => decide (keyE y = keyE a)) = some a := by
 obtain ⟨j, hj, hall⟩ := h
 have hjl : j < Z.length := by have := (List.getElem?_eq_some_iff.1 hj).1; simpa using this
 have hx : (Z[j]).2 = x := by simpa [hjl] using hj
 refine ⟨Z[j], hx, ?_⟩
 rw [List.find?_eq_some_iff_getElem]
 refine ⟨by simp, j, hjl, rfl, fun i hi => ?_⟩
 have hil : i < Z.length := by omega
 have := hall i (Z[i]).2 hi (by simp [hil])
 simp only [Bool.not_eq_true', decide_eq_false_iff_not]
 unfold keyE
 rw [hx]
 exact this
theorem firsts_sort {Z : List PE} {A : Nat → PE} (hs : St.Srt (ltK keyE) A 0 Z.length) (hk : St.Keeps (ltK keyE) Z (St.seg A 0 Z.length)) : (St.firsts (eqK keyE) A Z.length).map PE.snd = sortE (Z.map PE.snd) := by
 have hf : ∀ a : PE, (St.seg A 0 Z.length).find? (fun y => decide (keyE y = keyE a)) = Z.find? (fun y => decide (keyE y = keyE a)) := fun a => by
   rw [← List.head?_filter, ← List.head?_filter, hk (fun y => decide (keyE y = keyE a)) (fun x y hx hy => by
     have e : keyE x = keyE y := (of_decide_eq_true hx).trans (of_decide_eq_true hy).symm
     unfold ltK
     rw [e]
     exact Dt.ahead_irr _)]
 refine sort_uniq ?_ (fun x => ?_)
 · unfold OrdE
   rw [List.pairwise_map]
   exact firsts_ord hs _ (Nat.le_refl _)
 · rw [List.mem_map]
   constructor
   · rintro ⟨a, ha, rfl⟩
     exact find_first ((hf a) ▸ (firsts_find hs a).1 ha)
   · intro h
     obtain ⟨a, rfl, hb⟩ := first_find h
     exact ⟨a, (firsts_find hs a).2 ((hf a).trans hb), rfl⟩
end Go.Proofs.YtgaegfddobpomaaGreat.Ev

namespace Go.Proofs
open Go.Shelf
def Tryz.insE_ren : Go.Shelf.Ren := ⟨fun | 20 => 169 | n => n, fun | 22 => 29 | 24 => 38 | 25 => 131 | 3 => 3 | 0 => 0 | 4 => 4 | n => n, fun | n => n⟩
theorem Tryz.insE : Go.Proofs.SlLaysF0.n20 Tryz.prog Tryz.insE_ren := {
 mixed := by kernel_rfl
 f20 := ⟨Tryz.f169.name, by decide, Tryz.func169.trans (congrArg some (by kernel_rfl))⟩
 t0 := Tryz.underlying0
 a0 := Tryz.isAgg0
 z0 := Tryz.sizeOf0
 v0 := Tryz.zeroValue0
 t3 := Tryz.underlying3
 a3 := Tryz.isAgg3
 z3 := Tryz.sizeOf3
 v3 := Tryz.zeroValue3
 t4 := Tryz.underlying4
 a4 := Tryz.isAgg4
 z4 := Tryz.sizeOf4
 v4 := Tryz.zeroValue4
 t22 := Tryz.underlying29
 a22 := Tryz.isAgg29
 z22 := Tryz.sizeOf29
 v22 := Tryz.zeroValue29
 t25 := Tryz.underlying131
 a25 := Tryz.isAgg131
 z25 := Tryz.sizeOf131
 v25 := Tryz.zeroValue131 }
end Go.Proofs
namespace Go.Proofs.YtgaegfddobpomaaGreat.St
open Go.ChangeShapes Go.WideShapes Go.ChangeAt Go.RowKit Go.Shelf Go.Lib Go.Sort
set_option linter.unusedVariables false
theorem laysE : Lays Tryz.prog 7 := {
 mixed := by kernel_rfl
 fSwap := Tryz.func213
 fRot := Tryz.func195
 fMerge := Tryz.func170
 fStab := Tryz.func144
 fSort := Tryz.func106
 t0 := Tryz.underlying0
 a0 := Tryz.isAgg0
 z0 := Tryz.sizeOf0
 v0 := Tryz.zeroValue0
 t3 := Tryz.underlying3
 a3 := Tryz.isAgg3
 z3 := Tryz.sizeOf3
 v3 := Tryz.zeroValue3
 t4 := Tryz.underlying4
 a4 := Tryz.isAgg4
 z4 := Tryz.sizeOf4
 v4 := Tryz.zeroValue4
 t62 := Tryz.underlying166
 a62 := Tryz.isAgg166
 z62 := Tryz.sizeOf166
 v62 := Tryz.zeroValue166
 t30 := Tryz.underlying29
 a30 := Tryz.isAgg29
 z30 := Tryz.sizeOf29
 v30 := Tryz.zeroValue29
 t51 := Tryz.underlying131
 a51 := Tryz.isAgg131
 z51 := Tryz.sizeOf131
 v51 := Tryz.zeroValue131
 aE := Tryz.isAgg38
 zE := Tryz.sizeOf38 }
theorem laysC : LaysC Tryz.prog 7 := {
 mixed := by kernel_rfl
 fComp := Tryz.func108
 t0 := Tryz.underlying0
 a0 := Tryz.isAgg0
 z0 := Tryz.sizeOf0
 v0 := Tryz.zeroValue0
 t3 := Tryz.underlying3
 a3 := Tryz.isAgg3
 z3 := Tryz.sizeOf3
 v3 := Tryz.zeroValue3
 t4 := Tryz.underlying4
 a4 := Tryz.isAgg4
 z4 := Tryz.sizeOf4
 v4 := Tryz.zeroValue4
 t30 := Tryz.underlying29
 a30 := Tryz.isAgg29
 z30 := Tryz.sizeOf29
 v30 := Tryz.zeroValue29
 t33 := Tryz.underlying49
 a33 := Tryz.isAgg49
 z33 := Tryz.sizeOf49
 v33 := Tryz.zeroValue49
 aE := Tryz.isAgg38
 zE := Tryz.sizeOf38 }
theorem ins_any {α : Type} [Inhabited α] {enc : α → List Value} {w0 : World} {blk off : Nat} {d0 : Array α} (R : RowK enc 7 w0 blk off d0) (h62 : d0.size < 4611686018427387904) {cf : α → α → Int} (hS : SWO (ltOf cf)) (g : Nat) (cb : Array Value) (eg : ∀ args w, (callFunc g args).run Tryz.prog w = .ok (.enter g args) w) (hC : CmpLays Tryz.prog g cb enc 7 cf blk off d0.size w0) (cap : Nat)
   (a b : Nat) (dk : Array α) (W : World) (hs : dk.size = d0.size) (hab : a ≤ b) (hb : b ≤ d0.size) (hw : SWK enc 7 w0 blk off dk W) :
   Calls Tryz.prog 169 #[.slice (some ⟨blk, off, none⟩) d0.size cap, .int .i64 a, .int .i64 b, .func (.func g) #[] cb] W (MergedTo cf enc 7 w0 blk off dk a b) := by
 have h := AnyQ.insertionSortCmpFunc_w Tryz.insE 7 Tryz.isAgg38 Tryz.sizeOf38 enc cf g cb blk off cap a b d0 dk w0 W eg hC R hs.symm hw hS hab (by omega) (by omega)
 rw [hs] at h
 refine h.mono ?_
 rintro e w' ⟨rfl, h1⟩
 obtain ⟨h2, h3⟩ := ins_merged hS dk hab (by omega)
 exact ⟨rfl, _, h3, h1, h2⟩
end Go.Proofs.YtgaegfddobpomaaGreat.St
namespace Go.Proofs.YtgaegfddobpomaaGreat.Ev
open Go.ChangeShapes Go.WideShapes Go.ChangeAt Go.RowKit
set_option linter.unusedVariables false
set_option maxRecDepth 4000
theorem pcloneE (w : World) (A : Option Addr) (l : List EV) (n c : Nat) (hl : l.length = n) (hA : A = none → n = 0 ∧ c = 0) (hb : Dt.Lies w w.heap.size A (ev l)) (h41 : n ≤ 1649267441664) :
   Calls Tryz.prog 105 #[.slice A n c] w fun e w' => ∃ A' c', e = .returned (.slice A' n c') ∧ w'.ownsRow w.heap.size 38 7 (.slice A' n c') n (ev l) ∧ Below w.heap.size w w' := by
 have HL := Lib.hid hl
 have HB := Lib.hid hb
 cases A with
 | none =>
   obtain ⟨rfl, rfl⟩ := hA rfl
   obtain rfl := List.eq_nil_of_length_eq_zero hl
   have q : ∀ W : World, (binOp .eql 29 (.slice none 0 0) (.slice none 0 0)).run Tryz.prog W = .ok (.bool true) W := fun W => Lib.run_eql_slice_nil W 29 38 none 0 0 0 0 Tryz.underlying29
   clear hA hl hb
   go_enter Tryz.func105, Tryz.ntmps105
   go_wp2
   go_ret
   exact ⟨none, 0, rfl, World.ownsRow_nil _ _ _ _, Below.refl _ _⟩
 | some ad =>
   have q : ∀ W : World, (binOp .eql 29 (.slice (some ad) n c) (.slice none 0 0)).run Tryz.prog W = .ok (.bool false) W := fun W => Lib.run_eql_slice_nil W 29 38 (some ad) n c 0 0 Tryz.underlying29
   have HW := Lib.hid (below_new w (.cells #[] 38))
   have hO : (w.alloc (.cells #[] 38)).ownsRow w.heap.size 38 7 (.slice (some ⟨w.heap.size, 0, none⟩) 0 0) 0 (ev []) := World.ownsRow_lit w #[] 0 (Nat.le_refl _) (Nat.zero_le _) rfl
   have HO := Lib.hid hO
   have HB2 : Hid (Dt.Lies (w.alloc (.cells #[] 38)) (w.alloc (.cells #[] 38)).heap.size (some ad) (ev l)) := Lib.hid ((hb.below HW.out).more HW.out.size)
   clear hA hl hb hO
   go_enter Tryz.func105, Tryz.ntmps105
   go_wp2_with (at_builtin; refine wpList_evt rfl (.tmp 5) (.tmp 6) rfl rfl _ w.heap.size 0 (.slice (some ⟨w.heap.size, 0, none⟩) 0 0) [] (some ad) l n c rfl rfl HO.out (fun h => by cases h) HB2.out HL.out (by omega) HW.out.size ?_; intro A3 c3 V3 ho3 hg3; have HO3 := Lib.hid ho3; have HW3 := Lib.hid (HW.out.grown hg3 HW.out.size (fun k hk => (HO.out.lt k hk).1)); clear ho3 hg3)
   go_ret
   have h0 : 0 + n = n := Nat.zero_add n
   have ho := HO3.out
   rw [h0] at ho
   exact ⟨A3, c3, by rw [← h0]; rfl, ho, HW3.out⟩
end Go.Proofs.YtgaegfddobpomaaGreat.Ev

namespace Go.Proofs.YtgaegfddobpomaaGreat.Ev
open Go.ChangeShapes Go.WideShapes Go.ChangeAt Go.RowKit
set_option linter.unusedVariables false
set_option maxRecDepth 4000
abbrev zeroE : EV := ⟨0, 0, 0, 0, 0, ⟨#[]⟩, none, 0, 0⟩
theorem own_free {w : World} {B n c : Nat} {A : Option Addr} {xs : List Value} (h : w.ownsRow B 35 2 (.slice A n c) n xs) : Free w B A n := fun j hj => by
 rcases h.2 with ⟨h', _⟩ | ⟨g, cap, cur, h', hb, _⟩
 · cases h'; omega
 · cases h'
   refine ⟨_, rfl, hb, ?_, ?_⟩
   · rw [Dt.zero_add]; exact h.frozenAt _
   · rw [Dt.zero_add]; exact h.frozenAt _
theorem zero_box : zeroE.box = .cells #[.int .u16 0, .int .u64 0, .int .u8 0, .int .u64 0, .int .u8 0, .string ⟨#[]⟩, .slice none 0 0] 38 := rfl
theorem free_new (w : World) (cs : Array Value) (T : TypeId) (V : World) (hb : Below (w.heap.size + 1) (w.alloc (.cells cs T)) V) (k : Nat) : V.frozen? ⟨w.heap.size, k, none⟩ = false := (hb.frozen (p := ⟨w.heap.size, k, none⟩) (Nat.lt_succ_self _)).trans (World.frozen?_alloc_new _ _ _ _)
theorem own_dotsAt {w : World} {B n c : Nat} {A : Option Addr} {l : List Dt.Dot} (h : w.ownsRow B 35 2 (.slice A n c) n (Dt.dv l)) (hl : l.length = n) (hf : Dt.Fit l) (hw : n ≤ 8796093022208) : DotsAt w w.heap.size A l n c := by
 obtain ⟨h1, h2, h3⟩ := Dt.own_len h
 exact ⟨hl, h3, h1, h2, hw, Dt.dots_own h hf⟩
set_option maxHeartbeats 4000000 in
theorem pcopy_any (w : World) (p : EV) (x : Evt) (h : EventIs w w.heap.size p x) : Calls Tryz.prog 94 #[p.val] w (OwnPost w x) := by
 have HE := Lib.hid h
 have HB := Lib.hid (below_new2 w p.box zeroE.box)
 have CC := Dt.pclone_any ((w.alloc p.box).alloc zeroE.box) p.adr x.kills p.len p.cap h.kills.len h.kills.nil ((h.up HB.out).kills.dots) h.kills.wide
 have hb1 := box_new w p
 have hb2 := box_new (w.alloc p.box) zeroE
 have hf1 : ∀ V, Below (w.heap.size + 1) (w.alloc p.box) V → ∀ k, V.frozen? ⟨w.heap.size, k, none⟩ = false := fun V hV k => free_new w _ _ V hV k
 have hf2 : ∀ V, Below ((w.alloc p.box).heap.size + 1) ((w.alloc p.box).alloc zeroE.box) V → ∀ k, V.frozen? ⟨(w.alloc p.box).heap.size, k, none⟩ = false := fun V hV k => free_new (w.alloc p.box) _ _ V hV k
 rw [alloc_size] at hb2 hf2
 have hs2 : ((w.alloc p.box).alloc zeroE.box).heap.size = w.heap.size + 1 + 1 := by rw [alloc_size, alloc_size]
 have hl := h.kills.len
 have hh : Below (w.heap.size + 1) (w.alloc p.box) ((w.alloc p.box).alloc zeroE.box) := by have h := below_new (w.alloc p.box) zeroE.box; rw [alloc_size] at h; exact h
 rw [zero_box] at HB CC hb2 hs2 hh hf2
 obtain ⟨p1, p2, p3, p4, p5, p6, pA, pn, pc⟩ := p
 simp only [EV.val]
 simp only [EV.box] at HB CC hb1 hb2 hs2 hh hf1 hf2
 have HB1 := Lib.hid hb1
 have HB2 := Lib.hid hb2
 have HF1 := Lib.hid hf1
 have HF2 := Lib.hid hf2
 have HS2 := Lib.hid hs2
 have HL := Lib.hid hl
 have HH := Lib.hid hh
 obtain ⟨a0, a1, a2, a3, a4, a5, a6⟩ := (hb1 _ hh).all
 clear h hb1 hb2 hf1 hf2 hs2 hl hh
 go_enter Tryz.func94, Tryz.ntmps94
 go_wp2_with fail
 refine CC.mono ?_
 rintro e w2 ⟨A, n, c, rfl, hn, ho, hb⟩
 rw [HL.out] at hn
 subst hn
 have hb1' := HH.out.trans (hb.mono (by rw [HS2.out]; omega))
 obtain ⟨c0, c1, c2, c3, c4, c5, c6⟩ := (HB1.out w2 hb1').all
 have f6 := HF1.out w2 hb1' 6
 have hbz : Below (w.heap.size + 1 + 1) ((w.alloc (.cells #[.int .u16 (p1 : Int), .int .u64 (p2 : Int), .int .u8 (p3 : Int), .int .u64 (p4 : Int), .int .u8 (p5 : Int), .string p6, .slice pA pn pc] 38)).alloc (.cells #[.int .u16 0, .int .u64 0, .int .u8 0, .int .u64 0, .int .u8 0, .string ⟨#[]⟩, .slice none 0 0] 38)) w2 := by have h := hb; rw [HS2.out] at h; exact h
 obtain ⟨d0, d1, d2, d3, d4, d5, d6⟩ := (HB2.out w2 hbz).all
 have g0 := HF2.out w2 hbz 0
 have g1 := HF2.out w2 hbz 1
 have g2 := HF2.out w2 hbz 2
 have g3 := HF2.out w2 hbz 3
 have g4 := HF2.out w2 hbz 4
 have g5 := HF2.out w2 hbz 5
 have g6 := HF2.out w2 hbz 6
 have HO := Lib.hid ho
 have HBW := Lib.hid (HB.out.trans (hb.mono HB.out.size))
 clear ho hb hb1' hbz CC HB1 HB2 HF1 HF2 HH a0 a1 a2 a3 a4 a5 a6
 go_wp2
 refine bodyPost_ret (v := .agg #[.int .u16 (p1 : Int), .int .u64 (p2 : Int), .int .u8 (p3 : Int), .int .u64 (p4 : Int), .int .u8 (p5 : Int), .string p6, .slice A pn c]) ?_ rfl ?_
 · simp [results, Tryz.f94, go_sem, d0, d1, d2, d3, d4, d5, d6]
 · have hd := own_dotsAt HO.out HL.out HE.out.kills.dots.1 HE.out.kills.wide
   have hfr := own_free HO.out
   rw [HS2.out] at hfr
   have ap1 := Apart.setCell (Apart.refl w.heap.size w2) (a := ⟨w.heap.size, 6, none⟩) rfl (.slice A pn c)
   have ap2 := ((((((Apart.refl (w.heap.size + 1) (w2.setCell ⟨w.heap.size, 6, none⟩ (.slice A pn c))).setCell (a := ⟨w.heap.size + 1, 0, none⟩) rfl (.int .u16 (p1 : Int))).setCell (a := ⟨w.heap.size + 1, 1, none⟩) rfl (.int .u64 (p2 : Int))).setCell (a := ⟨w.heap.size + 1, 2, none⟩) rfl (.int .u8 (p3 : Int))).setCell (a := ⟨w.heap.size + 1, 3, none⟩) rfl (.int .u64 (p4 : Int))).setCell (a := ⟨w.heap.size + 1, 4, none⟩) rfl (.int .u8 (p5 : Int))).setCell (a := ⟨w.heap.size + 1, 5, none⟩) rfl (.string p6)
   have ap3 := ap2.setCell (a := ⟨w.heap.size + 1, 6, none⟩) rfl (.slice A pn c)
   have o1 : Off w.heap.size A pn := off_above hfr (by omega)
   have o2 : Off (w.heap.size + 1) A pn := off_above hfr (by omega)
   refine ⟨⟨p1, p2, p3, p4, p5, p6, A, pn, c⟩, rfl, ⟨HE.out.dev, HE.out.num, HE.out.kind, HE.out.cid, HE.out.fld, HE.out.txt, HE.out.fits, ((hd.apart ap1 o1).apart ap3 o2).more (by rw [ap3.size, ap1.size]; exact Nat.le_refl _)⟩, ((hfr.apart ap1 o1).apart ap3 o2).less (by omega), ?_⟩
   exact (((((((HBW.out.setCell (by simp) _).setCell (by simp) _).setCell (by simp) _).setCell (by simp) _).setCell (by simp) _).setCell (by simp) _).setCell (by simp) _).setCell (by simp) _
structure RowE (w : World) (g : Nat) (ps : List EV) : Prop where
 lt : g < w.heap.size
 cell : ∀ k p, ps[k]? = some p → CellsAt w ⟨g, k * 7, none⟩ p
 free : ∀ k p, ps[k]? = some p → ∀ j, j < 7 → w.frozen? ⟨g, k * 7 + j, none⟩ = false
theorem RowE.below {w W : World} {g : Nat} {ps : List EV} (h : RowE w g ps) (hb : Below w.heap.size w W) : RowE W g ps :=
 ⟨Nat.lt_of_lt_of_le h.lt hb.size, fun k p hp => (h.cell k p hp).kept hb, fun k p hp j hj => (hb.frozen (p := ⟨g, k * 7 + j, none⟩) h.lt).trans (h.free k p hp j hj)⟩
def putAt (w : World) (g o : Nat) (q : EV) : World := w.setCells g o q.cells
theorem putAt_eq (w : World) (g o : Nat) (q : EV) : putAt w g o q = ((((((w.setCell ⟨g, o, none⟩ (.int .u16 (q.dev : Int))).setCell ⟨g, o + 1, none⟩ (.int .u64 (q.num : Int))).setCell ⟨g, o + 2, none⟩ (.int .u8 (q.kind : Int))).setCell ⟨g, o + 3, none⟩ (.int .u64 (q.cid : Int))).setCell ⟨g, o + 4, none⟩ (.int .u8 (q.fld : Int))).setCell ⟨g, o + 5, none⟩ (.string q.txt)).setCell ⟨g, o + 6, none⟩ (.slice q.adr q.len q.cap) := rfl
theorem putAt_size (w : World) (g o : Nat) (q : EV) : (putAt w g o q).heap.size = w.heap.size := Sort.size_setCells _ _ _ _
theorem cells_of {w : World} {g o : Nat} {q : EV} (h : ∀ j (hj : j < q.cells.length), w.cell? ⟨g, o + j, none⟩ = some q.cells[j]) : CellsAt w ⟨g, o, none⟩ q :=
 ⟨h 0 (show 0 < 7 by decide), h 1 (show 1 < 7 by decide), h 2 (show 2 < 7 by decide), h 3 (show 3 < 7 by decide), h 4 (show 4 < 7 by decide), h 5 (show 5 < 7 by decide), h 6 (show 6 < 7 by decide)⟩
theorem cells_in {w : World} {g o : Nat} {q : EV} (h : CellsAt w ⟨g, o, none⟩ q) : ∀ j, j < 7 → (w.cell? ⟨g, o + j, none⟩).isSome = true := by
 intro j hj
 have h7 : j = 0 ∨ j = 1 ∨ j = 2 ∨ j = 3 ∨ j = 4 ∨ j = 5 ∨ j = 6 := by omega
 rcases h7 with rfl | rfl | rfl | rfl | rfl | rfl | rfl
 · have := h.c0; rw [show o + 0 = o from rfl, this]; rfl
 · rw [h.c1]; rfl
 · rw [h.c2]; rfl
 · rw [h.c3]; rfl
 · rw [h.c4]; rfl
 · rw [h.c5]; rfl
 · rw [h.c6]; rfl
theorem RowE.put {w : World} {g k : Nat} {ps : List EV} (h : RowE w g ps) (hk : k < ps.length) (q : EV) : RowE (putAt w g (k * 7) q) g (ps.set k q) := by
 have ho := h.cell k _ (List.getElem?_eq_getElem hk)
 refine ⟨by rw [putAt_size]; exact h.lt, fun i p hp => ?_, fun i p hp j hj => ?_⟩
 · rw [List.getElem?_set] at hp
   by_cases hik : k = i
   · subst hik
     rw [if_pos rfl, if_pos hk] at hp
     cases hp
     exact cells_of (fun j hj => World.cell?_setCells_in g q.cells (k * 7) w (fun j hj => cells_in ho j hj) j hj)
   · rw [if_neg hik] at hp
     have hc := h.cell i p hp
     have e : ∀ j, j < 7 → (putAt w g (k * 7) q).cell? ⟨g, i * 7 + j, none⟩ = w.cell? ⟨g, i * 7 + j, none⟩ := fun j hj =>
       World.cell?_setCells_out g q.cells (k * 7) w _ (fun _ _ => by simp only [List.length_cons, List.length_nil]; omega)
     exact ⟨(e 0 (by omega)).trans hc.c0, (e 1 (by omega)).trans hc.c1, (e 2 (by omega)).trans hc.c2, (e 3 (by omega)).trans hc.c3, (e 4 (by omega)).trans hc.c4, (e 5 (by omega)).trans hc.c5, (e 6 (by omega)).trans hc.c6⟩
 · have hi : i < ps.length := by have := (List.getElem?_eq_some_iff.1 hp).1; simpa using this
   exact (World.frozen?_setCells _ _ _ _ _).trans (h.free i _ (List.getElem?_eq_getElem hi) j hj)
theorem apart_put (w : World) (g o : Nat) (q : EV) : Apart g w (putAt w g o q) := by
 rw [putAt_eq]
 exact (((((((Apart.refl g w).setCell rfl _).setCell rfl _).setCell rfl _).setCell rfl _).setCell rfl _).setCell rfl _).setCell rfl _
structure Copied (w : World) (g m : Nat) (l : List Evt) (k : Nat) (ps : List EV) (W : World) : Prop where
 len : ps.length = m
 row : RowE W g ps
 bel : Below w.heap.size w W
 new : ∀ j p x, j < k → ps[j]? = some p → l[j]? = some x → EventIs W W.heap.size p x ∧ Free W w.heap.size p.adr p.len ∧ Off g p.adr p.len
 old : ∀ j p x, k ≤ j → ps[j]? = some p → l[j]? = some x → EventIs w w.heap.size p x
theorem Copied.next {w W w2 : World} {g m k : Nat} {l : List Evt} {ps : List EV} {q : EV} {x : Evt} (h : Copied w g m l k ps W) (hg : w.heap.size ≤ g) (hk : k < m) (hx : l[k]? = some x) (hq : EventIs w2 w2.heap.size q x) (hf : Free w2 W.heap.size q.adr q.len) (hb : Below W.heap.size W w2) :
   Copied w g m l (k + 1) (ps.set k q) (putAt w2 g (k * 7) q) := by
 have hap := apart_put w2 g (k * 7) q
 have hsz : w2.heap.size ≤ (putAt w2 g (k * 7) q).heap.size := by rw [putAt_size]; exact Nat.le_refl _
 have hW := h.bel.trans (hb.mono h.bel.size)
 have keep : ∀ {p : EV} {y : Evt}, EventIs w2 w2.heap.size p y → Off g p.adr p.len → EventIs (putAt w2 g (k * 7) q) (putAt w2 g (k * 7) q).heap.size p y := fun hp ho =>
   ⟨hp.dev, hp.num, hp.kind, hp.cid, hp.fld, hp.txt, hp.fits, (hp.kills.apart hap ho).more hsz⟩
 refine ⟨by rw [List.length_set]; exact h.len, (h.row.below hb).put (by rw [h.len]; exact hk) q, hW.trans (hap.below hg |>.mono (Nat.le_refl _)), fun j p y hj hp hy => ?_, fun j p y hj hp hy => ?_⟩
 · rw [List.getElem?_set] at hp
   by_cases hjk : k = j
   · subst hjk
     rw [if_pos rfl, if_pos (by rw [h.len]; exact hk)] at hp
     cases hp
     rw [hx] at hy
     cases hy
     have ho : Off g q.adr q.len := off_above hf h.row.lt
     exact ⟨keep hq ho, (hf.apart hap ho).less h.bel.size, ho⟩
   · rw [if_neg hjk] at hp
     obtain ⟨h1, h2, h3⟩ := h.new j p y (by omega) hp hy
     exact ⟨keep (h1.up hb) h3, (h2.kept h1.kills hb).apart hap h3, h3⟩
 · rw [List.getElem?_set, if_neg (by omega)] at hp
   exact h.old j p y (by omega) hp hy
theorem Copied.done {w W : World} {g m cap : Nat} {l : List Evt} {ps : List EV} (h : Copied w g m l m ps W) (hg : w.heap.size ≤ g) (hl : l.length = m) (hc : m ≤ cap) (hcap : cap ≤ 9223372036854775807) (hw : m ≤ 2199023255552) : OwnsPost w l (.returned (.slice (some ⟨g, 0, none⟩) m cap)) W := by
 refine ⟨_, m, cap, rfl, ⟨hl, (fun e => by cases e), hc, hcap, hw, ps, fun h0 => ⟨_, rfl, h.row.lt, fun j u hu => ?_⟩, ⟨by rw [h.len, hl], fun k p x hp hx => (h.new k p x (by have := (List.getElem?_eq_some_iff.1 hp).1; rw [h.len] at this; exact this) hp hx).1⟩⟩, fun k hk => ?_, h.bel⟩
 · rw [Dt.zero_add]
   have hj : j < ps.length * 7 := by have := (List.getElem?_eq_some_iff.1 hu).1; rwa [ev_length] at this
   have hk : j / 7 < ps.length := by omega
   have hp := List.getElem?_eq_getElem hk
   have hcs := h.row.cell _ _ hp
   have hv := ev_get hp (j % 7) (by omega)
   rw [show j / 7 * 7 + j % 7 = j by omega, hu] at hv
   have h7 : j % 7 = 0 ∨ j % 7 = 1 ∨ j % 7 = 2 ∨ j % 7 = 3 ∨ j % 7 = 4 ∨ j % 7 = 5 ∨ j % 7 = 6 := by omega
   rcases h7 with e | e | e | e | e | e | e
   · rw [e] at hv; cases hv; have := hcs.c0; rwa [show j / 7 * 7 = j by omega] at this
   · rw [e] at hv; cases hv; have := hcs.c1; rwa [show j / 7 * 7 + 1 = j by omega] at this
   · rw [e] at hv; cases hv; have := hcs.c2; rwa [show j / 7 * 7 + 2 = j by omega] at this
   · rw [e] at hv; cases hv; have := hcs.c3; rwa [show j / 7 * 7 + 3 = j by omega] at this
   · rw [e] at hv; cases hv; have := hcs.c4; rwa [show j / 7 * 7 + 4 = j by omega] at this
   · rw [e] at hv; cases hv; have := hcs.c5; rwa [show j / 7 * 7 + 5 = j by omega] at this
   · rw [e] at hv; cases hv; have := hcs.c6; rwa [show j / 7 * 7 + 6 = j by omega] at this
 · have hkp : k < ps.length := by rw [h.len]; exact hk
   have hkl : k < l.length := by rw [hl]; exact hk
   have hp := List.getElem?_eq_getElem hkp
   obtain ⟨h1, h2, h3⟩ := h.new k _ _ hk hp (List.getElem?_eq_getElem hkl)
   refine ⟨_, ps[k], rfl, hg, ?_, h2, h3⟩
   rw [Dt.zero_add]
   exact (h.row.cell k _ hp).c6
theorem zip_of {w : World} {B : Nat} : ∀ (ps : List EV) (l : List Evt), Match w B ps l → ∃ Z : List PE, Z.map PE.fst = ps ∧ Z.map PE.snd = l
 | [], [], _ => ⟨[], rfl, rfl⟩
 | [], _ :: _, h => by have := h.1; simp at this
 | _ :: _, [], h => by have := h.1; simp at this
 | p :: ps, x :: l, h => by
   obtain ⟨Z, h1, h2⟩ := zip_of ps l ⟨by have := h.1; simpa using this, fun k q y hq hy => h.2 (k + 1) q y (by simpa using hq) (by simpa using hy)⟩
   exact ⟨⟨p, x, (is_dot (h.2 0 p x rfl rfl)).symm⟩ :: Z, by simp [h1], by simp [h2]⟩
def encE (a : PE) : List Value := a.1.cells
theorem flat_ev (Z : List PE) (j : Nat) (hj : j < Z.length * 7) : (ev (Z.map PE.fst))[j]? = some (Sort.flatK encE 7 Z.toArray)[j]! := by
 rw [Sort.get_flatK _ _ _ _ (by simpa using hj)]
 have hk : j / 7 < Z.length := by omega
 have hg : (Z.map PE.fst)[j / 7]? = some (Z[j / 7]).1 := by simp [hk]
 have g := ev_get hg (j % 7) (by omega)
 rw [show j / 7 * 7 + j % 7 = j by omega] at g
 have e : Z.toArray[j / 7]! = Z[j / 7] := by rw [getElem!_pos _ _ (by simpa using hk)]; simp
 rw [g, e]
 have hlt : j % 7 < (encE Z[j / 7]).length := by show j % 7 < 7; omega
 rw [getElem!_pos (encE (Z[j / 7])) (j % 7) hlt]
 exact List.getElem?_eq_getElem hlt
theorem own_holds {w : World} {B g n cap : Nat} {Z : List PE} (hn : Z.length = n) (h : w.ownsRow B 38 7 (.slice (some ⟨g, 0, none⟩) n cap) n (ev (Z.map PE.fst))) (h0 : 0 < n ∨ g < w.heap.size) : Sort.HoldsK encE 7 w g 0 Z.toArray ∧ g < w.heap.size := by
 subst hn
 rcases h.2 with ⟨h', _⟩ | ⟨g', cap', cur, e, hB, hheap, hle, hmx, hsz, htk⟩
 · cases h'
 · cases e
   have hlt : g < w.heap.size := (Array.getElem?_eq_some_iff.1 hheap).1
   refine ⟨fun j hj => ?_, hlt⟩
   have hj' : j < Z.length * 7 := by simpa using hj
   refine ⟨?_, by simp [World.frozen?, hheap]⟩
   have hcell : cur[j]? = (ev (Z.map PE.fst))[j]? := by
     rw [← htk, List.getElem?_take, if_pos hj']
     simp
   rw [Nat.zero_add, show id (Sort.flatK encE 7 Z.toArray)[j]! = (Sort.flatK encE 7 Z.toArray)[j]! from rfl, ← flat_ev Z j hj', ← hcell]
   simp [World.cell?, hheap]
theorem swk_below {α : Type} [Inhabited α] {enc : α → List Value} {k g off B : Nat} {d : Array α} {w W : World} (h : SWK enc k w g off d W) (hg : B ≤ g) (hB : B ≤ w.heap.size) : Below B w W := by
 obtain ⟨n, os, rfl⟩ := h
 refine ⟨rfl, rfl, rfl, ?_, fun j hj => ?_⟩
 · show w.heap.size ≤ ((w.heap.modify g _) ++ os).size
   simp
 · show ((w.heap.modify g _) ++ os)[j]? = _
   rw [Array.getElem?_append_left (by simp; omega), Array.getElem?_modify, if_neg (by omega)]
theorem swk_row {g m : Nat} {d d0 : Array PE} {w W : World} (h : SWK encE 7 w g 0 d W) (h0 : Sort.HoldsK encE 7 w g 0 d0) (hs : d.size = d0.size) (hg : g < w.heap.size) (hm : m ≤ d.size) : RowE W g ((St.seg (St.row d) 0 m).map PE.fst) := by
 have hH := h.holds hg h0 hs
 have hget : ∀ k p, ((St.seg (St.row d) 0 m).map PE.fst)[k]? = some p → k < d.size ∧ d[k]!.1 = p := fun k p hp => by
   have hk := (List.getElem?_eq_some_iff.1 hp).1
   simp [St.seg] at hk
   simp [St.seg, hk] at hp
   exact ⟨by omega, hp⟩
 refine ⟨h.lt hg, fun k p hp => ?_, fun k p hp j hj => ?_⟩
 · obtain ⟨hk, rfl⟩ := hget k p hp
   refine cells_of (fun j hj => ?_)
   have := (hH.cell hk (c := j) hj).1
   rw [Nat.zero_add] at this
   rw [this, getElem!_pos (encE d[k]!) j (show j < (encE d[k]!).length from hj)]
   rfl
 · obtain ⟨hk, rfl⟩ := hget k p hp
   have := (hH.cell hk (c := j) hj).2
   rwa [Nat.zero_add] at this
end Go.Proofs.YtgaegfddobpomaaGreat.Ev
