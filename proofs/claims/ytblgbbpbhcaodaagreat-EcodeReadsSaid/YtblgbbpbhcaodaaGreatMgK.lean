/- Words and contracts that the proofs of this seat stand on, part 11 of 14. -/
import Derived.Test.YtblgbbpbhcaodaaGreatMgJ
import Derived.Test.YtblgbbpbhcaodaaGreatMgH
import Derived.Test.YtblgbbpbhcaodaaGreatMgC

/- The contracts of the program's Dot, of the function that Dots hands to listOf, of listOf at dots, and of Dots, of layer dcode. -/
namespace Go.Proofs.YtblgbbpbhcaodaaGreat.Dc
open Go.ChangeShapes Go.WideShapes Go.ChangeAt Go.RowKit
set_option linter.unusedVariables false
set_option maxRecDepth 4000

theorem dotR_may {s : St} (hs : Sound s) (hm : Dt.mayD (dotN s) = true) : dotR s = (dotN s, dotS s) := by
  refine dotR_good ?_ hm
  rcases Nat.eq_zero_or_pos (dotS s).2 with h | h
  · exact h
  · have h1 := num_zero (s := uptoS 65535 s) (upto_sound hs) (show (dotS s).2 ≠ 0 by omega)
    have h2 := (Dt.may_iff _).1 hm
    have h3 : (dotN s).2 = numN (uptoS 65535 s) := rfl
    omega
theorem dotR_not {s : St} (hm : Dt.mayD (dotN s) = false) : dotR s = ((0, 0), failS 4 (dotS s)) := dotR_no (fun h => by rw [hm] at h; cases h.2)

set_option maxHeartbeats 4000000 in
theorem pdot_any (w : World) (h B : Nat) (l : List Nat) (e : Nat) (k : Nu.PR w h B l e) (hB : B ≤ h) :
    Calls Tryz.prog 41 #[.pointer (some ⟨h, 0, none⟩)] w (Nu.PPost w h B (dval (dotR (l, e)).1) (dotR (l, e)).2.1 (dotR (l, e)).2.2) := by
  have hh : h < w.heap.size := k.lt
  have K0 := Lib.hid (pr_new k hB (dbox (0, 0)))
  have G0 := Lib.hid (grown_new (Nu.turn_refl w (some h)) (dbox (0, 0)))
  have R0 := Lib.hid (Nu.At.new w 39 #[.int .u16 0, .int .u64 0])
  have C1 := pdev_any (w.alloc (dbox (0, 0))) h B (l, e) K0.out hB
  have hS : dotS (l, e) = numS (uptoS 65535 (l, e)) := rfl
  have hN : dotN (l, e) = (uptoN 65535 (l, e), numN (uptoS 65535 (l, e))) := rfl
  have hf := dotN_fit (s := (l, e)) (Nu.small_of k)
  have hgood := dotR_may (s := (l, e)) (sound_pr k)
  have hno := dotR_not (s := (l, e))
  obtain ⟨D, hD⟩ : ∃ D, dotR (l, e) = D := ⟨_, rfl⟩
  rw [hD, hS, hN] at hgood hno
  rw [hN] at hf
  rw [hD]
  obtain ⟨dev, hdev⟩ : ∃ dev, uptoN 65535 (l, e) = dev := ⟨_, rfl⟩
  obtain ⟨s1, hs1⟩ : ∃ s1, uptoS 65535 (l, e) = s1 := ⟨_, rfl⟩
  obtain ⟨num, hnum⟩ : ∃ num, numN s1 = num := ⟨_, rfl⟩
  obtain ⟨s2, hs2⟩ : ∃ s2, numS s1 = s2 := ⟨_, rfl⟩
  rw [hdev, hs1, hnum, hs2] at hgood hno
  rw [hdev, hs1, hnum] at hf
  rw [hdev, hs1] at C1
  have HG := Lib.hid hgood
  have HNO := Lib.hid hno
  have hd1 : dev < 65536 := hf.1
  have HNUM := Lib.hid hnum
  have HS2 := Lib.hid hs2
  clear hS hN hf hD hgood hno hdev hs1 hnum hs2 k
  go_enter Tryz.func41, Tryz.ntmps41
  go_wp2_with fail
  refine C1.mono ?_
  rintro r w1 ⟨rfl, k1, g1⟩
  have C2 := pnum_st w1 h B s1 k1 hB
  rw [HNUM.out, HS2.out] at C2
  have G1 := Lib.hid (G0.out.trans g1)
  have R1 := Lib.hid (R0.out.kept g1 (fun e => by cases e; omega))
  clear k1 g1 K0 G0 R0 C1
  go_wp2_with fail
  refine C2.mono ?_
  rintro r w2 ⟨rfl, k2, g2⟩
  have K2 := Lib.hid (pr_new k2 hB (dbox (dev, num)))
  have G2 := Lib.hid (grown_new (G1.out.trans g2) (dbox (dev, num)))
  have hs2 : w.heap.size < w2.heap.size := Nat.lt_of_lt_of_le R1.out.lt g2.size
  have R2 := Lib.hid ((R1.out.kept g2 (fun e => by cases e; omega)).kept (Nu.turn_below (below_new w2 (dbox (dev, num))) none) (by simp))
  have V2 := Lib.hid (dbox_new w2 (dev, num))
  clear k2 g2 G1 R1 C2
  obtain ⟨b0, b1⟩ := V2.out _ (by have h := Below.refl (w2.alloc (dbox (dev, num))).heap.size (w2.alloc (dbox (dev, num))); rw [alloc_size] at h; exact h)
  rw [show w2.heap.size + 1 = (w2.alloc (dbox (dev, num))).heap.size from (alloc_size _ _).symm] at V2
  go_wp2_with fail
  generalize w2.alloc (dbox (dev, num)) = w3 at *
  have HGd := Lib.hid (Dt.pgood_x w3 (dev, num))
  have HBG := Lib.hid (below_new w3 (dbox (dev, num)))
  have K3 := Lib.hid (pr_new K2.out hB (dbox (dev, num)))
  have G3 := Lib.hid (grown_new G2.out (dbox (dev, num)))
  have R3 := Lib.hid (R2.out.kept (Nu.turn_below HBG.out none) (by simp))
  obtain ⟨b2, b3⟩ := V2.out _ HBG.out
  cases hm : Dt.mayD (dev, num) with
  | true =>
    rw [hm] at HGd
    have HD := Lib.hid (HG.out hm)
    have Q3 := R3.out.set 0 (.int .u16 (dev : Int))
    have Q4 := Q3.set 1 (.int .u64 (num : Int))
    have z0 := R3.out.cell 0
    have z1 := Q3.cell 1
    have f0 := R3.out.frozen 0
    have f1 := Q3.frozen 1
    have g0 := Q4.cell 0
    have g1 := Q4.cell 1
    simp at z0 z1 g0 g1
    have KF := Lib.hid (pr_set (pr_set K3.out hB hh 0 (.int .u16 (dev : Int))) hB hh 1 (.int .u64 (num : Int)))
    have GF := Lib.hid (grown_set (grown_set G3.out (Nat.le_refl _) 0 (.int .u16 (dev : Int))) (Nat.le_refl _) 1 (.int .u64 (num : Int)))
    clear Q3 Q4 HG HNO
    refine HGd.out.mono ?_
    rintro r w4 ⟨rfl, rfl⟩
    generalize w3.alloc (dbox (dev, num)) = w4 at *
    go_wp2
    refine bodyPost_ret (v := dval (dev, num)) ?_ rfl ?_
    · simp [results, Tryz.f41, go_sem, g0, g1]
    · rw [HD.out]
      exact ⟨rfl, KF.out, GF.out⟩
  | false =>
    rw [hm] at HGd
    have HD := Lib.hid (HNO.out hm)
    have CF := Nu.fail_any _ h B _ _ 4 K3.out hB (by decide)
    clear HG HNO b2 b3
    refine HGd.out.mono ?_
    rintro r w4 ⟨rfl, rfl⟩
    go_wp2_with fail
    refine CF.mono ?_
    rintro r w5 ⟨rfl, k5, g5⟩
    have R5 := Lib.hid (R3.out.kept g5 (fun e => by cases e; omega))
    have G5 := Lib.hid (G3.out.trans g5)
    have K5 := Lib.hid k5
    have Q3 := R5.out.set 0 (.int .u16 0)
    have Q4 := Q3.set 1 (.int .u64 0)
    have z0 := R5.out.cell 0
    have z1 := Q3.cell 1
    have f0 := R5.out.frozen 0
    have f1 := Q3.frozen 1
    have g0 := Q4.cell 0
    have g1 := Q4.cell 1
    simp at z0 z1 g0 g1
    have KF := Lib.hid (pr_set (pr_set K5.out hB hh 0 (.int .u16 0)) hB hh 1 (.int .u64 0))
    have GF := Lib.hid (grown_set (grown_set G5.out (Nat.le_refl _) 0 (.int .u16 0)) (Nat.le_refl _) 1 (.int .u64 0))
    clear Q3 Q4 k5 g5 CF
    go_wp2
    refine bodyPost_ret (v := dval (0, 0)) ?_ rfl ?_
    · simp [results, Tryz.f41, go_sem, g0, g1]
    · rw [HD.out]
      exact ⟨rfl, KF.out, GF.out⟩

/-- the last dot that was read; ahead of all the empty one. -/
def lastD (o : List Dot) : Dot := o.getLast?.getD (0, 0)
theorem last_snoc (o : List Dot) (d : Dot) : lastD (o ++ [d]) = d := by
  unfold lastD
  rw [List.getLast?_append]
  rfl
/-- a dot is read that is to stand behind this one. -/
def closS (x : Dot) (s : St) : St := if Dt.aheadD x (dotR s).1 = true then (dotR s).2 else failS 4 (dotR s).2
theorem clos_last {o : List Dot} {s : St} (hs : Sound s) : closS (lastD o) s = dotsS o s := by
  unfold closS
  by_cases h : (dotR s).2.2 = 0
  · obtain ⟨_, h2, h3⟩ := dotR_ok h
    have h4 : stepsB o (dotR s).1 = Dt.aheadD (lastD o) (dotR s).1 := by
      unfold stepsB lastD
      cases o.getLast? with
      | none =>
        have h5 := (Dt.may_iff _).1 h2
        rw [h3]
        show true = Dt.aheadD (0, 0) (dotN s)
        unfold Dt.aheadD
        exact (decide_eq_true (.inl (show 0 < (dotN s).1 by omega))).symm
      | some x => rfl
    cases ha : Dt.aheadD (lastD o) (dotR s).1 with
    | true =>
      have e : dotsS o s = (dotR s).2 := if_neg (fun h5 => by rw [h4, ha] at h5; cases h5.2)
      rw [if_pos rfl, e]
    | false =>
      have e : dotsS o s = failS 4 (dotR s).2 := if_pos ⟨h, by rw [h4, ha]⟩
      rw [if_neg (fun h => by cases h), e]
  · have e : dotsS o s = (dotR s).2 := if_neg (fun h2 => h h2.1)
    rw [e, fail_self (dotR_sound hs) h, ite_self]
/-- the writing of one block more. -/
theorem two_grown {w V : World} {h : Nat} {rb : Option Nat} (hg : w.grownBy V (some h)) : Nu.Two w V h rb := ⟨hg.os, hg.tape, hg.output, hg.size, fun k hk h1 _ => hg.block k hk (fun e => by cases e; exact h1 rfl)⟩
theorem two_set {w V : World} {h b : Nat} (ht : Nu.Two w V h (some b)) (i : Nat) (u : Value) : Nu.Two w (V.setCell ⟨b, i, none⟩ u) h (some b) :=
  ⟨ht.os, ht.tape, ht.output, by simpa [World.setCell] using ht.size, fun k hk h1 h2 => (Below.heap_setCell V ⟨b, i, none⟩ u k (fun e => by have e : b = k := e.symm; exact h2 (by rw [e]))).trans (ht.block k hk h1 h2)⟩
theorem two_far {w V : World} {h g : Nat} {rb : Option Nat} (ht : Nu.Two w V h rb) (hg : w.heap.size ≤ g) (i : Nat) (u : Value) : Nu.Two w (V.setCell ⟨g, i, none⟩ u) h rb :=
  ⟨ht.os, ht.tape, ht.output, by simpa [World.setCell] using ht.size, fun k hk h1 h2 => (Below.heap_setCell V ⟨g, i, none⟩ u k (fun e => by have e : g = k := e.symm; omega)).trans (ht.block k hk h1 h2)⟩
/-- what the function works on: the reader, the last dot, its own result, the new dot. -/
structure CW (w : World) (h B b g : Nat) (x d : Dot) (s : St) (V : World) : Prop where
  rr : Nu.PR V h B s.1 s.2
  gr : w.grownBy V (some h)
  last : Nu.At V b 39 #[.int .u16 (x.1 : Int), .int .u64 (x.2 : Int)]
  res : Nu.At V w.heap.size 39 #[.int .u16 0, .int .u64 0]
  box : Nu.At V g 39 #[.int .u16 (d.1 : Int), .int .u64 (d.2 : Int)]
theorem CW.below {w V U : World} {h B b g : Nat} {x d : Dot} {s : St} (k : CW w h B b g x d s V) (hB : B ≤ h) (hb : Below V.heap.size V U) : CW w h B b g x d s U :=
  ⟨pr_below k.rr hB hb, grown_below k.gr hb, k.last.below hb k.last.lt, k.res.below hb k.res.lt, k.box.below hb k.box.lt⟩
theorem CW.read {w V U : World} {h B b g : Nat} {x d : Dot} {s s' : St} (k : CW w h B b g x d s V) (hr : Nu.PR U h B s'.1 s'.2) (hg : V.grownBy U (some h)) (h1 : h < b) (h2 : h < w.heap.size) (h3 : h < g) : CW w h B b g x d s' U :=
  ⟨hr, k.gr.trans hg, k.last.kept hg (fun e => by cases e; omega), k.res.kept hg (fun e => by cases e; omega), k.box.kept hg (fun e => by cases e; omega)⟩
/-- what the function leaves. -/
def ClosPost (w : World) (h B b : Nat) (d : Dot) (s : St) (r : Ending) (V : World) : Prop :=
  r = .returned (dval d) ∧ Nu.PR V h B s.1 s.2 ∧ Nu.At V b 39 #[.int .u16 (d.1 : Int), .int .u64 (d.2 : Int)] ∧ Nu.Two w V h (some b)
theorem CW.done {w V : World} {h B b g : Nat} {x d : Dot} {s : St} (k : CW w h B b g x d s V) (hB : B ≤ h) (h1 : h < b) (h2 : b < w.heap.size) (a1 a2 : Value) :
    ClosPost w h B b d s (.returned (dval d)) ((((V.setCell ⟨b, 0, none⟩ (.int .u16 (d.1 : Int))).setCell ⟨b, 1, none⟩ (.int .u64 (d.2 : Int))).setCell ⟨w.heap.size, 0, none⟩ a1).setCell ⟨w.heap.size, 1, none⟩ a2) := by
  have q1 := (k.last.set 0 (.int .u16 (d.1 : Int))).set 1 (.int .u64 (d.2 : Int))
  have q2 : Nu.At ((V.setCell ⟨b, 0, none⟩ (.int .u16 (d.1 : Int))).setCell ⟨b, 1, none⟩ (.int .u64 (d.2 : Int))) b 39 #[.int .u16 (d.1 : Int), .int .u64 (d.2 : Int)] := q1
  refine ⟨rfl, pr_set (pr_set (pr_set (pr_set k.rr hB h1 0 _) hB h1 1 _) hB (by omega) 0 _) hB (by omega) 1 _, ?_, two_far (two_far (two_set (two_set (two_grown k.gr) 0 _) 1 _) (Nat.le_refl _) 0 _) (Nat.le_refl _) 1 _⟩
  exact (q2.kept (Nu.turn_set _ w.heap.size 0 a1) (fun e => by cases e; omega)).kept (Nu.turn_set _ w.heap.size 1 a2) (fun e => by cases e; omega)

set_option maxHeartbeats 8000000 in
theorem pclos_any (w : World) (h B b : Nat) (x : Dot) (s : St) (k : Nu.PR w h B s.1 s.2) (hB : B ≤ h) (hb : h < b) (hx : Nu.At w b 39 #[.int .u16 (x.1 : Int), .int .u64 (x.2 : Int)]) :
    Calls Tryz.prog 66 #[.pointer (some ⟨h, 0, none⟩), .pointer (some ⟨b, 0, none⟩)] w (ClosPost w h B b (dotR s).1 (closS x s)) := by
  have hh : h < w.heap.size := k.lt
  have hbw : b < w.heap.size := hx.lt
  have K0 := Lib.hid (pr_new k hB (dbox (0, 0)))
  have G0 := Lib.hid (grown_new (Nu.turn_refl w (some h)) (dbox (0, 0)))
  have R0 := Lib.hid (Nu.At.new w 39 #[.int .u16 0, .int .u64 0])
  have X0 := Lib.hid (hx.kept (Nu.turn_below (below_new w (dbox (0, 0))) none) (by simp))
  have C1 : Calls Tryz.prog 41 #[.pointer (some ⟨h, 0, none⟩)] (w.alloc (dbox (0, 0))) (Nu.PPost (w.alloc (dbox (0, 0))) h B (dval (dotR s).1) (dotR s).2.1 (dotR s).2.2) := pdot_any (w.alloc (dbox (0, 0))) h B s.1 s.2 K0.out hB
  have hC : closS x s = if Dt.aheadD x (dotR s).1 = true then (dotR s).2 else failS 4 (dotR s).2 := rfl
  obtain ⟨E, hE⟩ : ∃ E, closS x s = E := ⟨_, rfl⟩
  rw [hE] at hC ⊢
  obtain ⟨D, hD⟩ : ∃ D, dotR s = D := ⟨_, rfl⟩
  rw [hD] at hC C1 ⊢
  obtain ⟨d, s'⟩ := D
  have HC := Lib.hid hC
  clear hC hE hD k hx
  go_enter Tryz.func66, Tryz.ntmps66
  go_wp2_with fail
  refine C1.mono ?_
  rintro r w1 ⟨rfl, k1, g1⟩
  have hg1 : w.heap.size < w1.heap.size := by have := g1.size; rw [alloc_size] at this; omega
  have W2 : Hid (CW w h B b w1.heap.size x d s' (w1.alloc (dbox d))) := Lib.hid
    ⟨pr_new k1 hB _, grown_new (G0.out.trans g1) _, (X0.out.kept g1 (fun e => by cases e; omega)).kept (Nu.turn_below (below_new w1 (dbox d)) none) (by simp), (R0.out.kept g1 (fun e => by cases e; omega)).kept (Nu.turn_below (below_new w1 (dbox d)) none) (by simp), Nu.At.new w1 _ _⟩
  have x0 : (w1.alloc (dbox d)).cell? ⟨b, 0, none⟩ = some (.int .u16 (x.1 : Int)) := W2.out.last.cell 0
  have x1 : (w1.alloc (dbox d)).cell? ⟨b, 1, none⟩ = some (.int .u64 (x.2 : Int)) := W2.out.last.cell 1
  have C2 := Dt.pcmp_any (w1.alloc (dbox d)) x d
  have hcg := cmp_ge x d
  clear k1 g1 K0 G0 R0 X0 C1
  go_wp2_with fail
  generalize w1.alloc (dbox d) = w2 at *
  obtain ⟨g, hg⟩ : ∃ g, w1.heap.size = g := ⟨_, rfl⟩
  rw [hg] at W2 hg1 ⊢
  refine C2.mono ?_
  rintro r w3 ⟨rfl, hb3⟩
  have W3 := Lib.hid (W2.out.below hB hb3)
  generalize Dt.cmpD x d = z at *
  clear x0 x1 C2 W2 hb3 hg
  have hgh : h < g := by omega
  cases ha : Dt.aheadD x d with
  | true =>
    rw [ha] at hcg
    have HE : Hid (E = s') := Lib.hid (by rw [HC.out]; exact if_pos ha)
    have q1 := W3.out.last.set 0 (.int .u16 (d.1 : Int))
    have q2 := q1.set 1 (.int .u64 (d.2 : Int))
    have q3 := W3.out.res.kept (Nu.turn_set w3 b 0 (.int .u16 (d.1 : Int))) (fun e => by cases e; omega)
    have q4 := q3.kept (Nu.turn_set _ b 1 (.int .u64 (d.2 : Int))) (fun e => by cases e; omega)
    have q5 := q4.set 0 (.int .u16 (d.1 : Int))
    have q6 := q5.set 1 (.int .u64 (d.2 : Int))
    have p1 := W3.out.box.kept (Nu.turn_set w3 b 0 (.int .u16 (d.1 : Int))) (fun e => by cases e; omega)
    have p2 := p1.kept (Nu.turn_set _ b 1 (.int .u64 (d.2 : Int))) (fun e => by cases e; omega)
    have c0 := W3.out.box.cell 0
    have c1 := W3.out.box.cell 1
    have c2 := W3.out.last.cell 0
    have c3 := q1.cell 1
    have f0 := W3.out.last.frozen 0
    have f1 := q1.frozen 1
    have c4 := p2.cell 0
    have c5 := p2.cell 1
    have c6 := q4.cell 0
    have c7 := q5.cell 1
    have f2 := q4.frozen 0
    have f3 := q5.frozen 1
    have e0 := q6.cell 0
    have e1 := q6.cell 1
    simp at c0 c1 c2 c3 c4 c5 c6 c7 e0 e1
    have HF := Lib.hid (W3.out.done hB hb hbw (.int .u16 (d.1 : Int)) (.int .u64 (d.2 : Int)))
    clear q1 q2 q3 q4 q5 q6 p1 p2
    clear ha
    go_wp2
    refine bodyPost_ret (v := dval d) ?_ rfl ?_
    · simp [results, Tryz.f66, go_sem, e0, e1]
    · rw [HE.out]
      exact HF.out
  | false =>
    rw [ha] at hcg
    have HE : Hid (E = failS 4 s') := Lib.hid (by rw [HC.out]; exact if_neg (fun h2 => by rw [ha] at h2; cases h2))
    have CF := Nu.fail_any w3 h B s'.1 s'.2 4 W3.out.rr hB (by decide)
    clear ha
    go_wp2_with fail
    refine CF.mono ?_
    rintro r w5 ⟨rfl, k5, g5⟩
    have W5 := Lib.hid (W3.out.read (s' := failS 4 s') k5 g5 hb hh hgh)
    clear k5 g5 CF W3 hcg
    have q1 := W5.out.last.set 0 (.int .u16 (d.1 : Int))
    have q2 := q1.set 1 (.int .u64 (d.2 : Int))
    have q3 := W5.out.res.kept (Nu.turn_set w5 b 0 (.int .u16 (d.1 : Int))) (fun e => by cases e; omega)
    have q4 := q3.kept (Nu.turn_set _ b 1 (.int .u64 (d.2 : Int))) (fun e => by cases e; omega)
    have q5 := q4.set 0 (.int .u16 (d.1 : Int))
    have q6 := q5.set 1 (.int .u64 (d.2 : Int))
    have p1 := W5.out.box.kept (Nu.turn_set w5 b 0 (.int .u16 (d.1 : Int))) (fun e => by cases e; omega)
    have p2 := p1.kept (Nu.turn_set _ b 1 (.int .u64 (d.2 : Int))) (fun e => by cases e; omega)
    have c0 := W5.out.box.cell 0
    have c1 := W5.out.box.cell 1
    have c2 := W5.out.last.cell 0
    have c3 := q1.cell 1
    have f0 := W5.out.last.frozen 0
    have f1 := q1.frozen 1
    have c4 := p2.cell 0
    have c5 := p2.cell 1
    have c6 := q4.cell 0
    have c7 := q5.cell 1
    have f2 := q4.frozen 0
    have f3 := q5.frozen 1
    have e0 := q6.cell 0
    have e1 := q6.cell 1
    simp at c0 c1 c2 c3 c4 c5 c6 c7 e0 e1
    have HF := Lib.hid (W5.out.done hB hb hbw (.int .u16 (d.1 : Int)) (.int .u64 (d.2 : Int)))
    clear q1 q2 q3 q4 q5 q6 p1 p2
    go_wp2
    refine bodyPost_ret (v := dval d) ?_ rfl ?_
    · simp [results, Tryz.f66, go_sem, e0, e1]
    · rw [HE.out]
      exact HF.out
end Go.Proofs.YtblgbbpbhcaodaaGreat.Dc

/- The contracts of the program's listOf at dots, and of Dots, of layer dcode. -/
namespace Go.Proofs.YtblgbbpbhcaodaaGreat.Dc
open Go.ChangeShapes Go.WideShapes Go.ChangeAt Go.RowKit
set_option linter.unusedVariables false
set_option maxRecDepth 4000

theorem own_two {w U : World} {base n size g : Nat} {rb : Option Nat} {e : TypeId} {v : Value} {xs : List Value} (h : w.ownsRow base e size v n xs) (ht : Nu.Two w U g rb) (hne : ∀ q, v.ownBlock = some q → q ≠ g ∧ some q ≠ rb) : U.ownsRow base e size v n xs := by
  refine ⟨h.1, ?_⟩
  rcases h.2 with hn | ⟨k, cap, cur, rfl, hb, hgg, rest⟩
  · exact .inl hn
  · refine .inr ⟨k, cap, cur, rfl, hb, ?_, rest⟩
    obtain ⟨h1, h2⟩ := hne k rfl
    rw [ht.block k (Array.getElem?_eq_some_iff.1 hgg).1 h1 h2]
    exact hgg
theorem two_row {w V U : World} {h : Nat} {rb row : Option Nat} (ht : Nu.Two w V h rb) (hg : V.grownBy U row) (hr : ∀ q, row = some q → w.heap.size ≤ q) : Nu.Two w U h rb :=
  ⟨hg.os.trans ht.os, hg.tape.trans ht.tape, hg.output.trans ht.output, Nat.le_trans ht.size hg.size, fun q hq h1 h2 => (hg.block q (Nat.lt_of_lt_of_le hq ht.size) (fun e => by have := hr q e.symm; omega)).trans (ht.block q hq h1 h2)⟩
theorem grown_two {w V U : World} {h b : Nat} (hg : w.grownBy V (some h)) (ht : Nu.Two V U h (some b)) (hb : w.heap.size ≤ b) : w.grownBy U (some h) :=
  ⟨ht.os.trans hg.os, ht.tape.trans hg.tape, ht.output.trans hg.output, Nat.le_trans hg.size ht.size, fun q hq hne => (ht.block q (Nat.lt_of_lt_of_le hq hg.size) (fun e => hne (by rw [e])) (fun e => by cases e; omega)).trans (hg.block q hq hne)⟩
theorem DL.less {B0 B1 n c : Nat} {V : World} {A : Option Addr} {l : List Dot} (h : DL B0 V A l n c) (hB : B1 ≤ B0) : DL B1 V A l n c := ⟨h.len, h.nil, h.cap, h.max, h.dots, fun ad e => Nat.le_trans hB (h.far ad e)⟩
theorem DL.none_ (B0 : Nat) (w : World) : DL B0 w none [] 0 0 := ⟨rfl, (fun _ => ⟨rfl, rfl⟩), Nat.le_refl _, by decide, Dt.Dots.none_ _ _ _, fun ad e => by cases e⟩
/-- dots of one's own, beside a reader and the last dot. -/
structure DQ (w : World) (h B b : Nat) (V : World) (A : Option Addr) (m c : Nat) (o : List Dot) (s : St) : Prop where
  len : o.length = m
  fit : Dt.Fit o
  own : V.ownsRow w.heap.size 39 2 (.slice A m c) m (Dt.dv o)
  rr : Nu.PR V h B s.1 s.2
  two : Nu.Two w V h (some b)
  last : Nu.At V b 39 #[.int .u16 ((lastD o).1 : Int), .int .u64 ((lastD o).2 : Int)]
theorem DQ.dl {w V : World} {h B b m c : Nat} {A : Option Addr} {o : List Dot} {s : St} (k : DQ w h B b V A m c o s) : DL w.heap.size V A o m c := by
  obtain ⟨h1, h2, h3⟩ := Dt.own_len k.own
  exact ⟨k.len, h3, h1, h2, Dt.dots_own k.own k.fit, fun ad e => by subst e; exact (k.own.lt ad.block rfl).1⟩
theorem DQ.apart {w V : World} {h B b m c : Nat} {A : Option Addr} {o : List Dot} {s : St} (k : DQ w h B b V A m c o s) (hh : h < w.heap.size) (hb : b < w.heap.size) : ∀ q, (Value.slice A m c).ownBlock = some q → q ≠ h ∧ some q ≠ some b := fun q hq => by
  have := (k.own.lt q hq).1
  exact ⟨by omega, fun e => by cases e; omega⟩
/-- a dot more. -/
theorem DQ.more {w V V1 U : World} {h B b m c c8 : Nat} {A A8 : Option Addr} {o : List Dot} {d : Dot} {s s' : St} (k : DQ w h B b V A m c o s) (hh : h < w.heap.size) (hB : B ≤ h) (hb : b < w.heap.size) (hd : d.1 < 65536 ∧ d.2 < big)
    (hr : Nu.PR V1 h B s'.1 s'.2) (hx : Nu.At V1 b 39 #[.int .u16 (d.1 : Int), .int .u64 (d.2 : Int)]) (ht : Nu.Two V V1 h (some b))
    (ho : U.ownsRow w.heap.size 39 2 (.slice A8 (m + 1) c8) (m + 1) (Dt.dv (o ++ [d]))) (hg : (V1.alloc (dbox d)).grownBy U (Value.slice A m c).ownBlock) : DQ w h B b U A8 (m + 1) c8 (o ++ [d]) s' := by
  have hrow : ∀ t, (Value.slice A m c).ownBlock = some t → w.heap.size ≤ t := fun t ht => (k.own.lt t ht).1
  refine ⟨by rw [List.length_append, k.len]; rfl, fun x hx => ?_, ho, pr_row (pr_new hr hB (dbox d)) hB hg (fun t ht => by have := hrow t ht; omega), two_row (two_row (Nu.two_trans k.two ht (.inl rfl)) (Nu.turn_below (below_new V1 (dbox d)) none) (fun q e => by cases e)) hg hrow, ?_⟩
  · rcases List.mem_append.1 hx with hx | hx
    · exact k.fit x hx
    · rw [List.mem_singleton] at hx
      rw [hx]
      exact hd
  · rw [last_snoc]
    exact (hx.kept (Nu.turn_below (below_new V1 (dbox d)) none) (by simp)).kept hg (fun e => by have := hrow b e.symm; omega)
theorem dots_step {num k : Nat} {o : List Dot} {s s0 : St} (hk : k < num) (he : s.2 = 0) (hL : dotsL num [] s0 = dotsL (num - k) o s) : dotsL num [] s0 = dotsL (num - (k + 1)) (o ++ [(dotR s).1]) (dotsS o s) := by
  rw [hL, show num - k = num - (k + 1) + 1 by omega]
  conv => lhs; unfold dotsL
  rw [if_pos he]
/-- what stands between two rounds. -/
def DKeepL (w : World) (h B b L num : Nat) (s0 : St) (k m c : Nat) (A : Option Addr) (o : List Dot) (s : St) (V : World) : Prop :=
  k ≤ num ∧ DQ w h B b V A m c o s ∧ dotsL num [] s0 = dotsL (num - k) o s ∧ (s.2 = 0 → m + s.1.length ≤ L)
/-- what listOf answers at dots. -/
def DotsMade (w : World) (h B b : Nat) (D : List Dot × St) (r : Ending) (V : World) : Prop :=
  ∃ (A : Option Addr) (m c : Nat) (o : List Dot), r = .returned (.slice A m c) ∧ DL w.heap.size V A o m c ∧ Nu.PR V h B D.2.1 D.2.2 ∧ Nu.Two w V h (some b) ∧ (D.2.2 = 0 → o = D.1) ∧ (D.2.2 ≠ 0 → o = [])
theorem made_none {w V : World} {h B b : Nat} {D : List Dot × St} {s : St} (hD : D.2 = s) (he : s.2 ≠ 0) (hr : Nu.PR V h B s.1 s.2) (ht : Nu.Two w V h (some b)) : DotsMade w h B b D (.returned (.slice none 0 0)) V := by
  subst hD
  exact ⟨none, 0, 0, [], rfl, DL.none_ _ _, hr, ht, fun h0 => absurd h0 he, fun _ => rfl⟩

set_option maxHeartbeats 8000000 in
theorem pldot_any (w : World) (h B b num : Nat) (s0 : St) (k0 : Nu.PR w h B s0.1 s0.2) (hB : B ≤ h) (hb : h < b) (hx : Nu.At w b 39 #[.int .u16 0, .int .u64 0]) (hl : s0.1.length ≤ 1048576) (hnum : num < big) :
    Calls Tryz.prog 65 #[.pointer (some ⟨h, 0, none⟩), .int .u64 (num : Int), .func (.func 66) #[] #[.pointer (some ⟨b, 0, none⟩)]] w (DotsMade w h B b (dotsL num [] s0)) := by
  have hh : h < w.heap.size := k0.lt
  have hbw : b < w.heap.size := hx.lt
  have K0 := Lib.hid k0
  have X0 := Lib.hid hx
  have HLL := Lib.hid hl
  obtain ⟨D, hD⟩ : ∃ D, dotsL num [] s0 = D := ⟨_, rfl⟩
  rw [hD]
  have HD := Lib.hid hD
  have hnumb : num < 18446744073709551616 := hnum
  clear k0 hx hD hl hnum
  go_enter Tryz.func65, Tryz.ntmps65
  go_wp2_with fail
  go_loopw [1, 7] (fun i v wr => ∃ (k m c : Nat) (A : Option Addr) (o : List Dot) (s : St), i = .int .u64 ((num - k : Nat) : Int) ∧ v = .slice A m c ∧ DKeepL w h B b s0.1.length num s0 k m c A o s wr) (fun i _ _ => (intOf i).toNat)
  case atStart => exact ⟨0, 0, 0, none, [], s0, rfl, rfl, Nat.zero_le _, ⟨rfl, (fun x hx => by cases hx), World.ownsRow_nil _ _ _ _, K0.out, two_grown (Nu.turn_refl _ _), X0.out⟩, rfl, fun _ => by rw [Nat.zero_add]; exact Nat.le_refl _⟩
  case round =>
    clear K0 X0
    obtain ⟨k, m, c, A, o, ⟨sl, se⟩, rfl, rfl, hk, hro, hrl, hbl⟩ := hrel
    have HRO := Lib.hid hro
    have HRL := Lib.hid hrl
    have CE := Nu.err_any wr h B sl se hro.rr
    clear hro hrl
    by_cases hlt : k < num
    · have d0 : decide ((0 : Int) < ((num - k : Nat) : Int)) = true := decide_eq_true (by omega)
      go_wp2_with fail
      refine CE.mono ?_
      rintro r wr' ⟨rfl, rfl⟩
      by_cases he : se = 0
      · subst he
        have hmm : m + sl.length ≤ s0.1.length := hbl rfl
        have CR := pclos_any wr h B b (lastD o) (sl, 0) HRO.out.rr hB hb HRO.out.last
        rw [clos_last (sound_pr HRO.out.rr)] at CR
        have HFD := Lib.hid (dotR_fit (s := (sl, 0)) (Nu.small_of HRO.out.rr))
        have HNX := Lib.hid (dots_step hlt rfl HRL.out)
        have HBL := Lib.hid (fun h0 => dotsS_len (L := s0.1.length) o (sl, 0) h0 (by rw [HRO.out.len]; exact hmm))
        rw [HRO.out.len] at HBL
        have hw1 : IntKind.u64.wrap (((num - k : Nat) : Int) - 1) = ((num - (k + 1) : Nat) : Int) := by rw [IntKind.wrap_u64]; omega
        generalize dotsS o (sl, 0) = s4 at *
        generalize (dotR (sl, 0)).1 = d at *
        clear CE hbl d0
        go_wp2_with fail
        refine CR.mono ?_
        rintro r V ⟨rfl, k4, x4, t4⟩
        have K4 := Lib.hid k4
        have X4 := Lib.hid x4
        have T4 := Lib.hid t4
        have O4 := Lib.hid ((own_two HRO.out.own t4 (HRO.out.apart hh hbw)).alloc (dbox d))
        have L4 := Lib.hid (Dt.lies_one V d)
        have hsz : Hid (w.heap.size ≤ (V.alloc (dbox d)).heap.size) := Lib.hid (by rw [alloc_size]; have := HRO.out.two.size; have := t4.size; omega)
        have hm7 : Hid (m + 1 ≤ 8796093022208) := Lib.hid (by have := HLL.out; omega)
        clear k4 x4 t4 CR
        go_wp2_with (at_builtin; refine Dt.wpList_any rfl (.tmp 17) (.tmp 21) rfl rfl _ w.heap.size m (.slice A m c) o (some ⟨V.heap.size, 0, none⟩) [d] 1 1 rfl rfl O4.out (fun h => by cases h) L4.out rfl hm7.out hsz.out ?_; intro A8 c8 U ho hg; have RU := Lib.hid (HRO.out.more hh hB hbw HFD.out K4.out X4.out T4.out ho hg); clear ho hg)
        go_roundw
        case rel => exact ⟨k + 1, m + 1, c8, A8, _, s4, rfl, rfl, hlt, RU.out, HNX.out, HBL.out⟩
        case measure => simp [intOf]; omega
      · have hi0 : ((se : Int) == 0) = false := by rw [beq_eq_false_iff_ne]; omega
        have hi1 : ((se : Int) != 0) = true := by rw [bne, hi0]; rfl
        have hi2 : ¬ (se : Int) = 0 := by omega
        have HX : Hid (D.2 = (sl, se)) := Lib.hid (by rw [← HD.out, HRL.out, dotsL_bad he])
        go_wp2_with fail
        refine CE.mono ?_
        rintro r wr'' ⟨rfl, rfl⟩
        go_wp2
        go_ret
        exact made_none HX.out he HRO.out.rr HRO.out.two
    · obtain rfl : k = num := by omega
      have d0 : decide ((0 : Int) < ((k - k : Nat) : Int)) = false := decide_eq_false (by omega)
      have HX : Hid (D = (o, (sl, se))) := Lib.hid (by rw [← HD.out, HRL.out, Nat.sub_self]; rfl)
      go_wp2_with fail
      refine CE.mono ?_
      rintro r wr' ⟨rfl, rfl⟩
      by_cases he : se = 0
      · subst he
        go_wp2
        go_ret
        exact ⟨A, m, c, o, rfl, HRO.out.dl, by rw [HX.out]; exact HRO.out.rr, HRO.out.two, fun _ => by rw [HX.out], fun h0 => absurd (by rw [HX.out]) h0⟩
      · have hi0 : ((se : Int) == 0) = false := by rw [beq_eq_false_iff_ne]; omega
        have hi1 : ((se : Int) != 0) = true := by rw [bne, hi0]; rfl
        have hi2 : ¬ (se : Int) = 0 := by omega
        have HY : Hid (D.2 = (sl, se)) := Lib.hid (by rw [HX.out])
        go_wp2
        go_ret
        exact made_none HY.out he HRO.out.rr HRO.out.two

/-- what Dots answers. -/
def DotsGot (w : World) (h B : Nat) (D : List Dot × St) (r : Ending) (V : World) : Prop := ∃ A' m c', r = .returned (.slice A' m c') ∧ DL w.heap.size V A' D.1 m c' ∧ Nu.PR V h B D.2.1 D.2.2 ∧ w.grownBy V (some h)
theorem made_got {w w3 V : World} {h B : Nat} {E : List Dot × St} {r : Ending} (hg : w.grownBy w3 (some h)) (hm : DotsMade (w3.alloc (dbox (0, 0))) h B w3.heap.size E r V) : DotsGot w h B (if E.2.2 = 0 then E else ([], E.2)) r V := by
  obtain ⟨A, m, c, o, rfl, h1, h2, h3, h4, h5⟩ := hm
  have hs : w.heap.size ≤ (w3.alloc (dbox (0, 0))).heap.size := by rw [alloc_size]; have := hg.size; omega
  have hgr := grown_two (grown_new hg (dbox (0, 0))) h3 hg.size
  by_cases he : E.2.2 = 0
  · rw [if_pos he]
    obtain rfl := h4 he
    exact ⟨A, m, c, rfl, h1.less hs, h2, hgr⟩
  · rw [if_neg he]
    obtain rfl := h5 he
    exact ⟨A, m, c, rfl, h1.less hs, h2, hgr⟩

set_option maxHeartbeats 8000000 in
theorem pdotsr_any (w : World) (h B : Nat) (l : List Nat) (e : Nat) (most : Int) (k : Nu.PR w h B l e) (hB : B ≤ h) (hl : l.length ≤ 1048576) (hm1 : -9223372036854775808 ≤ most) (hm2 : most < 9223372036854775808) :
    Calls Tryz.prog 44 #[.pointer (some ⟨h, 0, none⟩), .int .i64 most] w (DotsGot w h B (dotsR most.toNat (l, e))) := by
  have hh : h < w.heap.size := k.lt
  have hS : dotsR most.toNat (l, e) = (if (dotsL (numN (l, e)) [] (dotsF most.toNat (l, e))).2.2 = 0 then dotsL (numN (l, e)) [] (dotsF most.toNat (l, e)) else ([], (dotsL (numN (l, e)) [] (dotsF most.toNat (l, e))).2)) := rfl
  have hF : dotsF most.toNat (l, e) = if most.toNat < numN (l, e) then failS 3 (numS (l, e)) else numS (l, e) := rfl
  have hv : numN (l, e) < big := Nu.numV_lt (Nu.small_of k)
  have hle : (numS (l, e)).1.length ≤ 1048576 := Nat.le_trans (numS_len (l, e)) hl
  have C1 := pnum_st w h B (l, e) k hB
  obtain ⟨D, hD⟩ : ∃ D, dotsR most.toNat (l, e) = D := ⟨_, rfl⟩
  obtain ⟨s1, hs1⟩ : ∃ s1, dotsF most.toNat (l, e) = s1 := ⟨_, rfl⟩
  obtain ⟨s0, hs0⟩ : ∃ s0, numS (l, e) = s0 := ⟨_, rfl⟩
  obtain ⟨num, hnum⟩ : ∃ num, numN (l, e) = num := ⟨_, rfl⟩
  obtain ⟨mo, hmo⟩ : ∃ mo, most.toNat = mo := ⟨_, rfl⟩
  rw [hD] at hS ⊢
  rw [hs1] at hF hS
  rw [hmo, hnum, hs0] at hF
  rw [hnum] at hS hv C1
  rw [hs0] at C1 hle
  have HS := Lib.hid hS
  have HF := Lib.hid hF
  have HLE := Lib.hid hle
  have HV := Lib.hid hv
  have hmax : (if most < 0 then 0 else most) = (mo : Int) := by split <;> omega
  have hmb : mo ≤ 9223372036854775807 := by omega
  have hw64 : IntKind.u64.wrap (mo : Int) = (mo : Int) := by rw [IntKind.wrap_u64]; omega
  clear hS hF hs1 hs0 hD hnum hle k hl hmo hv
  go_enter Tryz.func44, Tryz.ntmps44
  go_wp2_with fail
  refine C1.mono ?_
  rintro r w2 ⟨rfl, k2, g2⟩
  have K2 := Lib.hid k2
  have G2 := Lib.hid g2
  clear k2 g2 C1
  by_cases hlt : mo < num
  · have CF := Nu.fail_any w2 h B _ _ 3 K2.out hB (by decide)
    have hs : Hid (s1 = failS 3 s0) := Lib.hid (by rw [HF.out, if_pos hlt])
    have hd : decide (mo < num) = true := decide_eq_true hlt
    have hd' : decide ((mo : Int) < (num : Int)) = true := decide_eq_true (by omega)
    go_wp2_with fail
    refine CF.mono ?_
    rintro r w3 ⟨rfl, k3, g3⟩
    have G3 := Lib.hid (G2.out.trans g3)
    have hh3 : h < w3.heap.size := k3.lt
    have C3 := pldot_any (w3.alloc (dbox (0, 0))) h B w3.heap.size num s1 (by rw [hs.out]; exact pr_new k3 hB _) hB hh3 (Nu.At.new w3 _ _) (by rw [hs.out]; show 0 ≤ _; omega) HV.out
    clear k3 g3 CF
    go_wp2_with fail
    refine C3.mono ?_
    rintro r V hm
    have HM := Lib.hid (made_got G3.out hm)
    have HM2 := HM.out
    obtain ⟨A, m, c, rfl, _, _, _⟩ := HM2
    clear hm C3
    go_wp2
    go_ret
    rw [HS.out]
    exact HM.out
  · have hs : Hid (s1 = s0) := Lib.hid (by rw [HF.out, if_neg hlt])
    have hd : decide (mo < num) = false := decide_eq_false hlt
    have hd' : decide ((mo : Int) < (num : Int)) = false := decide_eq_false (by omega)
    have hh3 : h < w2.heap.size := K2.out.lt
    have C3 := pldot_any (w2.alloc (dbox (0, 0))) h B w2.heap.size num s1 (by rw [hs.out]; exact pr_new K2.out hB _) hB hh3 (Nu.At.new w2 _ _) (by rw [hs.out]; exact HLE.out) HV.out
    go_wp2_with fail
    refine C3.mono ?_
    rintro r V hm
    have HM := Lib.hid (made_got G2.out hm)
    have HM2 := HM.out
    obtain ⟨A, m, c, rfl, _, _, _⟩ := HM2
    clear hm C3
    go_wp2
    go_ret
    rw [HS.out]
    exact HM.out
end Go.Proofs.YtblgbbpbhcaodaaGreat.Dc

/- The contracts of the program's read and Get of layer ecode (gen-lget2.py printed it). -/
namespace Go.Proofs.YtblgbbpbhcaodaaGreat.Ec
open Go.ChangeShapes Go.WideShapes Go.ChangeAt Go.RowKit Go.Proofs.YtblgbbpbhcaodaaGreat.Dc
set_option linter.unusedVariables false
set_option maxRecDepth 4000

theorem pdot_st (w : World) (h B : Nat) (s : St) (k : RP h B w s) (hB : B ≤ h) :
    Calls Tryz.prog 41 #[.pointer (some ⟨h, 0, none⟩)] w fun r V => r = .returned (dval (dotR s).1) ∧ RP h B V (dotR s).2 ∧ w.grownBy V (some h) := pdot_any w h B s.1 s.2 k hB
theorem pbyte_st (w : World) (h B : Nat) (s : St) (k : RP h B w s) (hB : B ≤ h) :
    Calls Tryz.prog 42 #[.pointer (some ⟨h, 0, none⟩)] w fun r V => r = .returned (.int .u8 ((byteN s : Nat) : Int)) ∧ RP h B V (byteS s) ∧ w.grownBy V (some h) := Nu.byte_m w h B s.1 s.2 k hB
theorem pnum_st' (w : World) (h B : Nat) (s : St) (k : RP h B w s) (hB : B ≤ h) :
    Calls Tryz.prog 20 #[.pointer (some ⟨h, 0, none⟩)] w fun r V => r = .returned (.int .u64 ((numN s : Nat) : Int)) ∧ RP h B V (numS s) ∧ w.grownBy V (some h) := Nu.num_any w h B s.1 s.2 k hB
theorem ptext_st (w : World) (h B : Nat) (s : St) (k : RP h B w s) (hB : B ≤ h) :
    Calls Tryz.prog 43 #[.pointer (some ⟨h, 0, none⟩), .int .i64 60] w fun r V => r = .returned (.string (textN 60 s)) ∧ RP h B V (textS 60 s) ∧ w.grownBy V (some h) := Nu.text_any w h B s.1 s.2 60 k hB (by decide) (by decide)
theorem pfail_st (w : World) (h B : Nat) (s : St) (f : Nat) (k : RP h B w s) (hB : B ≤ h) (hf : f ≠ 0) :
    Calls Tryz.prog 21 #[.pointer (some ⟨h, 0, none⟩), .int .i64 (f : Int)] w fun r V => r = .returned (.tuple #[]) ∧ RP h B V (failS f s) ∧ w.grownBy V (some h) := Nu.fail_any w h B s.1 s.2 f k hB hf
theorem perr_st (w : World) (h B : Nat) (s : St) (k : RP h B w s) :
    Calls Tryz.prog 16 #[.pointer (some ⟨h, 0, none⟩)] w fun r V => r = .returned (.int .i64 (s.2 : Int)) ∧ w = V := Nu.err_any w h B s.1 s.2 k
theorem pdots_st (w : World) (h B : Nat) (s : St) (k : RP h B w s) (hB : B ≤ h) (hl : s.1.length ≤ 1048576) :
    Calls Tryz.prog 44 #[.pointer (some ⟨h, 0, none⟩), .int .i64 256] w fun r V => ∃ A' m c', r = .returned (.slice A' m c') ∧ DL w.heap.size V A' (dotsR 256 s).1 m c' ∧ RP h B V (dotsR 256 s).2 ∧ w.grownBy V (some h) :=
  pdotsr_any w h B s.1 s.2 256 k hB hl (by decide) (by decide)
theorem rp_small {h B : Nat} {w : World} {s : St} (k : RP h B w s) : Nu.Small s.1 := Nu.small_of k
theorem rp_sound {h B : Nat} {w : World} {s : St} (k : RP h B w s) : Sound s := sound_pr k

theorem fail_nz (s : St) : (failS 4 s).2 ≠ 0 := by
  show Nu.stopE s.2 4 ≠ 0
  unfold Nu.stopE
  split <;> omega
theorem qbox_cells {V : World} {g : Nat} {q : Ev.EV} (h : Nu.At V g 42 #[.int .u16 (q.dev : Int), .int .u64 (q.num : Int), .int .u8 (q.kind : Int), .int .u64 (q.cid : Int), .int .u8 (q.fld : Int), .string q.txt, .slice q.adr q.len q.cap]) :
    V.cell? ⟨g, 0, none⟩ = some (.int .u16 (q.dev : Int)) ∧ V.cell? ⟨g, 1, none⟩ = some (.int .u64 (q.num : Int)) ∧ V.cell? ⟨g, 2, none⟩ = some (.int .u8 (q.kind : Int)) ∧ V.cell? ⟨g, 3, none⟩ = some (.int .u64 (q.cid : Int)) ∧ V.cell? ⟨g, 4, none⟩ = some (.int .u8 (q.fld : Int)) ∧ V.cell? ⟨g, 5, none⟩ = some (.string q.txt) ∧ V.cell? ⟨g, 6, none⟩ = some (.slice q.adr q.len q.cap) :=
  ⟨h.cell 0, h.cell 1, h.cell 2, h.cell 3, h.cell 4, h.cell 5, h.cell 6⟩

set_option maxHeartbeats 16000000 in
theorem pread_any (w : World) (h B : Nat) (s : St) (k : RP h B w s) (hB : B ≤ h) (hl : s.1.length ≤ 1048576) :
    Calls Tryz.prog 29 #[.pointer (some ⟨h, 0, none⟩)] w (EvtGot (RP h B) w h (evtN s) (e6 s)) := by
  have r0 := rp_rdr hB
  have hh : h < w.heap.size := r0.lt k
  have G0 : Hid (GK (RP h B) w h (w.heap.size + 1) zcells s ((w.alloc zbox).alloc zbox)) := Lib.hid
    ⟨r0.new (r0.new k zbox) zbox, grown_new (grown_new (Nu.turn_refl w (some h)) zbox) zbox, (Nu.At.new w 42 zcells).kept (Nu.turn_below (below_new (w.alloc zbox) zbox) none) (by simp), by have h0 := Nu.At.new (w.alloc zbox) 42 zcells; rw [alloc_size] at h0; exact h0⟩
  have hN : evtN s = ⟨(dotR s).1, byteN (e1 s), numN (e2 s), byteN (e3 s), textN 60 (e4 s), (dotsR 256 (e5 s)).1⟩ := rfl
  have hfit := evtN_fits (s := s) (rp_small k)
  have hkil := evtN_kills (s := s) (rp_small k)
  have hl5 : (e5 s).1.length ≤ 1048576 := Nat.le_trans (e5_len s) hl
  have q1 : (dotR s).2 = e1 s := rfl
  have q2 : byteS (e1 s) = e2 s := rfl
  have q3 : numS (e2 s) = e3 s := rfl
  have q4 : byteS (e3 s) = e4 s := rfl
  have q5 : textS 60 (e4 s) = e5 s := rfl
  have q6 : (dotsR 256 (e5 s)).2 = e6 s := rfl
  have C1 := pdot_st ((w.alloc zbox).alloc zbox) h B s G0.out.rr hB
  rw [q1] at C1
  generalize e6 s = s6 at *
  generalize e5 s = s5 at *
  generalize e4 s = s4 at *
  generalize e3 s = s3 at *
  generalize e2 s = s2 at *
  generalize e1 s = s1 at *
  generalize evtN s = x at *
  generalize (dotR s).1 = d at *
  obtain ⟨kd, hkd⟩ : ∃ kd, byteN s1 = kd := ⟨_, rfl⟩
  obtain ⟨ci, hci⟩ : ∃ ci, numN s2 = ci := ⟨_, rfl⟩
  obtain ⟨fl, hfl⟩ : ∃ fl, byteN s3 = fl := ⟨_, rfl⟩
  obtain ⟨tx, htx⟩ : ∃ tx, textN 60 s4 = tx := ⟨_, rfl⟩
  obtain ⟨ks, hks⟩ : ∃ ks, (dotsR 256 s5).1 = ks := ⟨_, rfl⟩
  rw [hkd, hci, hfl, htx, hks] at hN
  have V2 := Lib.hid hkd
  have V3 := Lib.hid hci
  have V4 := Lib.hid hfl
  have V5 := Lib.hid htx
  have V6 := Lib.hid hks
  have hk8 : kd < 256 := by have h1 := hfit.kind; rw [hN] at h1; exact h1
  have hf8 : fl < 256 := by have h1 := hfit.fld; rw [hN] at h1; exact h1
  have HF := Lib.hid hfit
  have HKI := Lib.hid hkil
  have HL5 := Lib.hid hl5
  have P2 := Lib.hid q2
  have P3 := Lib.hid q3
  have P4 := Lib.hid q4
  have P5 := Lib.hid q5
  have P6 := Lib.hid q6
  have HX := Lib.hid hN
  clear hfit hkil hl5 q1 q2 q3 q4 q5 q6 hN k hl hkd hci hfl htx hks
  go_enter Tryz.func29, Tryz.ntmps29
  go_upto_region 2 with fail
  generalize (w.alloc zbox).alloc zbox = v0 at *
  have hw1 : w.heap.size < w.heap.size + 1 := Nat.lt_succ_self _
  obtain ⟨g, hg⟩ : ∃ g, w.heap.size + 1 = g := ⟨_, rfl⟩
  rw [hg] at G0 hw1
  try simp only [hg]
  go_wp2_with fail
  refine C1.mono ?_
  rintro r u1 ⟨rfl, k1, g1⟩
  have D1 := Lib.hid (G0.out.read hh hw1 k1 g1)
  have b0 := D1.out.box.cell 0
  have t0 := D1.out.box.frozen 0
  have D1' := Lib.hid (D1.out.put r0 hh hw1 0 (.int .u16 (d.1 : Int)))
  have b1 := D1'.out.box.cell 1
  have t1 := D1'.out.box.frozen 1
  simp at b0 b1
  have E1 : Hid (GK (RP h B) w h g #[.int .u16 (d.1 : Int), .int .u64 (d.2 : Int), .int .u8 0, .int .u64 0, .int .u8 0, .string ⟨#[]⟩, .slice none 0 0] s1 ((u1.setCell ⟨g, 0, none⟩ (.int .u16 (d.1 : Int))).setCell ⟨g, 1, none⟩ (.int .u64 (d.2 : Int)))) := Lib.hid (D1'.out.put r0 hh hw1 1 (.int .u64 (d.2 : Int)))
  clear k1 g1 C1 D1 D1' G0
  have C2 := pbyte_st _ h B s1 E1.out.rr hB
  rw [P2.out, V2.out] at C2
  go_wp2_with fail
  generalize (u1.setCell ⟨g, 0, none⟩ (.int .u16 (d.1 : Int))).setCell ⟨g, 1, none⟩ (.int .u64 (d.2 : Int)) = v1 at *
  refine C2.mono ?_
  rintro r u2 ⟨rfl, k2, g2⟩
  have D2 := Lib.hid (E1.out.read hh hw1 k2 g2)
  have b2 := D2.out.box.cell 2
  have t2 := D2.out.box.frozen 2
  simp at b2
  have E2 : Hid (GK (RP h B) w h g #[.int .u16 (d.1 : Int), .int .u64 (d.2 : Int), .int .u8 (kd : Int), .int .u64 0, .int .u8 0, .string ⟨#[]⟩, .slice none 0 0] s2 (u2.setCell ⟨g, 2, none⟩ (.int .u8 (kd : Int)))) := Lib.hid (D2.out.put r0 hh hw1 2 (.int .u8 (kd : Int)))
  have C3 := pnum_st' _ h B s2 E2.out.rr hB
  rw [P3.out, V3.out] at C3
  clear k2 g2 C2 D2 E1
  go_wp2_with fail
  generalize u2.setCell ⟨g, 2, none⟩ (.int .u8 (kd : Int)) = v2 at *
  refine C3.mono ?_
  rintro r u3 ⟨rfl, k3, g3⟩
  have D3 := Lib.hid (E2.out.read hh hw1 k3 g3)
  have b3 := D3.out.box.cell 3
  have t3 := D3.out.box.frozen 3
  simp at b3
  have E3 : Hid (GK (RP h B) w h g #[.int .u16 (d.1 : Int), .int .u64 (d.2 : Int), .int .u8 (kd : Int), .int .u64 (ci : Int), .int .u8 0, .string ⟨#[]⟩, .slice none 0 0] s3 (u3.setCell ⟨g, 3, none⟩ (.int .u64 (ci : Int)))) := Lib.hid (D3.out.put r0 hh hw1 3 (.int .u64 (ci : Int)))
  have C4 := pbyte_st _ h B s3 E3.out.rr hB
  rw [P4.out, V4.out] at C4
  clear k3 g3 C3 D3 E2
  go_wp2_with fail
  generalize u3.setCell ⟨g, 3, none⟩ (.int .u64 (ci : Int)) = v3 at *
  refine C4.mono ?_
  rintro r u4 ⟨rfl, k4, g4⟩
  have D4 := Lib.hid (E3.out.read hh hw1 k4 g4)
  have b4 := D4.out.box.cell 4
  have t4 := D4.out.box.frozen 4
  simp at b4
  have E4 : Hid (GK (RP h B) w h g #[.int .u16 (d.1 : Int), .int .u64 (d.2 : Int), .int .u8 (kd : Int), .int .u64 (ci : Int), .int .u8 (fl : Int), .string ⟨#[]⟩, .slice none 0 0] s4 (u4.setCell ⟨g, 4, none⟩ (.int .u8 (fl : Int)))) := Lib.hid (D4.out.put r0 hh hw1 4 (.int .u8 (fl : Int)))
  have C5 := ptext_st _ h B s4 E4.out.rr hB
  rw [P5.out, V5.out] at C5
  clear k4 g4 C4 D4 E3
  go_wp2_with fail
  generalize u4.setCell ⟨g, 4, none⟩ (.int .u8 (fl : Int)) = v4 at *
  refine C5.mono ?_
  rintro r u5 ⟨rfl, k5, g5⟩
  have D5 := Lib.hid (E4.out.read hh hw1 k5 g5)
  have b5 := D5.out.box.cell 5
  have t5 := D5.out.box.frozen 5
  simp at b5
  have E5 : Hid (GK (RP h B) w h g #[.int .u16 (d.1 : Int), .int .u64 (d.2 : Int), .int .u8 (kd : Int), .int .u64 (ci : Int), .int .u8 (fl : Int), .string tx, .slice none 0 0] s5 (u5.setCell ⟨g, 5, none⟩ (.string tx))) := Lib.hid (D5.out.put r0 hh hw1 5 (.string tx))
  have C6 := pdots_st _ h B s5 E5.out.rr hB HL5.out
  rw [P6.out, V6.out] at C6
  clear k5 g5 C5 D5 E4
  go_wp2_with fail
  generalize u5.setCell ⟨g, 5, none⟩ (.string tx) = v5 at *
  refine C6.mono ?_
  rintro r u6 ⟨A6, m6, c6, rfl, d6, k6, g6⟩
  have hgv : g < v5.heap.size := E5.out.box.lt
  have D6 := Lib.hid (E5.out.read hh hw1 k6 g6)
  have b6 := D6.out.box.cell 6
  have t6 := D6.out.box.frozen 6
  simp at b6
  have E6 : Hid (GK (RP h B) w h g #[.int .u16 (d.1 : Int), .int .u64 (d.2 : Int), .int .u8 (kd : Int), .int .u64 (ci : Int), .int .u8 (fl : Int), .string tx, .slice A6 m6 c6] s6 (u6.setCell ⟨g, 6, none⟩ (.slice A6 m6 c6))) := Lib.hid (D6.out.put r0 hh hw1 6 (.slice A6 m6 c6))
  have hxx := HX.out
  subst hxx
  have O6 := Lib.hid ((eo_made (w := v5) HF.out d6 HKI.out (Nat.le_refl _)).turn (Nu.turn_set u6 g 6 (.slice A6 m6 c6)) (fun q e => by cases e; exact hgv))
  have hlow : Hid (w.heap.size + 1 ≤ v5.heap.size) := Lib.hid (by omega)
  have e0 := E6.out.box.cell 0
  have e1 := E6.out.box.cell 1
  have e2 := E6.out.box.cell 2
  have e3 := E6.out.box.cell 3
  have e4 := E6.out.box.cell 4
  have e5 := E6.out.box.cell 5
  have e6 := E6.out.box.cell 6
  simp at e0 e1 e2 e3 e4 e5 e6
  clear C6 d6 k6 g6 D6 E5 HF HKI HX
  go_upto_region 8 with fail
  generalize u6.setCell ⟨g, 6, none⟩ (.slice A6 m6 c6) = v6 at *
  have Q1 := E6.out.res.set 0 (.int .u16 (d.1 : Int))
  have Q2 := Q1.set 1 (.int .u64 (d.2 : Int))
  have Q3 := Q2.set 2 (.int .u8 (kd : Int))
  have Q4 := Q3.set 3 (.int .u64 (ci : Int))
  have Q5 := Q4.set 4 (.int .u8 (fl : Int))
  have Q6 := Q5.set 5 (.string tx)
  have Q7 := Q6.set 6 (.slice A6 m6 c6)
  have z0 := E6.out.res.cell 0
  have f0 := E6.out.res.frozen 0
  have z1 := Q1.cell 1
  have f1 := Q1.frozen 1
  have z2 := Q2.cell 2
  have f2 := Q2.frozen 2
  have z3 := Q3.cell 3
  have f3 := Q3.frozen 3
  have z4 := Q4.cell 4
  have f4 := Q4.frozen 4
  have z5 := Q5.cell 5
  have f5 := Q5.frozen 5
  have z6 := Q6.cell 6
  have f6 := Q6.frozen 6
  have y0 := Q7.cell 0
  have y1 := Q7.cell 1
  have y2 := Q7.cell 2
  have y3 := Q7.cell 3
  have y4 := Q7.cell 4
  have y5 := Q7.cell 5
  have y6 := Q7.cell 6
  simp at z0 z1 z2 z3 z4 z5 z6 y0 y1 y2 y3 y4 y5 y6
  clear Q1 Q2 Q3 Q4 Q5 Q6 Q7
  have HG := Lib.hid (E6.out.done r0 hh (O6.out.less hlow.out) (.int .u16 (d.1 : Int)) (.int .u64 (d.2 : Int)) (.int .u8 (kd : Int)) (.int .u64 (ci : Int)) (.int .u8 (fl : Int)) (.string tx) (.slice A6 m6 c6))
  go_wp2
  refine bodyPost_ret (v := Ev.EV.val ⟨d.1, d.2, kd, ci, fl, tx, A6, m6, c6⟩) ?_ rfl ?_
  · simp [results, Tryz.f29, go_sem, y0, y1, y2, y3, y4, y5, y6]
  · exact HG.out

set_option maxHeartbeats 16000000 in
theorem pget_any (w : World) (h B : Nat) (s : St) (k : RP h B w s) (hB : B ≤ h) (hl : s.1.length ≤ 1048576) :
    Calls Tryz.prog 14 #[.pointer (some ⟨h, 0, none⟩)] w (EvtGot (RP h B) w h (evtR s).1 (evtR s).2) := by
  have r0 := rp_rdr hB
  have hh : h < w.heap.size := r0.lt k
  have K0 := Lib.hid (r0.new k zbox)
  have G0 := Lib.hid (grown_new (Nu.turn_refl w (some h)) zbox)
  have R0 := Lib.hid (Nu.At.new w 42 zcells)
  have hR : evtR s = if (e6 s).2 = 0 ∧ Ev.goodE (evtN s) = true then (evtN s, e6 s) else (evtZ, failS 4 (e6 s)) := rfl
  have hsnd := e6_sound (s := s) (rp_sound k)
  have C1 := pread_any (w.alloc zbox) h B s K0.out hB hl
  generalize evtR s = D at *
  generalize e6 s = s6 at *
  generalize evtN s = x at *
  have HR := Lib.hid hR
  have HSN := Lib.hid hsnd
  clear hR hsnd k hl
  go_enter Tryz.func14, Tryz.ntmps14
  go_wp2_with fail
  refine C1.mono ?_
  rintro r w1 ⟨q, rfl, o1, k1, g1⟩
  have hw1 : w.heap.size < w1.heap.size := by have := g1.size; rw [alloc_size] at this; omega
  have E1 : Hid (GK (RP h B) w h w1.heap.size #[.int .u16 (q.dev : Int), .int .u64 (q.num : Int), .int .u8 (q.kind : Int), .int .u64 (q.cid : Int), .int .u8 (q.fld : Int), .string q.txt, .slice q.adr q.len q.cap] s6 (w1.alloc q.box)) := Lib.hid
    ⟨r0.new k1 _, grown_new (G0.out.trans g1) _, (R0.out.kept g1 (fun e => by cases e; omega)).kept (Nu.turn_below (below_new w1 _) none) (by simp), Nu.At.new w1 _ _⟩
  have O1 : Hid (EO (w.heap.size + 1) (w1.alloc q.box) q x) := Lib.hid ((o1.less (by rw [alloc_size]; exact Nat.le_refl _)).below (below_new w1 q.box))
  have GD := Ev.pgoodE_any _ _ _ O1.out.is
  simp only [Ev.EV.val] at GD
  clear k1 g1 o1 K0 G0 R0 C1
  go_upto_region 2 with fail
  generalize w1.alloc q.box = v1 at *
  generalize w1.heap.size = g at *
  obtain ⟨x0, x1, x2, x3, x4, x5, x6⟩ := qbox_cells E1.out.box
  cases hgd : Ev.goodE x with
  | true =>
    rw [hgd] at GD
    go_wp2_with fail
    refine GD.mono ?_
    rintro r v2 ⟨rfl, hb2⟩
    have E2 := Lib.hid (E1.out.below r0 hb2)
    have O2 := Lib.hid (O1.out.below hb2)
    have CERR := perr_st v2 h B s6 E2.out.rr
    clear hb2 GD x0 x1 x2 x3 x4 x5 x6 E1 O1
    go_wp2_with fail
    refine CERR.mono ?_
    rintro r v2' ⟨rfl, rfl⟩
    obtain ⟨x0, x1, x2, x3, x4, x5, x6⟩ := qbox_cells E2.out.box
    clear CERR
    by_cases he : s6.2 = 0
    · have hb0 : (((s6.2 : Nat) : Int) == 0) = true := by rw [he]; rfl
      have hb1 : (((s6.2 : Nat) : Int) != 0) = false := by rw [he]; rfl
      have HD : Hid (D = (x, s6)) := Lib.hid (by rw [HR.out]; exact if_pos ⟨he, hgd⟩)
      have Q1 := E2.out.res.set 0 (.int .u16 (q.dev : Int))
      have Q2 := Q1.set 1 (.int .u64 (q.num : Int))
      have Q3 := Q2.set 2 (.int .u8 (q.kind : Int))
      have Q4 := Q3.set 3 (.int .u64 (q.cid : Int))
      have Q5 := Q4.set 4 (.int .u8 (q.fld : Int))
      have Q6 := Q5.set 5 (.string q.txt)
      have Q7 := Q6.set 6 (.slice q.adr q.len q.cap)
      have z0 := E2.out.res.cell 0
      have f0 := E2.out.res.frozen 0
      have z1 := Q1.cell 1
      have f1 := Q1.frozen 1
      have z2 := Q2.cell 2
      have f2 := Q2.frozen 2
      have z3 := Q3.cell 3
      have f3 := Q3.frozen 3
      have z4 := Q4.cell 4
      have f4 := Q4.frozen 4
      have z5 := Q5.cell 5
      have f5 := Q5.frozen 5
      have z6 := Q6.cell 6
      have f6 := Q6.frozen 6
      have y0 := Q7.cell 0
      have y1 := Q7.cell 1
      have y2 := Q7.cell 2
      have y3 := Q7.cell 3
      have y4 := Q7.cell 4
      have y5 := Q7.cell 5
      have y6 := Q7.cell 6
      simp at z0 z1 z2 z3 z4 z5 z6 y0 y1 y2 y3 y4 y5 y6
      clear Q1 Q2 Q3 Q4 Q5 Q6 Q7
      have HG := Lib.hid (E2.out.done r0 hh O2.out (.int .u16 (q.dev : Int)) (.int .u64 (q.num : Int)) (.int .u8 (q.kind : Int)) (.int .u64 (q.cid : Int)) (.int .u8 (q.fld : Int)) (.string q.txt) (.slice q.adr q.len q.cap))
      go_wp2
      refine bodyPost_ret (v := q.val) ?_ rfl ?_
      · simp [results, Tryz.f14, go_sem, y0, y1, y2, y3, y4, y5, y6]
      · rw [HD.out]
        exact HG.out
    · have hb0 : (((s6.2 : Nat) : Int) == 0) = false := by rw [beq_eq_false_iff_ne]; omega
      have hb1 : (((s6.2 : Nat) : Int) != 0) = true := by rw [bne, hb0]; rfl
      have HD : Hid (D = (evtZ, s6)) := Lib.hid (by rw [HR.out, if_neg (fun h2 => he h2.1), fail_self' HSN.out he])
      have Q1 := E2.out.res.set 0 (.int .u16 0)
      have Q2 := Q1.set 1 (.int .u64 0)
      have Q3 := Q2.set 2 (.int .u8 0)
      have Q4 := Q3.set 3 (.int .u64 0)
      have Q5 := Q4.set 4 (.int .u8 0)
      have Q6 := Q5.set 5 (.string ⟨#[]⟩)
      have Q7 := Q6.set 6 (.slice none 0 0)
      have z0 := E2.out.res.cell 0
      have f0 := E2.out.res.frozen 0
      have z1 := Q1.cell 1
      have f1 := Q1.frozen 1
      have z2 := Q2.cell 2
      have f2 := Q2.frozen 2
      have z3 := Q3.cell 3
      have f3 := Q3.frozen 3
      have z4 := Q4.cell 4
      have f4 := Q4.frozen 4
      have z5 := Q5.cell 5
      have f5 := Q5.frozen 5
      have z6 := Q6.cell 6
      have f6 := Q6.frozen 6
      have y0 := Q7.cell 0
      have y1 := Q7.cell 1
      have y2 := Q7.cell 2
      have y3 := Q7.cell 3
      have y4 := Q7.cell 4
      have y5 := Q7.cell 5
      have y6 := Q7.cell 6
      simp at z0 z1 z2 z3 z4 z5 z6 y0 y1 y2 y3 y4 y5 y6
      clear Q1 Q2 Q3 Q4 Q5 Q6 Q7
      have HG := Lib.hid (E2.out.done r0 hh (EO.none_ (w.heap.size + 1) v2) (.int .u16 0) (.int .u64 0) (.int .u8 0) (.int .u64 0) (.int .u8 0) (.string ⟨#[]⟩) (.slice none 0 0))
      go_wp2
      refine bodyPost_ret (v := Ev.EV.val ⟨0, 0, 0, 0, 0, ⟨#[]⟩, none, 0, 0⟩) ?_ rfl ?_
      · simp [results, Tryz.f14, go_sem, y0, y1, y2, y3, y4, y5, y6]
      · rw [HD.out]
        exact HG.out
  | false =>
    rw [hgd] at GD
    have HD : Hid (D = (evtZ, failS 4 s6)) := Lib.hid (by rw [HR.out]; exact if_neg (fun h2 => by rw [hgd] at h2; cases h2.2))
    go_wp2_with fail
    refine GD.mono ?_
    rintro r v2 ⟨rfl, hb2⟩
    have E2 := Lib.hid (E1.out.below r0 hb2)
    have CF := pfail_st v2 h B s6 4 E2.out.rr hB (by decide)
    have hne := fail_nz s6
    generalize failS 4 s6 = s8 at *
    clear hb2 GD x0 x1 x2 x3 x4 x5 x6 E1 O1
    go_wp2_with fail
    refine CF.mono ?_
    rintro r v3 ⟨rfl, k3, g3⟩
    have E3 := Lib.hid (E2.out.read hh hw1 k3 g3)
    have CERR := perr_st v3 h B s8 E3.out.rr
    have hb0 : (((s8.2 : Nat) : Int) == 0) = false := by rw [beq_eq_false_iff_ne]; omega
    have hb1 : (((s8.2 : Nat) : Int) != 0) = true := by rw [bne, hb0]; rfl
    clear k3 g3 CF E2
    go_wp2_with fail
    refine CERR.mono ?_
    rintro r v3' ⟨rfl, rfl⟩
    have Q1 := E3.out.res.set 0 (.int .u16 0)
    have Q2 := Q1.set 1 (.int .u64 0)
    have Q3 := Q2.set 2 (.int .u8 0)
    have Q4 := Q3.set 3 (.int .u64 0)
    have Q5 := Q4.set 4 (.int .u8 0)
    have Q6 := Q5.set 5 (.string ⟨#[]⟩)
    have Q7 := Q6.set 6 (.slice none 0 0)
    have z0 := E3.out.res.cell 0
    have f0 := E3.out.res.frozen 0
    have z1 := Q1.cell 1
    have f1 := Q1.frozen 1
    have z2 := Q2.cell 2
    have f2 := Q2.frozen 2
    have z3 := Q3.cell 3
    have f3 := Q3.frozen 3
    have z4 := Q4.cell 4
    have f4 := Q4.frozen 4
    have z5 := Q5.cell 5
    have f5 := Q5.frozen 5
    have z6 := Q6.cell 6
    have f6 := Q6.frozen 6
    have y0 := Q7.cell 0
    have y1 := Q7.cell 1
    have y2 := Q7.cell 2
    have y3 := Q7.cell 3
    have y4 := Q7.cell 4
    have y5 := Q7.cell 5
    have y6 := Q7.cell 6
    simp at z0 z1 z2 z3 z4 z5 z6 y0 y1 y2 y3 y4 y5 y6
    clear Q1 Q2 Q3 Q4 Q5 Q6 Q7
    have HG := Lib.hid (E3.out.done r0 hh (EO.none_ (w.heap.size + 1) v3) (.int .u16 0) (.int .u64 0) (.int .u8 0) (.int .u64 0) (.int .u8 0) (.string ⟨#[]⟩) (.slice none 0 0))
    clear CERR
    go_wp2
    refine bodyPost_ret (v := Ev.EV.val ⟨0, 0, 0, 0, 0, ⟨#[]⟩, none, 0, 0⟩) ?_ rfl ?_
    · simp [results, Tryz.f14, go_sem, y0, y1, y2, y3, y4, y5, y6]
    · rw [HD.out]
      exact HG.out
end Go.Proofs.YtblgbbpbhcaodaaGreat.Ec
