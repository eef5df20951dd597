/- The contracts of the program's byDot and oneDot of layer event: which event's dot stands ahead, and whether two events have one dot. For every two events. -/
import Derived.Test.YtbaiiidkffafmaaESide
import Derived.Test.YtbaiiidkffafmaaPSort
import Derived.Test.YtbaiiidkffafmaaStE
namespace Go.Proofs.Ytbaiiidkffafmaa.Ev
open Go.ChangeShapes Go.WideShapes Go.ChangeAt Go.RowKit
set_option linter.unusedVariables false
set_option maxRecDepth 4000

/-- an event's dot, as it stands in memory. -/
def EV.dot (p : EV) : Dt.Dot := (p.dev, p.num)
/-- how two events' dots stand. -/
def cmpE (p q : EV) : Int := Dt.cmpD p.dot q.dot
/-- have two events one dot? -/
def oneE (p q : EV) : Bool := decide (p.dot = q.dot)
theorem boxes_grow (w : World) (p q : EV) : (w.alloc p.box).alloc q.box = Sort.grow w (#[p.box] ++ #[q.box]) := by rw [Sort.alloc_eq_grow, Sort.alloc_eq_grow, Sort.grow_grow]
set_option maxHeartbeats 2000000 in
theorem bydot_any (w : World) (p q : EV) : Calls Try.prog 38 #[p.val, q.val] w fun e w' => e = .returned (.int .i64 (cmpE p q)) ∧ ∃ n os, w' = Sort.grow (w.drewN n) os := by
  have CC := Dt.closure_any p.dot q.dot ((w.alloc p.box).alloc q.box)
  have HG := Lib.hid (boxes_grow w p q)
  have hb1 := box_first w p (EV.box q)
  have hb2 := box_last w (EV.box p) q
  show Calls Try.prog 38 #[p.val, q.val] w fun e w' => e = .returned (.int .i64 (Dt.cmpD p.dot q.dot)) ∧ ∃ n os, w' = Sort.grow (w.drewN n) os
  generalize Dt.cmpD p.dot q.dot = cv at CC ⊢
  simp only [EV.dot] at CC
  obtain ⟨p1, p2, p3, p4, p5, p6, pA, pn, pc⟩ := p
  obtain ⟨q1, q2, q3, q4, q5, q6, qA, qn, qc⟩ := q
  obtain ⟨a0, a1, a2, a3, a4, a5, a6⟩ := hb1
  obtain ⟨b0, b1, b2, b3, b4, b5, b6⟩ := hb2
  simp only [EV.val]
  simp only [EV.box, Nat.zero_add] at HG CC a0 a1 a2 a3 a4 a5 a6 b0 b1 b2 b3 b4 b5 b6
  go_enter Try.func38, Try.ntmps38
  go_wp2_with fail
  refine CC.mono ?_
  rintro e w' ⟨rfl, n, os, hw'⟩
  have HW := Lib.hid hw'
  clear hw' CC
  go_wp2
  go_ret
  exact ⟨rfl, n, _, by
    rw [HW.out, HG.out]
    show Sort.grow (Sort.grow (w.drewN n) _) os = _
    rw [Sort.grow_grow]⟩
set_option maxHeartbeats 2000000 in
theorem onedot_any (w : World) (p q : EV) : Calls Try.prog 34 #[p.val, q.val] w fun e w' => e = .returned (.bool (oneE p q)) ∧ ∃ n os, w' = Sort.grow (w.drewN n) os := by
  have HG := Lib.hid (boxes_grow w p q)
  have hb1 := box_first w p (EV.box q)
  have hb2 := box_last w (EV.box p) q
  obtain ⟨p1, p2, p3, p4, p5, p6, pA, pn, pc⟩ := p
  obtain ⟨q1, q2, q3, q4, q5, q6, qA, qn, qc⟩ := q
  have hd : oneE ⟨p1, p2, p3, p4, p5, p6, pA, pn, pc⟩ ⟨q1, q2, q3, q4, q5, q6, qA, qn, qc⟩ = (decide (p1 = q1) && decide (p2 = q2)) := by
    unfold oneE EV.dot
    rw [Bool.eq_iff_iff]
    simp
  rw [hd]
  clear hd
  obtain ⟨a0, a1, a2, a3, a4, a5, a6⟩ := hb1
  obtain ⟨b0, b1, b2, b3, b4, b5, b6⟩ := hb2
  simp only [EV.val]
  simp only [EV.box, Nat.zero_add] at HG a0 a1 a2 a3 a4 a5 a6 b0 b1 b2 b3 b4 b5 b6
  by_cases e1 : p1 = q1
  · subst e1
    by_cases e2 : p2 = q2
    · subst e2
      rw [decide_eq_true rfl, decide_eq_true rfl]
      go_enter Try.func34, Try.ntmps34
      go_wp2
      go_ret
      exact ⟨rfl, 0, _, HG.out⟩
    · have hb := beq_nat e2
      rw [decide_eq_true rfl, decide_eq_false e2]
      clear e2
      go_enter Try.func34, Try.ntmps34
      go_wp2
      go_ret
      exact ⟨rfl, 0, _, HG.out⟩
  · have hb := beq_nat e1
    rw [decide_eq_false e1, Bool.false_and]
    clear e1
    go_enter Try.func34, Try.ntmps34
    go_wp2
    go_ret
    exact ⟨rfl, 0, _, HG.out⟩
theorem lt_dot (p q : EV) : ltOf cmpE p q = Dt.aheadD p.dot q.dot := Dt.ltD p.dot q.dot
theorem swoE : Sort.SWO (ltOf cmpE) where
  irrefl x := Dt.swoD.irrefl x.dot
  trans x y z h1 h2 := Dt.swoD.trans x.dot y.dot z.dot h1 h2
  ntrans x y z h1 h2 := Dt.swoD.ntrans x.dot y.dot z.dot h1 h2
end Go.Proofs.Ytbaiiidkffafmaa.Ev
