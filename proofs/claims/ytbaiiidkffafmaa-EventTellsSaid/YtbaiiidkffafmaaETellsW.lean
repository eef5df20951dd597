/- EventTells: the law's walk. -/
import Derived.Test.YtbaiiidkffafmaaESide
import Derived.Deep.DeepCutAuto
namespace Go.Proofs.Ytbaiiidkffafmaa.Ev
open Go.ChangeShapes Go.WideShapes Go.ChangeAt Go.RowKit
set_option linter.unusedVariables false

/-- a row of two events. -/
theorem evts_two (W : World) (p q : EV) (x y : Evt) (hp : EventIs W W.heap.size p x) (hq : EventIs W W.heap.size q y) :
    EventsAt (W.alloc (.cells #[.int .u16 (p.dev : Int), .int .u64 (p.num : Int), .int .u8 (p.kind : Int), .int .u64 (p.cid : Int), .int .u8 (p.fld : Int), .string p.txt, .slice p.adr p.len p.cap, .int .u16 (q.dev : Int), .int .u64 (q.num : Int), .int .u8 (q.kind : Int), .int .u64 (q.cid : Int), .int .u8 (q.fld : Int), .string q.txt, .slice q.adr q.len q.cap] 28)) (W.alloc (.cells #[.int .u16 (p.dev : Int), .int .u64 (p.num : Int), .int .u8 (p.kind : Int), .int .u64 (p.cid : Int), .int .u8 (p.fld : Int), .string p.txt, .slice p.adr p.len p.cap, .int .u16 (q.dev : Int), .int .u64 (q.num : Int), .int .u8 (q.kind : Int), .int .u64 (q.cid : Int), .int .u8 (q.fld : Int), .string q.txt, .slice q.adr q.len q.cap] 28)).heap.size (some ⟨W.heap.size, 0, none⟩) [x, y] 2 2 := by
  refine ⟨rfl, (fun e => by cases e), Nat.le_refl _, by decide, by decide, [p, q], fun _ => ⟨_, rfl, by rw [alloc_size]; exact Nat.lt_succ_self _, fun j u hu => ?_⟩, rfl, fun k r z hr hz => ?_⟩
  · rw [Dt.zero_add, World.cell?_alloc_new]
    have e : ev [p, q] = p.cells ++ q.cells := by simp [ev]
    rw [e] at hu
    simpa using hu
  · have h2 : k = 0 ∨ k = 1 := by have := (List.getElem?_eq_some_iff.1 hr).1; simp at this; omega
    rcases h2 with rfl | rfl
    · cases hr; cases hz; exact hp.up (below_new W _)
    · cases hr; cases hz; exact hq.up (below_new W _)
theorem evt_dot_eq {x y : Evt} (h : ¬ x.dot = y.dot) : (decide (x.dot = y.dot) && !decide (x = y)) = false := by rw [decide_eq_false h]; rfl

set_option maxHeartbeats 16000000 in
theorem tells_many (P : PEvent) (w : World) (p q : EV) (x y : Evt) (d : Dt.Dot) (hp : EventIs w w.heap.size p x) (hq : EventIs w w.heap.size q y) (hd : d.1 < 65536 ∧ d.2 < 18446744073709551616) (hfew : fewB [x, y] 2 = false) :
    Calls Try.prog 3 #[p.val, q.val, .agg #[.int .u16 (d.1 : Int), .int .u64 (d.2 : Int)]] w fun e w' => e = .returned (.bool true) ∧ Below w.heap.size w w' := by
  have hxd := is_dot hp
  have hyd := is_dot hq
  obtain ⟨p1, p2, p3, p4, p5, p6, pA, pn, pc⟩ := p
  obtain ⟨q1, q2, q3, q4, q5, q6, qA, qn, qc⟩ := q
  obtain ⟨d1, d2⟩ := d
  simp only [EV.val]
  simp only at hxd hyd
  have HB := Lib.hid (below_new3 w (.cells #[.int .u16 (p1 : Int), .int .u64 (p2 : Int), .int .u8 (p3 : Int), .int .u64 (p4 : Int), .int .u8 (p5 : Int), .string p6, .slice pA pn pc] 28) (.cells #[.int .u16 (q1 : Int), .int .u64 (q2 : Int), .int .u8 (q3 : Int), .int .u64 (q4 : Int), .int .u8 (q5 : Int), .string q6, .slice qA qn qc] 28) (.cells #[.int .u16 (d1 : Int), .int .u64 (d2 : Int)] 25))
  have HP := Lib.hid (hp.up HB.out)
  have HQ := Lib.hid (hq.up HB.out)
  have h1 := (box_new w ⟨p1, p2, p3, p4, p5, p6, pA, pn, pc⟩ (((w.alloc (.cells #[.int .u16 (p1 : Int), .int .u64 (p2 : Int), .int .u8 (p3 : Int), .int .u64 (p4 : Int), .int .u8 (p5 : Int), .string p6, .slice pA pn pc] 28)).alloc (.cells #[.int .u16 (q1 : Int), .int .u64 (q2 : Int), .int .u8 (q3 : Int), .int .u64 (q4 : Int), .int .u8 (q5 : Int), .string q6, .slice qA qn qc] 28)).alloc (.cells #[.int .u16 (d1 : Int), .int .u64 (d2 : Int)] 25)) (by have h := below_new2 (w.alloc (.cells #[.int .u16 (p1 : Int), .int .u64 (p2 : Int), .int .u8 (p3 : Int), .int .u64 (p4 : Int), .int .u8 (p5 : Int), .string p6, .slice pA pn pc] 28)) (.cells #[.int .u16 (q1 : Int), .int .u64 (q2 : Int), .int .u8 (q3 : Int), .int .u64 (q4 : Int), .int .u8 (q5 : Int), .string q6, .slice qA qn qc] 28) (.cells #[.int .u16 (d1 : Int), .int .u64 (d2 : Int)] 25); rw [alloc_size] at h; exact h)).all
  have h2 := (box_new (w.alloc (.cells #[.int .u16 (p1 : Int), .int .u64 (p2 : Int), .int .u8 (p3 : Int), .int .u64 (p4 : Int), .int .u8 (p5 : Int), .string p6, .slice pA pn pc] 28)) ⟨q1, q2, q3, q4, q5, q6, qA, qn, qc⟩ (((w.alloc (.cells #[.int .u16 (p1 : Int), .int .u64 (p2 : Int), .int .u8 (p3 : Int), .int .u64 (p4 : Int), .int .u8 (p5 : Int), .string p6, .slice pA pn pc] 28)).alloc (.cells #[.int .u16 (q1 : Int), .int .u64 (q2 : Int), .int .u8 (q3 : Int), .int .u64 (q4 : Int), .int .u8 (q5 : Int), .string q6, .slice qA qn qc] 28)).alloc (.cells #[.int .u16 (d1 : Int), .int .u64 (d2 : Int)] 25)) (by have h := below_new ((w.alloc (.cells #[.int .u16 (p1 : Int), .int .u64 (p2 : Int), .int .u8 (p3 : Int), .int .u64 (p4 : Int), .int .u8 (p5 : Int), .string p6, .slice pA pn pc] 28)).alloc (.cells #[.int .u16 (q1 : Int), .int .u64 (q2 : Int), .int .u8 (q3 : Int), .int .u64 (q4 : Int), .int .u8 (q5 : Int), .string q6, .slice qA qn qc] 28)) (.cells #[.int .u16 (d1 : Int), .int .u64 (d2 : Int)] 25); rw [alloc_size] at h; exact h)).all
  rw [alloc_size] at h2
  have h3 : (((w.alloc (.cells #[.int .u16 (p1 : Int), .int .u64 (p2 : Int), .int .u8 (p3 : Int), .int .u64 (p4 : Int), .int .u8 (p5 : Int), .string p6, .slice pA pn pc] 28)).alloc (.cells #[.int .u16 (q1 : Int), .int .u64 (q2 : Int), .int .u8 (q3 : Int), .int .u64 (q4 : Int), .int .u8 (q5 : Int), .string q6, .slice qA qn qc] 28)).alloc (.cells #[.int .u16 (d1 : Int), .int .u64 (d2 : Int)] 25)).cell? ⟨w.heap.size + 1 + 1, 0, none⟩ = some (.int .u16 (d1 : Int)) ∧ (((w.alloc (.cells #[.int .u16 (p1 : Int), .int .u64 (p2 : Int), .int .u8 (p3 : Int), .int .u64 (p4 : Int), .int .u8 (p5 : Int), .string p6, .slice pA pn pc] 28)).alloc (.cells #[.int .u16 (q1 : Int), .int .u64 (q2 : Int), .int .u8 (q3 : Int), .int .u64 (q4 : Int), .int .u8 (q5 : Int), .string q6, .slice qA qn qc] 28)).alloc (.cells #[.int .u16 (d1 : Int), .int .u64 (d2 : Int)] 25)).cell? ⟨w.heap.size + 1 + 1, 1, none⟩ = some (.int .u64 (d2 : Int)) := by constructor <;> simp [go_sem]
  simp only at h1 h2
  clear hp hq
  go_enter Try.func3, Try.ntmps3
  go_upto_region 1 with fail
  generalize ((w.alloc (.cells #[.int .u16 (p1 : Int), .int .u64 (p2 : Int), .int .u8 (p3 : Int), .int .u64 (p4 : Int), .int .u8 (p5 : Int), .string p6, .slice pA pn pc] 28)).alloc (.cells #[.int .u16 (q1 : Int), .int .u64 (q2 : Int), .int .u8 (q3 : Int), .int .u64 (q4 : Int), .int .u8 (q5 : Int), .string q6, .slice qA qn qc] 28)).alloc (.cells #[.int .u16 (d1 : Int), .int .u64 (d2 : Int)] 25) = w3 at *
  generalize w.heap.size + 1 + 1 = b3 at *
  generalize w.heap.size + 1 = b2 at *
  generalize hb1 : w.heap.size = b1 at h1 ⊢
  have HK : Hid (∀ V, Below w3.heap.size w3 V → (V.cell? ⟨b1, 0, none⟩ = some (.int .u16 (p1 : Int)) ∧ V.cell? ⟨b1, 1, none⟩ = some (.int .u64 (p2 : Int)) ∧ V.cell? ⟨b1, 2, none⟩ = some (.int .u8 (p3 : Int)) ∧ V.cell? ⟨b1, 3, none⟩ = some (.int .u64 (p4 : Int)) ∧ V.cell? ⟨b1, 4, none⟩ = some (.int .u8 (p5 : Int)) ∧ V.cell? ⟨b1, 5, none⟩ = some (.string p6) ∧ V.cell? ⟨b1, 6, none⟩ = some (.slice pA pn pc)) ∧ (V.cell? ⟨b2, 0, none⟩ = some (.int .u16 (q1 : Int)) ∧ V.cell? ⟨b2, 1, none⟩ = some (.int .u64 (q2 : Int)) ∧ V.cell? ⟨b2, 2, none⟩ = some (.int .u8 (q3 : Int)) ∧ V.cell? ⟨b2, 3, none⟩ = some (.int .u64 (q4 : Int)) ∧ V.cell? ⟨b2, 4, none⟩ = some (.int .u8 (q5 : Int)) ∧ V.cell? ⟨b2, 5, none⟩ = some (.string q6) ∧ V.cell? ⟨b2, 6, none⟩ = some (.slice qA qn qc)) ∧ V.cell? ⟨b3, 0, none⟩ = some (.int .u16 (d1 : Int)) ∧ V.cell? ⟨b3, 1, none⟩ = some (.int .u64 (d2 : Int))) := Lib.hid (fun V hV => ⟨⟨stays hV h1.1, stays hV h1.2.1, stays hV h1.2.2.1, stays hV h1.2.2.2.1, stays hV h1.2.2.2.2.1, stays hV h1.2.2.2.2.2.1, stays hV h1.2.2.2.2.2.2⟩, ⟨stays hV h2.1, stays hV h2.2.1, stays hV h2.2.2.1, stays hV h2.2.2.2.1, stays hV h2.2.2.2.2.1, stays hV h2.2.2.2.2.2.1, stays hV h2.2.2.2.2.2.2⟩, stays hV h3.1, stays hV h3.2⟩)
  clear h1 h2 h3
  obtain ⟨⟨k0, k1, k2, k3, k4, k5, k6⟩, ⟨m0, m1, m2, m3, m4, m5, m6⟩, n0, n1⟩ := HK.out w3 (Below.refl _ _)
  have CF := rfew_any _ _ [x, y] 2 2 2 (by decide) (evts_two w3 ⟨p1, p2, p3, p4, p5, p6, pA, pn, pc⟩ ⟨q1, q2, q3, q4, q5, q6, qA, qn, qc⟩ x y HP.out HQ.out)
  rw [show ((2 : Nat) : Int) = 2 from rfl] at CF
  rw [hfew] at CF
  have HB4 := Lib.hid (below_new w3 (.cells #[.int .u16 (p1 : Int), .int .u64 (p2 : Int), .int .u8 (p3 : Int), .int .u64 (p4 : Int), .int .u8 (p5 : Int), .string p6, .slice pA pn pc, .int .u16 (q1 : Int), .int .u64 (q2 : Int), .int .u8 (q3 : Int), .int .u64 (q4 : Int), .int .u8 (q5 : Int), .string q6, .slice qA qn qc] 28))
  go_wp2_with fail
  generalize w3.alloc (.cells #[.int .u16 (p1 : Int), .int .u64 (p2 : Int), .int .u8 (p3 : Int), .int .u64 (p4 : Int), .int .u8 (p5 : Int), .string p6, .slice pA pn pc, .int .u16 (q1 : Int), .int .u64 (q2 : Int), .int .u8 (q3 : Int), .int .u64 (q4 : Int), .int .u8 (q5 : Int), .string q6, .slice qA qn qc] 28) = w4 at *
  refine CF.mono ?_
  rintro e w5 ⟨rfl, rfl⟩
  have CW := works_any P w5
  go_wp2_with fail
  refine CW.mono ?_
  rintro e w6 ⟨rfl, hb6⟩
  have HW6 := Lib.hid (HB.out.trans ((HB4.out.trans (hb6.mono HB4.out.size)).mono HB.out.size))
  clear hb6
  go_wp2
  go_ret
  exact ⟨rfl, HW6.out⟩

set_option maxHeartbeats 16000000 in
theorem tells_alike (P : PEvent) (w : World) (p q : EV) (x y : Evt) (d : Dt.Dot) (hp : EventIs w w.heap.size p x) (hq : EventIs w w.heap.size q y) (hd : d.1 < 65536 ∧ d.2 < 18446744073709551616) (hfew : fewB [x, y] 2 = true) (hdot : x.dot = y.dot) :
    Calls Try.prog 3 #[p.val, q.val, .agg #[.int .u16 (d.1 : Int), .int .u64 (d.2 : Int)]] w fun e w' => e = .returned (.bool true) ∧ Below w.heap.size w w' := by
  have hxd := is_dot hp
  have hyd := is_dot hq
  obtain ⟨p1, p2, p3, p4, p5, p6, pA, pn, pc⟩ := p
  obtain ⟨q1, q2, q3, q4, q5, q6, qA, qn, qc⟩ := q
  obtain ⟨d1, d2⟩ := d
  simp only [EV.val]
  simp only at hxd hyd
  have HB := Lib.hid (below_new3 w (.cells #[.int .u16 (p1 : Int), .int .u64 (p2 : Int), .int .u8 (p3 : Int), .int .u64 (p4 : Int), .int .u8 (p5 : Int), .string p6, .slice pA pn pc] 28) (.cells #[.int .u16 (q1 : Int), .int .u64 (q2 : Int), .int .u8 (q3 : Int), .int .u64 (q4 : Int), .int .u8 (q5 : Int), .string q6, .slice qA qn qc] 28) (.cells #[.int .u16 (d1 : Int), .int .u64 (d2 : Int)] 25))
  have HP := Lib.hid (hp.up HB.out)
  have HQ := Lib.hid (hq.up HB.out)
  have h1 := (box_new w ⟨p1, p2, p3, p4, p5, p6, pA, pn, pc⟩ (((w.alloc (.cells #[.int .u16 (p1 : Int), .int .u64 (p2 : Int), .int .u8 (p3 : Int), .int .u64 (p4 : Int), .int .u8 (p5 : Int), .string p6, .slice pA pn pc] 28)).alloc (.cells #[.int .u16 (q1 : Int), .int .u64 (q2 : Int), .int .u8 (q3 : Int), .int .u64 (q4 : Int), .int .u8 (q5 : Int), .string q6, .slice qA qn qc] 28)).alloc (.cells #[.int .u16 (d1 : Int), .int .u64 (d2 : Int)] 25)) (by have h := below_new2 (w.alloc (.cells #[.int .u16 (p1 : Int), .int .u64 (p2 : Int), .int .u8 (p3 : Int), .int .u64 (p4 : Int), .int .u8 (p5 : Int), .string p6, .slice pA pn pc] 28)) (.cells #[.int .u16 (q1 : Int), .int .u64 (q2 : Int), .int .u8 (q3 : Int), .int .u64 (q4 : Int), .int .u8 (q5 : Int), .string q6, .slice qA qn qc] 28) (.cells #[.int .u16 (d1 : Int), .int .u64 (d2 : Int)] 25); rw [alloc_size] at h; exact h)).all
  have h2 := (box_new (w.alloc (.cells #[.int .u16 (p1 : Int), .int .u64 (p2 : Int), .int .u8 (p3 : Int), .int .u64 (p4 : Int), .int .u8 (p5 : Int), .string p6, .slice pA pn pc] 28)) ⟨q1, q2, q3, q4, q5, q6, qA, qn, qc⟩ (((w.alloc (.cells #[.int .u16 (p1 : Int), .int .u64 (p2 : Int), .int .u8 (p3 : Int), .int .u64 (p4 : Int), .int .u8 (p5 : Int), .string p6, .slice pA pn pc] 28)).alloc (.cells #[.int .u16 (q1 : Int), .int .u64 (q2 : Int), .int .u8 (q3 : Int), .int .u64 (q4 : Int), .int .u8 (q5 : Int), .string q6, .slice qA qn qc] 28)).alloc (.cells #[.int .u16 (d1 : Int), .int .u64 (d2 : Int)] 25)) (by have h := below_new ((w.alloc (.cells #[.int .u16 (p1 : Int), .int .u64 (p2 : Int), .int .u8 (p3 : Int), .int .u64 (p4 : Int), .int .u8 (p5 : Int), .string p6, .slice pA pn pc] 28)).alloc (.cells #[.int .u16 (q1 : Int), .int .u64 (q2 : Int), .int .u8 (q3 : Int), .int .u64 (q4 : Int), .int .u8 (q5 : Int), .string q6, .slice qA qn qc] 28)) (.cells #[.int .u16 (d1 : Int), .int .u64 (d2 : Int)] 25); rw [alloc_size] at h; exact h)).all
  rw [alloc_size] at h2
  have h3 : (((w.alloc (.cells #[.int .u16 (p1 : Int), .int .u64 (p2 : Int), .int .u8 (p3 : Int), .int .u64 (p4 : Int), .int .u8 (p5 : Int), .string p6, .slice pA pn pc] 28)).alloc (.cells #[.int .u16 (q1 : Int), .int .u64 (q2 : Int), .int .u8 (q3 : Int), .int .u64 (q4 : Int), .int .u8 (q5 : Int), .string q6, .slice qA qn qc] 28)).alloc (.cells #[.int .u16 (d1 : Int), .int .u64 (d2 : Int)] 25)).cell? ⟨w.heap.size + 1 + 1, 0, none⟩ = some (.int .u16 (d1 : Int)) ∧ (((w.alloc (.cells #[.int .u16 (p1 : Int), .int .u64 (p2 : Int), .int .u8 (p3 : Int), .int .u64 (p4 : Int), .int .u8 (p5 : Int), .string p6, .slice pA pn pc] 28)).alloc (.cells #[.int .u16 (q1 : Int), .int .u64 (q2 : Int), .int .u8 (q3 : Int), .int .u64 (q4 : Int), .int .u8 (q5 : Int), .string q6, .slice qA qn qc] 28)).alloc (.cells #[.int .u16 (d1 : Int), .int .u64 (d2 : Int)] 25)).cell? ⟨w.heap.size + 1 + 1, 1, none⟩ = some (.int .u64 (d2 : Int)) := by constructor <;> simp [go_sem]
  simp only at h1 h2
  clear hp hq
  go_enter Try.func3, Try.ntmps3
  go_upto_region 1 with fail
  generalize ((w.alloc (.cells #[.int .u16 (p1 : Int), .int .u64 (p2 : Int), .int .u8 (p3 : Int), .int .u64 (p4 : Int), .int .u8 (p5 : Int), .string p6, .slice pA pn pc] 28)).alloc (.cells #[.int .u16 (q1 : Int), .int .u64 (q2 : Int), .int .u8 (q3 : Int), .int .u64 (q4 : Int), .int .u8 (q5 : Int), .string q6, .slice qA qn qc] 28)).alloc (.cells #[.int .u16 (d1 : Int), .int .u64 (d2 : Int)] 25) = w3 at *
  generalize w.heap.size + 1 + 1 = b3 at *
  generalize w.heap.size + 1 = b2 at *
  generalize hb1 : w.heap.size = b1 at h1 ⊢
  have HK : Hid (∀ V, Below w3.heap.size w3 V → (V.cell? ⟨b1, 0, none⟩ = some (.int .u16 (p1 : Int)) ∧ V.cell? ⟨b1, 1, none⟩ = some (.int .u64 (p2 : Int)) ∧ V.cell? ⟨b1, 2, none⟩ = some (.int .u8 (p3 : Int)) ∧ V.cell? ⟨b1, 3, none⟩ = some (.int .u64 (p4 : Int)) ∧ V.cell? ⟨b1, 4, none⟩ = some (.int .u8 (p5 : Int)) ∧ V.cell? ⟨b1, 5, none⟩ = some (.string p6) ∧ V.cell? ⟨b1, 6, none⟩ = some (.slice pA pn pc)) ∧ (V.cell? ⟨b2, 0, none⟩ = some (.int .u16 (q1 : Int)) ∧ V.cell? ⟨b2, 1, none⟩ = some (.int .u64 (q2 : Int)) ∧ V.cell? ⟨b2, 2, none⟩ = some (.int .u8 (q3 : Int)) ∧ V.cell? ⟨b2, 3, none⟩ = some (.int .u64 (q4 : Int)) ∧ V.cell? ⟨b2, 4, none⟩ = some (.int .u8 (q5 : Int)) ∧ V.cell? ⟨b2, 5, none⟩ = some (.string q6) ∧ V.cell? ⟨b2, 6, none⟩ = some (.slice qA qn qc)) ∧ V.cell? ⟨b3, 0, none⟩ = some (.int .u16 (d1 : Int)) ∧ V.cell? ⟨b3, 1, none⟩ = some (.int .u64 (d2 : Int))) := Lib.hid (fun V hV => ⟨⟨stays hV h1.1, stays hV h1.2.1, stays hV h1.2.2.1, stays hV h1.2.2.2.1, stays hV h1.2.2.2.2.1, stays hV h1.2.2.2.2.2.1, stays hV h1.2.2.2.2.2.2⟩, ⟨stays hV h2.1, stays hV h2.2.1, stays hV h2.2.2.1, stays hV h2.2.2.2.1, stays hV h2.2.2.2.2.1, stays hV h2.2.2.2.2.2.1, stays hV h2.2.2.2.2.2.2⟩, stays hV h3.1, stays hV h3.2⟩)
  clear h1 h2 h3
  obtain ⟨⟨k0, k1, k2, k3, k4, k5, k6⟩, ⟨m0, m1, m2, m3, m4, m5, m6⟩, n0, n1⟩ := HK.out w3 (Below.refl _ _)
  have CF := rfew_any _ _ [x, y] 2 2 2 (by decide) (evts_two w3 ⟨p1, p2, p3, p4, p5, p6, pA, pn, pc⟩ ⟨q1, q2, q3, q4, q5, q6, qA, qn, qc⟩ x y HP.out HQ.out)
  rw [show ((2 : Nat) : Int) = 2 from rfl] at CF
  rw [hfew] at CF
  have HB4 := Lib.hid (below_new w3 (.cells #[.int .u16 (p1 : Int), .int .u64 (p2 : Int), .int .u8 (p3 : Int), .int .u64 (p4 : Int), .int .u8 (p5 : Int), .string p6, .slice pA pn pc, .int .u16 (q1 : Int), .int .u64 (q2 : Int), .int .u8 (q3 : Int), .int .u64 (q4 : Int), .int .u8 (q5 : Int), .string q6, .slice qA qn qc] 28))
  go_wp2_with fail
  generalize w3.alloc (.cells #[.int .u16 (p1 : Int), .int .u64 (p2 : Int), .int .u8 (p3 : Int), .int .u64 (p4 : Int), .int .u8 (p5 : Int), .string p6, .slice pA pn pc, .int .u16 (q1 : Int), .int .u64 (q2 : Int), .int .u8 (q3 : Int), .int .u64 (q4 : Int), .int .u8 (q5 : Int), .string q6, .slice qA qn qc] 28) = w4 at *
  refine CF.mono ?_
  rintro e w5 ⟨rfl, rfl⟩
  have HK5 : Hid (∀ V, Below w5.heap.size w5 V → (V.cell? ⟨b1, 0, none⟩ = some (.int .u16 (p1 : Int)) ∧ V.cell? ⟨b1, 1, none⟩ = some (.int .u64 (p2 : Int)) ∧ V.cell? ⟨b1, 2, none⟩ = some (.int .u8 (p3 : Int)) ∧ V.cell? ⟨b1, 3, none⟩ = some (.int .u64 (p4 : Int)) ∧ V.cell? ⟨b1, 4, none⟩ = some (.int .u8 (p5 : Int)) ∧ V.cell? ⟨b1, 5, none⟩ = some (.string p6) ∧ V.cell? ⟨b1, 6, none⟩ = some (.slice pA pn pc)) ∧ (V.cell? ⟨b2, 0, none⟩ = some (.int .u16 (q1 : Int)) ∧ V.cell? ⟨b2, 1, none⟩ = some (.int .u64 (q2 : Int)) ∧ V.cell? ⟨b2, 2, none⟩ = some (.int .u8 (q3 : Int)) ∧ V.cell? ⟨b2, 3, none⟩ = some (.int .u64 (q4 : Int)) ∧ V.cell? ⟨b2, 4, none⟩ = some (.int .u8 (q5 : Int)) ∧ V.cell? ⟨b2, 5, none⟩ = some (.string q6) ∧ V.cell? ⟨b2, 6, none⟩ = some (.slice qA qn qc)) ∧ V.cell? ⟨b3, 0, none⟩ = some (.int .u16 (d1 : Int)) ∧ V.cell? ⟨b3, 1, none⟩ = some (.int .u64 (d2 : Int))) := Lib.hid (fun V hV => HK.out V (HB4.out.trans (hV.mono HB4.out.size)))
  have HB5 := Lib.hid (HB.out.trans (HB4.out.mono HB.out.size))
  have HP5 := Lib.hid (HP.out.up HB4.out)
  have HQ5 := Lib.hid (HQ.out.up HB4.out)
  clear HK HP HQ k0 k1 k2 k3 k4 k5 k6 m0 m1 m2 m3 m4 m5 m6 n0 n1 CF HB4 HB
  have HK := HK5
  clear HK5
  have L1 := fun W (hW : Below w5.heap.size w5 W) => later hW (P.good W _ x (HP5.out.up hW))
  have L2 := fun W (hW : Below w5.heap.size w5 W) => later hW (rgood_any W _ x (HP5.out.up hW))
  have L3 := fun W (hW : Below w5.heap.size w5 W) => later hW (P.good W _ y (HQ5.out.up hW))
  have L4 := fun W (hW : Below w5.heap.size w5 W) => later hW (rgood_any W _ y (HQ5.out.up hW))
  have L5 := fun W (hW : Below w5.heap.size w5 W) => later hW (P.same W _ _ x y (HP5.out.up hW) (HQ5.out.up hW))
  have L6 := fun W (hW : Below w5.heap.size w5 W) => later hW (rsame_any W _ _ x y (HP5.out.up hW) (HQ5.out.up hW))
  have L7 := fun W (hW : Below w5.heap.size w5 W) => later hW (P.clashes W _ _ x y (HP5.out.up hW) (HQ5.out.up hW))
  have L8 := fun W (hW : Below w5.heap.size w5 W) => later hW (P.kills W _ x (d1, d2) (HP5.out.up hW))
  have L9 := fun W (hW : Below w5.heap.size w5 W) => later hW (Dt.rhas_any W pA x.kills pn pc (d1, d2) (HP5.out.up hW).kills.len (HP5.out.up hW).kills.dots (Nat.le_trans (HP5.out.up hW).kills.wide (by decide)))
  have L0 := fun W (hW : Below w5.heap.size w5 W) => later hW (works_any P W)
  simp only [EV.val] at L1 L2 L3 L4 L5 L6 L7 L8
  rw [decide_eq_true hdot, Bool.true_and] at L7
  generalize goodE x = g1 at L1 L2
  generalize goodE y = g2 at L3 L4
  generalize decide (x = y) = g3 at L5 L6 L7
  generalize decide ((d1, d2) ∈ x.kills) = g4 at L8 L9
  rw [hxd, hyd] at hdot
  obtain ⟨rfl, rfl⟩ := Prod.mk.inj hdot
  clear hxd hyd hfew hdot hd
  go_upto_region 3 with fail
  go_region_held3 (fun V => (V.cell? ⟨b1, 0, none⟩ = some (.int .u16 (p1 : Int)) ∧ V.cell? ⟨b1, 1, none⟩ = some (.int .u64 (p2 : Int)) ∧ V.cell? ⟨b1, 2, none⟩ = some (.int .u8 (p3 : Int)) ∧ V.cell? ⟨b1, 3, none⟩ = some (.int .u64 (p4 : Int)) ∧ V.cell? ⟨b1, 4, none⟩ = some (.int .u8 (p5 : Int)) ∧ V.cell? ⟨b1, 5, none⟩ = some (.string p6) ∧ V.cell? ⟨b1, 6, none⟩ = some (.slice pA pn pc)) ∧ (V.cell? ⟨b2, 0, none⟩ = some (.int .u16 (p1 : Int)) ∧ V.cell? ⟨b2, 1, none⟩ = some (.int .u64 (p2 : Int)) ∧ V.cell? ⟨b2, 2, none⟩ = some (.int .u8 (q3 : Int)) ∧ V.cell? ⟨b2, 3, none⟩ = some (.int .u64 (q4 : Int)) ∧ V.cell? ⟨b2, 4, none⟩ = some (.int .u8 (q5 : Int)) ∧ V.cell? ⟨b2, 5, none⟩ = some (.string q6) ∧ V.cell? ⟨b2, 6, none⟩ = some (.slice qA qn qc)) ∧ V.cell? ⟨b3, 0, none⟩ = some (.int .u16 (d1 : Int)) ∧ V.cell? ⟨b3, 1, none⟩ = some (.int .u64 (d2 : Int))) (first | assumption | ((with_reducible refine HK.out _ ?_); (repeat (first | (with_reducible exact Below.refl _ _) | (with_reducible assumption) | (with_reducible apply bel_drew) | (with_reducible apply bel_alloc))); done) | go_keep) (first
    | (go_at_call 8; (with_reducible refine (L1 _ ?_).mono ?_); (repeat (first | (with_reducible exact Below.refl _ _) | (with_reducible assumption) | (with_reducible apply bel_drew) | (with_reducible apply bel_alloc))); rintro e V ⟨rfl, bv⟩; have hcV := HK.out V bv)
    | (go_at_call 9; (with_reducible refine (L2 _ ?_).mono ?_); (repeat (first | (with_reducible exact Below.refl _ _) | (with_reducible assumption) | (with_reducible apply bel_drew) | (with_reducible apply bel_alloc))); rintro e V ⟨rfl, bv⟩; have hcV := HK.out V bv)
    | (go_at_call 8; (with_reducible refine (L3 _ ?_).mono ?_); (repeat (first | (with_reducible exact Below.refl _ _) | (with_reducible assumption) | (with_reducible apply bel_drew) | (with_reducible apply bel_alloc))); rintro e V ⟨rfl, bv⟩; have hcV := HK.out V bv)
    | (go_at_call 9; (with_reducible refine (L4 _ ?_).mono ?_); (repeat (first | (with_reducible exact Below.refl _ _) | (with_reducible assumption) | (with_reducible apply bel_drew) | (with_reducible apply bel_alloc))); rintro e V ⟨rfl, bv⟩; have hcV := HK.out V bv)
    | (go_at_call 10; (with_reducible refine (L5 _ ?_).mono ?_); (repeat (first | (with_reducible exact Below.refl _ _) | (with_reducible assumption) | (with_reducible apply bel_drew) | (with_reducible apply bel_alloc))); rintro e V ⟨rfl, bv⟩; have hcV := HK.out V bv)
    | (go_at_call 11; (with_reducible refine (L6 _ ?_).mono ?_); (repeat (first | (with_reducible exact Below.refl _ _) | (with_reducible assumption) | (with_reducible apply bel_drew) | (with_reducible apply bel_alloc))); rintro e V ⟨rfl, bv⟩; have hcV := HK.out V bv)
    | (go_at_call 12; (with_reducible refine (L7 _ ?_).mono ?_); (repeat (first | (with_reducible exact Below.refl _ _) | (with_reducible assumption) | (with_reducible apply bel_drew) | (with_reducible apply bel_alloc))); rintro e V ⟨rfl, bv⟩; have hcV := HK.out V bv)
    | (go_at_call 13; (with_reducible refine (L8 _ ?_).mono ?_); (repeat (first | (with_reducible exact Below.refl _ _) | (with_reducible assumption) | (with_reducible apply bel_drew) | (with_reducible apply bel_alloc))); rintro e V ⟨rfl, bv⟩; have hcV := HK.out V bv)
    | (go_at_call 14; (with_reducible refine (L9 _ ?_).mono ?_); (repeat (first | (with_reducible exact Below.refl _ _) | (with_reducible assumption) | (with_reducible apply bel_drew) | (with_reducible apply bel_alloc))); rintro e V ⟨rfl, bv⟩; have hcV := HK.out V bv)
    | (go_at_call 7; (with_reducible refine (L0 _ ?_).mono ?_); (repeat (first | (with_reducible exact Below.refl _ _) | (with_reducible assumption) | (with_reducible apply bel_drew) | (with_reducible apply bel_alloc))); rintro e V ⟨rfl, bv⟩; have hcV := HK.out V bv))
  all_goals (go_wp2; go_ret; exact ⟨rfl, HB5.out.trans (Below.mono (by assumption) HB5.out.size)⟩)

set_option maxHeartbeats 16000000 in
theorem tells_one (P : PEvent) (w : World) (p q : EV) (x y : Evt) (d : Dt.Dot) (hp : EventIs w w.heap.size p x) (hq : EventIs w w.heap.size q y) (hd : d.1 < 65536 ∧ d.2 < 18446744073709551616) (hfew : fewB [x, y] 2 = true) (hdot : ¬ x.dot = y.dot) (hone : ¬ p.dev = q.dev) :
    Calls Try.prog 3 #[p.val, q.val, .agg #[.int .u16 (d.1 : Int), .int .u64 (d.2 : Int)]] w fun e w' => e = .returned (.bool true) ∧ Below w.heap.size w w' := by
  have hxd := is_dot hp
  have hyd := is_dot hq
  obtain ⟨p1, p2, p3, p4, p5, p6, pA, pn, pc⟩ := p
  obtain ⟨q1, q2, q3, q4, q5, q6, qA, qn, qc⟩ := q
  obtain ⟨d1, d2⟩ := d
  simp only [EV.val]
  simp only at hxd hyd
  have HB := Lib.hid (below_new3 w (.cells #[.int .u16 (p1 : Int), .int .u64 (p2 : Int), .int .u8 (p3 : Int), .int .u64 (p4 : Int), .int .u8 (p5 : Int), .string p6, .slice pA pn pc] 28) (.cells #[.int .u16 (q1 : Int), .int .u64 (q2 : Int), .int .u8 (q3 : Int), .int .u64 (q4 : Int), .int .u8 (q5 : Int), .string q6, .slice qA qn qc] 28) (.cells #[.int .u16 (d1 : Int), .int .u64 (d2 : Int)] 25))
  have HP := Lib.hid (hp.up HB.out)
  have HQ := Lib.hid (hq.up HB.out)
  have h1 := (box_new w ⟨p1, p2, p3, p4, p5, p6, pA, pn, pc⟩ (((w.alloc (.cells #[.int .u16 (p1 : Int), .int .u64 (p2 : Int), .int .u8 (p3 : Int), .int .u64 (p4 : Int), .int .u8 (p5 : Int), .string p6, .slice pA pn pc] 28)).alloc (.cells #[.int .u16 (q1 : Int), .int .u64 (q2 : Int), .int .u8 (q3 : Int), .int .u64 (q4 : Int), .int .u8 (q5 : Int), .string q6, .slice qA qn qc] 28)).alloc (.cells #[.int .u16 (d1 : Int), .int .u64 (d2 : Int)] 25)) (by have h := below_new2 (w.alloc (.cells #[.int .u16 (p1 : Int), .int .u64 (p2 : Int), .int .u8 (p3 : Int), .int .u64 (p4 : Int), .int .u8 (p5 : Int), .string p6, .slice pA pn pc] 28)) (.cells #[.int .u16 (q1 : Int), .int .u64 (q2 : Int), .int .u8 (q3 : Int), .int .u64 (q4 : Int), .int .u8 (q5 : Int), .string q6, .slice qA qn qc] 28) (.cells #[.int .u16 (d1 : Int), .int .u64 (d2 : Int)] 25); rw [alloc_size] at h; exact h)).all
  have h2 := (box_new (w.alloc (.cells #[.int .u16 (p1 : Int), .int .u64 (p2 : Int), .int .u8 (p3 : Int), .int .u64 (p4 : Int), .int .u8 (p5 : Int), .string p6, .slice pA pn pc] 28)) ⟨q1, q2, q3, q4, q5, q6, qA, qn, qc⟩ (((w.alloc (.cells #[.int .u16 (p1 : Int), .int .u64 (p2 : Int), .int .u8 (p3 : Int), .int .u64 (p4 : Int), .int .u8 (p5 : Int), .string p6, .slice pA pn pc] 28)).alloc (.cells #[.int .u16 (q1 : Int), .int .u64 (q2 : Int), .int .u8 (q3 : Int), .int .u64 (q4 : Int), .int .u8 (q5 : Int), .string q6, .slice qA qn qc] 28)).alloc (.cells #[.int .u16 (d1 : Int), .int .u64 (d2 : Int)] 25)) (by have h := below_new ((w.alloc (.cells #[.int .u16 (p1 : Int), .int .u64 (p2 : Int), .int .u8 (p3 : Int), .int .u64 (p4 : Int), .int .u8 (p5 : Int), .string p6, .slice pA pn pc] 28)).alloc (.cells #[.int .u16 (q1 : Int), .int .u64 (q2 : Int), .int .u8 (q3 : Int), .int .u64 (q4 : Int), .int .u8 (q5 : Int), .string q6, .slice qA qn qc] 28)) (.cells #[.int .u16 (d1 : Int), .int .u64 (d2 : Int)] 25); rw [alloc_size] at h; exact h)).all
  rw [alloc_size] at h2
  have h3 : (((w.alloc (.cells #[.int .u16 (p1 : Int), .int .u64 (p2 : Int), .int .u8 (p3 : Int), .int .u64 (p4 : Int), .int .u8 (p5 : Int), .string p6, .slice pA pn pc] 28)).alloc (.cells #[.int .u16 (q1 : Int), .int .u64 (q2 : Int), .int .u8 (q3 : Int), .int .u64 (q4 : Int), .int .u8 (q5 : Int), .string q6, .slice qA qn qc] 28)).alloc (.cells #[.int .u16 (d1 : Int), .int .u64 (d2 : Int)] 25)).cell? ⟨w.heap.size + 1 + 1, 0, none⟩ = some (.int .u16 (d1 : Int)) ∧ (((w.alloc (.cells #[.int .u16 (p1 : Int), .int .u64 (p2 : Int), .int .u8 (p3 : Int), .int .u64 (p4 : Int), .int .u8 (p5 : Int), .string p6, .slice pA pn pc] 28)).alloc (.cells #[.int .u16 (q1 : Int), .int .u64 (q2 : Int), .int .u8 (q3 : Int), .int .u64 (q4 : Int), .int .u8 (q5 : Int), .string q6, .slice qA qn qc] 28)).alloc (.cells #[.int .u16 (d1 : Int), .int .u64 (d2 : Int)] 25)).cell? ⟨w.heap.size + 1 + 1, 1, none⟩ = some (.int .u64 (d2 : Int)) := by constructor <;> simp [go_sem]
  simp only at h1 h2
  clear hp hq
  go_enter Try.func3, Try.ntmps3
  go_upto_region 1 with fail
  generalize ((w.alloc (.cells #[.int .u16 (p1 : Int), .int .u64 (p2 : Int), .int .u8 (p3 : Int), .int .u64 (p4 : Int), .int .u8 (p5 : Int), .string p6, .slice pA pn pc] 28)).alloc (.cells #[.int .u16 (q1 : Int), .int .u64 (q2 : Int), .int .u8 (q3 : Int), .int .u64 (q4 : Int), .int .u8 (q5 : Int), .string q6, .slice qA qn qc] 28)).alloc (.cells #[.int .u16 (d1 : Int), .int .u64 (d2 : Int)] 25) = w3 at *
  generalize w.heap.size + 1 + 1 = b3 at *
  generalize w.heap.size + 1 = b2 at *
  generalize hb1 : w.heap.size = b1 at h1 ⊢
  have HK : Hid (∀ V, Below w3.heap.size w3 V → (V.cell? ⟨b1, 0, none⟩ = some (.int .u16 (p1 : Int)) ∧ V.cell? ⟨b1, 1, none⟩ = some (.int .u64 (p2 : Int)) ∧ V.cell? ⟨b1, 2, none⟩ = some (.int .u8 (p3 : Int)) ∧ V.cell? ⟨b1, 3, none⟩ = some (.int .u64 (p4 : Int)) ∧ V.cell? ⟨b1, 4, none⟩ = some (.int .u8 (p5 : Int)) ∧ V.cell? ⟨b1, 5, none⟩ = some (.string p6) ∧ V.cell? ⟨b1, 6, none⟩ = some (.slice pA pn pc)) ∧ (V.cell? ⟨b2, 0, none⟩ = some (.int .u16 (q1 : Int)) ∧ V.cell? ⟨b2, 1, none⟩ = some (.int .u64 (q2 : Int)) ∧ V.cell? ⟨b2, 2, none⟩ = some (.int .u8 (q3 : Int)) ∧ V.cell? ⟨b2, 3, none⟩ = some (.int .u64 (q4 : Int)) ∧ V.cell? ⟨b2, 4, none⟩ = some (.int .u8 (q5 : Int)) ∧ V.cell? ⟨b2, 5, none⟩ = some (.string q6) ∧ V.cell? ⟨b2, 6, none⟩ = some (.slice qA qn qc)) ∧ V.cell? ⟨b3, 0, none⟩ = some (.int .u16 (d1 : Int)) ∧ V.cell? ⟨b3, 1, none⟩ = some (.int .u64 (d2 : Int))) := Lib.hid (fun V hV => ⟨⟨stays hV h1.1, stays hV h1.2.1, stays hV h1.2.2.1, stays hV h1.2.2.2.1, stays hV h1.2.2.2.2.1, stays hV h1.2.2.2.2.2.1, stays hV h1.2.2.2.2.2.2⟩, ⟨stays hV h2.1, stays hV h2.2.1, stays hV h2.2.2.1, stays hV h2.2.2.2.1, stays hV h2.2.2.2.2.1, stays hV h2.2.2.2.2.2.1, stays hV h2.2.2.2.2.2.2⟩, stays hV h3.1, stays hV h3.2⟩)
  clear h1 h2 h3
  obtain ⟨⟨k0, k1, k2, k3, k4, k5, k6⟩, ⟨m0, m1, m2, m3, m4, m5, m6⟩, n0, n1⟩ := HK.out w3 (Below.refl _ _)
  have CF := rfew_any _ _ [x, y] 2 2 2 (by decide) (evts_two w3 ⟨p1, p2, p3, p4, p5, p6, pA, pn, pc⟩ ⟨q1, q2, q3, q4, q5, q6, qA, qn, qc⟩ x y HP.out HQ.out)
  rw [show ((2 : Nat) : Int) = 2 from rfl] at CF
  rw [hfew] at CF
  have HB4 := Lib.hid (below_new w3 (.cells #[.int .u16 (p1 : Int), .int .u64 (p2 : Int), .int .u8 (p3 : Int), .int .u64 (p4 : Int), .int .u8 (p5 : Int), .string p6, .slice pA pn pc, .int .u16 (q1 : Int), .int .u64 (q2 : Int), .int .u8 (q3 : Int), .int .u64 (q4 : Int), .int .u8 (q5 : Int), .string q6, .slice qA qn qc] 28))
  go_wp2_with fail
  generalize w3.alloc (.cells #[.int .u16 (p1 : Int), .int .u64 (p2 : Int), .int .u8 (p3 : Int), .int .u64 (p4 : Int), .int .u8 (p5 : Int), .string p6, .slice pA pn pc, .int .u16 (q1 : Int), .int .u64 (q2 : Int), .int .u8 (q3 : Int), .int .u64 (q4 : Int), .int .u8 (q5 : Int), .string q6, .slice qA qn qc] 28) = w4 at *
  refine CF.mono ?_
  rintro e w5 ⟨rfl, rfl⟩
  have HK5 : Hid (∀ V, Below w5.heap.size w5 V → (V.cell? ⟨b1, 0, none⟩ = some (.int .u16 (p1 : Int)) ∧ V.cell? ⟨b1, 1, none⟩ = some (.int .u64 (p2 : Int)) ∧ V.cell? ⟨b1, 2, none⟩ = some (.int .u8 (p3 : Int)) ∧ V.cell? ⟨b1, 3, none⟩ = some (.int .u64 (p4 : Int)) ∧ V.cell? ⟨b1, 4, none⟩ = some (.int .u8 (p5 : Int)) ∧ V.cell? ⟨b1, 5, none⟩ = some (.string p6) ∧ V.cell? ⟨b1, 6, none⟩ = some (.slice pA pn pc)) ∧ (V.cell? ⟨b2, 0, none⟩ = some (.int .u16 (q1 : Int)) ∧ V.cell? ⟨b2, 1, none⟩ = some (.int .u64 (q2 : Int)) ∧ V.cell? ⟨b2, 2, none⟩ = some (.int .u8 (q3 : Int)) ∧ V.cell? ⟨b2, 3, none⟩ = some (.int .u64 (q4 : Int)) ∧ V.cell? ⟨b2, 4, none⟩ = some (.int .u8 (q5 : Int)) ∧ V.cell? ⟨b2, 5, none⟩ = some (.string q6) ∧ V.cell? ⟨b2, 6, none⟩ = some (.slice qA qn qc)) ∧ V.cell? ⟨b3, 0, none⟩ = some (.int .u16 (d1 : Int)) ∧ V.cell? ⟨b3, 1, none⟩ = some (.int .u64 (d2 : Int))) := Lib.hid (fun V hV => HK.out V (HB4.out.trans (hV.mono HB4.out.size)))
  have HB5 := Lib.hid (HB.out.trans (HB4.out.mono HB.out.size))
  have HP5 := Lib.hid (HP.out.up HB4.out)
  have HQ5 := Lib.hid (HQ.out.up HB4.out)
  clear HK HP HQ k0 k1 k2 k3 k4 k5 k6 m0 m1 m2 m3 m4 m5 m6 n0 n1 CF HB4 HB
  have HK := HK5
  clear HK5
  have L1 := fun W (hW : Below w5.heap.size w5 W) => later hW (P.good W _ x (HP5.out.up hW))
  have L2 := fun W (hW : Below w5.heap.size w5 W) => later hW (rgood_any W _ x (HP5.out.up hW))
  have L3 := fun W (hW : Below w5.heap.size w5 W) => later hW (P.good W _ y (HQ5.out.up hW))
  have L4 := fun W (hW : Below w5.heap.size w5 W) => later hW (rgood_any W _ y (HQ5.out.up hW))
  have L5 := fun W (hW : Below w5.heap.size w5 W) => later hW (P.same W _ _ x y (HP5.out.up hW) (HQ5.out.up hW))
  have L6 := fun W (hW : Below w5.heap.size w5 W) => later hW (rsame_any W _ _ x y (HP5.out.up hW) (HQ5.out.up hW))
  have L7 := fun W (hW : Below w5.heap.size w5 W) => later hW (P.clashes W _ _ x y (HP5.out.up hW) (HQ5.out.up hW))
  have L8 := fun W (hW : Below w5.heap.size w5 W) => later hW (P.kills W _ x (d1, d2) (HP5.out.up hW))
  have L9 := fun W (hW : Below w5.heap.size w5 W) => later hW (Dt.rhas_any W pA x.kills pn pc (d1, d2) (HP5.out.up hW).kills.len (HP5.out.up hW).kills.dots (Nat.le_trans (HP5.out.up hW).kills.wide (by decide)))
  have L0 := fun W (hW : Below w5.heap.size w5 W) => later hW (works_any P W)
  simp only [EV.val] at L1 L2 L3 L4 L5 L6 L7 L8
  rw [evt_dot_eq hdot] at L7
  generalize goodE x = g1 at L1 L2
  generalize goodE y = g2 at L3 L4
  generalize decide (x = y) = g3 at L5 L6
  generalize decide ((d1, d2) ∈ x.kills) = g4 at L8 L9
  rw [hxd, hyd] at hdot
  clear hxd hyd hfew hd
  (try simp only at hone)
  have e1 : ((p1 : Int) == (q1 : Int)) = false := by rw [beq_eq_false_iff_ne]; omega
  clear hdot hone
  go_upto_region 3 with fail
  refine wp_region_noPanic ?_
  refine wp_region_held_drew (S := fun V => (V.cell? ⟨b1, 0, none⟩ = some (.int .u16 (p1 : Int)) ∧ V.cell? ⟨b1, 1, none⟩ = some (.int .u64 (p2 : Int)) ∧ V.cell? ⟨b1, 2, none⟩ = some (.int .u8 (p3 : Int)) ∧ V.cell? ⟨b1, 3, none⟩ = some (.int .u64 (p4 : Int)) ∧ V.cell? ⟨b1, 4, none⟩ = some (.int .u8 (p5 : Int)) ∧ V.cell? ⟨b1, 5, none⟩ = some (.string p6) ∧ V.cell? ⟨b1, 6, none⟩ = some (.slice pA pn pc)) ∧ (V.cell? ⟨b2, 0, none⟩ = some (.int .u16 (q1 : Int)) ∧ V.cell? ⟨b2, 1, none⟩ = some (.int .u64 (q2 : Int)) ∧ V.cell? ⟨b2, 2, none⟩ = some (.int .u8 (q3 : Int)) ∧ V.cell? ⟨b2, 3, none⟩ = some (.int .u64 (q4 : Int)) ∧ V.cell? ⟨b2, 4, none⟩ = some (.int .u8 (q5 : Int)) ∧ V.cell? ⟨b2, 5, none⟩ = some (.string q6) ∧ V.cell? ⟨b2, 6, none⟩ = some (.slice qA qn qc)) ∧ V.cell? ⟨b3, 0, none⟩ = some (.int .u16 (d1 : Int)) ∧ V.cell? ⟨b3, 1, none⟩ = some (.int .u64 (d2 : Int))) (by kernel_rfl) (HK.out _ (bel_drew (Below.refl _ _))) (fun hHeld => ?_)
  refine wpAnyH_take (i := 0) (oi := { dst := some 13, op := Op.load 28 (Operand.tmp 3), type := 28, pos := "law.go:22", after := #[], guard := none }) (v := ?_) rfl (by kernel_rfl) (by kernel_rfl) (by kernel_rfl) (fun _ _ _ h => h) (Or.inl ⟨by rfl, ?_⟩) (by assumption) ?_
  rotate_left
  · (intro w hSw; (try dsimp only at hSw); go_simp <;> (with_reducible rfl))
  try simp only [Act.put, List.setIfInBounds_toArray, List.set_cons_zero, List.set_cons_succ]
  refine wpAnyH_take (i := 2) (oi := { dst := some 15, op := Op.load 28 (Operand.tmp 3), type := 28, pos := "law.go:22", after := #[], guard := none }) (v := ?_) rfl (by kernel_rfl) (by kernel_rfl) (by kernel_rfl) (fun _ _ _ h => h) (Or.inl ⟨by rfl, ?_⟩) (by assumption) ?_
  rotate_left
  · (intro w hSw; (try dsimp only at hSw); go_simp <;> (with_reducible rfl))
  try simp only [Act.put, List.setIfInBounds_toArray, List.set_cons_zero, List.set_cons_succ]
  refine wpAnyH_ready (rs := [1]) (by kernel_rfl) (by simp) ?_
  refine AllReadyH.cons (o := { dst := some 14, op := Op.call { callee := Callee.value (Operand.func 8), args := #[Operand.tmp 13], argTypes := #[28] }, type := 4, pos := "law.go:22", after := #[{ on := 0, ground := Ground.data }], guard := none }) rfl (fun K hK => ?_) AllReadyH.nil
  go_simp
  go_at_call 8; (with_reducible refine (L1 _ ?_).mono ?_); (focus (repeat (first | (with_reducible exact Below.refl _ _) | (with_reducible assumption) | (with_reducible apply bel_drew) | (with_reducible apply bel_alloc)))); rintro e V ⟨rfl, bv⟩; have hcV := HK.out V bv
  refine hK.out _ _ (by assumption) (fun hH => ?_)
  clear hHeld hK K
  have hHeld := hH
  clear hH
  try simp only [Act.put, List.setIfInBounds_toArray, List.set_cons_zero, List.set_cons_succ]
  refine wpAnyH_ready (rs := [3]) (by kernel_rfl) (by simp) ?_
  refine AllReadyH.cons (o := { dst := some 16, op := Op.call { callee := Callee.value (Operand.func 9), args := #[Operand.tmp 15], argTypes := #[28] }, type := 4, pos := "law.go:22", after := #[{ on := 2, ground := Ground.data }, { on := 1, ground := Ground.chain }], guard := none }) rfl (fun K hK => ?_) AllReadyH.nil
  go_simp
  go_at_call 9; (with_reducible refine (L2 _ ?_).mono ?_); (focus (repeat (first | (with_reducible exact Below.refl _ _) | (with_reducible assumption) | (with_reducible apply bel_drew) | (with_reducible apply bel_alloc)))); rintro e V ⟨rfl, bv⟩; have hcV := HK.out V bv
  refine hK.out _ _ (by assumption) (fun hH => ?_)
  clear hHeld hK K
  have hHeld := hH
  clear hH
  try simp only [Act.put, List.setIfInBounds_toArray, List.set_cons_zero, List.set_cons_succ]
  refine wpAnyH_take (i := 4) (oi := { dst := some 17, op := Op.binOp BinOp.eql 4 (Operand.tmp 14) (Operand.tmp 16) 4, type := 4, pos := "law.go:22", after := #[{ on := 1, ground := Ground.data }, { on := 3, ground := Ground.data }], guard := none }) (v := ?_) rfl (by kernel_rfl) (by kernel_rfl) (by kernel_rfl) (fun _ _ _ h => h) (Or.inl ⟨by rfl, ?_⟩) (by assumption) ?_
  rotate_left
  · (intro w hSw; (try dsimp only at hSw); go_simp <;> (with_reducible rfl))
  try simp only [Act.put, List.setIfInBounds_toArray, List.set_cons_zero, List.set_cons_succ]
  refine wpAnyH_take (i := 5) (oi := { dst := some 18, op := Op.move (Operand.tmp 17), type := 4, pos := "law.go:22", after := #[{ on := 4, ground := Ground.data }, { on := 3, ground := Ground.chain }], guard := none }) (v := ?_) rfl (by kernel_rfl) (by kernel_rfl) (by kernel_rfl) (fun _ _ _ h => h) (Or.inl ⟨by rfl, ?_⟩) (by assumption) ?_
  rotate_left
  · (intro w hSw; (try dsimp only at hSw); go_simp <;> (with_reducible rfl))
  try simp only [Act.put, List.setIfInBounds_toArray, List.set_cons_zero, List.set_cons_succ]
  refine wpAnyH_take (i := 6) (oi := { dst := some 19, op := Op.load 28 (Operand.tmp 4), type := 28, pos := "law.go:22", after := #[{ on := 5, ground := Ground.guard }], guard := some (5, true) }) (v := ?_) rfl (by kernel_rfl) (by kernel_rfl) (by kernel_rfl) (fun _ _ _ h => h) (Or.inl ⟨by rfl, ?_⟩) (by assumption) ?_
  rotate_left
  · (intro w hSw; (try dsimp only at hSw); go_simp <;> (with_reducible rfl))
  try simp only [Act.put, List.setIfInBounds_toArray, List.set_cons_zero, List.set_cons_succ]
  refine wpAnyH_take (i := 8) (oi := { dst := some 21, op := Op.load 28 (Operand.tmp 4), type := 28, pos := "law.go:22", after := #[{ on := 5, ground := Ground.guard }], guard := some (5, true) }) (v := ?_) rfl (by kernel_rfl) (by kernel_rfl) (by kernel_rfl) (fun _ _ _ h => h) (Or.inl ⟨by rfl, ?_⟩) (by assumption) ?_
  rotate_left
  · (intro w hSw; (try dsimp only at hSw); go_simp <;> (with_reducible rfl))
  try simp only [Act.put, List.setIfInBounds_toArray, List.set_cons_zero, List.set_cons_succ]
  refine wpAnyH_ready (rs := [7]) (by kernel_rfl) (by simp) ?_
  refine AllReadyH.cons (o := { dst := some 20, op := Op.call { callee := Callee.value (Operand.func 8), args := #[Operand.tmp 19], argTypes := #[28] }, type := 4, pos := "law.go:22", after := #[{ on := 6, ground := Ground.data }, { on := 5, ground := Ground.chain }, { on := 5, ground := Ground.guard }], guard := some (5, true) }) rfl (fun K hK => ?_) AllReadyH.nil
  go_simp
  go_at_call 8; (with_reducible refine (L3 _ ?_).mono ?_); (focus (repeat (first | (with_reducible exact Below.refl _ _) | (with_reducible assumption) | (with_reducible apply bel_drew) | (with_reducible apply bel_alloc)))); rintro e V ⟨rfl, bv⟩; have hcV := HK.out V bv
  refine hK.out _ _ (by assumption) (fun hH => ?_)
  clear hHeld hK K
  have hHeld := hH
  clear hH
  try simp only [Act.put, List.setIfInBounds_toArray, List.set_cons_zero, List.set_cons_succ]
  refine wpAnyH_ready (rs := [9]) (by kernel_rfl) (by simp) ?_
  refine AllReadyH.cons (o := { dst := some 22, op := Op.call { callee := Callee.value (Operand.func 9), args := #[Operand.tmp 21], argTypes := #[28] }, type := 4, pos := "law.go:22", after := #[{ on := 8, ground := Ground.data }, { on := 7, ground := Ground.chain }, { on := 5, ground := Ground.guard }], guard := some (5, true) }) rfl (fun K hK => ?_) AllReadyH.nil
  go_simp
  go_at_call 9; (with_reducible refine (L4 _ ?_).mono ?_); (focus (repeat (first | (with_reducible exact Below.refl _ _) | (with_reducible assumption) | (with_reducible apply bel_drew) | (with_reducible apply bel_alloc)))); rintro e V ⟨rfl, bv⟩; have hcV := HK.out V bv
  refine hK.out _ _ (by assumption) (fun hH => ?_)
  clear hHeld hK K
  have hHeld := hH
  clear hH
  try simp only [Act.put, List.setIfInBounds_toArray, List.set_cons_zero, List.set_cons_succ]
  refine wpAnyH_take (i := 10) (oi := { dst := some 23, op := Op.binOp BinOp.eql 4 (Operand.tmp 20) (Operand.tmp 22) 4, type := 4, pos := "law.go:22", after := #[{ on := 7, ground := Ground.data }, { on := 9, ground := Ground.data }, { on := 5, ground := Ground.guard }], guard := some (5, true) }) (v := ?_) rfl (by kernel_rfl) (by kernel_rfl) (by kernel_rfl) (fun _ _ _ h => h) (Or.inl ⟨by rfl, ?_⟩) (by assumption) ?_
  rotate_left
  · (intro w hSw; (try dsimp only at hSw); go_simp <;> (with_reducible rfl))
  try simp only [Act.put, List.setIfInBounds_toArray, List.set_cons_zero, List.set_cons_succ]
  refine wpAnyH_take (i := 11) (oi := { dst := some 24, op := Op.pick (Operand.tmp 18) (Operand.tmp 23) (Operand.const (Value.bool false)), type := 4, pos := "law.go:22", after := #[{ on := 5, ground := Ground.data }, { on := 10, ground := Ground.data }], guard := none }) (v := ?_) rfl (by kernel_rfl) (by kernel_rfl) (by kernel_rfl) (fun _ _ _ h => h) (Or.inl ⟨by rfl, ?_⟩) (by assumption) ?_
  rotate_left
  · (intro w hSw; (try dsimp only at hSw); go_simp <;> (with_reducible rfl))
  try simp only [Act.put, List.setIfInBounds_toArray, List.set_cons_zero, List.set_cons_succ]
  refine wpAnyH_take (i := 12) (oi := { dst := some 25, op := Op.move (Operand.tmp 24), type := 4, pos := "law.go:22", after := #[{ on := 11, ground := Ground.data }, { on := 9, ground := Ground.chain }], guard := none }) (v := ?_) rfl (by kernel_rfl) (by kernel_rfl) (by kernel_rfl) (fun _ _ _ h => h) (Or.inl ⟨by rfl, ?_⟩) (by assumption) ?_
  rotate_left
  · (intro w hSw; (try dsimp only at hSw); go_simp <;> (with_reducible rfl))
  try simp only [Act.put, List.setIfInBounds_toArray, List.set_cons_zero, List.set_cons_succ]
  refine wpAnyH_take (i := 13) (oi := { dst := some 26, op := Op.load 28 (Operand.tmp 3), type := 28, pos := "law.go:22", after := #[{ on := 12, ground := Ground.guard }], guard := some (12, true) }) (v := ?_) rfl (by kernel_rfl) (by kernel_rfl) (by kernel_rfl) (fun _ _ _ h => h) (Or.inl ⟨by rfl, ?_⟩) (by assumption) ?_
  rotate_left
  · (intro w hSw; (try dsimp only at hSw); go_simp <;> (with_reducible rfl))
  try simp only [Act.put, List.setIfInBounds_toArray, List.set_cons_zero, List.set_cons_succ]
  refine wpAnyH_take (i := 14) (oi := { dst := some 27, op := Op.load 28 (Operand.tmp 4), type := 28, pos := "law.go:22", after := #[{ on := 12, ground := Ground.guard }], guard := some (12, true) }) (v := ?_) rfl (by kernel_rfl) (by kernel_rfl) (by kernel_rfl) (fun _ _ _ h => h) (Or.inl ⟨by rfl, ?_⟩) (by assumption) ?_
  rotate_left
  · (intro w hSw; (try dsimp only at hSw); go_simp <;> (with_reducible rfl))
  try simp only [Act.put, List.setIfInBounds_toArray, List.set_cons_zero, List.set_cons_succ]
  refine wpAnyH_take (i := 16) (oi := { dst := some 29, op := Op.load 28 (Operand.tmp 3), type := 28, pos := "law.go:22", after := #[{ on := 12, ground := Ground.guard }], guard := some (12, true) }) (v := ?_) rfl (by kernel_rfl) (by kernel_rfl) (by kernel_rfl) (fun _ _ _ h => h) (Or.inl ⟨by rfl, ?_⟩) (by assumption) ?_
  rotate_left
  · (intro w hSw; (try dsimp only at hSw); go_simp <;> (with_reducible rfl))
  try simp only [Act.put, List.setIfInBounds_toArray, List.set_cons_zero, List.set_cons_succ]
  refine wpAnyH_take (i := 17) (oi := { dst := some 30, op := Op.load 28 (Operand.tmp 4), type := 28, pos := "law.go:22", after := #[{ on := 12, ground := Ground.guard }], guard := some (12, true) }) (v := ?_) rfl (by kernel_rfl) (by kernel_rfl) (by kernel_rfl) (fun _ _ _ h => h) (Or.inl ⟨by rfl, ?_⟩) (by assumption) ?_
  rotate_left
  · (intro w hSw; (try dsimp only at hSw); go_simp <;> (with_reducible rfl))
  try simp only [Act.put, List.setIfInBounds_toArray, List.set_cons_zero, List.set_cons_succ]
  refine wpAnyH_ready (rs := [15]) (by kernel_rfl) (by simp) ?_
  refine AllReadyH.cons (o := { dst := some 28, op := Op.call { callee := Callee.value (Operand.func 10), args := #[Operand.tmp 26, Operand.tmp 27], argTypes := #[28, 28] }, type := 4, pos := "law.go:22", after := #[{ on := 13, ground := Ground.data }, { on := 14, ground := Ground.data }, { on := 12, ground := Ground.chain }, { on := 12, ground := Ground.guard }], guard := some (12, true) }) rfl (fun K hK => ?_) AllReadyH.nil
  go_simp
  go_at_call 10; (with_reducible refine (L5 _ ?_).mono ?_); (focus (repeat (first | (with_reducible exact Below.refl _ _) | (with_reducible assumption) | (with_reducible apply bel_drew) | (with_reducible apply bel_alloc)))); rintro e V ⟨rfl, bv⟩; have hcV := HK.out V bv
  refine hK.out _ _ (by assumption) (fun hH => ?_)
  clear hHeld hK K
  have hHeld := hH
  clear hH
  try simp only [Act.put, List.setIfInBounds_toArray, List.set_cons_zero, List.set_cons_succ]
  refine wpAnyH_ready (rs := [18]) (by kernel_rfl) (by simp) ?_
  refine AllReadyH.cons (o := { dst := some 31, op := Op.call { callee := Callee.value (Operand.func 11), args := #[Operand.tmp 29, Operand.tmp 30], argTypes := #[28, 28] }, type := 4, pos := "law.go:22", after := #[{ on := 16, ground := Ground.data }, { on := 17, ground := Ground.data }, { on := 15, ground := Ground.chain }, { on := 12, ground := Ground.guard }], guard := some (12, true) }) rfl (fun K hK => ?_) AllReadyH.nil
  go_simp
  go_at_call 11; (with_reducible refine (L6 _ ?_).mono ?_); (focus (repeat (first | (with_reducible exact Below.refl _ _) | (with_reducible assumption) | (with_reducible apply bel_drew) | (with_reducible apply bel_alloc)))); rintro e V ⟨rfl, bv⟩; have hcV := HK.out V bv
  refine hK.out _ _ (by assumption) (fun hH => ?_)
  clear hHeld hK K
  have hHeld := hH
  clear hH
  try simp only [Act.put, List.setIfInBounds_toArray, List.set_cons_zero, List.set_cons_succ]
  refine wpAnyH_take (i := 19) (oi := { dst := some 32, op := Op.binOp BinOp.eql 4 (Operand.tmp 28) (Operand.tmp 31) 4, type := 4, pos := "law.go:22", after := #[{ on := 15, ground := Ground.data }, { on := 18, ground := Ground.data }, { on := 12, ground := Ground.guard }], guard := some (12, true) }) (v := ?_) rfl (by kernel_rfl) (by kernel_rfl) (by kernel_rfl) (fun _ _ _ h => h) (Or.inl ⟨by rfl, ?_⟩) (by assumption) ?_
  rotate_left
  · (intro w hSw; (try dsimp only at hSw); go_simp <;> (with_reducible rfl))
  try simp only [Act.put, List.setIfInBounds_toArray, List.set_cons_zero, List.set_cons_succ]
  refine wpAnyH_take (i := 20) (oi := { dst := some 33, op := Op.pick (Operand.tmp 25) (Operand.tmp 32) (Operand.const (Value.bool false)), type := 4, pos := "law.go:22", after := #[{ on := 12, ground := Ground.data }, { on := 19, ground := Ground.data }], guard := none }) (v := ?_) rfl (by kernel_rfl) (by kernel_rfl) (by kernel_rfl) (fun _ _ _ h => h) (Or.inl ⟨by rfl, ?_⟩) (by assumption) ?_
  rotate_left
  · (intro w hSw; (try dsimp only at hSw); go_simp <;> (with_reducible rfl))
  try simp only [Act.put, List.setIfInBounds_toArray, List.set_cons_zero, List.set_cons_succ]
  refine wpAnyH_take (i := 21) (oi := { dst := some 34, op := Op.move (Operand.tmp 33), type := 4, pos := "law.go:22", after := #[{ on := 20, ground := Ground.data }, { on := 18, ground := Ground.chain }], guard := none }) (v := ?_) rfl (by kernel_rfl) (by kernel_rfl) (by kernel_rfl) (fun _ _ _ h => h) (Or.inl ⟨by rfl, ?_⟩) (by assumption) ?_
  rotate_left
  · (intro w hSw; (try dsimp only at hSw); go_simp <;> (with_reducible rfl))
  try simp only [Act.put, List.setIfInBounds_toArray, List.set_cons_zero, List.set_cons_succ]
  refine wpAnyH_take (i := 22) (oi := { dst := some 35, op := Op.load 28 (Operand.tmp 3), type := 28, pos := "law.go:22", after := #[{ on := 21, ground := Ground.guard }], guard := some (21, true) }) (v := ?_) rfl (by kernel_rfl) (by kernel_rfl) (by kernel_rfl) (fun _ _ _ h => h) (Or.inl ⟨by rfl, ?_⟩) (by assumption) ?_
  rotate_left
  · (intro w hSw; (try dsimp only at hSw); go_simp <;> (with_reducible rfl))
  try simp only [Act.put, List.setIfInBounds_toArray, List.set_cons_zero, List.set_cons_succ]
  refine wpAnyH_take (i := 23) (oi := { dst := some 36, op := Op.load 28 (Operand.tmp 4), type := 28, pos := "law.go:22", after := #[{ on := 21, ground := Ground.guard }], guard := some (21, true) }) (v := ?_) rfl (by kernel_rfl) (by kernel_rfl) (by kernel_rfl) (fun _ _ _ h => h) (Or.inl ⟨by rfl, ?_⟩) (by assumption) ?_
  rotate_left
  · (intro w hSw; (try dsimp only at hSw); go_simp <;> (with_reducible rfl))
  try simp only [Act.put, List.setIfInBounds_toArray, List.set_cons_zero, List.set_cons_succ]
  refine wpAnyH_take (i := 25) (oi := { dst := some 38, op := Op.fieldAddr 28 (Operand.tmp 3) 0, type := 0, pos := "law.go:22", after := #[{ on := 21, ground := Ground.guard }], guard := some (21, true) }) (v := ?_) rfl (by kernel_rfl) (by kernel_rfl) (by kernel_rfl) (fun _ _ _ h => h) (Or.inl ⟨by rfl, ?_⟩) (by assumption) ?_
  rotate_left
  · (intro w hSw; (try dsimp only at hSw); go_simp <;> (with_reducible rfl))
  try simp only [Act.put, List.setIfInBounds_toArray, List.set_cons_zero, List.set_cons_succ]
  refine wpAnyH_take (i := 26) (oi := { dst := some 39, op := Op.load 25 (Operand.tmp 38), type := 25, pos := "law.go:22", after := #[{ on := 25, ground := Ground.data }, { on := 21, ground := Ground.guard }], guard := some (21, true) }) (v := ?_) rfl (by kernel_rfl) (by kernel_rfl) (by kernel_rfl) (fun _ _ _ h => h) (Or.inl ⟨by rfl, ?_⟩) (by assumption) ?_
  rotate_left
  · (intro w hSw; (try dsimp only at hSw); go_simp <;> (with_reducible rfl))
  try simp only [Act.put, List.setIfInBounds_toArray, List.set_cons_zero, List.set_cons_succ]
  refine wpAnyH_take (i := 27) (oi := { dst := some 40, op := Op.fieldAddr 28 (Operand.tmp 4) 0, type := 0, pos := "law.go:22", after := #[{ on := 21, ground := Ground.guard }], guard := some (21, true) }) (v := ?_) rfl (by kernel_rfl) (by kernel_rfl) (by kernel_rfl) (fun _ _ _ h => h) (Or.inl ⟨by rfl, ?_⟩) (by assumption) ?_
  rotate_left
  · (intro w hSw; (try dsimp only at hSw); go_simp <;> (with_reducible rfl))
  try simp only [Act.put, List.setIfInBounds_toArray, List.set_cons_zero, List.set_cons_succ]
  refine wpAnyH_take (i := 28) (oi := { dst := some 41, op := Op.load 25 (Operand.tmp 40), type := 25, pos := "law.go:22", after := #[{ on := 27, ground := Ground.data }, { on := 21, ground := Ground.guard }], guard := some (21, true) }) (v := ?_) rfl (by kernel_rfl) (by kernel_rfl) (by kernel_rfl) (fun _ _ _ h => h) (Or.inl ⟨by rfl, ?_⟩) (by assumption) ?_
  rotate_left
  · (intro w hSw; (try dsimp only at hSw); go_simp <;> (with_reducible rfl))
  try simp only [Act.put, List.setIfInBounds_toArray, List.set_cons_zero, List.set_cons_succ]
  refine wpAnyH_take (i := 29) (oi := { dst := some 42, op := Op.binOp BinOp.eql 25 (Operand.tmp 39) (Operand.tmp 41) 25, type := 4, pos := "law.go:22", after := #[{ on := 26, ground := Ground.data }, { on := 28, ground := Ground.data }, { on := 21, ground := Ground.guard }], guard := some (21, true) }) (v := ?_) rfl (by kernel_rfl) (by kernel_rfl) (by kernel_rfl) (fun _ _ _ h => h) (Or.inl ⟨by rfl, ?_⟩) (by assumption) ?_
  rotate_left
  · (intro w hSw; (try dsimp only at hSw); go_simp <;> (with_reducible rfl))
  try simp only [Act.put, List.setIfInBounds_toArray, List.set_cons_zero, List.set_cons_succ]
  refine wpAnyH_ready (rs := [24]) (by kernel_rfl) (by simp) ?_
  refine AllReadyH.cons (o := { dst := some 37, op := Op.call { callee := Callee.value (Operand.func 12), args := #[Operand.tmp 35, Operand.tmp 36], argTypes := #[28, 28] }, type := 4, pos := "law.go:22", after := #[{ on := 22, ground := Ground.data }, { on := 23, ground := Ground.data }, { on := 21, ground := Ground.chain }, { on := 21, ground := Ground.guard }], guard := some (21, true) }) rfl (fun K hK => ?_) AllReadyH.nil
  go_simp
  go_at_call 12; (with_reducible refine (L7 _ ?_).mono ?_); (focus (repeat (first | (with_reducible exact Below.refl _ _) | (with_reducible assumption) | (with_reducible apply bel_drew) | (with_reducible apply bel_alloc)))); rintro e V ⟨rfl, bv⟩; have hcV := HK.out V bv
  refine hK.out _ _ (by assumption) (fun hH => ?_)
  clear hHeld hK K
  have hHeld := hH
  clear hH
  try simp only [Act.put, List.setIfInBounds_toArray, List.set_cons_zero, List.set_cons_succ]
  refine wpAnyH_take (i := 30) (oi := { dst := some 43, op := Op.move (Operand.tmp 42), type := 4, pos := "law.go:22", after := #[{ on := 29, ground := Ground.data }, { on := 24, ground := Ground.chain }, { on := 21, ground := Ground.guard }], guard := some (21, true) }) (v := ?_) rfl (by kernel_rfl) (by kernel_rfl) (by kernel_rfl) (fun _ _ _ h => h) (Or.inl ⟨by rfl, ?_⟩) (by assumption) ?_
  rotate_left
  · (intro w hSw; (try dsimp only at hSw); go_simp <;> (with_reducible rfl))
  try simp only [Act.put, List.setIfInBounds_toArray, List.set_cons_zero, List.set_cons_succ]
  refine wpAnyH_take (i := 31) (oi := { dst := some 44, op := Op.load 28 (Operand.tmp 3), type := 28, pos := "law.go:22", after := #[{ on := 30, ground := Ground.guard }], guard := some (30, true) }) (v := undef) rfl (by kernel_rfl) (by kernel_rfl) (by kernel_rfl) (fun _ _ _ h => h) (Or.inr ⟨by rfl, rfl⟩) (by assumption) ?_
  try simp only [Act.put, List.setIfInBounds_toArray, List.set_cons_zero, List.set_cons_succ]
  refine wpAnyH_take (i := 32) (oi := { dst := some 45, op := Op.load 28 (Operand.tmp 4), type := 28, pos := "law.go:22", after := #[{ on := 30, ground := Ground.guard }], guard := some (30, true) }) (v := undef) rfl (by kernel_rfl) (by kernel_rfl) (by kernel_rfl) (fun _ _ _ h => h) (Or.inr ⟨by rfl, rfl⟩) (by assumption) ?_
  try simp only [Act.put, List.setIfInBounds_toArray, List.set_cons_zero, List.set_cons_succ]
  refine wpAnyH_ready (rs := [33]) (by kernel_rfl) (by simp) ?_
  refine AllReadyH.cons (o := { dst := some 46, op := Op.call { callee := Callee.value (Operand.func 11), args := #[Operand.tmp 44, Operand.tmp 45], argTypes := #[28, 28] }, type := 4, pos := "law.go:22", after := #[{ on := 31, ground := Ground.data }, { on := 32, ground := Ground.data }, { on := 30, ground := Ground.chain }, { on := 30, ground := Ground.guard }], guard := some (30, true) }) rfl (fun K hK => ?_) AllReadyH.nil
  go_simp
  refine hK.out _ _ (by assumption) (fun hH => ?_)
  clear hHeld hK K
  have hHeld := hH
  clear hH
  try simp only [Act.put, List.setIfInBounds_toArray, List.set_cons_zero, List.set_cons_succ]
  refine wpAnyH_take (i := 34) (oi := { dst := some 47, op := Op.unOp UnOp.not 4 (Operand.tmp 46), type := 4, pos := "law.go:22", after := #[{ on := 33, ground := Ground.data }, { on := 30, ground := Ground.guard }], guard := some (30, true) }) (v := undef) rfl (by kernel_rfl) (by kernel_rfl) (by kernel_rfl) (fun _ _ _ h => h) (Or.inr ⟨by rfl, rfl⟩) (by assumption) ?_
  try simp only [Act.put, List.setIfInBounds_toArray, List.set_cons_zero, List.set_cons_succ]
  refine wpAnyH_take (i := 35) (oi := { dst := some 48, op := Op.pick (Operand.tmp 43) (Operand.tmp 47) (Operand.const (Value.bool false)), type := 4, pos := "law.go:22", after := #[{ on := 30, ground := Ground.data }, { on := 34, ground := Ground.data }, { on := 21, ground := Ground.guard }], guard := some (21, true) }) (v := ?_) rfl (by kernel_rfl) (by kernel_rfl) (by kernel_rfl) (fun _ _ _ h => h) (Or.inl ⟨by rfl, ?_⟩) (by assumption) ?_
  rotate_left
  · (intro w hSw; (try dsimp only at hSw); go_simp <;> (with_reducible rfl))
  try simp only [Act.put, List.setIfInBounds_toArray, List.set_cons_zero, List.set_cons_succ]
  refine wpAnyH_take (i := 36) (oi := { dst := some 49, op := Op.binOp BinOp.eql 4 (Operand.tmp 37) (Operand.tmp 48) 4, type := 4, pos := "law.go:22", after := #[{ on := 24, ground := Ground.data }, { on := 35, ground := Ground.data }, { on := 21, ground := Ground.guard }], guard := some (21, true) }) (v := ?_) rfl (by kernel_rfl) (by kernel_rfl) (by kernel_rfl) (fun _ _ _ h => h) (Or.inl ⟨by rfl, ?_⟩) (by assumption) ?_
  rotate_left
  · (intro w hSw; (try dsimp only at hSw); go_simp <;> (with_reducible rfl))
  try simp only [Act.put, List.setIfInBounds_toArray, List.set_cons_zero, List.set_cons_succ]
  refine wpAnyH_take (i := 37) (oi := { dst := some 50, op := Op.pick (Operand.tmp 34) (Operand.tmp 49) (Operand.const (Value.bool false)), type := 4, pos := "law.go:22", after := #[{ on := 21, ground := Ground.data }, { on := 36, ground := Ground.data }], guard := none }) (v := ?_) rfl (by kernel_rfl) (by kernel_rfl) (by kernel_rfl) (fun _ _ _ h => h) (Or.inl ⟨by rfl, ?_⟩) (by assumption) ?_
  rotate_left
  · (intro w hSw; (try dsimp only at hSw); go_simp <;> (with_reducible rfl))
  try simp only [Act.put, List.setIfInBounds_toArray, List.set_cons_zero, List.set_cons_succ]
  refine wpAnyH_take (i := 38) (oi := { dst := some 51, op := Op.move (Operand.tmp 50), type := 4, pos := "law.go:22", after := #[{ on := 37, ground := Ground.data }, { on := 33, ground := Ground.chain }], guard := none }) (v := ?_) rfl (by kernel_rfl) (by kernel_rfl) (by kernel_rfl) (fun _ _ _ h => h) (Or.inl ⟨by rfl, ?_⟩) (by assumption) ?_
  rotate_left
  · (intro w hSw; (try dsimp only at hSw); go_simp <;> (with_reducible rfl))
  try simp only [Act.put, List.setIfInBounds_toArray, List.set_cons_zero, List.set_cons_succ]
  refine wpAnyH_take (i := 39) (oi := { dst := some 52, op := Op.load 28 (Operand.tmp 3), type := 28, pos := "law.go:22", after := #[{ on := 38, ground := Ground.guard }], guard := some (38, true) }) (v := ?_) rfl (by kernel_rfl) (by kernel_rfl) (by kernel_rfl) (fun _ _ _ h => h) (Or.inl ⟨by rfl, ?_⟩) (by assumption) ?_
  rotate_left
  · (intro w hSw; (try dsimp only at hSw); go_simp <;> (with_reducible rfl))
  try simp only [Act.put, List.setIfInBounds_toArray, List.set_cons_zero, List.set_cons_succ]
  refine wpAnyH_take (i := 40) (oi := { dst := some 53, op := Op.load 25 (Operand.tmp 5), type := 25, pos := "law.go:22", after := #[{ on := 38, ground := Ground.guard }], guard := some (38, true) }) (v := ?_) rfl (by kernel_rfl) (by kernel_rfl) (by kernel_rfl) (fun _ _ _ h => h) (Or.inl ⟨by rfl, ?_⟩) (by assumption) ?_
  rotate_left
  · (intro w hSw; (try dsimp only at hSw); go_simp <;> (with_reducible rfl))
  try simp only [Act.put, List.setIfInBounds_toArray, List.set_cons_zero, List.set_cons_succ]
  refine wpAnyH_take (i := 42) (oi := { dst := some 55, op := Op.fieldAddr 28 (Operand.tmp 3) 5, type := 0, pos := "law.go:22", after := #[{ on := 38, ground := Ground.guard }], guard := some (38, true) }) (v := ?_) rfl (by kernel_rfl) (by kernel_rfl) (by kernel_rfl) (fun _ _ _ h => h) (Or.inl ⟨by rfl, ?_⟩) (by assumption) ?_
  rotate_left
  · (intro w hSw; (try dsimp only at hSw); go_simp <;> (with_reducible rfl))
  try simp only [Act.put, List.setIfInBounds_toArray, List.set_cons_zero, List.set_cons_succ]
  refine wpAnyH_take (i := 43) (oi := { dst := some 56, op := Op.load 26 (Operand.tmp 55), type := 26, pos := "law.go:22", after := #[{ on := 42, ground := Ground.data }, { on := 38, ground := Ground.guard }], guard := some (38, true) }) (v := ?_) rfl (by kernel_rfl) (by kernel_rfl) (by kernel_rfl) (fun _ _ _ h => h) (Or.inl ⟨by rfl, ?_⟩) (by assumption) ?_
  rotate_left
  · (intro w hSw; (try dsimp only at hSw); go_simp <;> (with_reducible rfl))
  try simp only [Act.put, List.setIfInBounds_toArray, List.set_cons_zero, List.set_cons_succ]
  refine wpAnyH_take (i := 44) (oi := { dst := some 57, op := Op.load 25 (Operand.tmp 5), type := 25, pos := "law.go:22", after := #[{ on := 38, ground := Ground.guard }], guard := some (38, true) }) (v := ?_) rfl (by kernel_rfl) (by kernel_rfl) (by kernel_rfl) (fun _ _ _ h => h) (Or.inl ⟨by rfl, ?_⟩) (by assumption) ?_
  rotate_left
  · (intro w hSw; (try dsimp only at hSw); go_simp <;> (with_reducible rfl))
  try simp only [Act.put, List.setIfInBounds_toArray, List.set_cons_zero, List.set_cons_succ]
  refine wpAnyH_ready (rs := [41]) (by kernel_rfl) (by simp) ?_
  refine AllReadyH.cons (o := { dst := some 54, op := Op.call { callee := Callee.value (Operand.func 13), args := #[Operand.tmp 52, Operand.tmp 53], argTypes := #[28, 25] }, type := 4, pos := "law.go:22", after := #[{ on := 39, ground := Ground.data }, { on := 40, ground := Ground.data }, { on := 38, ground := Ground.chain }, { on := 38, ground := Ground.guard }], guard := some (38, true) }) rfl (fun K hK => ?_) AllReadyH.nil
  go_simp
  go_at_call 13; (with_reducible refine (L8 _ ?_).mono ?_); (focus (repeat (first | (with_reducible exact Below.refl _ _) | (with_reducible assumption) | (with_reducible apply bel_drew) | (with_reducible apply bel_alloc)))); rintro e V ⟨rfl, bv⟩; have hcV := HK.out V bv
  refine hK.out _ _ (by assumption) (fun hH => ?_)
  clear hHeld hK K
  have hHeld := hH
  clear hH
  try simp only [Act.put, List.setIfInBounds_toArray, List.set_cons_zero, List.set_cons_succ]
  refine wpAnyH_ready (rs := [45]) (by kernel_rfl) (by simp) ?_
  refine AllReadyH.cons (o := { dst := some 58, op := Op.call { callee := Callee.value (Operand.func 14), args := #[Operand.tmp 56, Operand.tmp 57], argTypes := #[26, 25] }, type := 4, pos := "law.go:22", after := #[{ on := 43, ground := Ground.data }, { on := 44, ground := Ground.data }, { on := 41, ground := Ground.chain }, { on := 38, ground := Ground.guard }], guard := some (38, true) }) rfl (fun K hK => ?_) AllReadyH.nil
  go_simp
  go_at_call 14; (with_reducible refine (L9 _ ?_).mono ?_); (focus (repeat (first | (with_reducible exact Below.refl _ _) | (with_reducible assumption) | (with_reducible apply bel_drew) | (with_reducible apply bel_alloc)))); rintro e V ⟨rfl, bv⟩; have hcV := HK.out V bv
  refine hK.out _ _ (by assumption) (fun hH => ?_)
  clear hHeld hK K
  have hHeld := hH
  clear hH
  try simp only [Act.put, List.setIfInBounds_toArray, List.set_cons_zero, List.set_cons_succ]
  refine wpAnyH_take (i := 46) (oi := { dst := some 59, op := Op.binOp BinOp.eql 4 (Operand.tmp 54) (Operand.tmp 58) 4, type := 4, pos := "law.go:22", after := #[{ on := 41, ground := Ground.data }, { on := 45, ground := Ground.data }, { on := 38, ground := Ground.guard }], guard := some (38, true) }) (v := ?_) rfl (by kernel_rfl) (by kernel_rfl) (by kernel_rfl) (fun _ _ _ h => h) (Or.inl ⟨by rfl, ?_⟩) (by assumption) ?_
  rotate_left
  · (intro w hSw; (try dsimp only at hSw); go_simp <;> (with_reducible rfl))
  try simp only [Act.put, List.setIfInBounds_toArray, List.set_cons_zero, List.set_cons_succ]
  refine wpAnyH_take (i := 47) (oi := { dst := some 60, op := Op.pick (Operand.tmp 51) (Operand.tmp 59) (Operand.const (Value.bool false)), type := 4, pos := "law.go:22", after := #[{ on := 38, ground := Ground.data }, { on := 46, ground := Ground.data }], guard := none }) (v := ?_) rfl (by kernel_rfl) (by kernel_rfl) (by kernel_rfl) (fun _ _ _ h => h) (Or.inl ⟨by rfl, ?_⟩) (by assumption) ?_
  rotate_left
  · (intro w hSw; (try dsimp only at hSw); go_simp <;> (with_reducible rfl))
  try simp only [Act.put, List.setIfInBounds_toArray, List.set_cons_zero, List.set_cons_succ]
  refine wpAnyH_take (i := 48) (oi := { dst := some 61, op := Op.move (Operand.tmp 60), type := 4, pos := "law.go:22", after := #[{ on := 47, ground := Ground.data }, { on := 45, ground := Ground.chain }], guard := none }) (v := ?_) rfl (by kernel_rfl) (by kernel_rfl) (by kernel_rfl) (fun _ _ _ h => h) (Or.inl ⟨by rfl, ?_⟩) (by assumption) ?_
  rotate_left
  · (intro w hSw; (try dsimp only at hSw); go_simp <;> (with_reducible rfl))
  try simp only [Act.put, List.setIfInBounds_toArray, List.set_cons_zero, List.set_cons_succ]
  refine wpAnyH_ready (rs := [49]) (by kernel_rfl) (by simp) ?_
  refine AllReadyH.cons (o := { dst := some 62, op := Op.call { callee := Callee.value (Operand.func 7), args := #[], argTypes := #[] }, type := 4, pos := "law.go:22", after := #[{ on := 48, ground := Ground.chain }, { on := 48, ground := Ground.guard }], guard := some (48, true) }) rfl (fun K hK => ?_) AllReadyH.nil
  go_simp
  go_at_call 7; (with_reducible refine (L0 _ ?_).mono ?_); (focus (repeat (first | (with_reducible exact Below.refl _ _) | (with_reducible assumption) | (with_reducible apply bel_drew) | (with_reducible apply bel_alloc)))); rintro e V ⟨rfl, bv⟩; have hcV := HK.out V bv
  refine hK.out _ _ (by assumption) (fun hH => ?_)
  clear hHeld hK K
  have hHeld := hH
  clear hH
  try simp only [Act.put, List.setIfInBounds_toArray, List.set_cons_zero, List.set_cons_succ]
  refine wpAnyH_take (i := 50) (oi := { dst := some 63, op := Op.pick (Operand.tmp 61) (Operand.tmp 62) (Operand.const (Value.bool false)), type := 4, pos := "law.go:22", after := #[{ on := 48, ground := Ground.data }, { on := 49, ground := Ground.data }], guard := none }) (v := ?_) rfl (by kernel_rfl) (by kernel_rfl) (by kernel_rfl) (fun _ _ _ h => h) (Or.inl ⟨by rfl, ?_⟩) (by assumption) ?_
  rotate_left
  · (intro w hSw; (try dsimp only at hSw); go_simp <;> (with_reducible rfl))
  try simp only [Act.put, List.setIfInBounds_toArray, List.set_cons_zero, List.set_cons_succ]
  refine wpAnyH_take (i := 51) (oi := { dst := some 6, op := Op.assign (Operand.tmp 63), type := 4, pos := "law.go:22", after := #[{ on := 50, ground := Ground.data }, { on := 49, ground := Ground.chain }, { on := 0, ground := Ground.phase }, { on := 1, ground := Ground.phase }, { on := 2, ground := Ground.phase }, { on := 3, ground := Ground.phase }, { on := 4, ground := Ground.phase }, { on := 5, ground := Ground.phase }, { on := 6, ground := Ground.phase }, { on := 7, ground := Ground.phase }, { on := 8, ground := Ground.phase }, { on := 9, ground := Ground.phase }, { on := 10, ground := Ground.phase }, { on := 11, ground := Ground.phase }, { on := 12, ground := Ground.phase }, { on := 13, ground := Ground.phase }, { on := 14, ground := Ground.phase }, { on := 15, ground := Ground.phase }, { on := 16, ground := Ground.phase }, { on := 17, ground := Ground.phase }, { on := 18, ground := Ground.phase }, { on := 19, ground := Ground.phase }, { on := 20, ground := Ground.phase }, { on := 21, ground := Ground.phase }, { on := 22, ground := Ground.phase }, { on := 23, ground := Ground.phase }, { on := 24, ground := Ground.phase }, { on := 25, ground := Ground.phase }, { on := 26, ground := Ground.phase }, { on := 27, ground := Ground.phase }, { on := 28, ground := Ground.phase }, { on := 29, ground := Ground.phase }, { on := 30, ground := Ground.phase }, { on := 31, ground := Ground.phase }, { on := 32, ground := Ground.phase }, { on := 33, ground := Ground.phase }, { on := 34, ground := Ground.phase }, { on := 35, ground := Ground.phase }, { on := 36, ground := Ground.phase }, { on := 37, ground := Ground.phase }, { on := 38, ground := Ground.phase }, { on := 39, ground := Ground.phase }, { on := 40, ground := Ground.phase }, { on := 41, ground := Ground.phase }, { on := 42, ground := Ground.phase }, { on := 43, ground := Ground.phase }, { on := 44, ground := Ground.phase }, { on := 45, ground := Ground.phase }, { on := 46, ground := Ground.phase }, { on := 47, ground := Ground.phase }, { on := 48, ground := Ground.phase }, { on := 49, ground := Ground.phase }, { on := 50, ground := Ground.phase }], guard := none }) (v := ?_) rfl (by kernel_rfl) (by kernel_rfl) (by kernel_rfl) (fun _ _ _ h => h) (Or.inl ⟨by rfl, ?_⟩) (by assumption) ?_
  rotate_left
  · (intro w hSw; (try dsimp only at hSw); go_simp <;> (with_reducible rfl))
  try simp only [Act.put, List.setIfInBounds_toArray, List.set_cons_zero, List.set_cons_succ]
  refine wpAnyH_done (by kernel_rfl) ?_ _
  refine NoPanic.normal ?_
  go_wp2
  go_ret
  exact ⟨rfl, HB5.out.trans (bv.mono HB5.out.size)⟩

set_option maxHeartbeats 16000000 in
theorem tells_two (P : PEvent) (w : World) (p q : EV) (x y : Evt) (d : Dt.Dot) (hp : EventIs w w.heap.size p x) (hq : EventIs w w.heap.size q y) (hd : d.1 < 65536 ∧ d.2 < 18446744073709551616) (hfew : fewB [x, y] 2 = true) (hdot : ¬ x.dot = y.dot) (htwo : p.dev = q.dev) :
    Calls Try.prog 3 #[p.val, q.val, .agg #[.int .u16 (d.1 : Int), .int .u64 (d.2 : Int)]] w fun e w' => e = .returned (.bool true) ∧ Below w.heap.size w w' := by
  have hxd := is_dot hp
  have hyd := is_dot hq
  obtain ⟨p1, p2, p3, p4, p5, p6, pA, pn, pc⟩ := p
  obtain ⟨q1, q2, q3, q4, q5, q6, qA, qn, qc⟩ := q
  obtain ⟨d1, d2⟩ := d
  simp only [EV.val]
  simp only at hxd hyd
  have HB := Lib.hid (below_new3 w (.cells #[.int .u16 (p1 : Int), .int .u64 (p2 : Int), .int .u8 (p3 : Int), .int .u64 (p4 : Int), .int .u8 (p5 : Int), .string p6, .slice pA pn pc] 28) (.cells #[.int .u16 (q1 : Int), .int .u64 (q2 : Int), .int .u8 (q3 : Int), .int .u64 (q4 : Int), .int .u8 (q5 : Int), .string q6, .slice qA qn qc] 28) (.cells #[.int .u16 (d1 : Int), .int .u64 (d2 : Int)] 25))
  have HP := Lib.hid (hp.up HB.out)
  have HQ := Lib.hid (hq.up HB.out)
  have h1 := (box_new w ⟨p1, p2, p3, p4, p5, p6, pA, pn, pc⟩ (((w.alloc (.cells #[.int .u16 (p1 : Int), .int .u64 (p2 : Int), .int .u8 (p3 : Int), .int .u64 (p4 : Int), .int .u8 (p5 : Int), .string p6, .slice pA pn pc] 28)).alloc (.cells #[.int .u16 (q1 : Int), .int .u64 (q2 : Int), .int .u8 (q3 : Int), .int .u64 (q4 : Int), .int .u8 (q5 : Int), .string q6, .slice qA qn qc] 28)).alloc (.cells #[.int .u16 (d1 : Int), .int .u64 (d2 : Int)] 25)) (by have h := below_new2 (w.alloc (.cells #[.int .u16 (p1 : Int), .int .u64 (p2 : Int), .int .u8 (p3 : Int), .int .u64 (p4 : Int), .int .u8 (p5 : Int), .string p6, .slice pA pn pc] 28)) (.cells #[.int .u16 (q1 : Int), .int .u64 (q2 : Int), .int .u8 (q3 : Int), .int .u64 (q4 : Int), .int .u8 (q5 : Int), .string q6, .slice qA qn qc] 28) (.cells #[.int .u16 (d1 : Int), .int .u64 (d2 : Int)] 25); rw [alloc_size] at h; exact h)).all
  have h2 := (box_new (w.alloc (.cells #[.int .u16 (p1 : Int), .int .u64 (p2 : Int), .int .u8 (p3 : Int), .int .u64 (p4 : Int), .int .u8 (p5 : Int), .string p6, .slice pA pn pc] 28)) ⟨q1, q2, q3, q4, q5, q6, qA, qn, qc⟩ (((w.alloc (.cells #[.int .u16 (p1 : Int), .int .u64 (p2 : Int), .int .u8 (p3 : Int), .int .u64 (p4 : Int), .int .u8 (p5 : Int), .string p6, .slice pA pn pc] 28)).alloc (.cells #[.int .u16 (q1 : Int), .int .u64 (q2 : Int), .int .u8 (q3 : Int), .int .u64 (q4 : Int), .int .u8 (q5 : Int), .string q6, .slice qA qn qc] 28)).alloc (.cells #[.int .u16 (d1 : Int), .int .u64 (d2 : Int)] 25)) (by have h := below_new ((w.alloc (.cells #[.int .u16 (p1 : Int), .int .u64 (p2 : Int), .int .u8 (p3 : Int), .int .u64 (p4 : Int), .int .u8 (p5 : Int), .string p6, .slice pA pn pc] 28)).alloc (.cells #[.int .u16 (q1 : Int), .int .u64 (q2 : Int), .int .u8 (q3 : Int), .int .u64 (q4 : Int), .int .u8 (q5 : Int), .string q6, .slice qA qn qc] 28)) (.cells #[.int .u16 (d1 : Int), .int .u64 (d2 : Int)] 25); rw [alloc_size] at h; exact h)).all
  rw [alloc_size] at h2
  have h3 : (((w.alloc (.cells #[.int .u16 (p1 : Int), .int .u64 (p2 : Int), .int .u8 (p3 : Int), .int .u64 (p4 : Int), .int .u8 (p5 : Int), .string p6, .slice pA pn pc] 28)).alloc (.cells #[.int .u16 (q1 : Int), .int .u64 (q2 : Int), .int .u8 (q3 : Int), .int .u64 (q4 : Int), .int .u8 (q5 : Int), .string q6, .slice qA qn qc] 28)).alloc (.cells #[.int .u16 (d1 : Int), .int .u64 (d2 : Int)] 25)).cell? ⟨w.heap.size + 1 + 1, 0, none⟩ = some (.int .u16 (d1 : Int)) ∧ (((w.alloc (.cells #[.int .u16 (p1 : Int), .int .u64 (p2 : Int), .int .u8 (p3 : Int), .int .u64 (p4 : Int), .int .u8 (p5 : Int), .string p6, .slice pA pn pc] 28)).alloc (.cells #[.int .u16 (q1 : Int), .int .u64 (q2 : Int), .int .u8 (q3 : Int), .int .u64 (q4 : Int), .int .u8 (q5 : Int), .string q6, .slice qA qn qc] 28)).alloc (.cells #[.int .u16 (d1 : Int), .int .u64 (d2 : Int)] 25)).cell? ⟨w.heap.size + 1 + 1, 1, none⟩ = some (.int .u64 (d2 : Int)) := by constructor <;> simp [go_sem]
  simp only at h1 h2
  have HTWO := Lib.hid htwo
  clear htwo
  clear hp hq
  go_enter Try.func3, Try.ntmps3
  go_upto_region 1 with fail
  generalize ((w.alloc (.cells #[.int .u16 (p1 : Int), .int .u64 (p2 : Int), .int .u8 (p3 : Int), .int .u64 (p4 : Int), .int .u8 (p5 : Int), .string p6, .slice pA pn pc] 28)).alloc (.cells #[.int .u16 (q1 : Int), .int .u64 (q2 : Int), .int .u8 (q3 : Int), .int .u64 (q4 : Int), .int .u8 (q5 : Int), .string q6, .slice qA qn qc] 28)).alloc (.cells #[.int .u16 (d1 : Int), .int .u64 (d2 : Int)] 25) = w3 at *
  generalize w.heap.size + 1 + 1 = b3 at *
  generalize w.heap.size + 1 = b2 at *
  generalize hb1 : w.heap.size = b1 at h1 ⊢
  have HK : Hid (∀ V, Below w3.heap.size w3 V → (V.cell? ⟨b1, 0, none⟩ = some (.int .u16 (p1 : Int)) ∧ V.cell? ⟨b1, 1, none⟩ = some (.int .u64 (p2 : Int)) ∧ V.cell? ⟨b1, 2, none⟩ = some (.int .u8 (p3 : Int)) ∧ V.cell? ⟨b1, 3, none⟩ = some (.int .u64 (p4 : Int)) ∧ V.cell? ⟨b1, 4, none⟩ = some (.int .u8 (p5 : Int)) ∧ V.cell? ⟨b1, 5, none⟩ = some (.string p6) ∧ V.cell? ⟨b1, 6, none⟩ = some (.slice pA pn pc)) ∧ (V.cell? ⟨b2, 0, none⟩ = some (.int .u16 (q1 : Int)) ∧ V.cell? ⟨b2, 1, none⟩ = some (.int .u64 (q2 : Int)) ∧ V.cell? ⟨b2, 2, none⟩ = some (.int .u8 (q3 : Int)) ∧ V.cell? ⟨b2, 3, none⟩ = some (.int .u64 (q4 : Int)) ∧ V.cell? ⟨b2, 4, none⟩ = some (.int .u8 (q5 : Int)) ∧ V.cell? ⟨b2, 5, none⟩ = some (.string q6) ∧ V.cell? ⟨b2, 6, none⟩ = some (.slice qA qn qc)) ∧ V.cell? ⟨b3, 0, none⟩ = some (.int .u16 (d1 : Int)) ∧ V.cell? ⟨b3, 1, none⟩ = some (.int .u64 (d2 : Int))) := Lib.hid (fun V hV => ⟨⟨stays hV h1.1, stays hV h1.2.1, stays hV h1.2.2.1, stays hV h1.2.2.2.1, stays hV h1.2.2.2.2.1, stays hV h1.2.2.2.2.2.1, stays hV h1.2.2.2.2.2.2⟩, ⟨stays hV h2.1, stays hV h2.2.1, stays hV h2.2.2.1, stays hV h2.2.2.2.1, stays hV h2.2.2.2.2.1, stays hV h2.2.2.2.2.2.1, stays hV h2.2.2.2.2.2.2⟩, stays hV h3.1, stays hV h3.2⟩)
  clear h1 h2 h3
  obtain ⟨⟨k0, k1, k2, k3, k4, k5, k6⟩, ⟨m0, m1, m2, m3, m4, m5, m6⟩, n0, n1⟩ := HK.out w3 (Below.refl _ _)
  have CF := rfew_any _ _ [x, y] 2 2 2 (by decide) (evts_two w3 ⟨p1, p2, p3, p4, p5, p6, pA, pn, pc⟩ ⟨q1, q2, q3, q4, q5, q6, qA, qn, qc⟩ x y HP.out HQ.out)
  rw [show ((2 : Nat) : Int) = 2 from rfl] at CF
  rw [hfew] at CF
  have HB4 := Lib.hid (below_new w3 (.cells #[.int .u16 (p1 : Int), .int .u64 (p2 : Int), .int .u8 (p3 : Int), .int .u64 (p4 : Int), .int .u8 (p5 : Int), .string p6, .slice pA pn pc, .int .u16 (q1 : Int), .int .u64 (q2 : Int), .int .u8 (q3 : Int), .int .u64 (q4 : Int), .int .u8 (q5 : Int), .string q6, .slice qA qn qc] 28))
  go_wp2_with fail
  generalize w3.alloc (.cells #[.int .u16 (p1 : Int), .int .u64 (p2 : Int), .int .u8 (p3 : Int), .int .u64 (p4 : Int), .int .u8 (p5 : Int), .string p6, .slice pA pn pc, .int .u16 (q1 : Int), .int .u64 (q2 : Int), .int .u8 (q3 : Int), .int .u64 (q4 : Int), .int .u8 (q5 : Int), .string q6, .slice qA qn qc] 28) = w4 at *
  refine CF.mono ?_
  rintro e w5 ⟨rfl, rfl⟩
  have HK5 : Hid (∀ V, Below w5.heap.size w5 V → (V.cell? ⟨b1, 0, none⟩ = some (.int .u16 (p1 : Int)) ∧ V.cell? ⟨b1, 1, none⟩ = some (.int .u64 (p2 : Int)) ∧ V.cell? ⟨b1, 2, none⟩ = some (.int .u8 (p3 : Int)) ∧ V.cell? ⟨b1, 3, none⟩ = some (.int .u64 (p4 : Int)) ∧ V.cell? ⟨b1, 4, none⟩ = some (.int .u8 (p5 : Int)) ∧ V.cell? ⟨b1, 5, none⟩ = some (.string p6) ∧ V.cell? ⟨b1, 6, none⟩ = some (.slice pA pn pc)) ∧ (V.cell? ⟨b2, 0, none⟩ = some (.int .u16 (q1 : Int)) ∧ V.cell? ⟨b2, 1, none⟩ = some (.int .u64 (q2 : Int)) ∧ V.cell? ⟨b2, 2, none⟩ = some (.int .u8 (q3 : Int)) ∧ V.cell? ⟨b2, 3, none⟩ = some (.int .u64 (q4 : Int)) ∧ V.cell? ⟨b2, 4, none⟩ = some (.int .u8 (q5 : Int)) ∧ V.cell? ⟨b2, 5, none⟩ = some (.string q6) ∧ V.cell? ⟨b2, 6, none⟩ = some (.slice qA qn qc)) ∧ V.cell? ⟨b3, 0, none⟩ = some (.int .u16 (d1 : Int)) ∧ V.cell? ⟨b3, 1, none⟩ = some (.int .u64 (d2 : Int))) := Lib.hid (fun V hV => HK.out V (HB4.out.trans (hV.mono HB4.out.size)))
  have HB5 := Lib.hid (HB.out.trans (HB4.out.mono HB.out.size))
  have HP5 := Lib.hid (HP.out.up HB4.out)
  have HQ5 := Lib.hid (HQ.out.up HB4.out)
  clear HK HP HQ k0 k1 k2 k3 k4 k5 k6 m0 m1 m2 m3 m4 m5 m6 n0 n1 CF HB4 HB
  have HK := HK5
  clear HK5
  have L1 := fun W (hW : Below w5.heap.size w5 W) => later hW (P.good W _ x (HP5.out.up hW))
  have L2 := fun W (hW : Below w5.heap.size w5 W) => later hW (rgood_any W _ x (HP5.out.up hW))
  have L3 := fun W (hW : Below w5.heap.size w5 W) => later hW (P.good W _ y (HQ5.out.up hW))
  have L4 := fun W (hW : Below w5.heap.size w5 W) => later hW (rgood_any W _ y (HQ5.out.up hW))
  have L5 := fun W (hW : Below w5.heap.size w5 W) => later hW (P.same W _ _ x y (HP5.out.up hW) (HQ5.out.up hW))
  have L6 := fun W (hW : Below w5.heap.size w5 W) => later hW (rsame_any W _ _ x y (HP5.out.up hW) (HQ5.out.up hW))
  have L7 := fun W (hW : Below w5.heap.size w5 W) => later hW (P.clashes W _ _ x y (HP5.out.up hW) (HQ5.out.up hW))
  have L8 := fun W (hW : Below w5.heap.size w5 W) => later hW (P.kills W _ x (d1, d2) (HP5.out.up hW))
  have L9 := fun W (hW : Below w5.heap.size w5 W) => later hW (Dt.rhas_any W pA x.kills pn pc (d1, d2) (HP5.out.up hW).kills.len (HP5.out.up hW).kills.dots (Nat.le_trans (HP5.out.up hW).kills.wide (by decide)))
  have L0 := fun W (hW : Below w5.heap.size w5 W) => later hW (works_any P W)
  simp only [EV.val] at L1 L2 L3 L4 L5 L6 L7 L8
  rw [evt_dot_eq hdot] at L7
  generalize goodE x = g1 at L1 L2
  generalize goodE y = g2 at L3 L4
  generalize decide (x = y) = g3 at L5 L6
  generalize decide ((d1, d2) ∈ x.kills) = g4 at L8 L9
  rw [hxd, hyd] at hdot
  clear hxd hyd hfew hd
  have htwo : p1 = q1 := HTWO.out
  clear HTWO
  subst htwo
  have e1 : ((p2 : Int) == (q2 : Int)) = false := by rw [beq_eq_false_iff_ne]; intro e; exact hdot (by rw [show p2 = q2 by omega])
  clear hdot
  go_upto_region 3 with fail
  refine wp_region_noPanic ?_
  refine wp_region_held_drew (S := fun V => (V.cell? ⟨b1, 0, none⟩ = some (.int .u16 (p1 : Int)) ∧ V.cell? ⟨b1, 1, none⟩ = some (.int .u64 (p2 : Int)) ∧ V.cell? ⟨b1, 2, none⟩ = some (.int .u8 (p3 : Int)) ∧ V.cell? ⟨b1, 3, none⟩ = some (.int .u64 (p4 : Int)) ∧ V.cell? ⟨b1, 4, none⟩ = some (.int .u8 (p5 : Int)) ∧ V.cell? ⟨b1, 5, none⟩ = some (.string p6) ∧ V.cell? ⟨b1, 6, none⟩ = some (.slice pA pn pc)) ∧ (V.cell? ⟨b2, 0, none⟩ = some (.int .u16 (p1 : Int)) ∧ V.cell? ⟨b2, 1, none⟩ = some (.int .u64 (q2 : Int)) ∧ V.cell? ⟨b2, 2, none⟩ = some (.int .u8 (q3 : Int)) ∧ V.cell? ⟨b2, 3, none⟩ = some (.int .u64 (q4 : Int)) ∧ V.cell? ⟨b2, 4, none⟩ = some (.int .u8 (q5 : Int)) ∧ V.cell? ⟨b2, 5, none⟩ = some (.string q6) ∧ V.cell? ⟨b2, 6, none⟩ = some (.slice qA qn qc)) ∧ V.cell? ⟨b3, 0, none⟩ = some (.int .u16 (d1 : Int)) ∧ V.cell? ⟨b3, 1, none⟩ = some (.int .u64 (d2 : Int))) (by kernel_rfl) (HK.out _ (bel_drew (Below.refl _ _))) (fun hHeld => ?_)
  refine wpAnyH_take (i := 0) (oi := { dst := some 13, op := Op.load 28 (Operand.tmp 3), type := 28, pos := "law.go:22", after := #[], guard := none }) (v := ?_) rfl (by kernel_rfl) (by kernel_rfl) (by kernel_rfl) (fun _ _ _ h => h) (Or.inl ⟨by rfl, ?_⟩) (by assumption) ?_
  rotate_left
  · (intro w hSw; (try dsimp only at hSw); go_simp <;> (with_reducible rfl))
  try simp only [Act.put, List.setIfInBounds_toArray, List.set_cons_zero, List.set_cons_succ]
  refine wpAnyH_take (i := 2) (oi := { dst := some 15, op := Op.load 28 (Operand.tmp 3), type := 28, pos := "law.go:22", after := #[], guard := none }) (v := ?_) rfl (by kernel_rfl) (by kernel_rfl) (by kernel_rfl) (fun _ _ _ h => h) (Or.inl ⟨by rfl, ?_⟩) (by assumption) ?_
  rotate_left
  · (intro w hSw; (try dsimp only at hSw); go_simp <;> (with_reducible rfl))
  try simp only [Act.put, List.setIfInBounds_toArray, List.set_cons_zero, List.set_cons_succ]
  refine wpAnyH_ready (rs := [1]) (by kernel_rfl) (by simp) ?_
  refine AllReadyH.cons (o := { dst := some 14, op := Op.call { callee := Callee.value (Operand.func 8), args := #[Operand.tmp 13], argTypes := #[28] }, type := 4, pos := "law.go:22", after := #[{ on := 0, ground := Ground.data }], guard := none }) rfl (fun K hK => ?_) AllReadyH.nil
  go_simp
  go_at_call 8; (with_reducible refine (L1 _ ?_).mono ?_); (focus (repeat (first | (with_reducible exact Below.refl _ _) | (with_reducible assumption) | (with_reducible apply bel_drew) | (with_reducible apply bel_alloc)))); rintro e V ⟨rfl, bv⟩; have hcV := HK.out V bv
  refine hK.out _ _ (by assumption) (fun hH => ?_)
  clear hHeld hK K
  have hHeld := hH
  clear hH
  try simp only [Act.put, List.setIfInBounds_toArray, List.set_cons_zero, List.set_cons_succ]
  refine wpAnyH_ready (rs := [3]) (by kernel_rfl) (by simp) ?_
  refine AllReadyH.cons (o := { dst := some 16, op := Op.call { callee := Callee.value (Operand.func 9), args := #[Operand.tmp 15], argTypes := #[28] }, type := 4, pos := "law.go:22", after := #[{ on := 2, ground := Ground.data }, { on := 1, ground := Ground.chain }], guard := none }) rfl (fun K hK => ?_) AllReadyH.nil
  go_simp
  go_at_call 9; (with_reducible refine (L2 _ ?_).mono ?_); (focus (repeat (first | (with_reducible exact Below.refl _ _) | (with_reducible assumption) | (with_reducible apply bel_drew) | (with_reducible apply bel_alloc)))); rintro e V ⟨rfl, bv⟩; have hcV := HK.out V bv
  refine hK.out _ _ (by assumption) (fun hH => ?_)
  clear hHeld hK K
  have hHeld := hH
  clear hH
  try simp only [Act.put, List.setIfInBounds_toArray, List.set_cons_zero, List.set_cons_succ]
  refine wpAnyH_take (i := 4) (oi := { dst := some 17, op := Op.binOp BinOp.eql 4 (Operand.tmp 14) (Operand.tmp 16) 4, type := 4, pos := "law.go:22", after := #[{ on := 1, ground := Ground.data }, { on := 3, ground := Ground.data }], guard := none }) (v := ?_) rfl (by kernel_rfl) (by kernel_rfl) (by kernel_rfl) (fun _ _ _ h => h) (Or.inl ⟨by rfl, ?_⟩) (by assumption) ?_
  rotate_left
  · (intro w hSw; (try dsimp only at hSw); go_simp <;> (with_reducible rfl))
  try simp only [Act.put, List.setIfInBounds_toArray, List.set_cons_zero, List.set_cons_succ]
  refine wpAnyH_take (i := 5) (oi := { dst := some 18, op := Op.move (Operand.tmp 17), type := 4, pos := "law.go:22", after := #[{ on := 4, ground := Ground.data }, { on := 3, ground := Ground.chain }], guard := none }) (v := ?_) rfl (by kernel_rfl) (by kernel_rfl) (by kernel_rfl) (fun _ _ _ h => h) (Or.inl ⟨by rfl, ?_⟩) (by assumption) ?_
  rotate_left
  · (intro w hSw; (try dsimp only at hSw); go_simp <;> (with_reducible rfl))
  try simp only [Act.put, List.setIfInBounds_toArray, List.set_cons_zero, List.set_cons_succ]
  refine wpAnyH_take (i := 6) (oi := { dst := some 19, op := Op.load 28 (Operand.tmp 4), type := 28, pos := "law.go:22", after := #[{ on := 5, ground := Ground.guard }], guard := some (5, true) }) (v := ?_) rfl (by kernel_rfl) (by kernel_rfl) (by kernel_rfl) (fun _ _ _ h => h) (Or.inl ⟨by rfl, ?_⟩) (by assumption) ?_
  rotate_left
  · (intro w hSw; (try dsimp only at hSw); go_simp <;> (with_reducible rfl))
  try simp only [Act.put, List.setIfInBounds_toArray, List.set_cons_zero, List.set_cons_succ]
  refine wpAnyH_take (i := 8) (oi := { dst := some 21, op := Op.load 28 (Operand.tmp 4), type := 28, pos := "law.go:22", after := #[{ on := 5, ground := Ground.guard }], guard := some (5, true) }) (v := ?_) rfl (by kernel_rfl) (by kernel_rfl) (by kernel_rfl) (fun _ _ _ h => h) (Or.inl ⟨by rfl, ?_⟩) (by assumption) ?_
  rotate_left
  · (intro w hSw; (try dsimp only at hSw); go_simp <;> (with_reducible rfl))
  try simp only [Act.put, List.setIfInBounds_toArray, List.set_cons_zero, List.set_cons_succ]
  refine wpAnyH_ready (rs := [7]) (by kernel_rfl) (by simp) ?_
  refine AllReadyH.cons (o := { dst := some 20, op := Op.call { callee := Callee.value (Operand.func 8), args := #[Operand.tmp 19], argTypes := #[28] }, type := 4, pos := "law.go:22", after := #[{ on := 6, ground := Ground.data }, { on := 5, ground := Ground.chain }, { on := 5, ground := Ground.guard }], guard := some (5, true) }) rfl (fun K hK => ?_) AllReadyH.nil
  go_simp
  go_at_call 8; (with_reducible refine (L3 _ ?_).mono ?_); (focus (repeat (first | (with_reducible exact Below.refl _ _) | (with_reducible assumption) | (with_reducible apply bel_drew) | (with_reducible apply bel_alloc)))); rintro e V ⟨rfl, bv⟩; have hcV := HK.out V bv
  refine hK.out _ _ (by assumption) (fun hH => ?_)
  clear hHeld hK K
  have hHeld := hH
  clear hH
  try simp only [Act.put, List.setIfInBounds_toArray, List.set_cons_zero, List.set_cons_succ]
  refine wpAnyH_ready (rs := [9]) (by kernel_rfl) (by simp) ?_
  refine AllReadyH.cons (o := { dst := some 22, op := Op.call { callee := Callee.value (Operand.func 9), args := #[Operand.tmp 21], argTypes := #[28] }, type := 4, pos := "law.go:22", after := #[{ on := 8, ground := Ground.data }, { on := 7, ground := Ground.chain }, { on := 5, ground := Ground.guard }], guard := some (5, true) }) rfl (fun K hK => ?_) AllReadyH.nil
  go_simp
  go_at_call 9; (with_reducible refine (L4 _ ?_).mono ?_); (focus (repeat (first | (with_reducible exact Below.refl _ _) | (with_reducible assumption) | (with_reducible apply bel_drew) | (with_reducible apply bel_alloc)))); rintro e V ⟨rfl, bv⟩; have hcV := HK.out V bv
  refine hK.out _ _ (by assumption) (fun hH => ?_)
  clear hHeld hK K
  have hHeld := hH
  clear hH
  try simp only [Act.put, List.setIfInBounds_toArray, List.set_cons_zero, List.set_cons_succ]
  refine wpAnyH_take (i := 10) (oi := { dst := some 23, op := Op.binOp BinOp.eql 4 (Operand.tmp 20) (Operand.tmp 22) 4, type := 4, pos := "law.go:22", after := #[{ on := 7, ground := Ground.data }, { on := 9, ground := Ground.data }, { on := 5, ground := Ground.guard }], guard := some (5, true) }) (v := ?_) rfl (by kernel_rfl) (by kernel_rfl) (by kernel_rfl) (fun _ _ _ h => h) (Or.inl ⟨by rfl, ?_⟩) (by assumption) ?_
  rotate_left
  · (intro w hSw; (try dsimp only at hSw); go_simp <;> (with_reducible rfl))
  try simp only [Act.put, List.setIfInBounds_toArray, List.set_cons_zero, List.set_cons_succ]
  refine wpAnyH_take (i := 11) (oi := { dst := some 24, op := Op.pick (Operand.tmp 18) (Operand.tmp 23) (Operand.const (Value.bool false)), type := 4, pos := "law.go:22", after := #[{ on := 5, ground := Ground.data }, { on := 10, ground := Ground.data }], guard := none }) (v := ?_) rfl (by kernel_rfl) (by kernel_rfl) (by kernel_rfl) (fun _ _ _ h => h) (Or.inl ⟨by rfl, ?_⟩) (by assumption) ?_
  rotate_left
  · (intro w hSw; (try dsimp only at hSw); go_simp <;> (with_reducible rfl))
  try simp only [Act.put, List.setIfInBounds_toArray, List.set_cons_zero, List.set_cons_succ]
  refine wpAnyH_take (i := 12) (oi := { dst := some 25, op := Op.move (Operand.tmp 24), type := 4, pos := "law.go:22", after := #[{ on := 11, ground := Ground.data }, { on := 9, ground := Ground.chain }], guard := none }) (v := ?_) rfl (by kernel_rfl) (by kernel_rfl) (by kernel_rfl) (fun _ _ _ h => h) (Or.inl ⟨by rfl, ?_⟩) (by assumption) ?_
  rotate_left
  · (intro w hSw; (try dsimp only at hSw); go_simp <;> (with_reducible rfl))
  try simp only [Act.put, List.setIfInBounds_toArray, List.set_cons_zero, List.set_cons_succ]
  refine wpAnyH_take (i := 13) (oi := { dst := some 26, op := Op.load 28 (Operand.tmp 3), type := 28, pos := "law.go:22", after := #[{ on := 12, ground := Ground.guard }], guard := some (12, true) }) (v := ?_) rfl (by kernel_rfl) (by kernel_rfl) (by kernel_rfl) (fun _ _ _ h => h) (Or.inl ⟨by rfl, ?_⟩) (by assumption) ?_
  rotate_left
  · (intro w hSw; (try dsimp only at hSw); go_simp <;> (with_reducible rfl))
  try simp only [Act.put, List.setIfInBounds_toArray, List.set_cons_zero, List.set_cons_succ]
  refine wpAnyH_take (i := 14) (oi := { dst := some 27, op := Op.load 28 (Operand.tmp 4), type := 28, pos := "law.go:22", after := #[{ on := 12, ground := Ground.guard }], guard := some (12, true) }) (v := ?_) rfl (by kernel_rfl) (by kernel_rfl) (by kernel_rfl) (fun _ _ _ h => h) (Or.inl ⟨by rfl, ?_⟩) (by assumption) ?_
  rotate_left
  · (intro w hSw; (try dsimp only at hSw); go_simp <;> (with_reducible rfl))
  try simp only [Act.put, List.setIfInBounds_toArray, List.set_cons_zero, List.set_cons_succ]
  refine wpAnyH_take (i := 16) (oi := { dst := some 29, op := Op.load 28 (Operand.tmp 3), type := 28, pos := "law.go:22", after := #[{ on := 12, ground := Ground.guard }], guard := some (12, true) }) (v := ?_) rfl (by kernel_rfl) (by kernel_rfl) (by kernel_rfl) (fun _ _ _ h => h) (Or.inl ⟨by rfl, ?_⟩) (by assumption) ?_
  rotate_left
  · (intro w hSw; (try dsimp only at hSw); go_simp <;> (with_reducible rfl))
  try simp only [Act.put, List.setIfInBounds_toArray, List.set_cons_zero, List.set_cons_succ]
  refine wpAnyH_take (i := 17) (oi := { dst := some 30, op := Op.load 28 (Operand.tmp 4), type := 28, pos := "law.go:22", after := #[{ on := 12, ground := Ground.guard }], guard := some (12, true) }) (v := ?_) rfl (by kernel_rfl) (by kernel_rfl) (by kernel_rfl) (fun _ _ _ h => h) (Or.inl ⟨by rfl, ?_⟩) (by assumption) ?_
  rotate_left
  · (intro w hSw; (try dsimp only at hSw); go_simp <;> (with_reducible rfl))
  try simp only [Act.put, List.setIfInBounds_toArray, List.set_cons_zero, List.set_cons_succ]
  refine wpAnyH_ready (rs := [15]) (by kernel_rfl) (by simp) ?_
  refine AllReadyH.cons (o := { dst := some 28, op := Op.call { callee := Callee.value (Operand.func 10), args := #[Operand.tmp 26, Operand.tmp 27], argTypes := #[28, 28] }, type := 4, pos := "law.go:22", after := #[{ on := 13, ground := Ground.data }, { on := 14, ground := Ground.data }, { on := 12, ground := Ground.chain }, { on := 12, ground := Ground.guard }], guard := some (12, true) }) rfl (fun K hK => ?_) AllReadyH.nil
  go_simp
  go_at_call 10; (with_reducible refine (L5 _ ?_).mono ?_); (focus (repeat (first | (with_reducible exact Below.refl _ _) | (with_reducible assumption) | (with_reducible apply bel_drew) | (with_reducible apply bel_alloc)))); rintro e V ⟨rfl, bv⟩; have hcV := HK.out V bv
  refine hK.out _ _ (by assumption) (fun hH => ?_)
  clear hHeld hK K
  have hHeld := hH
  clear hH
  try simp only [Act.put, List.setIfInBounds_toArray, List.set_cons_zero, List.set_cons_succ]
  refine wpAnyH_ready (rs := [18]) (by kernel_rfl) (by simp) ?_
  refine AllReadyH.cons (o := { dst := some 31, op := Op.call { callee := Callee.value (Operand.func 11), args := #[Operand.tmp 29, Operand.tmp 30], argTypes := #[28, 28] }, type := 4, pos := "law.go:22", after := #[{ on := 16, ground := Ground.data }, { on := 17, ground := Ground.data }, { on := 15, ground := Ground.chain }, { on := 12, ground := Ground.guard }], guard := some (12, true) }) rfl (fun K hK => ?_) AllReadyH.nil
  go_simp
  go_at_call 11; (with_reducible refine (L6 _ ?_).mono ?_); (focus (repeat (first | (with_reducible exact Below.refl _ _) | (with_reducible assumption) | (with_reducible apply bel_drew) | (with_reducible apply bel_alloc)))); rintro e V ⟨rfl, bv⟩; have hcV := HK.out V bv
  refine hK.out _ _ (by assumption) (fun hH => ?_)
  clear hHeld hK K
  have hHeld := hH
  clear hH
  try simp only [Act.put, List.setIfInBounds_toArray, List.set_cons_zero, List.set_cons_succ]
  refine wpAnyH_take (i := 19) (oi := { dst := some 32, op := Op.binOp BinOp.eql 4 (Operand.tmp 28) (Operand.tmp 31) 4, type := 4, pos := "law.go:22", after := #[{ on := 15, ground := Ground.data }, { on := 18, ground := Ground.data }, { on := 12, ground := Ground.guard }], guard := some (12, true) }) (v := ?_) rfl (by kernel_rfl) (by kernel_rfl) (by kernel_rfl) (fun _ _ _ h => h) (Or.inl ⟨by rfl, ?_⟩) (by assumption) ?_
  rotate_left
  · (intro w hSw; (try dsimp only at hSw); go_simp <;> (with_reducible rfl))
  try simp only [Act.put, List.setIfInBounds_toArray, List.set_cons_zero, List.set_cons_succ]
  refine wpAnyH_take (i := 20) (oi := { dst := some 33, op := Op.pick (Operand.tmp 25) (Operand.tmp 32) (Operand.const (Value.bool false)), type := 4, pos := "law.go:22", after := #[{ on := 12, ground := Ground.data }, { on := 19, ground := Ground.data }], guard := none }) (v := ?_) rfl (by kernel_rfl) (by kernel_rfl) (by kernel_rfl) (fun _ _ _ h => h) (Or.inl ⟨by rfl, ?_⟩) (by assumption) ?_
  rotate_left
  · (intro w hSw; (try dsimp only at hSw); go_simp <;> (with_reducible rfl))
  try simp only [Act.put, List.setIfInBounds_toArray, List.set_cons_zero, List.set_cons_succ]
  refine wpAnyH_take (i := 21) (oi := { dst := some 34, op := Op.move (Operand.tmp 33), type := 4, pos := "law.go:22", after := #[{ on := 20, ground := Ground.data }, { on := 18, ground := Ground.chain }], guard := none }) (v := ?_) rfl (by kernel_rfl) (by kernel_rfl) (by kernel_rfl) (fun _ _ _ h => h) (Or.inl ⟨by rfl, ?_⟩) (by assumption) ?_
  rotate_left
  · (intro w hSw; (try dsimp only at hSw); go_simp <;> (with_reducible rfl))
  try simp only [Act.put, List.setIfInBounds_toArray, List.set_cons_zero, List.set_cons_succ]
  refine wpAnyH_take (i := 22) (oi := { dst := some 35, op := Op.load 28 (Operand.tmp 3), type := 28, pos := "law.go:22", after := #[{ on := 21, ground := Ground.guard }], guard := some (21, true) }) (v := ?_) rfl (by kernel_rfl) (by kernel_rfl) (by kernel_rfl) (fun _ _ _ h => h) (Or.inl ⟨by rfl, ?_⟩) (by assumption) ?_
  rotate_left
  · (intro w hSw; (try dsimp only at hSw); go_simp <;> (with_reducible rfl))
  try simp only [Act.put, List.setIfInBounds_toArray, List.set_cons_zero, List.set_cons_succ]
  refine wpAnyH_take (i := 23) (oi := { dst := some 36, op := Op.load 28 (Operand.tmp 4), type := 28, pos := "law.go:22", after := #[{ on := 21, ground := Ground.guard }], guard := some (21, true) }) (v := ?_) rfl (by kernel_rfl) (by kernel_rfl) (by kernel_rfl) (fun _ _ _ h => h) (Or.inl ⟨by rfl, ?_⟩) (by assumption) ?_
  rotate_left
  · (intro w hSw; (try dsimp only at hSw); go_simp <;> (with_reducible rfl))
  try simp only [Act.put, List.setIfInBounds_toArray, List.set_cons_zero, List.set_cons_succ]
  refine wpAnyH_take (i := 25) (oi := { dst := some 38, op := Op.fieldAddr 28 (Operand.tmp 3) 0, type := 0, pos := "law.go:22", after := #[{ on := 21, ground := Ground.guard }], guard := some (21, true) }) (v := ?_) rfl (by kernel_rfl) (by kernel_rfl) (by kernel_rfl) (fun _ _ _ h => h) (Or.inl ⟨by rfl, ?_⟩) (by assumption) ?_
  rotate_left
  · (intro w hSw; (try dsimp only at hSw); go_simp <;> (with_reducible rfl))
  try simp only [Act.put, List.setIfInBounds_toArray, List.set_cons_zero, List.set_cons_succ]
  refine wpAnyH_take (i := 26) (oi := { dst := some 39, op := Op.load 25 (Operand.tmp 38), type := 25, pos := "law.go:22", after := #[{ on := 25, ground := Ground.data }, { on := 21, ground := Ground.guard }], guard := some (21, true) }) (v := ?_) rfl (by kernel_rfl) (by kernel_rfl) (by kernel_rfl) (fun _ _ _ h => h) (Or.inl ⟨by rfl, ?_⟩) (by assumption) ?_
  rotate_left
  · (intro w hSw; (try dsimp only at hSw); go_simp <;> (with_reducible rfl))
  try simp only [Act.put, List.setIfInBounds_toArray, List.set_cons_zero, List.set_cons_succ]
  refine wpAnyH_take (i := 27) (oi := { dst := some 40, op := Op.fieldAddr 28 (Operand.tmp 4) 0, type := 0, pos := "law.go:22", after := #[{ on := 21, ground := Ground.guard }], guard := some (21, true) }) (v := ?_) rfl (by kernel_rfl) (by kernel_rfl) (by kernel_rfl) (fun _ _ _ h => h) (Or.inl ⟨by rfl, ?_⟩) (by assumption) ?_
  rotate_left
  · (intro w hSw; (try dsimp only at hSw); go_simp <;> (with_reducible rfl))
  try simp only [Act.put, List.setIfInBounds_toArray, List.set_cons_zero, List.set_cons_succ]
  refine wpAnyH_take (i := 28) (oi := { dst := some 41, op := Op.load 25 (Operand.tmp 40), type := 25, pos := "law.go:22", after := #[{ on := 27, ground := Ground.data }, { on := 21, ground := Ground.guard }], guard := some (21, true) }) (v := ?_) rfl (by kernel_rfl) (by kernel_rfl) (by kernel_rfl) (fun _ _ _ h => h) (Or.inl ⟨by rfl, ?_⟩) (by assumption) ?_
  rotate_left
  · (intro w hSw; (try dsimp only at hSw); go_simp <;> (with_reducible rfl))
  try simp only [Act.put, List.setIfInBounds_toArray, List.set_cons_zero, List.set_cons_succ]
  refine wpAnyH_take (i := 29) (oi := { dst := some 42, op := Op.binOp BinOp.eql 25 (Operand.tmp 39) (Operand.tmp 41) 25, type := 4, pos := "law.go:22", after := #[{ on := 26, ground := Ground.data }, { on := 28, ground := Ground.data }, { on := 21, ground := Ground.guard }], guard := some (21, true) }) (v := ?_) rfl (by kernel_rfl) (by kernel_rfl) (by kernel_rfl) (fun _ _ _ h => h) (Or.inl ⟨by rfl, ?_⟩) (by assumption) ?_
  rotate_left
  · (intro w hSw; (try dsimp only at hSw); go_simp <;> (with_reducible rfl))
  try simp only [Act.put, List.setIfInBounds_toArray, List.set_cons_zero, List.set_cons_succ]
  refine wpAnyH_ready (rs := [24]) (by kernel_rfl) (by simp) ?_
  refine AllReadyH.cons (o := { dst := some 37, op := Op.call { callee := Callee.value (Operand.func 12), args := #[Operand.tmp 35, Operand.tmp 36], argTypes := #[28, 28] }, type := 4, pos := "law.go:22", after := #[{ on := 22, ground := Ground.data }, { on := 23, ground := Ground.data }, { on := 21, ground := Ground.chain }, { on := 21, ground := Ground.guard }], guard := some (21, true) }) rfl (fun K hK => ?_) AllReadyH.nil
  go_simp
  go_at_call 12; (with_reducible refine (L7 _ ?_).mono ?_); (focus (repeat (first | (with_reducible exact Below.refl _ _) | (with_reducible assumption) | (with_reducible apply bel_drew) | (with_reducible apply bel_alloc)))); rintro e V ⟨rfl, bv⟩; have hcV := HK.out V bv
  refine hK.out _ _ (by assumption) (fun hH => ?_)
  clear hHeld hK K
  have hHeld := hH
  clear hH
  try simp only [Act.put, List.setIfInBounds_toArray, List.set_cons_zero, List.set_cons_succ]
  refine wpAnyH_take (i := 30) (oi := { dst := some 43, op := Op.move (Operand.tmp 42), type := 4, pos := "law.go:22", after := #[{ on := 29, ground := Ground.data }, { on := 24, ground := Ground.chain }, { on := 21, ground := Ground.guard }], guard := some (21, true) }) (v := ?_) rfl (by kernel_rfl) (by kernel_rfl) (by kernel_rfl) (fun _ _ _ h => h) (Or.inl ⟨by rfl, ?_⟩) (by assumption) ?_
  rotate_left
  · (intro w hSw; (try dsimp only at hSw); go_simp <;> (with_reducible rfl))
  try simp only [Act.put, List.setIfInBounds_toArray, List.set_cons_zero, List.set_cons_succ]
  refine wpAnyH_take (i := 31) (oi := { dst := some 44, op := Op.load 28 (Operand.tmp 3), type := 28, pos := "law.go:22", after := #[{ on := 30, ground := Ground.guard }], guard := some (30, true) }) (v := undef) rfl (by kernel_rfl) (by kernel_rfl) (by kernel_rfl) (fun _ _ _ h => h) (Or.inr ⟨by rfl, rfl⟩) (by assumption) ?_
  try simp only [Act.put, List.setIfInBounds_toArray, List.set_cons_zero, List.set_cons_succ]
  refine wpAnyH_take (i := 32) (oi := { dst := some 45, op := Op.load 28 (Operand.tmp 4), type := 28, pos := "law.go:22", after := #[{ on := 30, ground := Ground.guard }], guard := some (30, true) }) (v := undef) rfl (by kernel_rfl) (by kernel_rfl) (by kernel_rfl) (fun _ _ _ h => h) (Or.inr ⟨by rfl, rfl⟩) (by assumption) ?_
  try simp only [Act.put, List.setIfInBounds_toArray, List.set_cons_zero, List.set_cons_succ]
  refine wpAnyH_ready (rs := [33]) (by kernel_rfl) (by simp) ?_
  refine AllReadyH.cons (o := { dst := some 46, op := Op.call { callee := Callee.value (Operand.func 11), args := #[Operand.tmp 44, Operand.tmp 45], argTypes := #[28, 28] }, type := 4, pos := "law.go:22", after := #[{ on := 31, ground := Ground.data }, { on := 32, ground := Ground.data }, { on := 30, ground := Ground.chain }, { on := 30, ground := Ground.guard }], guard := some (30, true) }) rfl (fun K hK => ?_) AllReadyH.nil
  go_simp
  refine hK.out _ _ (by assumption) (fun hH => ?_)
  clear hHeld hK K
  have hHeld := hH
  clear hH
  try simp only [Act.put, List.setIfInBounds_toArray, List.set_cons_zero, List.set_cons_succ]
  refine wpAnyH_take (i := 34) (oi := { dst := some 47, op := Op.unOp UnOp.not 4 (Operand.tmp 46), type := 4, pos := "law.go:22", after := #[{ on := 33, ground := Ground.data }, { on := 30, ground := Ground.guard }], guard := some (30, true) }) (v := undef) rfl (by kernel_rfl) (by kernel_rfl) (by kernel_rfl) (fun _ _ _ h => h) (Or.inr ⟨by rfl, rfl⟩) (by assumption) ?_
  try simp only [Act.put, List.setIfInBounds_toArray, List.set_cons_zero, List.set_cons_succ]
  refine wpAnyH_take (i := 35) (oi := { dst := some 48, op := Op.pick (Operand.tmp 43) (Operand.tmp 47) (Operand.const (Value.bool false)), type := 4, pos := "law.go:22", after := #[{ on := 30, ground := Ground.data }, { on := 34, ground := Ground.data }, { on := 21, ground := Ground.guard }], guard := some (21, true) }) (v := ?_) rfl (by kernel_rfl) (by kernel_rfl) (by kernel_rfl) (fun _ _ _ h => h) (Or.inl ⟨by rfl, ?_⟩) (by assumption) ?_
  rotate_left
  · (intro w hSw; (try dsimp only at hSw); go_simp <;> (with_reducible rfl))
  try simp only [Act.put, List.setIfInBounds_toArray, List.set_cons_zero, List.set_cons_succ]
  refine wpAnyH_take (i := 36) (oi := { dst := some 49, op := Op.binOp BinOp.eql 4 (Operand.tmp 37) (Operand.tmp 48) 4, type := 4, pos := "law.go:22", after := #[{ on := 24, ground := Ground.data }, { on := 35, ground := Ground.data }, { on := 21, ground := Ground.guard }], guard := some (21, true) }) (v := ?_) rfl (by kernel_rfl) (by kernel_rfl) (by kernel_rfl) (fun _ _ _ h => h) (Or.inl ⟨by rfl, ?_⟩) (by assumption) ?_
  rotate_left
  · (intro w hSw; (try dsimp only at hSw); go_simp <;> (with_reducible rfl))
  try simp only [Act.put, List.setIfInBounds_toArray, List.set_cons_zero, List.set_cons_succ]
  refine wpAnyH_take (i := 37) (oi := { dst := some 50, op := Op.pick (Operand.tmp 34) (Operand.tmp 49) (Operand.const (Value.bool false)), type := 4, pos := "law.go:22", after := #[{ on := 21, ground := Ground.data }, { on := 36, ground := Ground.data }], guard := none }) (v := ?_) rfl (by kernel_rfl) (by kernel_rfl) (by kernel_rfl) (fun _ _ _ h => h) (Or.inl ⟨by rfl, ?_⟩) (by assumption) ?_
  rotate_left
  · (intro w hSw; (try dsimp only at hSw); go_simp <;> (with_reducible rfl))
  try simp only [Act.put, List.setIfInBounds_toArray, List.set_cons_zero, List.set_cons_succ]
  refine wpAnyH_take (i := 38) (oi := { dst := some 51, op := Op.move (Operand.tmp 50), type := 4, pos := "law.go:22", after := #[{ on := 37, ground := Ground.data }, { on := 33, ground := Ground.chain }], guard := none }) (v := ?_) rfl (by kernel_rfl) (by kernel_rfl) (by kernel_rfl) (fun _ _ _ h => h) (Or.inl ⟨by rfl, ?_⟩) (by assumption) ?_
  rotate_left
  · (intro w hSw; (try dsimp only at hSw); go_simp <;> (with_reducible rfl))
  try simp only [Act.put, List.setIfInBounds_toArray, List.set_cons_zero, List.set_cons_succ]
  refine wpAnyH_take (i := 39) (oi := { dst := some 52, op := Op.load 28 (Operand.tmp 3), type := 28, pos := "law.go:22", after := #[{ on := 38, ground := Ground.guard }], guard := some (38, true) }) (v := ?_) rfl (by kernel_rfl) (by kernel_rfl) (by kernel_rfl) (fun _ _ _ h => h) (Or.inl ⟨by rfl, ?_⟩) (by assumption) ?_
  rotate_left
  · (intro w hSw; (try dsimp only at hSw); go_simp <;> (with_reducible rfl))
  try simp only [Act.put, List.setIfInBounds_toArray, List.set_cons_zero, List.set_cons_succ]
  refine wpAnyH_take (i := 40) (oi := { dst := some 53, op := Op.load 25 (Operand.tmp 5), type := 25, pos := "law.go:22", after := #[{ on := 38, ground := Ground.guard }], guard := some (38, true) }) (v := ?_) rfl (by kernel_rfl) (by kernel_rfl) (by kernel_rfl) (fun _ _ _ h => h) (Or.inl ⟨by rfl, ?_⟩) (by assumption) ?_
  rotate_left
  · (intro w hSw; (try dsimp only at hSw); go_simp <;> (with_reducible rfl))
  try simp only [Act.put, List.setIfInBounds_toArray, List.set_cons_zero, List.set_cons_succ]
  refine wpAnyH_take (i := 42) (oi := { dst := some 55, op := Op.fieldAddr 28 (Operand.tmp 3) 5, type := 0, pos := "law.go:22", after := #[{ on := 38, ground := Ground.guard }], guard := some (38, true) }) (v := ?_) rfl (by kernel_rfl) (by kernel_rfl) (by kernel_rfl) (fun _ _ _ h => h) (Or.inl ⟨by rfl, ?_⟩) (by assumption) ?_
  rotate_left
  · (intro w hSw; (try dsimp only at hSw); go_simp <;> (with_reducible rfl))
  try simp only [Act.put, List.setIfInBounds_toArray, List.set_cons_zero, List.set_cons_succ]
  refine wpAnyH_take (i := 43) (oi := { dst := some 56, op := Op.load 26 (Operand.tmp 55), type := 26, pos := "law.go:22", after := #[{ on := 42, ground := Ground.data }, { on := 38, ground := Ground.guard }], guard := some (38, true) }) (v := ?_) rfl (by kernel_rfl) (by kernel_rfl) (by kernel_rfl) (fun _ _ _ h => h) (Or.inl ⟨by rfl, ?_⟩) (by assumption) ?_
  rotate_left
  · (intro w hSw; (try dsimp only at hSw); go_simp <;> (with_reducible rfl))
  try simp only [Act.put, List.setIfInBounds_toArray, List.set_cons_zero, List.set_cons_succ]
  refine wpAnyH_take (i := 44) (oi := { dst := some 57, op := Op.load 25 (Operand.tmp 5), type := 25, pos := "law.go:22", after := #[{ on := 38, ground := Ground.guard }], guard := some (38, true) }) (v := ?_) rfl (by kernel_rfl) (by kernel_rfl) (by kernel_rfl) (fun _ _ _ h => h) (Or.inl ⟨by rfl, ?_⟩) (by assumption) ?_
  rotate_left
  · (intro w hSw; (try dsimp only at hSw); go_simp <;> (with_reducible rfl))
  try simp only [Act.put, List.setIfInBounds_toArray, List.set_cons_zero, List.set_cons_succ]
  refine wpAnyH_ready (rs := [41]) (by kernel_rfl) (by simp) ?_
  refine AllReadyH.cons (o := { dst := some 54, op := Op.call { callee := Callee.value (Operand.func 13), args := #[Operand.tmp 52, Operand.tmp 53], argTypes := #[28, 25] }, type := 4, pos := "law.go:22", after := #[{ on := 39, ground := Ground.data }, { on := 40, ground := Ground.data }, { on := 38, ground := Ground.chain }, { on := 38, ground := Ground.guard }], guard := some (38, true) }) rfl (fun K hK => ?_) AllReadyH.nil
  go_simp
  go_at_call 13; (with_reducible refine (L8 _ ?_).mono ?_); (focus (repeat (first | (with_reducible exact Below.refl _ _) | (with_reducible assumption) | (with_reducible apply bel_drew) | (with_reducible apply bel_alloc)))); rintro e V ⟨rfl, bv⟩; have hcV := HK.out V bv
  refine hK.out _ _ (by assumption) (fun hH => ?_)
  clear hHeld hK K
  have hHeld := hH
  clear hH
  try simp only [Act.put, List.setIfInBounds_toArray, List.set_cons_zero, List.set_cons_succ]
  refine wpAnyH_ready (rs := [45]) (by kernel_rfl) (by simp) ?_
  refine AllReadyH.cons (o := { dst := some 58, op := Op.call { callee := Callee.value (Operand.func 14), args := #[Operand.tmp 56, Operand.tmp 57], argTypes := #[26, 25] }, type := 4, pos := "law.go:22", after := #[{ on := 43, ground := Ground.data }, { on := 44, ground := Ground.data }, { on := 41, ground := Ground.chain }, { on := 38, ground := Ground.guard }], guard := some (38, true) }) rfl (fun K hK => ?_) AllReadyH.nil
  go_simp
  go_at_call 14; (with_reducible refine (L9 _ ?_).mono ?_); (focus (repeat (first | (with_reducible exact Below.refl _ _) | (with_reducible assumption) | (with_reducible apply bel_drew) | (with_reducible apply bel_alloc)))); rintro e V ⟨rfl, bv⟩; have hcV := HK.out V bv
  refine hK.out _ _ (by assumption) (fun hH => ?_)
  clear hHeld hK K
  have hHeld := hH
  clear hH
  try simp only [Act.put, List.setIfInBounds_toArray, List.set_cons_zero, List.set_cons_succ]
  refine wpAnyH_take (i := 46) (oi := { dst := some 59, op := Op.binOp BinOp.eql 4 (Operand.tmp 54) (Operand.tmp 58) 4, type := 4, pos := "law.go:22", after := #[{ on := 41, ground := Ground.data }, { on := 45, ground := Ground.data }, { on := 38, ground := Ground.guard }], guard := some (38, true) }) (v := ?_) rfl (by kernel_rfl) (by kernel_rfl) (by kernel_rfl) (fun _ _ _ h => h) (Or.inl ⟨by rfl, ?_⟩) (by assumption) ?_
  rotate_left
  · (intro w hSw; (try dsimp only at hSw); go_simp <;> (with_reducible rfl))
  try simp only [Act.put, List.setIfInBounds_toArray, List.set_cons_zero, List.set_cons_succ]
  refine wpAnyH_take (i := 47) (oi := { dst := some 60, op := Op.pick (Operand.tmp 51) (Operand.tmp 59) (Operand.const (Value.bool false)), type := 4, pos := "law.go:22", after := #[{ on := 38, ground := Ground.data }, { on := 46, ground := Ground.data }], guard := none }) (v := ?_) rfl (by kernel_rfl) (by kernel_rfl) (by kernel_rfl) (fun _ _ _ h => h) (Or.inl ⟨by rfl, ?_⟩) (by assumption) ?_
  rotate_left
  · (intro w hSw; (try dsimp only at hSw); go_simp <;> (with_reducible rfl))
  try simp only [Act.put, List.setIfInBounds_toArray, List.set_cons_zero, List.set_cons_succ]
  refine wpAnyH_take (i := 48) (oi := { dst := some 61, op := Op.move (Operand.tmp 60), type := 4, pos := "law.go:22", after := #[{ on := 47, ground := Ground.data }, { on := 45, ground := Ground.chain }], guard := none }) (v := ?_) rfl (by kernel_rfl) (by kernel_rfl) (by kernel_rfl) (fun _ _ _ h => h) (Or.inl ⟨by rfl, ?_⟩) (by assumption) ?_
  rotate_left
  · (intro w hSw; (try dsimp only at hSw); go_simp <;> (with_reducible rfl))
  try simp only [Act.put, List.setIfInBounds_toArray, List.set_cons_zero, List.set_cons_succ]
  refine wpAnyH_ready (rs := [49]) (by kernel_rfl) (by simp) ?_
  refine AllReadyH.cons (o := { dst := some 62, op := Op.call { callee := Callee.value (Operand.func 7), args := #[], argTypes := #[] }, type := 4, pos := "law.go:22", after := #[{ on := 48, ground := Ground.chain }, { on := 48, ground := Ground.guard }], guard := some (48, true) }) rfl (fun K hK => ?_) AllReadyH.nil
  go_simp
  go_at_call 7; (with_reducible refine (L0 _ ?_).mono ?_); (focus (repeat (first | (with_reducible exact Below.refl _ _) | (with_reducible assumption) | (with_reducible apply bel_drew) | (with_reducible apply bel_alloc)))); rintro e V ⟨rfl, bv⟩; have hcV := HK.out V bv
  refine hK.out _ _ (by assumption) (fun hH => ?_)
  clear hHeld hK K
  have hHeld := hH
  clear hH
  try simp only [Act.put, List.setIfInBounds_toArray, List.set_cons_zero, List.set_cons_succ]
  refine wpAnyH_take (i := 50) (oi := { dst := some 63, op := Op.pick (Operand.tmp 61) (Operand.tmp 62) (Operand.const (Value.bool false)), type := 4, pos := "law.go:22", after := #[{ on := 48, ground := Ground.data }, { on := 49, ground := Ground.data }], guard := none }) (v := ?_) rfl (by kernel_rfl) (by kernel_rfl) (by kernel_rfl) (fun _ _ _ h => h) (Or.inl ⟨by rfl, ?_⟩) (by assumption) ?_
  rotate_left
  · (intro w hSw; (try dsimp only at hSw); go_simp <;> (with_reducible rfl))
  try simp only [Act.put, List.setIfInBounds_toArray, List.set_cons_zero, List.set_cons_succ]
  refine wpAnyH_take (i := 51) (oi := { dst := some 6, op := Op.assign (Operand.tmp 63), type := 4, pos := "law.go:22", after := #[{ on := 50, ground := Ground.data }, { on := 49, ground := Ground.chain }, { on := 0, ground := Ground.phase }, { on := 1, ground := Ground.phase }, { on := 2, ground := Ground.phase }, { on := 3, ground := Ground.phase }, { on := 4, ground := Ground.phase }, { on := 5, ground := Ground.phase }, { on := 6, ground := Ground.phase }, { on := 7, ground := Ground.phase }, { on := 8, ground := Ground.phase }, { on := 9, ground := Ground.phase }, { on := 10, ground := Ground.phase }, { on := 11, ground := Ground.phase }, { on := 12, ground := Ground.phase }, { on := 13, ground := Ground.phase }, { on := 14, ground := Ground.phase }, { on := 15, ground := Ground.phase }, { on := 16, ground := Ground.phase }, { on := 17, ground := Ground.phase }, { on := 18, ground := Ground.phase }, { on := 19, ground := Ground.phase }, { on := 20, ground := Ground.phase }, { on := 21, ground := Ground.phase }, { on := 22, ground := Ground.phase }, { on := 23, ground := Ground.phase }, { on := 24, ground := Ground.phase }, { on := 25, ground := Ground.phase }, { on := 26, ground := Ground.phase }, { on := 27, ground := Ground.phase }, { on := 28, ground := Ground.phase }, { on := 29, ground := Ground.phase }, { on := 30, ground := Ground.phase }, { on := 31, ground := Ground.phase }, { on := 32, ground := Ground.phase }, { on := 33, ground := Ground.phase }, { on := 34, ground := Ground.phase }, { on := 35, ground := Ground.phase }, { on := 36, ground := Ground.phase }, { on := 37, ground := Ground.phase }, { on := 38, ground := Ground.phase }, { on := 39, ground := Ground.phase }, { on := 40, ground := Ground.phase }, { on := 41, ground := Ground.phase }, { on := 42, ground := Ground.phase }, { on := 43, ground := Ground.phase }, { on := 44, ground := Ground.phase }, { on := 45, ground := Ground.phase }, { on := 46, ground := Ground.phase }, { on := 47, ground := Ground.phase }, { on := 48, ground := Ground.phase }, { on := 49, ground := Ground.phase }, { on := 50, ground := Ground.phase }], guard := none }) (v := ?_) rfl (by kernel_rfl) (by kernel_rfl) (by kernel_rfl) (fun _ _ _ h => h) (Or.inl ⟨by rfl, ?_⟩) (by assumption) ?_
  rotate_left
  · (intro w hSw; (try dsimp only at hSw); go_simp <;> (with_reducible rfl))
  try simp only [Act.put, List.setIfInBounds_toArray, List.set_cons_zero, List.set_cons_succ]
  refine wpAnyH_done (by kernel_rfl) ?_ _
  refine NoPanic.normal ?_
  go_wp2
  go_ret
  exact ⟨rfl, HB5.out.trans (bv.mono HB5.out.size)⟩

theorem tells_walk (P : PEvent) (w : World) (p q : EV) (x y : Evt) (d : Dt.Dot) (hp : EventIs w w.heap.size p x) (hq : EventIs w w.heap.size q y) (hd : d.1 < 65536 ∧ d.2 < 18446744073709551616) :
    Calls Try.prog 3 #[p.val, q.val, .agg #[.int .u16 (d.1 : Int), .int .u64 (d.2 : Int)]] w fun e w' => e = .returned (.bool true) ∧ Below w.heap.size w w' := by
  cases hfew : fewB [x, y] 2 with
  | false => exact tells_many P w p q x y d hp hq hd hfew
  | true =>
    by_cases hdot : x.dot = y.dot
    · exact tells_alike P w p q x y d hp hq hd hfew hdot
    · by_cases h1 : p.dev = q.dev
      · exact tells_two P w p q x y d hp hq hd hfew hdot h1
      · exact tells_one P w p q x y d hp hq hd hfew hdot h1
end Go.Proofs.Ytbaiiidkffafmaa.Ev
