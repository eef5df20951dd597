/- The contracts of the program's Same, All, Clashes and Kills of layer event. For every event and list of events. -/
import Derived.Test.YtbaiiidkffafmaaPESortF
namespace Go.Proofs.Ytbaiiidkffafmaa.Ev
open Go.ChangeShapes Go.WideShapes Go.ChangeAt Go.RowKit
set_option linter.unusedVariables false
set_option maxRecDepth 4000

set_option maxHeartbeats 8000000 in
theorem psameE_any (w : World) (p q : EV) (x y : Evt) (h1 : EventIs w w.heap.size p x) (h2 : EventIs w w.heap.size q y) :
    Calls Try.prog 10 #[p.val, q.val] w fun e w' => e = .returned (.bool (decide (x = y))) ∧ Below w.heap.size w w' := by
  have hx := h1.eq
  have hy := h2.eq
  have HB := Lib.hid (below_new2 w p.box q.box)
  have CE := fun (_ : Unit) => Dt.psame_any ((w.alloc p.box).alloc q.box) w.heap.size w.heap.size p.adr q.adr x.kills y.kills p.len q.len p.cap q.cap h1.kills.len h2.kills.len (h1.kills.dots.below HB.out) (h2.kills.dots.below HB.out) (Nat.le_trans h1.kills.wide (by decide))
  generalize x.kills = xl at hx CE
  generalize y.kills = yl at hy CE
  subst hx hy
  clear h1 h2
  obtain ⟨p1, p2, p3, p4, p5, p6, pA, pn, pc⟩ := p
  obtain ⟨q1, q2, q3, q4, q5, q6, qA, qn, qc⟩ := q
  have hb1 := box_first w ⟨p1, p2, p3, p4, p5, p6, pA, pn, pc⟩ (EV.box ⟨q1, q2, q3, q4, q5, q6, qA, qn, qc⟩)
  have hb2 := box_last w (EV.box ⟨p1, p2, p3, p4, p5, p6, pA, pn, pc⟩) ⟨q1, q2, q3, q4, q5, q6, qA, qn, qc⟩
  obtain ⟨a0, a1, a2, a3, a4, a5, a6⟩ := hb1
  obtain ⟨b0, b1, b2, b3, b4, b5, b6⟩ := hb2
  simp only [EV.val]
  simp only [EV.box, Nat.zero_add] at HB CE a0 a1 a2 a3 a4 a5 a6 b0 b1 b2 b3 b4 b5 b6
  have hs := eq_texts p6 q6
  by_cases e1 : p1 = q1
  · subst e1
    by_cases e2 : p2 = q2
    · subst e2
      by_cases e3 : p3 = q3
      · subst e3
        by_cases e4 : p4 = q4
        · subst e4
          by_cases e5 : p5 = q5
          · subst e5
            by_cases e6 : p6 = q6
            · subst e6
              have hd : Hid (decide ((⟨(p1, p2), p3, p4, p5, p6, xl⟩ : Evt) = ⟨(p1, p2), p3, p4, p5, p6, yl⟩) = decide (xl = yl)) := Lib.hid (by rw [Bool.eq_iff_iff]; simp)
              rw [hd.out]
              rw [decide_eq_true rfl] at hs
              clear hd
              generalize decide (xl = yl) = ans at CE ⊢
              go_enter Try.func10, Try.ntmps10
              go_wp2_with fail
              refine (CE ()).mono ?_
              rintro e w' ⟨rfl, hbw⟩
              have HW := Lib.hid (HB.out.trans (hbw.mono HB.out.size))
              clear hbw CE
              go_wp2
              go_ret
              exact ⟨rfl, HW.out⟩
            · have hd : Hid (decide ((⟨(p1, p2), p3, p4, p5, p6, xl⟩ : Evt) = ⟨(p1, p2), p3, p4, p5, q6, yl⟩) = false) := Lib.hid (decide_eq_false (fun e => e6 (by injection e)))
              rw [hd.out]
              rw [decide_eq_false e6] at hs
              clear hd e6 CE
              go_enter Try.func10, Try.ntmps10
              go_wp2
              go_ret
              exact ⟨rfl, HB.out⟩
          · have hd : Hid (decide ((⟨(p1, p2), p3, p4, p5, p6, xl⟩ : Evt) = ⟨(p1, p2), p3, p4, q5, q6, yl⟩) = false) := Lib.hid (decide_eq_false (fun e => e5 (by injection e)))
            have hb := beq_nat e5
            rw [hd.out]
            clear hd e5 CE hs
            go_enter Try.func10, Try.ntmps10
            go_wp2
            go_ret
            exact ⟨rfl, HB.out⟩
        · have hd : Hid (decide ((⟨(p1, p2), p3, p4, p5, p6, xl⟩ : Evt) = ⟨(p1, p2), p3, q4, q5, q6, yl⟩) = false) := Lib.hid (decide_eq_false (fun e => e4 (by injection e)))
          have hb := beq_nat e4
          rw [hd.out]
          clear hd e4 CE hs
          go_enter Try.func10, Try.ntmps10
          go_wp2
          go_ret
          exact ⟨rfl, HB.out⟩
      · have hd : Hid (decide ((⟨(p1, p2), p3, p4, p5, p6, xl⟩ : Evt) = ⟨(p1, p2), q3, q4, q5, q6, yl⟩) = false) := Lib.hid (decide_eq_false (fun e => e3 (by injection e)))
        have hb := beq_nat e3
        rw [hd.out]
        clear hd e3 CE hs
        go_enter Try.func10, Try.ntmps10
        go_wp2
        go_ret
        exact ⟨rfl, HB.out⟩
    · have hd : Hid (decide ((⟨(p1, p2), p3, p4, p5, p6, xl⟩ : Evt) = ⟨(p1, q2), q3, q4, q5, q6, yl⟩) = false) := Lib.hid (decide_eq_false (fun e => e2 (by injection e with e _; injection e)))
      have hb := beq_nat e2
      rw [hd.out]
      clear hd e2 CE hs
      go_enter Try.func10, Try.ntmps10
      go_wp2
      go_ret
      exact ⟨rfl, HB.out⟩
  · have hd : Hid (decide ((⟨(p1, p2), p3, p4, p5, p6, xl⟩ : Evt) = ⟨(q1, q2), q3, q4, q5, q6, yl⟩) = false) := Lib.hid (decide_eq_false (fun e => e1 (by injection e with e _; injection e)))
    have hb := beq_nat e1
    rw [hd.out]
    clear hd e1 CE hs
    go_enter Try.func10, Try.ntmps10
    go_wp2
    go_ret
    exact ⟨rfl, HB.out⟩

set_option maxHeartbeats 8000000 in
theorem pequalE_any (w : World) (A1 A2 : Option Addr) (l1 l2 : List Evt) (n1 n2 c1 c2 : Nat) (h1 : EventsAt w w.heap.size A1 l1 n1 c1) (h2 : EventsAt w w.heap.size A2 l2 n2 c2) :
    Calls Try.prog 43 #[.slice A1 n1 c1, .slice A2 n2 c2, .func (.func 10) #[] #[]] w fun e w' => e = .returned (.bool (decide (l1 = l2))) ∧ Below w.heap.size w w' := by
  have H1 := Lib.hid h1
  have H2 := Lib.hid h2
  have h63 : n1 ≤ 2199023255552 := h1.wide
  clear h1 h2
  by_cases hn : n1 = n2
  · subst hn
    go_enter Try.func43, Try.ntmps43
    go_wp2
    go_loopw [17] (fun i wr => ∃ k : Nat, k ≤ n1 ∧ i = .int .i64 (k : Int) ∧ l1.take k = l2.take k ∧ Below w.heap.size w wr) (fun i _ => n1 - (intOf i).toNat)
    case atStart => exact ⟨0, Nat.zero_le _, rfl, by simp, Below.refl _ _⟩
    case round =>
      obtain ⟨k, hk, rfl, ht, hw⟩ := hrel
      have HT := Lib.hid ht
      have HW := Lib.hid hw
      have HA1 : Hid (EventsAt wr wr.heap.size A1 l1 n1 c1) := Lib.hid (H1.out.up hw)
      have HA2 : Hid (EventsAt wr wr.heap.size A2 l2 n1 c2) := Lib.hid (H2.out.up hw)
      clear ht hw
      by_cases hlt : k < n1
      · obtain ⟨a1, p, x, rfl, _, hlx, hp, cp⟩ := HA1.out.at_ hlt
        obtain ⟨a2, q, y, rfl, _, hly, hq, cq⟩ := HA2.out.at_ hlt
        have hN2 := below_new2 wr p.box q.box
        have CT := psameE_any ((wr.alloc p.box).alloc q.box) p q x y (hp.up hN2) (hq.up hN2)
        have cq1 := cq.kept (below_new wr p.box)
        have hb1 := (box_first wr p q.box).all
        have hb2 := (box_last wr p.box q).all
        have HW2 := Lib.hid (HW.out.trans (hN2.mono HW.out.size))
        obtain ⟨p1, p2, p3, p4, p5, p6, pA, pn, pc⟩ := p
        obtain ⟨q1, q2, q3, q4, q5, q6, qA, qn, qc⟩ := q
        simp only [EV.val] at CT
        simp only [EV.box] at HW2 CT cq1 hb1 hb2
        obtain ⟨x0, x1, x2, x3, x4, x5, x6⟩ := cp
        obtain ⟨y0, y1, y2, y3, y4, y5, y6⟩ := cq1
        obtain ⟨b0, b1, b2, b3, b4, b5, b6⟩ := hb1
        obtain ⟨d0, d1, d2, d3, d4, d5, d6⟩ := hb2
        clear hp hq cq hN2
        by_cases hxy : x = y
        · have HS := Lib.hid (take_more HT.out hlx (by rw [hly, hxy]))
          rw [decide_eq_true hxy] at CT
          clear hlx hly hxy
          go_wp2_with fail
          refine CT.mono ?_
          rintro e w3 ⟨rfl, hb⟩
          have HW3 := Lib.hid (HW2.out.trans (hb.mono HW2.out.size))
          clear hb CT b0 b1 b2 b3 b4 b5 b6 d0 d1 d2 d3 d4 d5 d6
          go_wp2
          go_roundw
          case rel => exact ⟨k + 1, by omega, by go_num, HS.out, HW3.out⟩
          case measure => simp [intOf]; omega
        · have hd : Hid (decide (l1 = l2) = false) := decide_eq_false (ne_at hlx hly hxy)
          rw [decide_eq_false hxy] at CT
          clear hlx hly hxy
          go_wp2_with fail
          refine CT.mono ?_
          rintro e w3 ⟨rfl, hb⟩
          have HW3 := Lib.hid (HW2.out.trans (hb.mono HW2.out.size))
          clear hb CT b0 b1 b2 b3 b4 b5 b6 d0 d1 d2 d3 d4 d5 d6
          go_wp2
          go_ret
          exact ⟨ret_bool hd.out.symm, HW3.out⟩
      · obtain rfl : k = n1 := by omega
        have hd : Hid (l1 = l2) := by
          have h := HT.out
          rw [List.take_of_length_le (by rw [H1.out.len]; exact Nat.le_refl _), List.take_of_length_le (by rw [H2.out.len]; exact Nat.le_refl _)] at h
          exact h
        go_wp2
        go_ret
        exact ⟨ret_bool (by rw [decide_eq_true hd.out]), HW.out⟩
  · have hd : Hid (decide (l1 = l2) = false) := decide_eq_false (fun e => hn (by rw [← H1.out.len, ← H2.out.len, e]))
    have hne : ((n1 : Int) != (n2 : Int)) = true := by rw [bne_iff_ne]; omega
    go_enter Try.func43, Try.ntmps43
    go_wp2
    go_ret
    exact ⟨ret_bool hd.out.symm, Below.refl _ _⟩
theorem pallE_any (w : World) (A1 A2 : Option Addr) (l1 l2 : List Evt) (n1 n2 c1 c2 : Nat) (h1 : EventsAt w w.heap.size A1 l1 n1 c1) (h2 : EventsAt w w.heap.size A2 l2 n2 c2) :
    Calls Try.prog 22 #[.slice A1 n1 c1, .slice A2 n2 c2] w fun e w' => e = .returned (.bool (decide (l1 = l2))) ∧ Below w.heap.size w w' := by
  have CC := pequalE_any w A1 A2 l1 l2 n1 n2 c1 c2 h1 h2
  generalize decide (l1 = l2) = ans at CC ⊢
  clear h1 h2
  go_enter Try.func22, Try.ntmps22
  go_wp2_with fail
  refine CC.mono ?_
  rintro e w' ⟨rfl, hb⟩
  have HB := Lib.hid hb
  clear hb CC
  go_wp2
  go_ret
  exact ⟨rfl, HB.out⟩
set_option maxHeartbeats 2000000 in
theorem pkillsE_any (w : World) (p : EV) (x : Evt) (d : Dt.Dot) (h : EventIs w w.heap.size p x) :
    Calls Try.prog 13 #[p.val, .agg #[.int .u16 (d.1 : Int), .int .u64 (d.2 : Int)]] w fun e w' => e = .returned (.bool (decide (d ∈ x.kills))) ∧ Below w.heap.size w w' := by
  have HB := Lib.hid (below_new2 w p.box (.cells #[.int .u16 (d.1 : Int), .int .u64 (d.2 : Int)] 25))
  have hk := (h.up HB.out).kills
  have CC := Dt.phas_any ((w.alloc p.box).alloc (.cells #[.int .u16 (d.1 : Int), .int .u64 (d.2 : Int)] 25)) p.adr x.kills p.len p.cap d hk.len hk.dots (Nat.le_trans hk.wide (by decide))
  have hb1 := (box_first w p (.cells #[.int .u16 (d.1 : Int), .int .u64 (d.2 : Int)] 25)).all
  have e0 : ((w.alloc p.box).alloc (.cells #[.int .u16 (d.1 : Int), .int .u64 (d.2 : Int)] 25)).cell? ⟨w.heap.size + 1, 0, none⟩ = some (.int .u16 (d.1 : Int)) := by simp [go_sem]
  have e1 : ((w.alloc p.box).alloc (.cells #[.int .u16 (d.1 : Int), .int .u64 (d.2 : Int)] 25)).cell? ⟨w.heap.size + 1, 1, none⟩ = some (.int .u64 (d.2 : Int)) := by simp [go_sem]
  generalize decide (d ∈ x.kills) = ans at CC ⊢
  obtain ⟨p1, p2, p3, p4, p5, p6, pA, pn, pc⟩ := p
  obtain ⟨d1, d2⟩ := d
  simp only [EV.val]
  simp only [EV.box] at HB CC hb1 e0 e1
  obtain ⟨b0, b1, b2, b3, b4, b5, b6⟩ := hb1
  clear h hk
  go_enter Try.func13, Try.ntmps13
  go_wp2_with fail
  refine CC.mono ?_
  rintro e w' ⟨rfl, hb⟩
  have HW := Lib.hid (HB.out.trans (hb.mono HB.out.size))
  clear hb CC b0 b1 b2 b3 b4 b5 b6 e0 e1
  go_wp2
  go_ret
  exact ⟨rfl, HW.out⟩
theorem onedot_below (w : World) (p q : EV) : Calls Try.prog 34 #[p.val, q.val] w fun e w' => e = .returned (.bool (oneE p q)) ∧ Below w.heap.size w w' :=
  (onedot_any w p q).mono fun _ _ ⟨h1, n, os, h2⟩ => ⟨h1, by
    rw [h2]
    refine ⟨rfl, rfl, rfl, ?_, fun j hj => ?_⟩
    · show w.heap.size ≤ (w.heap ++ os).size
      simp
    · show (w.heap ++ os)[j]? = w.heap[j]?
      rw [Array.getElem?_append_left hj]⟩
set_option maxHeartbeats 4000000 in
theorem pclashE_any (w : World) (p q : EV) (x y : Evt) (h1 : EventIs w w.heap.size p x) (h2 : EventIs w w.heap.size q y) :
    Calls Try.prog 12 #[p.val, q.val] w fun e w' => e = .returned (.bool (decide (x.dot = y.dot) && !decide (x = y))) ∧ Below w.heap.size w w' := by
  have hN2 := below_new2 w p.box q.box
  have HB := Lib.hid hN2
  have HP := Lib.hid (h1.up hN2)
  have HQ := Lib.hid (h2.up hN2)
  have hdot : oneE p q = decide (x.dot = y.dot) := by
    unfold oneE EV.dot
    rw [is_dot h1, is_dot h2]
  have CO := onedot_below ((w.alloc p.box).alloc q.box) p q
  have CS := fun (W : World) (hW : Below ((w.alloc p.box).alloc q.box).heap.size ((w.alloc p.box).alloc q.box) W) => psameE_any W p q x y (HP.out.up hW) (HQ.out.up hW)
  have hb1 := box_first w p q.box
  have hb2 := box_last w p.box q
  have hc := fun (W : World) (hW : Below ((w.alloc p.box).alloc q.box).heap.size ((w.alloc p.box).alloc q.box) W) => And.intro (hb1.kept hW).all (hb2.kept hW).all
  rw [hdot] at CO
  obtain ⟨p1, p2, p3, p4, p5, p6, pA, pn, pc⟩ := p
  obtain ⟨q1, q2, q3, q4, q5, q6, qA, qn, qc⟩ := q
  simp only [EV.val] at CO CS ⊢
  simp only [EV.box] at HB HP HQ CO CS hc
  obtain ⟨⟨a0, a1, a2, a3, a4, a5, a6⟩, b0, b1, b2, b3, b4, b5, b6⟩ := hc _ (Below.refl _ _)
  have HC := Lib.hid hc
  have HS := Lib.hid CS
  clear h1 h2 hN2 hdot hb1 hb2 hc CS HP HQ
  generalize decide (x = y) = an2 at HS ⊢
  cases hd : decide (x.dot = y.dot) with
  | true =>
    rw [hd] at CO
    clear hd
    go_enter Try.func12, Try.ntmps12
    go_wp2_with fail
    refine CO.mono ?_
    rintro e w3 ⟨rfl, hb⟩
    have CS := HS.out w3 hb
    obtain ⟨⟨x0, x1, x2, x3, x4, x5, x6⟩, y0, y1, y2, y3, y4, y5, y6⟩ := HC.out w3 hb
    have HW := Lib.hid (HB.out.trans (hb.mono HB.out.size))
    clear hb CO a0 a1 a2 a3 a4 a5 a6 b0 b1 b2 b3 b4 b5 b6
    go_wp2_with fail
    refine CS.mono ?_
    rintro e w4 ⟨rfl, hb4⟩
    have HW4 := Lib.hid (HW.out.trans (hb4.mono HW.out.size))
    clear hb4 CS x0 x1 x2 x3 x4 x5 x6 y0 y1 y2 y3 y4 y5 y6
    go_wp2
    go_ret
    exact ⟨by cases an2 <;> rfl, HW4.out⟩
  | false =>
    rw [hd] at CO
    clear hd
    go_enter Try.func12, Try.ntmps12
    go_wp2_with fail
    refine CO.mono ?_
    rintro e w3 ⟨rfl, hb⟩
    have HW := Lib.hid (HB.out.trans (hb.mono HB.out.size))
    clear hb CO a0 a1 a2 a3 a4 a5 a6 b0 b1 b2 b3 b4 b5 b6
    go_wp2
    go_ret
    exact ⟨rfl, HW.out⟩
end Go.Proofs.Ytbaiiidkffafmaa.Ev
