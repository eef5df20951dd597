/- The contract of the document's Put of layer event. For every list of at most 2^40 events. -/
import Derived.Test.YtbaiiidkffafmaaEApp
import Derived.Deep.DeepCutAuto
namespace Go.Proofs.Ytbaiiidkffafmaa.Ev
open Go.ChangeShapes Go.WideShapes Go.ChangeAt Go.RowKit
set_option linter.unusedVariables false

theorem bel_drew {w W : World} (h : Below w.heap.size w W) : Below w.heap.size w W.drew := h.drew
theorem cells_later {w V : World} {a : Addr} {p : EV} (h : CellsAt w a p) (hb : Below w.heap.size w V) : CellsAt V a p := h.kept hb
theorem cmp_zero {a b : Dt.Dot} (h : ¬ a = b) : (Dt.cmpD a b == 0) = false := by
  rw [beq_eq_false_iff_ne]
  unfold Dt.cmpD
  rw [if_neg h]
  split <;> omega
theorem is_dot {w : World} {B : Nat} {p : EV} {x : Evt} (h : EventIs w B p x) : x.dot = (p.dev, p.num) := by rw [h.dev, h.num]
theorem p_rel {w w1 wr : World} {n k m c : Nat} {A : Option Addr} {l : List Evt} {x y : Evt} {ps : List EV} {b : Bool} {o : List Evt} (hk : k < n) (hy : l[k]? = some y) (hs : stepE x (stE l x k) y = (b, o)) (hm : ps.length = m) (hma : Match w w.heap.size ps o) (ho : wr.ownsRow w1.heap.size 28 7 (.slice A m c) m (ev ps)) (hn : NoDot l x k) (hd : y.dot ≠ x.dot) (hb : Below w1.heap.size w1 wr) :
    PRel w w1 n l x (.slice A m c) (.bool b) (.int .i64 ((k : Int) + 1)) wr := by
  have h := st_next (e := x) hy
  rw [hs] at h
  exact ⟨k + 1, m, A, c, ps, hk, by go_num, by rw [h], rfl, hm, by rw [h]; exact hma, ho, nodot_next hn hy hd, hb⟩

set_option maxHeartbeats 8000000 in
theorem rput_any (w : World) (A0 : Option Addr) (l : List Evt) (n c0 : Nat) (p : EV) (x : Evt) (hl : EventsAt w w.heap.size A0 l n c0) (hp : EventIs w w.heap.size p x) (h40 : n ≤ 1099511627776) :
    Calls Try.prog 40 #[.slice A0 n c0, p.val] w (EvPost w (putE l x)) := by
  have HL := Lib.hid hl
  have HP := Lib.hid hp
  have hpd := Lib.hid (is_dot hp)
  clear hl hp
  simp only [EV.val]
  have HB1 := Lib.hid (below_new w p.box)
  have hbx := (box_new w p _ (Below.refl _ _)).all
  simp only [EV.box] at HB1 hbx
  go_enter Try.func40, Try.ntmps40
  go_wp2_with fail
  generalize hw1 : w.alloc (.cells #[.int .u16 (p.dev : Int), .int .u64 (p.num : Int), .int .u8 (p.kind : Int), .int .u64 (p.cid : Int), .int .u8 (p.fld : Int), .string p.txt, .slice p.adr p.len p.cap] 28) = w1 at *
  clear hw1
  have HD : Hid (∀ V, Below w1.heap.size w1 V → V.cell? ⟨w.heap.size, 0, none⟩ = some (.int .u16 (p.dev : Int)) ∧ V.cell? ⟨w.heap.size, 1, none⟩ = some (.int .u64 (p.num : Int)) ∧ V.cell? ⟨w.heap.size, 2, none⟩ = some (.int .u8 (p.kind : Int)) ∧ V.cell? ⟨w.heap.size, 3, none⟩ = some (.int .u64 (p.cid : Int)) ∧ V.cell? ⟨w.heap.size, 4, none⟩ = some (.int .u8 (p.fld : Int)) ∧ V.cell? ⟨w.heap.size, 5, none⟩ = some (.string p.txt) ∧ V.cell? ⟨w.heap.size, 6, none⟩ = some (.slice p.adr p.len p.cap)) := Lib.hid (fun V hV =>
    ⟨stays hV hbx.1, stays hV hbx.2.1, stays hV hbx.2.2.1, stays hV hbx.2.2.2.1, stays hV hbx.2.2.2.2.1, stays hV hbx.2.2.2.2.2.1, stays hV hbx.2.2.2.2.2.2⟩)
  clear hbx
  go_loopw [5, 6, 7] (fun v b i wr => PRel w w1 n l x v b i wr) (fun _ _ i _ => n - (intOf i).toNat)
  case atStart => exact ⟨0, 0, none, 0, [], Nat.zero_le _, rfl, rfl, rfl, rfl, Match.nil_ _ _, World.ownsRow_nil _ _ _ _, fun j y hj => absurd hj (Nat.not_lt_zero _), Below.refl _ _⟩
  case round =>
    obtain ⟨k, m, A, c, ps, hk, rfl, rfl, rfl, hm, hma, ho, hnd, hw⟩ := hrel
    have hmk : m ≤ k + 1 := by
      have h1 := st_long l x k
      rw [← hm, hma.1]
      split at h1 <;> omega
    have HM := Lib.hid hm
    have HMA := Lib.hid hma
    have HO := Lib.hid ho
    have HND := Lib.hid hnd
    have HW := Lib.hid hw
    clear hm hma ho hnd hw
    by_cases hlt : k < n
    · obtain ⟨ad, q, y, rfl, hB, hly, hq, cq⟩ := HL.out.at_ hlt
      have HQ : Hid (∀ V, Below w1.heap.size w1 V → CellsAt V (ad.add (k * 7)) q) := Lib.hid (fun V hV => cells_later cq (HB1.out.trans (hV.mono HB1.out.size)))
      have hqd := Lib.hid (is_dot hq)
      have HQI := Lib.hid hq
      have HLY := Lib.hid hly
      clear hly hq cq
      have HC : Hid (∀ V, Below wr.heap.size wr V → (V.cell? (ad.add (k * 7)) = some (.int .u16 (q.dev : Int)) ∧ V.cell? ⟨(ad.add (k * 7)).block, (ad.add (k * 7)).off + 1, none⟩ = some (.int .u64 (q.num : Int))) ∧ V.cell? ⟨w.heap.size, 0, none⟩ = some (.int .u16 (p.dev : Int)) ∧ V.cell? ⟨w.heap.size, 1, none⟩ = some (.int .u64 (p.num : Int))) := Lib.hid (fun V hV => by
        have hb := HW.out.trans (hV.mono HW.out.size)
        have h1 := HQ.out V hb
        have h2 := HD.out V hb
        exact ⟨⟨h1.c0, h1.c1⟩, h2.1, h2.2.1⟩)
      obtain ⟨⟨d1, d2⟩, d3, d4⟩ := HC.out wr (Below.refl _ _)
      go_wp2_with fail
      go_region_held3 (fun V => (V.cell? (ad.add (k * 7)) = some (.int .u16 (q.dev : Int)) ∧ V.cell? ⟨(ad.add (k * 7)).block, (ad.add (k * 7)).off + 1, none⟩ = some (.int .u64 (q.num : Int))) ∧ V.cell? ⟨w.heap.size, 0, none⟩ = some (.int .u16 (p.dev : Int)) ∧ V.cell? ⟨w.heap.size, 1, none⟩ = some (.int .u64 (p.num : Int))) (first | exact ⟨⟨d1, d2⟩, d3, d4⟩ | assumption | exact HC.out _ (by (repeat (first | exact Below.refl _ _ | assumption | apply bel_drew)))) (first
        | (go_at_call 16; (with_reducible refine (Dt.rcmp_later wr _ (q.dev, q.num) (p.dev, p.num) ?_).mono ?_); (repeat (first | exact Below.refl _ _ | assumption | apply bel_drew)); rintro e V ⟨rfl, bv⟩; have hcV := HC.out V bv))
      all_goals
        have HV : Hid (Below w1.heap.size w1 V) := HW.out.trans (bv.mono HW.out.size)
        have HOV := Lib.hid (Dt.own_kept HO.out bv)
        have HWV := Lib.hid (HB1.out.trans (HV.out.mono HB1.out.size))
        clear bv d1 d2 d3 d4 hcV HC
        by_cases hdot : (q.dev, q.num) = (p.dev, p.num)
        · have hz : Dt.cmpD (q.dev, q.num) (p.dev, p.num) = 0 := by rw [hdot]; exact Dt.cmp_same _
          rw [hz]
          have HR := Lib.hid (put_there (e := x) HLY.out (by rw [hqd.out, hpd.out, hdot]))
          clear hdot hz
          go_wp2
          go_ret
          rw [HR.out]
          exact ⟨some ad, n, c0, rfl, (HL.out.below HWV.out).more HWV.out.size, HWV.out⟩
        · have hz := cmp_zero hdot
          have hz2 := Dt.cmp_pos (q.dev, q.num) (p.dev, p.num)
          have hyx : y.dot ≠ x.dot := by rw [hqd.out, hpd.out]; exact hdot
          generalize Dt.cmpD (q.dev, q.num) (p.dev, p.num) = z at hz hz2 ⊢
          obtain ⟨e0, e1, e2, e3, e4, e5, e6⟩ := HQ.out V HV.out
          clear hdot
          cases ha : Dt.aheadD (p.dev, p.num) (q.dev, q.num) with
          | false =>
            rw [ha] at hz2
            have HS0 : Hid (stepE x (stE l x k) y = ((stE l x k).1, (stE l x k).2 ++ [y])) := Lib.hid (by unfold stepE; rw [hqd.out, hpd.out, ha, if_neg (by simp)])
            clear ha
            generalize (stE l x k).1 = b at *
            have HS := HS0
            have HLO : Hid (m + 1 ≤ 1649267441664) := Lib.hid (by omega)
            have HWA : Hid (Below w1.heap.size w1 (V.alloc q.box)) := Lib.hid (bel_alloc _ HV.out)
            go_wp2_with (at_builtin; refine wpList_evt rfl (.tmp 36) (.tmp 41) rfl rfl _ w1.heap.size m (.slice A m c) ps (some ⟨V.heap.size, 0, none⟩) [q] 1 1 rfl rfl (HOV.out.alloc _) (fun h => by cases h) (lies_evt V q) rfl HLO.out HWA.out.size ?_; intro A3 c3 V3 ho3 hg3; have HR := Lib.hid (p_rel hlt HLY.out HS.out (by rw [List.length_append, HM.out]; rfl) (HMA.out.snoc HQI.out) ho3 HND.out hyx (evt_grown (HOV.out.alloc _) HWA.out hg3)); clear ho3 hg3)
            go_roundw
            case rel => exact HR.out
            case measure => simp [intOf]; omega
          | true =>
            rw [ha] at hz2
            cases hb : (stE l x k).1 with
            | true =>
              have HS : Hid (stepE x (stE l x k) y = (true, (stE l x k).2 ++ [y])) := Lib.hid (by unfold stepE; rw [hb, if_neg (by simp)])
              clear ha
              have HLO : Hid (m + 1 ≤ 1649267441664) := Lib.hid (by omega)
              have HWA : Hid (Below w1.heap.size w1 (V.alloc q.box)) := Lib.hid (bel_alloc _ HV.out)
              go_wp2_with (at_builtin; refine wpList_evt rfl (.tmp 36) (.tmp 41) rfl rfl _ w1.heap.size m (.slice A m c) ps (some ⟨V.heap.size, 0, none⟩) [q] 1 1 rfl rfl (HOV.out.alloc _) (fun h => by cases h) (lies_evt V q) rfl HLO.out HWA.out.size ?_; intro A3 c3 V3 ho3 hg3; have HR := Lib.hid (p_rel hlt HLY.out HS.out (by rw [List.length_append, HM.out]; rfl) (HMA.out.snoc HQI.out) ho3 HND.out hyx (evt_grown (HOV.out.alloc _) HWA.out hg3)); clear ho3 hg3)
              go_roundw
              case rel => exact HR.out
              case measure => simp [intOf]; omega
            | false =>
              have HS : Hid (stepE x (stE l x k) y = (true, (stE l x k).2 ++ [x] ++ [y])) := Lib.hid (by unfold stepE; rw [hb, hqd.out, hpd.out, ha, if_pos ⟨rfl, rfl⟩, List.append_assoc]; rfl)
              clear ha
              have HLO : Hid (m + 1 ≤ 1649267441664) := Lib.hid (by omega)
              have HWA : Hid (Below w1.heap.size w1 (V.alloc p.box)) := Lib.hid (bel_alloc _ HV.out)
              obtain ⟨p0, p1, p2, p3, p4, p5, p6⟩ := HD.out V HV.out
              go_upto_region 12 with (at_builtin; refine wpList_evt rfl (.tmp 32) (.tmp 34) rfl rfl _ w1.heap.size m (.slice A m c) ps (some ⟨V.heap.size, 0, none⟩) [p] 1 1 rfl rfl (HOV.out.alloc _) (fun h => by cases h) (lies_evt V p) rfl HLO.out HWA.out.size ?_; intro A3 c3 V3 ho3 hg3; have HO2 := Lib.hid ho3; have HW2 := Lib.hid (evt_grown (HOV.out.alloc _) HWA.out hg3); clear ho3 hg3)
              clear p0 p1 p2 p3 p4 p5 p6 e0 e1 e2 e3 e4 e5 e6
              obtain ⟨e0, e1, e2, e3, e4, e5, e6⟩ := HQ.out V3 HW2.out
              have HLO2 : Hid (m + 1 + 1 ≤ 1649267441664) := Lib.hid (by omega)
              have HWA2 : Hid (Below w1.heap.size w1 (V3.alloc q.box)) := Lib.hid (bel_alloc _ HW2.out)
              go_wp2_with (at_builtin; refine wpList_evt rfl (.tmp 36) (.tmp 41) rfl rfl _ w1.heap.size (m + 1) (.slice A3 (m + 1) c3) (ps ++ [p]) (some ⟨V3.heap.size, 0, none⟩) [q] 1 1 rfl rfl (HO2.out.alloc _) (fun h => by cases h) (lies_evt V3 q) rfl HLO2.out HWA2.out.size ?_; intro A4 c4 V4 ho3 hg3; have HR := Lib.hid (p_rel hlt HLY.out HS.out (by rw [List.length_append, List.length_append, HM.out]; rfl) ((HMA.out.snoc HP.out).snoc HQI.out) ho3 HND.out hyx (evt_grown (HO2.out.alloc _) HWA2.out hg3)); clear ho3 hg3)
              go_roundw
              case rel => exact HR.out
              case measure => simp [intOf]; omega
    · obtain rfl : k = n := by omega
      have HR := Lib.hid (put_done HL.out.len HND.out)
      have HWE := Lib.hid (HB1.out.trans (HW.out.mono HB1.out.size))
      cases hb : (stE l x k).1 with
      | true =>
        have HE : Hid (putE l x = (stE l x k).2) := Lib.hid (by rw [HR.out, hb, if_pos rfl])
        go_wp2
        go_ret
        rw [HE.out]
        exact ⟨A, m, c, rfl, own_events HWE.out HMA.out HM.out (by omega) HO.out, HWE.out⟩
      | false =>
        have HE : Hid (putE l x = (stE l x k).2 ++ [x]) := Lib.hid (by rw [HR.out, hb, if_neg (by simp)])
        have HLO : Hid (m + 1 ≤ 1649267441664) := Lib.hid (by omega)
        have HWA : Hid (Below w1.heap.size w1 (wr.alloc p.box)) := Lib.hid (bel_alloc _ HW.out)
        obtain ⟨p0, p1, p2, p3, p4, p5, p6⟩ := HD.out wr HW.out
        go_wp2_with (at_builtin; refine wpList_evt rfl (.tmp 45) (.tmp 47) rfl rfl _ w1.heap.size m (.slice A m c) ps (some ⟨wr.heap.size, 0, none⟩) [p] 1 1 rfl rfl (HO.out.alloc _) (fun h => by cases h) (lies_evt wr p) rfl HLO.out HWA.out.size ?_; intro A3 c3 V3 ho3 hg3; have HO2 := Lib.hid ho3; have HW2 := Lib.hid (evt_grown (HO.out.alloc _) HWA.out hg3); clear ho3 hg3)
        go_ret
        rw [HE.out]
        have HWE3 := HB1.out.trans (HW2.out.mono HB1.out.size)
        exact ⟨A3, m + 1, c3, rfl, own_events HWE3 (HMA.out.snoc HP.out) (by rw [List.length_append, HM.out]; rfl) (by omega) HO2.out, HWE3⟩
end Go.Proofs.Ytbaiiidkffafmaa.Ev
