/- The contracts of the document's Same, All and Few of layer event. For every event and list of events. -/
import Derived.Test.YtbaiiidkffafmaaEWords
namespace Go.Proofs.Ytbaiiidkffafmaa.Ev
open Go.ChangeShapes Go.WideShapes Go.ChangeAt Go.RowKit
set_option linter.unusedVariables false

set_option maxHeartbeats 8000000 in
theorem rsame_any (w : World) (p q : EV) (x y : Evt) (h1 : EventIs w w.heap.size p x) (h2 : EventIs w w.heap.size q y) :
    Calls Try.prog 11 #[p.val, q.val] w fun e w' => e = .returned (.bool (decide (x = y))) ∧ Below w.heap.size w w' := by
  have hx := h1.eq
  have hy := h2.eq
  have HB := Lib.hid (below_new2 w p.box q.box)
  have CE := fun (_ : Unit) => Dt.rsame_any ((w.alloc p.box).alloc q.box) w.heap.size w.heap.size p.adr q.adr x.kills y.kills p.len q.len p.cap q.cap h1.kills.len h2.kills.len (h1.kills.dots.below HB.out) (h2.kills.dots.below HB.out) (Nat.le_trans h1.kills.wide (by decide))
  generalize x.kills = xl at hx CE
  generalize y.kills = yl at hy CE
  subst hx hy
  clear h1 h2
  obtain ⟨p1, p2, p3, p4, p5, p6, pA, pn, pc⟩ := p
  obtain ⟨q1, q2, q3, q4, q5, q6, qA, qn, qc⟩ := q
  have hb1 := box_first w ⟨p1, p2, p3, p4, p5, p6, pA, pn, pc⟩ (EV.box ⟨q1, q2, q3, q4, q5, q6, qA, qn, qc⟩)
  have hb2 := box_last w (EV.box ⟨p1, p2, p3, p4, p5, p6, pA, pn, pc⟩) ⟨q1, q2, q3, q4, q5, q6, qA, qn, qc⟩
  obtain ⟨a0, a1, a2, a3, a4, a5, a6⟩ := hb1
  obtain ⟨b0, b1, b2, b3, b4, b5, b6⟩ := hb2
  simp only [EV.val]
  simp only [EV.box, Nat.zero_add] at HB CE a0 a1 a2 a3 a4 a5 a6 b0 b1 b2 b3 b4 b5 b6
  have hs := eq_texts p6 q6
  by_cases e1 : p1 = q1
  · subst e1
    by_cases e2 : p2 = q2
    · subst e2
      by_cases e3 : p3 = q3
      · subst e3
        by_cases e4 : p4 = q4
        · subst e4
          by_cases e5 : p5 = q5
          · subst e5
            by_cases e6 : p6 = q6
            · subst e6
              have hd : Hid (decide ((⟨(p1, p2), p3, p4, p5, p6, xl⟩ : Evt) = ⟨(p1, p2), p3, p4, p5, p6, yl⟩) = decide (xl = yl)) := Lib.hid (by rw [Bool.eq_iff_iff]; simp)
              rw [hd.out]
              rw [decide_eq_true rfl] at hs
              clear hd
              generalize decide (xl = yl) = ans at CE ⊢
              go_enter Try.func11, Try.ntmps11
              go_wp2_with fail
              refine (CE ()).mono ?_
              rintro e w' ⟨rfl, m, rfl⟩
              go_wp2
              go_ret
              exact ⟨rfl, bel_drewN HB.out _⟩
            · have hd : Hid (decide ((⟨(p1, p2), p3, p4, p5, p6, xl⟩ : Evt) = ⟨(p1, p2), p3, p4, p5, q6, yl⟩) = false) := Lib.hid (decide_eq_false (fun e => e6 (by injection e)))
              rw [hd.out]
              rw [decide_eq_false e6] at hs
              clear hd e6 CE
              go_enter Try.func11, Try.ntmps11
              go_wp2
              go_ret
              exact ⟨rfl, HB.out⟩
          · have hd : Hid (decide ((⟨(p1, p2), p3, p4, p5, p6, xl⟩ : Evt) = ⟨(p1, p2), p3, p4, q5, q6, yl⟩) = false) := Lib.hid (decide_eq_false (fun e => e5 (by injection e)))
            have hb := beq_nat e5
            rw [hd.out]
            clear hd e5 CE hs
            go_enter Try.func11, Try.ntmps11
            go_wp2
            go_ret
            exact ⟨rfl, HB.out⟩
        · have hd : Hid (decide ((⟨(p1, p2), p3, p4, p5, p6, xl⟩ : Evt) = ⟨(p1, p2), p3, q4, q5, q6, yl⟩) = false) := Lib.hid (decide_eq_false (fun e => e4 (by injection e)))
          have hb := beq_nat e4
          rw [hd.out]
          clear hd e4 CE hs
          go_enter Try.func11, Try.ntmps11
          go_wp2
          go_ret
          exact ⟨rfl, HB.out⟩
      · have hd : Hid (decide ((⟨(p1, p2), p3, p4, p5, p6, xl⟩ : Evt) = ⟨(p1, p2), q3, q4, q5, q6, yl⟩) = false) := Lib.hid (decide_eq_false (fun e => e3 (by injection e)))
        have hb := beq_nat e3
        rw [hd.out]
        clear hd e3 CE hs
        go_enter Try.func11, Try.ntmps11
        go_wp2
        go_ret
        exact ⟨rfl, HB.out⟩
    · have hd : Hid (decide ((⟨(p1, p2), p3, p4, p5, p6, xl⟩ : Evt) = ⟨(p1, q2), q3, q4, q5, q6, yl⟩) = false) := Lib.hid (decide_eq_false (fun e => e2 (by injection e with e _; injection e)))
      have hb := beq_nat e2
      rw [hd.out]
      clear hd e2 CE hs
      go_enter Try.func11, Try.ntmps11
      go_wp2
      go_ret
      exact ⟨rfl, HB.out⟩
  · have hd : Hid (decide ((⟨(p1, p2), p3, p4, p5, p6, xl⟩ : Evt) = ⟨(q1, q2), q3, q4, q5, q6, yl⟩) = false) := Lib.hid (decide_eq_false (fun e => e1 (by injection e with e _; injection e)))
    have hb := beq_nat e1
    rw [hd.out]
    clear hd e1 CE hs
    go_enter Try.func11, Try.ntmps11
    go_wp2
    go_ret
    exact ⟨rfl, HB.out⟩

set_option maxHeartbeats 8000000 in
theorem rall_any (w : World) (A1 A2 : Option Addr) (l1 l2 : List Evt) (n1 n2 c1 c2 : Nat) (h1 : EventsAt w w.heap.size A1 l1 n1 c1) (h2 : EventsAt w w.heap.size A2 l2 n2 c2) :
    Calls Try.prog 17 #[.slice A1 n1 c1, .slice A2 n2 c2] w fun e w' => e = .returned (.bool (decide (l1 = l2))) ∧ Below w.heap.size w w' := by
  have H1 := Lib.hid h1
  have H2 := Lib.hid h2
  have h63 : n1 ≤ 2199023255552 := h1.wide
  clear h1 h2
  by_cases hn : n1 = n2
  · subst hn
    go_enter Try.func17, Try.ntmps17
    go_wp2
    go_loopw [5] (fun i wr => ∃ k : Nat, k ≤ n1 ∧ i = .int .i64 (k : Int) ∧ l1.take k = l2.take k ∧ Below w.heap.size w wr) (fun i _ => n1 - (intOf i).toNat)
    case atStart => exact ⟨0, Nat.zero_le _, rfl, by simp, Below.refl _ _⟩
    case round =>
      obtain ⟨k, hk, rfl, ht, hw⟩ := hrel
      have HT := Lib.hid ht
      have HW := Lib.hid hw
      have HA1 : Hid (EventsAt wr wr.heap.size A1 l1 n1 c1) := Lib.hid (H1.out.up hw)
      have HA2 : Hid (EventsAt wr wr.heap.size A2 l2 n1 c2) := Lib.hid (H2.out.up hw)
      clear ht hw
      by_cases hlt : k < n1
      · obtain ⟨a1, p, x, rfl, _, hlx, hp, cp⟩ := HA1.out.at_ hlt
        obtain ⟨a2, q, y, rfl, _, hly, hq, cq⟩ := HA2.out.at_ hlt
        have CT := rsame_any wr.drew p q x y (hp.up (Below.refl _ _).drew) (hq.up (Below.refl _ _).drew)
        simp only [EV.val] at CT
        obtain ⟨x0, x1, x2, x3, x4, x5, x6⟩ := cp
        obtain ⟨y0, y1, y2, y3, y4, y5, y6⟩ := cq
        clear hp hq
        by_cases hxy : x = y
        · have HS := Lib.hid (take_more HT.out hlx (by rw [hly, hxy]))
          rw [decide_eq_true hxy] at CT
          clear hlx hly hxy
          go_wp2_with fail
          go_still_tail 8, (by kernel_rfl)
          go_wp2_with fail
          refine CT.mono ?_
          rintro e w2 ⟨rfl, hb⟩
          have HW2 : Hid (Below w.heap.size w w2) := Lib.hid (HW.out.trans (((Below.refl _ wr).drew.trans hb).mono HW.out.size))
          clear hb
          go_wp2
          go_roundw
          case rel => exact ⟨k + 1, by omega, by go_num, HS.out, HW2.out⟩
          case measure => simp [intOf]; omega
        · have hd : Hid (decide (l1 = l2) = false) := decide_eq_false (ne_at hlx hly hxy)
          rw [decide_eq_false hxy] at CT
          clear hlx hly hxy
          go_wp2_with fail
          go_still_tail 8, (by kernel_rfl)
          go_wp2_with fail
          refine CT.mono ?_
          rintro e w2 ⟨rfl, hb⟩
          have HW2 : Hid (Below w.heap.size w w2) := Lib.hid (HW.out.trans (((Below.refl _ wr).drew.trans hb).mono HW.out.size))
          clear hb
          go_wp2
          go_ret
          exact ⟨ret_bool hd.out.symm, HW2.out⟩
      · obtain rfl : k = n1 := by omega
        have hd : Hid (l1 = l2) := by
          have h := HT.out
          rw [List.take_of_length_le (by rw [H1.out.len]; exact Nat.le_refl _), List.take_of_length_le (by rw [H2.out.len]; exact Nat.le_refl _)] at h
          exact h
        go_wp2
        go_ret
        exact ⟨ret_bool (by rw [decide_eq_true hd.out]), HW.out⟩
  · have hd : Hid (decide (l1 = l2) = false) := decide_eq_false (fun e => hn (by rw [← H1.out.len, ← H2.out.len, e]))
    have hne : ((n1 : Int) != (n2 : Int)) = true := by rw [bne_iff_ne]; omega
    go_enter Try.func17, Try.ntmps17
    go_wp2
    go_ret
    exact ⟨ret_bool hd.out.symm, Below.refl _ _⟩

/-- are there few events, with few kills? -/
def fewE (x : Evt) : Bool := decide (x.kills.length ≤ 300) && decide (x.txt.size ≤ 200)
def fewB (l : List Evt) (m : Nat) : Bool := decide (l.length ≤ m) && l.all fewE
def AllFew (l : List Evt) (k : Nat) : Prop := (l.take k).all fewE = true
theorem few_next {l : List Evt} {k : Nat} {x : Evt} (h : AllFew l k) (hx : l[k]? = some x) (hf : fewE x = true) : AllFew l (k + 1) := by
  unfold AllFew at *
  rw [List.take_add_one, hx, List.all_append, h]
  simp [hf]
theorem few_bad {l : List Evt} {k : Nat} {x : Evt} (m : Nat) (hx : l[k]? = some x) (hf : fewE x = false) : fewB l m = false := by
  unfold fewB
  rw [Bool.and_eq_false_iff]
  right
  rw [List.all_eq_false]
  exact ⟨x, List.mem_of_getElem? hx, by rw [hf]; simp⟩

set_option maxHeartbeats 8000000 in
theorem rfew_any (w : World) (A : Option Addr) (l : List Evt) (n c m : Nat) (hm : m ≤ 2147483647) (h : EventsAt w w.heap.size A l n c) :
    Calls Try.prog 6 #[.slice A n c, .int .i64 (m : Int)] w fun e w' => e = .returned (.bool (fewB l m)) ∧ w' = w := by
  have H := Lib.hid h
  have h63 : n ≤ 2199023255552 := h.wide
  clear h
  by_cases hn : n ≤ m
  · have hd1 : decide ((m : Int) < (n : Int)) = false := decide_eq_false (by omega)
    go_enter Try.func6, Try.ntmps6
    go_wp2
    go_loop [5] (fun i => ∃ k : Nat, k ≤ n ∧ i = .int .i64 (k : Int) ∧ AllFew l k) (fun i => n - (intOf i).toNat)
    case atStart => exact ⟨0, Nat.zero_le _, rfl, by simp [AllFew]⟩
    case round =>
      obtain ⟨k, hk, rfl, ht⟩ := hrel
      have HT := Lib.hid ht
      clear ht
      by_cases hlt : k < n
      · obtain ⟨ad, p, x, rfl, _, hlx, hp, cp⟩ := H.out.at_ hlt
        obtain ⟨x0, x1, x2, x3, x4, x5, x6⟩ := cp
        have hkl : x.kills.length = p.len := hp.kills.len
        have hkw : p.len ≤ 8796093022208 := hp.kills.wide
        have htx : p.txt = x.txt := hp.txt
        have hsh : p.txt.size ≤ 140737488355328 := by rw [htx]; exact hp.fits.txt
        have HE : Hid (fewE x = (decide (p.len ≤ 300) && decide (p.txt.size ≤ 200))) := Lib.hid (by unfold fewE; rw [hkl, htx])
        clear hp hkl htx
        by_cases h3 : p.len ≤ 300
        · by_cases h4 : p.txt.size ≤ 200
          · have HS := Lib.hid (few_next HT.out hlx (by rw [HE.out, decide_eq_true h3, decide_eq_true h4]; rfl))
            clear hlx HE
            go_wp2
            go_round
            case rel => exact ⟨k + 1, by omega, by go_num, HS.out⟩
            case measure => simp [intOf]; omega
          · have HS := Lib.hid (few_bad m hlx (by rw [HE.out, decide_eq_false h4]; simp))
            have h5 : 200 < p.txt.size := by omega
            clear hlx HE h4
            go_wp2
            go_ret
            exact ⟨ret_bool HS.out.symm, rfl⟩
        · have HS := Lib.hid (few_bad m hlx (by rw [HE.out, decide_eq_false h3]; rfl))
          have h5 : 300 < p.len := by omega
          clear hlx HE h3
          go_wp2
          go_ret
          exact ⟨ret_bool HS.out.symm, rfl⟩
      · obtain rfl : k = n := by omega
        have HS : Hid (fewB l m = true) := Lib.hid (by
          have h := HT.out
          unfold AllFew at h
          rw [List.take_of_length_le (by rw [H.out.len]; exact Nat.le_refl _)] at h
          unfold fewB
          rw [h, decide_eq_true (by rw [H.out.len]; exact hn)]; rfl)
        go_wp2
        go_ret
        exact ⟨ret_bool HS.out.symm, rfl⟩
  · have hd1 : decide ((m : Int) < (n : Int)) = true := decide_eq_true (by omega)
    have HS : Hid (fewB l m = false) := Lib.hid (by unfold fewB; rw [decide_eq_false (by rw [H.out.len]; exact hn)]; rfl)
    go_enter Try.func6, Try.ntmps6
    go_wp2
    go_ret
    exact ⟨ret_bool HS.out.symm, rfl⟩
end Go.Proofs.Ytbaiiidkffafmaa.Ev
