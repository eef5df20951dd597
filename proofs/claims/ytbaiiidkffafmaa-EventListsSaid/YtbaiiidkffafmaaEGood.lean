/- The contract of the document's Good of layer event. For every event. -/
import Derived.Test.YtbaiiidkffafmaaESame
namespace Go.Proofs.Ytbaiiidkffafmaa.Ev
open Go.ChangeShapes Go.WideShapes Go.ChangeAt Go.RowKit
set_option linter.unusedVariables false

theorem rfield_any (w : World) (f : Nat) (hf : f < 256) : Calls Try.prog 30 #[.int .u8 (f : Int)] w fun e w' => e = .returned (.bool (Fd.goodB f)) ∧ w' = w := by
  by_cases h1 : 1 ≤ f
  · have d1 : decide (1 ≤ (f : Int)) = true := decide_eq_true (by omega)
    have HR : Hid (Fd.goodB f = decide ((f : Int) ≤ 5)) := Lib.hid (by unfold Fd.goodB; rw [Bool.eq_iff_iff]; simp; omega)
    go_enter Try.func30, Try.ntmps30
    go_wp2
    all_goals
      go_ret
      exact ⟨ret_bool HR.out.symm, rfl⟩
  · have d1 : decide (1 ≤ (f : Int)) = false := decide_eq_false (by omega)
    have HR : Hid (Fd.goodB f = false) := Lib.hid (decide_eq_false (by omega))
    go_enter Try.func30, Try.ntmps30
    go_wp2
    all_goals
      go_ret
      exact ⟨ret_bool HR.out.symm, rfl⟩
theorem empty_text (s : ByteArray) : s.toList.isEmpty = decide (s = ⟨#[]⟩) := by
  rw [Bool.eq_iff_iff, decide_eq_true_iff, ByteArray.toList_eq, List.isEmpty_iff]
  constructor
  · intro h
    exact Fd.ba_of h
  · intro h
    rw [h]

/-- may an event's kind, field and text be? -/
def headB (k f : Nat) (t : ByteArray) : Bool := if k = 1 then Fd.goodB f && Fd.textB t.data.toList else if k = 2 then decide (f = 0) && decide (t = ⟨#[]⟩) else false
/-- may an event be? -/
def goodE (x : Evt) : Bool := (Dt.unpackD x.cid).2 && Dt.mayD x.dot && headB x.kind x.fld x.txt && x.kills.all Dt.mayD && decide (x.kills.length ≤ 256) && Dt.riseB x.kills && !decide (x.dot ∈ x.kills)
def AllMay (l : List Dt.Dot) (k : Nat) : Prop := (l.take k).all Dt.mayD = true
theorem all_none (l : List Dt.Dot) : AllMay l 0 := by simp [AllMay]
theorem all_next {l : List Dt.Dot} {k : Nat} {x : Dt.Dot} (h : AllMay l k) (hx : l[k]? = some x) (hf : Dt.mayD x = true) : AllMay l (k + 1) := by
  unfold AllMay at *
  rw [List.take_add_one, hx, List.all_append, h]
  simp [hf]
theorem all_bad {l : List Dt.Dot} {k : Nat} {x : Dt.Dot} (hx : l[k]? = some x) (hf : Dt.mayD x = false) : l.all Dt.mayD = false := by
  rw [List.all_eq_false]
  exact ⟨x, List.mem_of_getElem? hx, by rw [hf]; simp⟩
theorem all_done {l : List Dt.Dot} {n : Nat} (hn : l.length = n) (h : AllMay l n) : l.all Dt.mayD = true := by
  unfold AllMay at h
  rwa [List.take_of_length_le (by rw [hn]; exact Nat.le_refl _)] at h

set_option maxHeartbeats 16000000 in
theorem rgood_any (w : World) (p : EV) (x : Evt) (h : EventIs w w.heap.size p x) :
    Calls Try.prog 9 #[p.val] w fun e w' => e = .returned (.bool (goodE x)) ∧ Below w.heap.size w w' := by
  have hx := h.eq
  have HF := Lib.hid h.fits
  have HK := Lib.hid h.kills
  have HN := Lib.hid h.kills.len
  have h63 := h.kills.wide
  generalize x.kills = l at hx HK HN
  subst hx
  clear h
  obtain ⟨p1, p2, p3, p4, p5, p6, A, n, c⟩ := p
  simp only at HK HN h63 HF
  have hf5 : p5 < 256 := HF.out.fld
  have hf4 : p4 < 18446744073709551616 := HF.out.cid
  have hsh : Short p6 := HF.out.txt
  simp only [EV.val]
  have HB := Lib.hid (below_new w (.cells #[.int .u16 (p1 : Int), .int .u64 (p2 : Int), .int .u8 (p3 : Int), .int .u64 (p4 : Int), .int .u8 (p5 : Int), .string p6, .slice A n c] 28))
  have HX : Hid (∀ V, Below (w.heap.size + 1) (w.alloc (.cells #[.int .u16 (p1 : Int), .int .u64 (p2 : Int), .int .u8 (p3 : Int), .int .u64 (p4 : Int), .int .u8 (p5 : Int), .string p6, .slice A n c] 28)) V → V.cell? ⟨w.heap.size, 0, none⟩ = some (.int .u16 (p1 : Int)) ∧ V.cell? ⟨w.heap.size, 1, none⟩ = some (.int .u64 (p2 : Int)) ∧ V.cell? ⟨w.heap.size, 2, none⟩ = some (.int .u8 (p3 : Int)) ∧ V.cell? ⟨w.heap.size, 3, none⟩ = some (.int .u64 (p4 : Int)) ∧ V.cell? ⟨w.heap.size, 4, none⟩ = some (.int .u8 (p5 : Int)) ∧ V.cell? ⟨w.heap.size, 5, none⟩ = some (.string p6) ∧ V.cell? ⟨w.heap.size, 6, none⟩ = some (.slice A n c)) := Lib.hid (fun V hV => (box_new w ⟨p1, p2, p3, p4, p5, p6, A, n, c⟩ V hV).all)
  have HL : Hid (∀ V, Below (w.heap.size + 1) (w.alloc (.cells #[.int .u16 (p1 : Int), .int .u64 (p2 : Int), .int .u8 (p3 : Int), .int .u64 (p4 : Int), .int .u8 (p5 : Int), .string p6, .slice A n c] 28)) V → DotsAt V V.heap.size A l n c) := Lib.hid (fun V hV => HK.out.up (HB.out.trans (hV.mono (Nat.le_succ _))))
  have HA : Hid (∀ V o, Below (w.heap.size + 1) (w.alloc (.cells #[.int .u16 (p1 : Int), .int .u64 (p2 : Int), .int .u8 (p3 : Int), .int .u64 (p4 : Int), .int .u8 (p5 : Int), .string p6, .slice A n c] 28)) V → Below (w.heap.size + 1) (w.alloc (.cells #[.int .u16 (p1 : Int), .int .u64 (p2 : Int), .int .u8 (p3 : Int), .int .u64 (p4 : Int), .int .u8 (p5 : Int), .string p6, .slice A n c] 28)) (V.alloc o)) := Lib.hid (fun V o hV => hV.alloc (by have := hV.size; rw [alloc_size] at this; exact this) o)
  have CU := fun W => Dt.runpack_any W p4 hf4
  have CG := fun W => Dt.rgood_any W p1 p2
  have CF := fun W => rfield_any W p5 hf5
  have CT := fun W => Fd.rtext_any p6 W (by unfold Short at hsh; omega)
  have HE : Hid (goodE ⟨(p1, p2), p3, p4, p5, p6, l⟩ = ((Dt.unpackD p4).2 && Dt.mayD (p1, p2) && headB p3 p5 p6 && l.all Dt.mayD && decide (n ≤ 256) && Dt.riseB l && !decide ((p1, p2) ∈ l))) := Lib.hid (by unfold goodE; rw [HN.out])
  generalize goodE ⟨(p1, p2), p3, p4, p5, p6, l⟩ = ans at HE ⊢
  generalize hd1 : (Dt.unpackD p4).1.1 = d1 at CU
  generalize hd2 : (Dt.unpackD p4).1.2 = d2 at CU
  clear hd1 hd2 hf5 hf4 hsh HK HF
  cases hu : (Dt.unpackD p4).2 with
  | false =>
    have hd : Hid (ans = false) := Lib.hid (by rw [HE.out, hu]; rfl)
    rw [hu] at CU
    clear hu HE
    go_enter Try.func9, Try.ntmps9
    go_wp2_with fail
    refine (CU _).mono ?_
    rintro e w1 ⟨rfl, hb⟩
    have HV := Lib.hid (HA.out w1 (.cells #[.int .u16 (d1 : Int), .int .u64 (d2 : Int)] 25) (by rw [alloc_size] at hb; exact hb))
    obtain ⟨a0, a1, a2, a3, a4, a5, a6⟩ := HX.out _ HV.out
    clear hb
    go_wp2
    go_ret
    exact ⟨ret_bool hd.out.symm, HB.out.trans (HV.out.mono (Nat.le_succ _))⟩
  | true =>
    rw [hu] at CU
    cases hm : Dt.mayD (p1, p2) with
    | false =>
      have hd : Hid (ans = false) := Lib.hid (by rw [HE.out, hu, hm]; rfl)
      rw [hm] at CG
      clear hu hm HE
      go_enter Try.func9, Try.ntmps9
      go_wp2_with fail
      refine (CU _).mono ?_
      rintro e w1 ⟨rfl, hb⟩
      have HV := Lib.hid (HA.out w1 (.cells #[.int .u16 (d1 : Int), .int .u64 (d2 : Int)] 25) (by rw [alloc_size] at hb; exact hb))
      obtain ⟨a0, a1, a2, a3, a4, a5, a6⟩ := HX.out _ HV.out
      clear hb
      go_wp2_with fail
      generalize hw2 : w1.alloc (.cells #[.int .u16 (d1 : Int), .int .u64 (d2 : Int)] 25) = w2 at *
      clear hw2
      refine (CG _).mono ?_
      rintro e w3 ⟨rfl, rfl⟩
      have HV3 := Lib.hid (HA.out w2 (.cells #[.int .u16 (p1 : Int), .int .u64 (p2 : Int)] 25) HV.out)
      clear a0 a1 a2 a3 a4 a5 a6
      obtain ⟨a0, a1, a2, a3, a4, a5, a6⟩ := HX.out _ HV3.out
      go_wp2
      go_ret
      exact ⟨ret_bool hd.out.symm, HB.out.trans (HV3.out.mono (Nat.le_succ _))⟩
    | true =>
      rw [hm] at CG
      have HE2 : Hid (ans = (headB p3 p5 p6 && l.all Dt.mayD && decide (n ≤ 256) && Dt.riseB l && !decide ((p1, p2) ∈ l))) := Lib.hid (by rw [HE.out, hu, hm]; rfl)
      clear hu hm HE
      by_cases k1 : p3 = 1
      · have hh : Hid (headB p3 p5 p6 = (Fd.goodB p5 && Fd.textB p6.data.toList)) := Lib.hid (by unfold headB; rw [if_pos k1])
        subst k1
        cases hG : Fd.goodB p5 with
        | false =>
          have hd : Hid (ans = false) := Lib.hid (by rw [HE2.out, hh.out, hG]; rfl)
          rw [hG] at CF
          clear hG hh HE2
          go_enter Try.func9, Try.ntmps9
          go_wp2_with fail
          refine (CU _).mono ?_
          rintro e w1 ⟨rfl, hb⟩
          have HV := Lib.hid (HA.out w1 (.cells #[.int .u16 (d1 : Int), .int .u64 (d2 : Int)] 25) (by rw [alloc_size] at hb; exact hb))
          obtain ⟨a0, a1, a2, a3, a4, a5, a6⟩ := HX.out _ HV.out
          clear hb
          go_wp2_with fail
          generalize hw2 : w1.alloc (.cells #[.int .u16 (d1 : Int), .int .u64 (d2 : Int)] 25) = w2 at *
          clear hw2
          refine (CG _).mono ?_
          rintro e w3 ⟨rfl, rfl⟩
          have HV3 := Lib.hid (HA.out w2 (.cells #[.int .u16 (p1 : Int), .int .u64 (p2 : Int)] 25) HV.out)
          clear a0 a1 a2 a3 a4 a5 a6
          obtain ⟨a0, a1, a2, a3, a4, a5, a6⟩ := HX.out _ HV3.out
          go_wp2_with fail
          refine (CF _).mono ?_
          rintro e w4 ⟨rfl, rfl⟩
          go_wp2
          go_ret
          exact ⟨ret_bool hd.out.symm, HB.out.trans (HV3.out.mono (Nat.le_succ _))⟩
        | true =>
          rw [hG] at CF
          cases hT : Fd.textB p6.data.toList with
          | false =>
            have hd : Hid (ans = false) := Lib.hid (by rw [HE2.out, hh.out, hG, hT]; rfl)
            rw [hT] at CT
            clear hG hT hh HE2
            go_enter Try.func9, Try.ntmps9
            go_wp2_with fail
            refine (CU _).mono ?_
            rintro e w1 ⟨rfl, hb⟩
            have HV := Lib.hid (HA.out w1 (.cells #[.int .u16 (d1 : Int), .int .u64 (d2 : Int)] 25) (by rw [alloc_size] at hb; exact hb))
            obtain ⟨a0, a1, a2, a3, a4, a5, a6⟩ := HX.out _ HV.out
            clear hb
            go_wp2_with fail
            generalize hw2 : w1.alloc (.cells #[.int .u16 (d1 : Int), .int .u64 (d2 : Int)] 25) = w2 at *
            clear hw2
            refine (CG _).mono ?_
            rintro e w3 ⟨rfl, rfl⟩
            have HV3 := Lib.hid (HA.out w2 (.cells #[.int .u16 (p1 : Int), .int .u64 (p2 : Int)] 25) HV.out)
            clear a0 a1 a2 a3 a4 a5 a6
            obtain ⟨a0, a1, a2, a3, a4, a5, a6⟩ := HX.out _ HV3.out
            go_wp2_with fail
            refine (CF _).mono ?_
            rintro e w4 ⟨rfl, rfl⟩
            go_wp2_with fail
            refine (CT _).mono ?_
            rintro e w5 ⟨rfl, rfl⟩
            go_wp2
            go_ret
            exact ⟨ret_bool hd.out.symm, HB.out.trans (HV3.out.mono (Nat.le_succ _))⟩
          | true =>
            rw [hT] at CT
            have HNO : Hid (l.all Dt.mayD = false → ans = false) := Lib.hid (fun h => by rw [HE2.out, h]; simp)
            have HY : Hid (l.all Dt.mayD = true → ans = (decide (n ≤ 256) && Dt.riseB l && !decide ((p1, p2) ∈ l))) := Lib.hid (fun h => by rw [HE2.out, hh.out, hG, hT, h]; rfl)
            clear hG hT hh HE2
            go_enter Try.func9, Try.ntmps9
            go_wp2_with fail
            refine (CU _).mono ?_
            rintro e w1 ⟨rfl, hb⟩
            have HV := Lib.hid (HA.out w1 (.cells #[.int .u16 (d1 : Int), .int .u64 (d2 : Int)] 25) (by rw [alloc_size] at hb; exact hb))
            obtain ⟨a0, a1, a2, a3, a4, a5, a6⟩ := HX.out _ HV.out
            clear hb
            go_wp2_with fail
            generalize hw2 : w1.alloc (.cells #[.int .u16 (d1 : Int), .int .u64 (d2 : Int)] 25) = w2 at *
            clear hw2
            refine (CG _).mono ?_
            rintro e w3 ⟨rfl, rfl⟩
            have HV3 := Lib.hid (HA.out w2 (.cells #[.int .u16 (p1 : Int), .int .u64 (p2 : Int)] 25) HV.out)
            clear a0 a1 a2 a3 a4 a5 a6
            obtain ⟨a0, a1, a2, a3, a4, a5, a6⟩ := HX.out _ HV3.out
            go_wp2_with fail
            refine (CF _).mono ?_
            rintro e w4 ⟨rfl, rfl⟩
            go_wp2_with fail
            refine (CT _).mono ?_
            rintro e w5 ⟨rfl, rfl⟩
            go_wp2_with fail
            generalize w2.alloc (.cells #[.int .u16 (p1 : Int), .int .u64 (p2 : Int)] 25) = W at *
            go_loopw [5] (fun i wr => ∃ k : Nat, k ≤ n ∧ i = .int .i64 (k : Int) ∧ AllMay l k ∧ Below (w.heap.size + 1) (w.alloc (.cells #[.int .u16 (p1 : Int), .int .u64 (p2 : Int), .int .u8 ((1 : Nat) : Int), .int .u64 (p4 : Int), .int .u8 (p5 : Int), .string p6, .slice A n c] 28)) wr) (fun i _ => n - (intOf i).toNat)
            case atStart => exact ⟨0, Nat.zero_le _, rfl, all_none l, HV3.out⟩
            case round =>
              clear a0 a1 a2 a3 a4 a5 a6
              obtain ⟨k, hk, rfl, ht, hw⟩ := hrel
              have HT := Lib.hid ht
              have HW := Lib.hid hw
              clear ht hw
              obtain ⟨a0, a1, a2, a3, a4, a5, a6⟩ := HX.out _ HW.out
              by_cases hlt : k < n
              · obtain ⟨ad, x1, x2, rfl, hlx, hx1, hx2, c1, c2⟩ := (HL.out wr HW.out).dots.at_ (k := k) (by rw [HN.out]; exact hlt)
                have c2' : wr.cell? ⟨(ad.add (k * 2)).block, (ad.add (k * 2)).off + 1, none⟩ = some (.int .u64 (x2 : Int)) := by rw [Dt.add_next]; exact c2
                have CM := Dt.rgood_any wr x1 x2
                have HW2 := Lib.hid (HA.out wr (.cells #[.int .u16 (x1 : Int), .int .u64 (x2 : Int)] 25) HW.out)
                clear c2
                cases hm : Dt.mayD (x1, x2) with
                | true =>
                  rw [hm] at CM
                  have HS := Lib.hid (all_next HT.out hlx hm)
                  clear hlx hm
                  go_wp2_with fail
                  refine CM.mono ?_
                  rintro e w6 ⟨rfl, rfl⟩
                  clear a0 a1 a2 a3 a4 a5 a6 c1 c2' CM
                  go_wp2
                  go_roundw
                  case rel => exact ⟨k + 1, by omega, by go_num, HS.out, HW2.out⟩
                  case measure => simp [intOf]; omega
                | false =>
                  rw [hm] at CM
                  have hd := Lib.hid (HNO.out (all_bad hlx hm))
                  clear hlx hm
                  go_wp2_with fail
                  refine CM.mono ?_
                  rintro e w6 ⟨rfl, rfl⟩
                  clear a0 a1 a2 a3 a4 a5 a6 c1 c2' CM
                  go_wp2
                  go_ret
                  exact ⟨ret_bool hd.out.symm, HB.out.trans (HW2.out.mono (Nat.le_succ _))⟩
              · obtain rfl : k = n := by omega
                have hal := Lib.hid (all_done HN.out HT.out)
                have HLn : Hid (DotsAt wr wr.heap.size A l k c) := Lib.hid (HL.out wr HW.out)
                have HSZ : Hid (w.heap.size + 1 ≤ wr.heap.size) := Lib.hid (by have := HW.out.size; rw [alloc_size] at this; exact this)
                by_cases h256 : k ≤ 256
                · have CR := Dt.rrising_any wr A l k c HN.out HLn.out.dots (Nat.le_trans h256 (by decide))
                  cases hr : Dt.riseB l with
                  | true =>
                    rw [hr] at CR
                    go_wp2_with fail
                    refine CR.mono ?_
                    rintro e w6 ⟨rfl, hb6⟩
                    have HW6 := Lib.hid (HW.out.trans (hb6.mono HSZ.out))
                    clear CR hb6 a0 a1 a2 a3 a4 a5 a6
                    obtain ⟨a0, a1, a2, a3, a4, a5, a6⟩ := HX.out _ HW6.out
                    have HSZ6 : Hid (w.heap.size + 1 ≤ w6.heap.size) := Lib.hid (by have := HW6.out.size; rw [alloc_size] at this; exact this)
                    have CH := Dt.rhas_any w6 A l k c (p1, p2) HN.out (HL.out w6 HW6.out).dots (Nat.le_trans h256 (by decide))
                    have hd : Hid (ans = !decide ((p1, p2) ∈ l)) := Lib.hid (by rw [HY.out hal.out, hr, decide_eq_true h256]; rfl)
                    generalize decide ((p1, p2) ∈ l) = hs at CH hd
                    go_wp2_with fail
                    refine CH.mono ?_
                    rintro e w7 ⟨rfl, hb7⟩
                    have HW7 := Lib.hid (HW6.out.trans (hb7.mono HSZ6.out))
                    clear CH hb7 a0 a1 a2 a3 a4 a5 a6
                    cases hs
                    all_goals
                      go_wp2
                      go_ret
                      exact ⟨ret_bool (by rw [hd.out]; rfl), HB.out.trans (HW7.out.mono (Nat.le_succ _))⟩
                  | false =>
                    rw [hr] at CR
                    have hd : Hid (ans = false) := Lib.hid (by rw [HY.out hal.out, hr, decide_eq_true h256]; rfl)
                    go_wp2_with fail
                    refine CR.mono ?_
                    rintro e w6 ⟨rfl, hb6⟩
                    have HW6 := Lib.hid (HW.out.trans (hb6.mono HSZ.out))
                    clear CR hb6 a0 a1 a2 a3 a4 a5 a6
                    go_wp2
                    go_ret
                    exact ⟨ret_bool hd.out.symm, HB.out.trans (HW6.out.mono (Nat.le_succ _))⟩
                · have hd : Hid (ans = false) := Lib.hid (by rw [HY.out hal.out, decide_eq_false h256]; rfl)
                  have h257 : 256 < k := by omega
                  go_wp2
                  go_ret
                  exact ⟨ret_bool hd.out.symm, HB.out.trans (HW.out.mono (Nat.le_succ _))⟩
      · by_cases k2 : p3 = 2
        · have hh : Hid (headB p3 p5 p6 = (decide (p5 = 0) && decide (p6 = ⟨#[]⟩))) := Lib.hid (by unfold headB; rw [if_neg k1, if_pos k2])
          subst k2
          clear k1
          by_cases hf0 : p5 = 0
          · by_cases ht0 : p6 = ⟨#[]⟩
            · have HNO : Hid (l.all Dt.mayD = false → ans = false) := Lib.hid (fun h => by rw [HE2.out, h]; simp)
              have HY : Hid (l.all Dt.mayD = true → ans = (decide (n ≤ 256) && Dt.riseB l && !decide ((p1, p2) ∈ l))) := Lib.hid (fun h => by rw [HE2.out, hh.out, decide_eq_true hf0, decide_eq_true ht0, h]; rfl)
              subst hf0 ht0
              clear hh HE2
              go_enter Try.func9, Try.ntmps9
              go_wp2_with fail
              refine (CU _).mono ?_
              rintro e w1 ⟨rfl, hb⟩
              have HV := Lib.hid (HA.out w1 (.cells #[.int .u16 (d1 : Int), .int .u64 (d2 : Int)] 25) (by rw [alloc_size] at hb; exact hb))
              obtain ⟨a0, a1, a2, a3, a4, a5, a6⟩ := HX.out _ HV.out
              clear hb
              go_wp2_with fail
              generalize hw2 : w1.alloc (.cells #[.int .u16 (d1 : Int), .int .u64 (d2 : Int)] 25) = w2 at *
              clear hw2
              refine (CG _).mono ?_
              rintro e w3 ⟨rfl, rfl⟩
              have HV3 := Lib.hid (HA.out w2 (.cells #[.int .u16 (p1 : Int), .int .u64 (p2 : Int)] 25) HV.out)
              clear a0 a1 a2 a3 a4 a5 a6
              obtain ⟨a0, a1, a2, a3, a4, a5, a6⟩ := HX.out _ HV3.out
              go_wp2_with fail
              generalize w2.alloc (.cells #[.int .u16 (p1 : Int), .int .u64 (p2 : Int)] 25) = W at *
              go_loopw [5] (fun i wr => ∃ k : Nat, k ≤ n ∧ i = .int .i64 (k : Int) ∧ AllMay l k ∧ Below (w.heap.size + 1) (w.alloc (.cells #[.int .u16 (p1 : Int), .int .u64 (p2 : Int), .int .u8 ((2 : Nat) : Int), .int .u64 (p4 : Int), .int .u8 ((0 : Nat) : Int), .string ⟨#[]⟩, .slice A n c] 28)) wr) (fun i _ => n - (intOf i).toNat)
              case atStart => exact ⟨0, Nat.zero_le _, rfl, all_none l, HV3.out⟩
              case round =>
                clear a0 a1 a2 a3 a4 a5 a6
                obtain ⟨k, hk, rfl, ht, hw⟩ := hrel
                have HT := Lib.hid ht
                have HW := Lib.hid hw
                clear ht hw
                obtain ⟨a0, a1, a2, a3, a4, a5, a6⟩ := HX.out _ HW.out
                by_cases hlt : k < n
                · obtain ⟨ad, x1, x2, rfl, hlx, hx1, hx2, c1, c2⟩ := (HL.out wr HW.out).dots.at_ (k := k) (by rw [HN.out]; exact hlt)
                  have c2' : wr.cell? ⟨(ad.add (k * 2)).block, (ad.add (k * 2)).off + 1, none⟩ = some (.int .u64 (x2 : Int)) := by rw [Dt.add_next]; exact c2
                  have CM := Dt.rgood_any wr x1 x2
                  have HW2 := Lib.hid (HA.out wr (.cells #[.int .u16 (x1 : Int), .int .u64 (x2 : Int)] 25) HW.out)
                  clear c2
                  cases hm : Dt.mayD (x1, x2) with
                  | true =>
                    rw [hm] at CM
                    have HS := Lib.hid (all_next HT.out hlx hm)
                    clear hlx hm
                    go_wp2_with fail
                    refine CM.mono ?_
                    rintro e w6 ⟨rfl, rfl⟩
                    clear a0 a1 a2 a3 a4 a5 a6 c1 c2' CM
                    go_wp2
                    go_roundw
                    case rel => exact ⟨k + 1, by omega, by go_num, HS.out, HW2.out⟩
                    case measure => simp [intOf]; omega
                  | false =>
                    rw [hm] at CM
                    have hd := Lib.hid (HNO.out (all_bad hlx hm))
                    clear hlx hm
                    go_wp2_with fail
                    refine CM.mono ?_
                    rintro e w6 ⟨rfl, rfl⟩
                    clear a0 a1 a2 a3 a4 a5 a6 c1 c2' CM
                    go_wp2
                    go_ret
                    exact ⟨ret_bool hd.out.symm, HB.out.trans (HW2.out.mono (Nat.le_succ _))⟩
                · obtain rfl : k = n := by omega
                  have hal := Lib.hid (all_done HN.out HT.out)
                  have HLn : Hid (DotsAt wr wr.heap.size A l k c) := Lib.hid (HL.out wr HW.out)
                  have HSZ : Hid (w.heap.size + 1 ≤ wr.heap.size) := Lib.hid (by have := HW.out.size; rw [alloc_size] at this; exact this)
                  by_cases h256 : k ≤ 256
                  · have CR := Dt.rrising_any wr A l k c HN.out HLn.out.dots (Nat.le_trans h256 (by decide))
                    cases hr : Dt.riseB l with
                    | true =>
                      rw [hr] at CR
                      go_wp2_with fail
                      refine CR.mono ?_
                      rintro e w6 ⟨rfl, hb6⟩
                      have HW6 := Lib.hid (HW.out.trans (hb6.mono HSZ.out))
                      clear CR hb6 a0 a1 a2 a3 a4 a5 a6
                      obtain ⟨a0, a1, a2, a3, a4, a5, a6⟩ := HX.out _ HW6.out
                      have HSZ6 : Hid (w.heap.size + 1 ≤ w6.heap.size) := Lib.hid (by have := HW6.out.size; rw [alloc_size] at this; exact this)
                      have CH := Dt.rhas_any w6 A l k c (p1, p2) HN.out (HL.out w6 HW6.out).dots (Nat.le_trans h256 (by decide))
                      have hd : Hid (ans = !decide ((p1, p2) ∈ l)) := Lib.hid (by rw [HY.out hal.out, hr, decide_eq_true h256]; rfl)
                      generalize decide ((p1, p2) ∈ l) = hs at CH hd
                      go_wp2_with fail
                      refine CH.mono ?_
                      rintro e w7 ⟨rfl, hb7⟩
                      have HW7 := Lib.hid (HW6.out.trans (hb7.mono HSZ6.out))
                      clear CH hb7 a0 a1 a2 a3 a4 a5 a6
                      cases hs
                      all_goals
                        go_wp2
                        go_ret
                        exact ⟨ret_bool (by rw [hd.out]; rfl), HB.out.trans (HW7.out.mono (Nat.le_succ _))⟩
                    | false =>
                      rw [hr] at CR
                      have hd : Hid (ans = false) := Lib.hid (by rw [HY.out hal.out, hr, decide_eq_true h256]; rfl)
                      go_wp2_with fail
                      refine CR.mono ?_
                      rintro e w6 ⟨rfl, hb6⟩
                      have HW6 := Lib.hid (HW.out.trans (hb6.mono HSZ.out))
                      clear CR hb6 a0 a1 a2 a3 a4 a5 a6
                      go_wp2
                      go_ret
                      exact ⟨ret_bool hd.out.symm, HB.out.trans (HW6.out.mono (Nat.le_succ _))⟩
                  · have hd : Hid (ans = false) := Lib.hid (by rw [HY.out hal.out, decide_eq_false h256]; rfl)
                    have h257 : 256 < k := by omega
                    go_wp2
                    go_ret
                    exact ⟨ret_bool hd.out.symm, HB.out.trans (HW.out.mono (Nat.le_succ _))⟩
            · have hd : Hid (ans = false) := Lib.hid (by rw [HE2.out, hh.out, decide_eq_false ht0]; simp)
              have hem := empty_text p6
              have hem3 : ¬ p6.toList = [] := fun e => ht0 (by have := hem; rw [List.isEmpty_iff.2 e] at this; exact of_decide_eq_true this.symm)
              rw [decide_eq_false ht0] at hem
              subst hf0
              clear hh HE2 ht0
              go_enter Try.func9, Try.ntmps9
              go_wp2_with fail
              refine (CU _).mono ?_
              rintro e w1 ⟨rfl, hb⟩
              have HV := Lib.hid (HA.out w1 (.cells #[.int .u16 (d1 : Int), .int .u64 (d2 : Int)] 25) (by rw [alloc_size] at hb; exact hb))
              obtain ⟨a0, a1, a2, a3, a4, a5, a6⟩ := HX.out _ HV.out
              clear hb
              go_wp2_with fail
              generalize hw2 : w1.alloc (.cells #[.int .u16 (d1 : Int), .int .u64 (d2 : Int)] 25) = w2 at *
              clear hw2
              refine (CG _).mono ?_
              rintro e w3 ⟨rfl, rfl⟩
              have HV3 := Lib.hid (HA.out w2 (.cells #[.int .u16 (p1 : Int), .int .u64 (p2 : Int)] 25) HV.out)
              clear a0 a1 a2 a3 a4 a5 a6
              obtain ⟨a0, a1, a2, a3, a4, a5, a6⟩ := HX.out _ HV3.out
              go_wp2
              go_ret
              exact ⟨ret_bool hd.out.symm, HB.out.trans (HV3.out.mono (Nat.le_succ _))⟩
          · have hd : Hid (ans = false) := Lib.hid (by rw [HE2.out, hh.out, decide_eq_false hf0]; rfl)
            have hf1 : ((p5 : Int) != 0) = true := by rw [bne_iff_ne]; omega
            clear hh HE2 hf0
            go_enter Try.func9, Try.ntmps9
            go_wp2_with fail
            refine (CU _).mono ?_
            rintro e w1 ⟨rfl, hb⟩
            have HV := Lib.hid (HA.out w1 (.cells #[.int .u16 (d1 : Int), .int .u64 (d2 : Int)] 25) (by rw [alloc_size] at hb; exact hb))
            obtain ⟨a0, a1, a2, a3, a4, a5, a6⟩ := HX.out _ HV.out
            clear hb
            go_wp2_with fail
            generalize hw2 : w1.alloc (.cells #[.int .u16 (d1 : Int), .int .u64 (d2 : Int)] 25) = w2 at *
            clear hw2
            refine (CG _).mono ?_
            rintro e w3 ⟨rfl, rfl⟩
            have HV3 := Lib.hid (HA.out w2 (.cells #[.int .u16 (p1 : Int), .int .u64 (p2 : Int)] 25) HV.out)
            clear a0 a1 a2 a3 a4 a5 a6
            obtain ⟨a0, a1, a2, a3, a4, a5, a6⟩ := HX.out _ HV3.out
            go_wp2
            go_ret
            exact ⟨ret_bool hd.out.symm, HB.out.trans (HV3.out.mono (Nat.le_succ _))⟩
        · have hd : Hid (ans = false) := Lib.hid (by rw [HE2.out]; unfold headB; rw [if_neg k1, if_neg k2]; rfl)
          have e1 : ((p3 : Int) != 1) = true := by rw [bne_iff_ne]; omega
          have e2 : ((p3 : Int) != 2) = true := by rw [bne_iff_ne]; omega
          clear HE2 k1 k2
          go_enter Try.func9, Try.ntmps9
          go_wp2_with fail
          refine (CU _).mono ?_
          rintro e w1 ⟨rfl, hb⟩
          have HV := Lib.hid (HA.out w1 (.cells #[.int .u16 (d1 : Int), .int .u64 (d2 : Int)] 25) (by rw [alloc_size] at hb; exact hb))
          obtain ⟨a0, a1, a2, a3, a4, a5, a6⟩ := HX.out _ HV.out
          clear hb
          go_wp2_with fail
          generalize hw2 : w1.alloc (.cells #[.int .u16 (d1 : Int), .int .u64 (d2 : Int)] 25) = w2 at *
          clear hw2
          refine (CG _).mono ?_
          rintro e w3 ⟨rfl, rfl⟩
          have HV3 := Lib.hid (HA.out w2 (.cells #[.int .u16 (p1 : Int), .int .u64 (p2 : Int)] 25) HV.out)
          clear a0 a1 a2 a3 a4 a5 a6
          obtain ⟨a0, a1, a2, a3, a4, a5, a6⟩ := HX.out _ HV3.out
          go_wp2
          go_ret
          exact ⟨ret_bool hd.out.symm, HB.out.trans (HV3.out.mono (Nat.le_succ _))⟩
end Go.Proofs.Ytbaiiidkffafmaa.Ev
