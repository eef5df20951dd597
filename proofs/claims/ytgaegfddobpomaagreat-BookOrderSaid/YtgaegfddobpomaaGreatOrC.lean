/- Words and contracts that the proofs of this seat stand on, part 3 of 39. -/
import Derived.Test.YtgaegfddobpomaaGreatOrB
import Derived.Test.YtgaegfddobpomaaGreatOrA

namespace Go.Proofs.YtgaegfddobpomaaGreat.Ev
open Go.ChangeShapes Go.WideShapes Go.ChangeAt Go.RowKit
set_option linter.unusedVariables false
set_option maxRecDepth 4000
theorem rfield_any (w : World) (f : Nat) (hf : f < 256) : Calls Tryz.prog 82 #[.int .u8 (f : Int)] w fun e w' => e = .returned (.bool (Fd.goodB f)) ∧ w' = w := by
 by_cases h1 : 1 ≤ f
 · have d1 : decide (1 ≤ (f : Int)) = true := decide_eq_true (by omega)
   have HR : Hid (Fd.goodB f = decide ((f : Int) ≤ 5)) := Lib.hid (by unfold Fd.goodB; rw [Bool.eq_iff_iff]; simp; omega)
   go_enter Tryz.func82, Tryz.ntmps82
   go_wp2
   all_goals
     go_ret
     exact ⟨ret_bool HR.out.symm, rfl⟩
 · have d1 : decide (1 ≤ (f : Int)) = false := decide_eq_false (by omega)
   have HR : Hid (Fd.goodB f = false) := Lib.hid (decide_eq_false (by omega))
   go_enter Tryz.func82, Tryz.ntmps82
   go_wp2
   all_goals
     go_ret
     exact ⟨ret_bool HR.out.symm, rfl⟩
theorem empty_text (s : ByteArray) : s.toList.isEmpty = decide (s = ⟨#[]⟩) := by
 rw [Bool.eq_iff_iff, decide_eq_true_iff, ByteArray.toList_eq, List.isEmpty_iff]
 constructor
 · intro h
   exact Fd.ba_of h
 · intro h
   rw [h]
def headB (k f : Nat) (t : ByteArray) : Bool := if k = 1 then Fd.goodB f && Fd.textB t.data.toList else if k = 2 then decide (f = 0) && decide (t = ⟨#[]⟩) else false
def goodE (x : Evt) : Bool := (Dt.unpackD x.cid).2 && Dt.mayD x.dot && headB x.kind x.fld x.txt && x.kills.all Dt.mayD && decide (x.kills.length ≤ 256) && Dt.riseB x.kills && !decide (x.dot ∈ x.kills)
def AllMay (l : List Dt.Dot) (k : Nat) : Prop := (l.take k).all Dt.mayD = true
theorem all_none (l : List Dt.Dot) : AllMay l 0 := by simp [AllMay]
theorem all_next {l : List Dt.Dot} {k : Nat} {x : Dt.Dot} (h : AllMay l k) (hx : l[k]? = some x) (hf : Dt.mayD x = true) : AllMay l (k + 1) := by
 unfold AllMay at *
 rw [List.take_add_one, hx, List.all_append, h]
 simp [hf]
theorem all_bad {l : List Dt.Dot} {k : Nat} {x : Dt.Dot} (hx : l[k]? = some x) (hf : Dt.mayD x = false) : l.all Dt.mayD = false := by
 rw [List.all_eq_false]
 exact ⟨x, List.mem_of_getElem? hx, by rw [hf]; simp⟩
theorem all_done {l : List Dt.Dot} {n : Nat} (hn : l.length = n) (h : AllMay l n) : l.all Dt.mayD = true := by
 unfold AllMay at h
 rwa [List.take_of_length_le (by rw [hn]; exact Nat.le_refl _)] at h
set_option maxHeartbeats 16000000 in
theorem rgood_any (w : World) (p : EV) (x : Evt) (h : EventIs w w.heap.size p x) :
   Calls Tryz.prog 39 #[p.val] w fun e w' => e = .returned (.bool (goodE x)) ∧ Below w.heap.size w w' := by
 have hx := h.eq
 have HF := Lib.hid h.fits
 have HK := Lib.hid h.kills
 have HN := Lib.hid h.kills.len
 have h63 := h.kills.wide
 generalize x.kills = l at hx HK HN
 subst hx
 clear h
 obtain ⟨p1, p2, p3, p4, p5, p6, A, n, c⟩ := p
 simp only at HK HN h63 HF
 have hf5 : p5 < 256 := HF.out.fld
 have hf4 : p4 < 18446744073709551616 := HF.out.cid
 have hsh : Short p6 := HF.out.txt
 simp only [EV.val]
 have HB := Lib.hid (below_new w (.cells #[.int .u16 (p1 : Int), .int .u64 (p2 : Int), .int .u8 (p3 : Int), .int .u64 (p4 : Int), .int .u8 (p5 : Int), .string p6, .slice A n c] 38))
 have HX : Hid (∀ V, Below (w.heap.size + 1) (w.alloc (.cells #[.int .u16 (p1 : Int), .int .u64 (p2 : Int), .int .u8 (p3 : Int), .int .u64 (p4 : Int), .int .u8 (p5 : Int), .string p6, .slice A n c] 38)) V → V.cell? ⟨w.heap.size, 0, none⟩ = some (.int .u16 (p1 : Int)) ∧ V.cell? ⟨w.heap.size, 1, none⟩ = some (.int .u64 (p2 : Int)) ∧ V.cell? ⟨w.heap.size, 2, none⟩ = some (.int .u8 (p3 : Int)) ∧ V.cell? ⟨w.heap.size, 3, none⟩ = some (.int .u64 (p4 : Int)) ∧ V.cell? ⟨w.heap.size, 4, none⟩ = some (.int .u8 (p5 : Int)) ∧ V.cell? ⟨w.heap.size, 5, none⟩ = some (.string p6) ∧ V.cell? ⟨w.heap.size, 6, none⟩ = some (.slice A n c)) := Lib.hid (fun V hV => (box_new w ⟨p1, p2, p3, p4, p5, p6, A, n, c⟩ V hV).all)
 have HL : Hid (∀ V, Below (w.heap.size + 1) (w.alloc (.cells #[.int .u16 (p1 : Int), .int .u64 (p2 : Int), .int .u8 (p3 : Int), .int .u64 (p4 : Int), .int .u8 (p5 : Int), .string p6, .slice A n c] 38)) V → DotsAt V V.heap.size A l n c) := Lib.hid (fun V hV => HK.out.up (HB.out.trans (hV.mono (Nat.le_succ _))))
 have HA : Hid (∀ V o, Below (w.heap.size + 1) (w.alloc (.cells #[.int .u16 (p1 : Int), .int .u64 (p2 : Int), .int .u8 (p3 : Int), .int .u64 (p4 : Int), .int .u8 (p5 : Int), .string p6, .slice A n c] 38)) V → Below (w.heap.size + 1) (w.alloc (.cells #[.int .u16 (p1 : Int), .int .u64 (p2 : Int), .int .u8 (p3 : Int), .int .u64 (p4 : Int), .int .u8 (p5 : Int), .string p6, .slice A n c] 38)) (V.alloc o)) := Lib.hid (fun V o hV => hV.alloc (by have := hV.size; rw [alloc_size] at this; exact this) o)
 have CU := fun W => Dt.runpack_any W p4 hf4
 have CG := fun W => Dt.rgood_any W p1 p2
 have CF := fun W => rfield_any W p5 hf5
 have CT := fun W => Fd.rtext_any p6 W (by unfold Short at hsh; omega)
 have HE : Hid (goodE ⟨(p1, p2), p3, p4, p5, p6, l⟩ = ((Dt.unpackD p4).2 && Dt.mayD (p1, p2) && headB p3 p5 p6 && l.all Dt.mayD && decide (n ≤ 256) && Dt.riseB l && !decide ((p1, p2) ∈ l))) := Lib.hid (by unfold goodE; rw [HN.out])
 generalize goodE ⟨(p1, p2), p3, p4, p5, p6, l⟩ = ans at HE ⊢
 generalize hd1 : (Dt.unpackD p4).1.1 = d1 at CU
 generalize hd2 : (Dt.unpackD p4).1.2 = d2 at CU
 clear hd1 hd2 hf5 hf4 hsh HK HF
 cases hu : (Dt.unpackD p4).2 with
 | false =>
   have hd : Hid (ans = false) := Lib.hid (by rw [HE.out, hu]; rfl)
   rw [hu] at CU
   clear hu HE
   go_enter Tryz.func39, Tryz.ntmps39
   go_wp2_with fail
   refine (CU _).mono ?_
   rintro e w1 ⟨rfl, hb⟩
   have HV := Lib.hid (HA.out w1 (.cells #[.int .u16 (d1 : Int), .int .u64 (d2 : Int)] 35) (by rw [alloc_size] at hb; exact hb))
   obtain ⟨a0, a1, a2, a3, a4, a5, a6⟩ := HX.out _ HV.out
   clear hb
   go_wp2
   go_ret
   exact ⟨ret_bool hd.out.symm, HB.out.trans (HV.out.mono (Nat.le_succ _))⟩
 | true =>
   rw [hu] at CU
   cases hm : Dt.mayD (p1, p2) with
   | false =>
     have hd : Hid (ans = false) := Lib.hid (by rw [HE.out, hu, hm]; rfl)
     rw [hm] at CG
     clear hu hm HE
     go_enter Tryz.func39, Tryz.ntmps39
     go_wp2_with fail
     refine (CU _).mono ?_
     rintro e w1 ⟨rfl, hb⟩
     have HV := Lib.hid (HA.out w1 (.cells #[.int .u16 (d1 : Int), .int .u64 (d2 : Int)] 35) (by rw [alloc_size] at hb; exact hb))
     obtain ⟨a0, a1, a2, a3, a4, a5, a6⟩ := HX.out _ HV.out
     clear hb
     go_wp2_with fail
     generalize hw2 : w1.alloc (.cells #[.int .u16 (d1 : Int), .int .u64 (d2 : Int)] 35) = w2 at *
     clear hw2
     refine (CG _).mono ?_
     rintro e w3 ⟨rfl, rfl⟩
     have HV3 := Lib.hid (HA.out w2 (.cells #[.int .u16 (p1 : Int), .int .u64 (p2 : Int)] 35) HV.out)
     clear a0 a1 a2 a3 a4 a5 a6
     obtain ⟨a0, a1, a2, a3, a4, a5, a6⟩ := HX.out _ HV3.out
     go_wp2
     go_ret
     exact ⟨ret_bool hd.out.symm, HB.out.trans (HV3.out.mono (Nat.le_succ _))⟩
   | true =>
     rw [hm] at CG
     have HE2 : Hid (ans = (headB p3 p5 p6 && l.all Dt.mayD && decide (n ≤ 256) && Dt.riseB l && !decide ((p1, p2) ∈ l))) := Lib.hid (by rw [HE.out, hu, hm]; rfl)
     clear hu hm HE
     by_cases k1 : p3 = 1
     · have hh : Hid (headB p3 p5 p6 = (Fd.goodB p5 && Fd.textB p6.data.toList)) := Lib.hid (by unfold headB; rw [if_pos k1])
       subst k1
       cases hG : Fd.goodB p5 with
       | false =>
         have hd : Hid (ans = false) := Lib.hid (by rw [HE2.out, hh.out, hG]; rfl)
         rw [hG] at CF
         clear hG hh HE2
         go_enter Tryz.func39, Tryz.ntmps39
         go_wp2_with fail
         refine (CU _).mono ?_
         rintro e w1 ⟨rfl, hb⟩
         have HV := Lib.hid (HA.out w1 (.cells #[.int .u16 (d1 : Int), .int .u64 (d2 : Int)] 35) (by rw [alloc_size] at hb; exact hb))
         obtain ⟨a0, a1, a2, a3, a4, a5, a6⟩ := HX.out _ HV.out
         clear hb
         go_wp2_with fail
         generalize hw2 : w1.alloc (.cells #[.int .u16 (d1 : Int), .int .u64 (d2 : Int)] 35) = w2 at *
         clear hw2
         refine (CG _).mono ?_
         rintro e w3 ⟨rfl, rfl⟩
         have HV3 := Lib.hid (HA.out w2 (.cells #[.int .u16 (p1 : Int), .int .u64 (p2 : Int)] 35) HV.out)
         clear a0 a1 a2 a3 a4 a5 a6
         obtain ⟨a0, a1, a2, a3, a4, a5, a6⟩ := HX.out _ HV3.out
         go_wp2_with fail
         refine (CF _).mono ?_
         rintro e w4 ⟨rfl, rfl⟩
         go_wp2
         go_ret
         exact ⟨ret_bool hd.out.symm, HB.out.trans (HV3.out.mono (Nat.le_succ _))⟩
       | true =>
         rw [hG] at CF
         cases hT : Fd.textB p6.data.toList with
         | false =>
           have hd : Hid (ans = false) := Lib.hid (by rw [HE2.out, hh.out, hG, hT]; rfl)
           rw [hT] at CT
           clear hG hT hh HE2
           go_enter Tryz.func39, Tryz.ntmps39
           go_wp2_with fail
           refine (CU _).mono ?_
           rintro e w1 ⟨rfl, hb⟩
           have HV := Lib.hid (HA.out w1 (.cells #[.int .u16 (d1 : Int), .int .u64 (d2 : Int)] 35) (by rw [alloc_size] at hb; exact hb))
           obtain ⟨a0, a1, a2, a3, a4, a5, a6⟩ := HX.out _ HV.out
           clear hb
           go_wp2_with fail
           generalize hw2 : w1.alloc (.cells #[.int .u16 (d1 : Int), .int .u64 (d2 : Int)] 35) = w2 at *
           clear hw2
           refine (CG _).mono ?_
           rintro e w3 ⟨rfl, rfl⟩
           have HV3 := Lib.hid (HA.out w2 (.cells #[.int .u16 (p1 : Int), .int .u64 (p2 : Int)] 35) HV.out)
           clear a0 a1 a2 a3 a4 a5 a6
           obtain ⟨a0, a1, a2, a3, a4, a5, a6⟩ := HX.out _ HV3.out
           go_wp2_with fail
           refine (CF _).mono ?_
           rintro e w4 ⟨rfl, rfl⟩
           go_wp2_with fail
           refine (CT _).mono ?_
           rintro e w5 ⟨rfl, rfl⟩
           go_wp2
           go_ret
           exact ⟨ret_bool hd.out.symm, HB.out.trans (HV3.out.mono (Nat.le_succ _))⟩
         | true =>
           rw [hT] at CT
           have HNO : Hid (l.all Dt.mayD = false → ans = false) := Lib.hid (fun h => by rw [HE2.out, h]; simp)
           have HY : Hid (l.all Dt.mayD = true → ans = (decide (n ≤ 256) && Dt.riseB l && !decide ((p1, p2) ∈ l))) := Lib.hid (fun h => by rw [HE2.out, hh.out, hG, hT, h]; rfl)
           clear hG hT hh HE2
           go_enter Tryz.func39, Tryz.ntmps39
           go_wp2_with fail
           refine (CU _).mono ?_
           rintro e w1 ⟨rfl, hb⟩
           have HV := Lib.hid (HA.out w1 (.cells #[.int .u16 (d1 : Int), .int .u64 (d2 : Int)] 35) (by rw [alloc_size] at hb; exact hb))
           obtain ⟨a0, a1, a2, a3, a4, a5, a6⟩ := HX.out _ HV.out
           clear hb
           go_wp2_with fail
           generalize hw2 : w1.alloc (.cells #[.int .u16 (d1 : Int), .int .u64 (d2 : Int)] 35) = w2 at *
           clear hw2
           refine (CG _).mono ?_
           rintro e w3 ⟨rfl, rfl⟩
           have HV3 := Lib.hid (HA.out w2 (.cells #[.int .u16 (p1 : Int), .int .u64 (p2 : Int)] 35) HV.out)
           clear a0 a1 a2 a3 a4 a5 a6
           obtain ⟨a0, a1, a2, a3, a4, a5, a6⟩ := HX.out _ HV3.out
           go_wp2_with fail
           refine (CF _).mono ?_
           rintro e w4 ⟨rfl, rfl⟩
           go_wp2_with fail
           refine (CT _).mono ?_
           rintro e w5 ⟨rfl, rfl⟩
           go_wp2_with fail
           generalize w2.alloc (.cells #[.int .u16 (p1 : Int), .int .u64 (p2 : Int)] 35) = W at *
           go_loopw [5] (fun i wr => ∃ k : Nat, k ≤ n ∧ i = .int .i64 (k : Int) ∧ AllMay l k ∧ Below (w.heap.size + 1) (w.alloc (.cells #[.int .u16 (p1 : Int), .int .u64 (p2 : Int), .int .u8 ((1 : Nat) : Int), .int .u64 (p4 : Int), .int .u8 (p5 : Int), .string p6, .slice A n c] 38)) wr) (fun i _ => n - (intOf i).toNat)
           case atStart => exact ⟨0, Nat.zero_le _, rfl, all_none l, HV3.out⟩
           case round =>
             clear a0 a1 a2 a3 a4 a5 a6
             obtain ⟨k, hk, rfl, ht, hw⟩ := hrel
             have HT := Lib.hid ht
             have HW := Lib.hid hw
             clear ht hw
             obtain ⟨a0, a1, a2, a3, a4, a5, a6⟩ := HX.out _ HW.out
             by_cases hlt : k < n
             · obtain ⟨ad, x1, x2, rfl, hlx, hx1, hx2, c1, c2⟩ := (HL.out wr HW.out).dots.at_ (k := k) (by rw [HN.out]; exact hlt)
               have c2' : wr.cell? ⟨(ad.add (k * 2)).block, (ad.add (k * 2)).off + 1, none⟩ = some (.int .u64 (x2 : Int)) := by rw [Dt.add_next]; exact c2
               have CM := Dt.rgood_any wr x1 x2
               have HW2 := Lib.hid (HA.out wr (.cells #[.int .u16 (x1 : Int), .int .u64 (x2 : Int)] 35) HW.out)
               clear c2
               cases hm : Dt.mayD (x1, x2) with
               | true =>
                 rw [hm] at CM
                 have HS := Lib.hid (all_next HT.out hlx hm)
                 clear hlx hm
                 go_wp2_with fail
                 refine CM.mono ?_
                 rintro e w6 ⟨rfl, rfl⟩
                 clear a0 a1 a2 a3 a4 a5 a6 c1 c2' CM
                 go_wp2
                 go_roundw
                 case rel => exact ⟨k + 1, by omega, by go_num, HS.out, HW2.out⟩
                 case measure => simp [intOf]; omega
               | false =>
                 rw [hm] at CM
                 have hd := Lib.hid (HNO.out (all_bad hlx hm))
                 clear hlx hm
                 go_wp2_with fail
                 refine CM.mono ?_
                 rintro e w6 ⟨rfl, rfl⟩
                 clear a0 a1 a2 a3 a4 a5 a6 c1 c2' CM
                 go_wp2
                 go_ret
                 exact ⟨ret_bool hd.out.symm, HB.out.trans (HW2.out.mono (Nat.le_succ _))⟩
             · obtain rfl : k = n := by omega
               have hal := Lib.hid (all_done HN.out HT.out)
               have HLn : Hid (DotsAt wr wr.heap.size A l k c) := Lib.hid (HL.out wr HW.out)
               have HSZ : Hid (w.heap.size + 1 ≤ wr.heap.size) := Lib.hid (by have := HW.out.size; rw [alloc_size] at this; exact this)
               by_cases h256 : k ≤ 256
               · have CR := Dt.rrising_any wr A l k c HN.out HLn.out.dots (Nat.le_trans h256 (by decide))
                 cases hr : Dt.riseB l with
                 | true =>
                   rw [hr] at CR
                   go_wp2_with fail
                   refine CR.mono ?_
                   rintro e w6 ⟨rfl, hb6⟩
                   have HW6 := Lib.hid (HW.out.trans (hb6.mono HSZ.out))
                   clear CR hb6 a0 a1 a2 a3 a4 a5 a6
                   obtain ⟨a0, a1, a2, a3, a4, a5, a6⟩ := HX.out _ HW6.out
                   have HSZ6 : Hid (w.heap.size + 1 ≤ w6.heap.size) := Lib.hid (by have := HW6.out.size; rw [alloc_size] at this; exact this)
                   have CH := Dt.rhas_any w6 A l k c (p1, p2) HN.out (HL.out w6 HW6.out).dots (Nat.le_trans h256 (by decide))
                   have hd : Hid (ans = !decide ((p1, p2) ∈ l)) := Lib.hid (by rw [HY.out hal.out, hr, decide_eq_true h256]; rfl)
                   generalize decide ((p1, p2) ∈ l) = hs at CH hd
                   go_wp2_with fail
                   refine CH.mono ?_
                   rintro e w7 ⟨rfl, hb7⟩
                   have HW7 := Lib.hid (HW6.out.trans (hb7.mono HSZ6.out))
                   clear CH hb7 a0 a1 a2 a3 a4 a5 a6
                   cases hs
                   all_goals
                     go_wp2
                     go_ret
                     exact ⟨ret_bool (by rw [hd.out]; rfl), HB.out.trans (HW7.out.mono (Nat.le_succ _))⟩
                 | false =>
                   rw [hr] at CR
                   have hd : Hid (ans = false) := Lib.hid (by rw [HY.out hal.out, hr, decide_eq_true h256]; rfl)
                   go_wp2_with fail
                   refine CR.mono ?_
                   rintro e w6 ⟨rfl, hb6⟩
                   have HW6 := Lib.hid (HW.out.trans (hb6.mono HSZ.out))
                   clear CR hb6 a0 a1 a2 a3 a4 a5 a6
                   go_wp2
                   go_ret
                   exact ⟨ret_bool hd.out.symm, HB.out.trans (HW6.out.mono (Nat.le_succ _))⟩
               · have hd : Hid (ans = false) := Lib.hid (by rw [HY.out hal.out, decide_eq_false h256]; rfl)
                 have h257 : 256 < k := by omega
                 go_wp2
                 go_ret
                 exact ⟨ret_bool hd.out.symm, HB.out.trans (HW.out.mono (Nat.le_succ _))⟩
     · by_cases k2 : p3 = 2
       · have hh : Hid (headB p3 p5 p6 = (decide (p5 = 0) && decide (p6 = ⟨#[]⟩))) := Lib.hid (by unfold headB; rw [if_neg k1, if_pos k2])
         subst k2
         clear k1
         by_cases hf0 : p5 = 0
         · by_cases ht0 : p6 = ⟨#[]⟩
           · have HNO : Hid (l.all Dt.mayD = false → ans = false) := Lib.hid (fun h => by rw [HE2.out, h]; simp)
             have HY : Hid (l.all Dt.mayD = true → ans = (decide (n ≤ 256) && Dt.riseB l && !decide ((p1, p2) ∈ l))) := Lib.hid (fun h => by rw [HE2.out, hh.out, decide_eq_true hf0, decide_eq_true ht0, h]; rfl)
             subst hf0 ht0
             clear hh HE2
             go_enter Tryz.func39, Tryz.ntmps39
             go_wp2_with fail
             refine (CU _).mono ?_
             rintro e w1 ⟨rfl, hb⟩
             have HV := Lib.hid (HA.out w1 (.cells #[.int .u16 (d1 : Int), .int .u64 (d2 : Int)] 35) (by rw [alloc_size] at hb; exact hb))
             obtain ⟨a0, a1, a2, a3, a4, a5, a6⟩ := HX.out _ HV.out
             clear hb
             go_wp2_with fail
             generalize hw2 : w1.alloc (.cells #[.int .u16 (d1 : Int), .int .u64 (d2 : Int)] 35) = w2 at *
             clear hw2
             refine (CG _).mono ?_
             rintro e w3 ⟨rfl, rfl⟩
             have HV3 := Lib.hid (HA.out w2 (.cells #[.int .u16 (p1 : Int), .int .u64 (p2 : Int)] 35) HV.out)
             clear a0 a1 a2 a3 a4 a5 a6
             obtain ⟨a0, a1, a2, a3, a4, a5, a6⟩ := HX.out _ HV3.out
             go_wp2_with fail
             generalize w2.alloc (.cells #[.int .u16 (p1 : Int), .int .u64 (p2 : Int)] 35) = W at *
             go_loopw [5] (fun i wr => ∃ k : Nat, k ≤ n ∧ i = .int .i64 (k : Int) ∧ AllMay l k ∧ Below (w.heap.size + 1) (w.alloc (.cells #[.int .u16 (p1 : Int), .int .u64 (p2 : Int), .int .u8 ((2 : Nat) : Int), .int .u64 (p4 : Int), .int .u8 ((0 : Nat) : Int), .string ⟨#[]⟩, .slice A n c] 38)) wr) (fun i _ => n - (intOf i).toNat)
             case atStart => exact ⟨0, Nat.zero_le _, rfl, all_none l, HV3.out⟩
             case round =>
               clear a0 a1 a2 a3 a4 a5 a6
               obtain ⟨k, hk, rfl, ht, hw⟩ := hrel
               have HT := Lib.hid ht
               have HW := Lib.hid hw
               clear ht hw
               obtain ⟨a0, a1, a2, a3, a4, a5, a6⟩ := HX.out _ HW.out
               by_cases hlt : k < n
               · obtain ⟨ad, x1, x2, rfl, hlx, hx1, hx2, c1, c2⟩ := (HL.out wr HW.out).dots.at_ (k := k) (by rw [HN.out]; exact hlt)
                 have c2' : wr.cell? ⟨(ad.add (k * 2)).block, (ad.add (k * 2)).off + 1, none⟩ = some (.int .u64 (x2 : Int)) := by rw [Dt.add_next]; exact c2
                 have CM := Dt.rgood_any wr x1 x2
                 have HW2 := Lib.hid (HA.out wr (.cells #[.int .u16 (x1 : Int), .int .u64 (x2 : Int)] 35) HW.out)
                 clear c2
                 cases hm : Dt.mayD (x1, x2) with
                 | true =>
                   rw [hm] at CM
                   have HS := Lib.hid (all_next HT.out hlx hm)
                   clear hlx hm
                   go_wp2_with fail
                   refine CM.mono ?_
                   rintro e w6 ⟨rfl, rfl⟩
                   clear a0 a1 a2 a3 a4 a5 a6 c1 c2' CM
                   go_wp2
                   go_roundw
                   case rel => exact ⟨k + 1, by omega, by go_num, HS.out, HW2.out⟩
                   case measure => simp [intOf]; omega
                 | false =>
                   rw [hm] at CM
                   have hd := Lib.hid (HNO.out (all_bad hlx hm))
                   clear hlx hm
                   go_wp2_with fail
                   refine CM.mono ?_
                   rintro e w6 ⟨rfl, rfl⟩
                   clear a0 a1 a2 a3 a4 a5 a6 c1 c2' CM
                   go_wp2
                   go_ret
                   exact ⟨ret_bool hd.out.symm, HB.out.trans (HW2.out.mono (Nat.le_succ _))⟩
               · obtain rfl : k = n := by omega
                 have hal := Lib.hid (all_done HN.out HT.out)
                 have HLn : Hid (DotsAt wr wr.heap.size A l k c) := Lib.hid (HL.out wr HW.out)
                 have HSZ : Hid (w.heap.size + 1 ≤ wr.heap.size) := Lib.hid (by have := HW.out.size; rw [alloc_size] at this; exact this)
                 by_cases h256 : k ≤ 256
                 · have CR := Dt.rrising_any wr A l k c HN.out HLn.out.dots (Nat.le_trans h256 (by decide))
                   cases hr : Dt.riseB l with
                   | true =>
                     rw [hr] at CR
                     go_wp2_with fail
                     refine CR.mono ?_
                     rintro e w6 ⟨rfl, hb6⟩
                     have HW6 := Lib.hid (HW.out.trans (hb6.mono HSZ.out))
                     clear CR hb6 a0 a1 a2 a3 a4 a5 a6
                     obtain ⟨a0, a1, a2, a3, a4, a5, a6⟩ := HX.out _ HW6.out
                     have HSZ6 : Hid (w.heap.size + 1 ≤ w6.heap.size) := Lib.hid (by have := HW6.out.size; rw [alloc_size] at this; exact this)
                     have CH := Dt.rhas_any w6 A l k c (p1, p2) HN.out (HL.out w6 HW6.out).dots (Nat.le_trans h256 (by decide))
                     have hd : Hid (ans = !decide ((p1, p2) ∈ l)) := Lib.hid (by rw [HY.out hal.out, hr, decide_eq_true h256]; rfl)
                     generalize decide ((p1, p2) ∈ l) = hs at CH hd
                     go_wp2_with fail
                     refine CH.mono ?_
                     rintro e w7 ⟨rfl, hb7⟩
                     have HW7 := Lib.hid (HW6.out.trans (hb7.mono HSZ6.out))
                     clear CH hb7 a0 a1 a2 a3 a4 a5 a6
                     cases hs
                     all_goals
                       go_wp2
                       go_ret
                       exact ⟨ret_bool (by rw [hd.out]; rfl), HB.out.trans (HW7.out.mono (Nat.le_succ _))⟩
                   | false =>
                     rw [hr] at CR
                     have hd : Hid (ans = false) := Lib.hid (by rw [HY.out hal.out, hr, decide_eq_true h256]; rfl)
                     go_wp2_with fail
                     refine CR.mono ?_
                     rintro e w6 ⟨rfl, hb6⟩
                     have HW6 := Lib.hid (HW.out.trans (hb6.mono HSZ.out))
                     clear CR hb6 a0 a1 a2 a3 a4 a5 a6
                     go_wp2
                     go_ret
                     exact ⟨ret_bool hd.out.symm, HB.out.trans (HW6.out.mono (Nat.le_succ _))⟩
                 · have hd : Hid (ans = false) := Lib.hid (by rw [HY.out hal.out, decide_eq_false h256]; rfl)
                   have h257 : 256 < k := by omega
                   go_wp2
                   go_ret
                   exact ⟨ret_bool hd.out.symm, HB.out.trans (HW.out.mono (Nat.le_succ _))⟩
           · have hd : Hid (ans = false) := Lib.hid (by rw [HE2.out, hh.out, decide_eq_false ht0]; simp)
             have hem := empty_text p6
             have hem3 : ¬ p6.toList = [] := fun e => ht0 (by have := hem; rw [List.isEmpty_iff.2 e] at this; exact of_decide_eq_true this.symm)
             rw [decide_eq_false ht0] at hem
             subst hf0
             clear hh HE2 ht0
             go_enter Tryz.func39, Tryz.ntmps39
             go_wp2_with fail
             refine (CU _).mono ?_
             rintro e w1 ⟨rfl, hb⟩
             have HV := Lib.hid (HA.out w1 (.cells #[.int .u16 (d1 : Int), .int .u64 (d2 : Int)] 35) (by rw [alloc_size] at hb; exact hb))
             obtain ⟨a0, a1, a2, a3, a4, a5, a6⟩ := HX.out _ HV.out
             clear hb
             go_wp2_with fail
             generalize hw2 : w1.alloc (.cells #[.int .u16 (d1 : Int), .int .u64 (d2 : Int)] 35) = w2 at *
             clear hw2
             refine (CG _).mono ?_
             rintro e w3 ⟨rfl, rfl⟩
             have HV3 := Lib.hid (HA.out w2 (.cells #[.int .u16 (p1 : Int), .int .u64 (p2 : Int)] 35) HV.out)
             clear a0 a1 a2 a3 a4 a5 a6
             obtain ⟨a0, a1, a2, a3, a4, a5, a6⟩ := HX.out _ HV3.out
             go_wp2
             go_ret
             exact ⟨ret_bool hd.out.symm, HB.out.trans (HV3.out.mono (Nat.le_succ _))⟩
         · have hd : Hid (ans = false) := Lib.hid (by rw [HE2.out, hh.out, decide_eq_false hf0]; rfl)
           have hf1 : ((p5 : Int) != 0) = true := by rw [bne_iff_ne]; omega
           clear hh HE2 hf0
           go_enter Tryz.func39, Tryz.ntmps39
           go_wp2_with fail
           refine (CU _).mono ?_
           rintro e w1 ⟨rfl, hb⟩
           have HV := Lib.hid (HA.out w1 (.cells #[.int .u16 (d1 : Int), .int .u64 (d2 : Int)] 35) (by rw [alloc_size] at hb; exact hb))
           obtain ⟨a0, a1, a2, a3, a4, a5, a6⟩ := HX.out _ HV.out
           clear hb
           go_wp2_with fail
           generalize hw2 : w1.alloc (.cells #[.int .u16 (d1 : Int), .int .u64 (d2 : Int)] 35) = w2 at *
           clear hw2
           refine (CG _).mono ?_
           rintro e w3 ⟨rfl, rfl⟩
           have HV3 := Lib.hid (HA.out w2 (.cells #[.int .u16 (p1 : Int), .int .u64 (p2 : Int)] 35) HV.out)
           clear a0 a1 a2 a3 a4 a5 a6
           obtain ⟨a0, a1, a2, a3, a4, a5, a6⟩ := HX.out _ HV3.out
           go_wp2
           go_ret
           exact ⟨ret_bool hd.out.symm, HB.out.trans (HV3.out.mono (Nat.le_succ _))⟩
       · have hd : Hid (ans = false) := Lib.hid (by rw [HE2.out]; unfold headB; rw [if_neg k1, if_neg k2]; rfl)
         have e1 : ((p3 : Int) != 1) = true := by rw [bne_iff_ne]; omega
         have e2 : ((p3 : Int) != 2) = true := by rw [bne_iff_ne]; omega
         clear HE2 k1 k2
         go_enter Tryz.func39, Tryz.ntmps39
         go_wp2_with fail
         refine (CU _).mono ?_
         rintro e w1 ⟨rfl, hb⟩
         have HV := Lib.hid (HA.out w1 (.cells #[.int .u16 (d1 : Int), .int .u64 (d2 : Int)] 35) (by rw [alloc_size] at hb; exact hb))
         obtain ⟨a0, a1, a2, a3, a4, a5, a6⟩ := HX.out _ HV.out
         clear hb
         go_wp2_with fail
         generalize hw2 : w1.alloc (.cells #[.int .u16 (d1 : Int), .int .u64 (d2 : Int)] 35) = w2 at *
         clear hw2
         refine (CG _).mono ?_
         rintro e w3 ⟨rfl, rfl⟩
         have HV3 := Lib.hid (HA.out w2 (.cells #[.int .u16 (p1 : Int), .int .u64 (p2 : Int)] 35) HV.out)
         clear a0 a1 a2 a3 a4 a5 a6
         obtain ⟨a0, a1, a2, a3, a4, a5, a6⟩ := HX.out _ HV3.out
         go_wp2
         go_ret
         exact ⟨ret_bool hd.out.symm, HB.out.trans (HV3.out.mono (Nat.le_succ _))⟩
end Go.Proofs.YtgaegfddobpomaaGreat.Ev

namespace Go.Proofs.YtgaegfddobpomaaGreat.Dt
open Go.ChangeShapes Go.WideShapes Go.ChangeAt Go.RowKit
set_option linter.unusedVariables false
theorem own_less {w : World} {B B' n size : Nat} {e : TypeId} {v : Value} {xs : List Value} (h : w.ownsRow B' e size v n xs) (hB : B ≤ B') : w.ownsRow B e size v n xs := by
 refine ⟨h.1, ?_⟩
 rcases h.2 with hz | ⟨g, cap, cur, e, hg, hr⟩
 · exact .inl hz
 · exact .inr ⟨g, cap, cur, e, Nat.le_trans hB hg, hr⟩
theorem own_kept {w V : World} {B n size : Nat} {e : TypeId} {v : Value} {xs : List Value} (h : w.ownsRow B e size v n xs) (hb : Below w.heap.size w V) : V.ownsRow B e size v n xs := by
 refine ⟨h.1, ?_⟩
 rcases h.2 with hz | ⟨g, cap, cur, e, hg, hh, hr⟩
 · exact .inl hz
 · have hlt : g < w.heap.size := by
     rcases Nat.lt_or_ge g w.heap.size with h1 | h1
     · exact h1
     · rw [Array.getElem?_eq_none h1] at hh; cases hh
   exact .inr ⟨g, cap, cur, e, hg, (hb.block g hlt).trans hh, hr⟩
theorem own_len {w : World} {B n size : Nat} {e : TypeId} {A : Option Addr} {c : Nat} {xs : List Value} (h : w.ownsRow B e size (.slice A n c) n xs) : n ≤ c ∧ c ≤ 9223372036854775807 ∧ (A = none → n = 0 ∧ c = 0) := by
 rcases h.2 with ⟨h, hz⟩ | ⟨_, _, _, h, _, _, h1, h2, _⟩
 · cases h; exact ⟨by omega, by omega, fun _ => ⟨rfl, rfl⟩⟩
 · cases h; exact ⟨h1, h2, fun e => by cases e⟩
theorem own_form {w : World} {B n size : Nat} {e : TypeId} {v : Value} {xs : List Value} (h : w.ownsRow B e size v n xs) : ∃ A c, v = .slice A n c := by
 rcases h.2 with ⟨rfl, rfl⟩ | ⟨g, cap, _, rfl, _⟩
 · exact ⟨none, 0, rfl⟩
 · exact ⟨_, cap, rfl⟩
theorem lies_any {w : World} {B n c size : Nat} {e : TypeId} {A : Option Addr} {vs : List Value} (hs : 0 < size) (h : w.ownsRow B e size (.slice A n c) n vs) : Lies w w.heap.size A vs := by
 rcases Nat.eq_zero_or_pos n with h0 | h0
 · have h1 := h.1
   rw [h0, Nat.zero_mul] at h1
   rw [List.eq_nil_of_length_eq_zero h1]
   exact Lies.none_ _ _ _
 · obtain ⟨g, cap, e1, _⟩ := own_shape (w := w) h (.inl h0)
   cases e1
   exact lies_own h
theorem dots_own {w : World} {B n c : Nat} {A : Option Addr} {m : List Dot} (h : w.ownsRow B 35 2 (.slice A n c) n (dv m)) (hf : Fit m) : Dots w w.heap.size A m := ⟨hf, lies_any (by decide) h⟩
theorem dot_at (W : World) (r : Dot) : ∀ (j : Nat) (u : Value), (dv [r])[j]? = some u → (W.alloc (.cells #[.int .u16 (r.1 : Int), .int .u64 (r.2 : Int)] 35)).cell? ((⟨W.heap.size, 0, none⟩ : Addr).add j) = some u := by
 intro j u hu
 rw [zero_add, World.cell?_alloc_new]
 have e : dv [r] = [.int .u16 (r.1 : Int), .int .u64 (r.2 : Int)] := rfl
 rw [e] at hu
 simpa using hu
theorem run_any (w : World) (B k : Nat) (v : Value) (xs : List Dot) (A : Option Addr) (m : List Dot) (n c : Nat) (ho : w.ownsRow B 35 2 v k (dv xs)) (hA : A = none → n = 0 ∧ c = 0) (hb : Lies w w.heap.size A (dv m)) (hl : m.length = n)
   (hn : k + n ≤ 8796093022208) (hB : B ≤ w.heap.size) :
   ∃ A' c' w', (Builtin.append_ #[36, 36] 36 #[v, .slice A n c]).run Tryz.prog w = .ok (.slice A' (k + n) c') w' ∧
     w'.ownsRow B 35 2 (.slice A' (k + n) c') (k + n) (dv (xs ++ m)) ∧ w.grownBy w' v.ownBlock := by
 obtain ⟨i0, hi0, hz0, hz1, hz2⟩ := info_parts dot_info
 cases A with
 | none =>
   obtain ⟨rfl, rfl⟩ := hA rfl
   obtain rfl := List.eq_nil_of_length_eq_zero hl
   obtain ⟨A', c', rfl⟩ := own_form ho
   exact ⟨A', c', w, run_append_owned_none (P := Tryz.prog) (w := w) B 36 36 35 i0 2 Tryz.underlying36 hi0 _ k (dv xs) ho, by rw [List.append_nil]; exact ho, turn_refl _ _⟩
 | some ad =>
   have hc : ∀ j u, (dv m)[j]? = some u → w.cell? (ad.add j) = some u := by
     intro j u hu
     have hjl : j < (dv m).length := (List.getElem?_eq_some_iff.1 hu).1
     obtain ⟨ad', e, hadb, hc⟩ := hb (by omega)
     obtain rfl := Option.some.inj e
     exact hc j u hu
   obtain ⟨v', w', hr, h2, h3, hat, h5⟩ := run_append_own_at (P := Tryz.prog) w B 36 36 35 i0 (.agg #[.int .u16 0, .int .u64 0]) 2 16 Tryz.underlying36 hi0 hz0 hz1 hz2 rfl (by decide) v k (dv xs) ho ad n c (dv m) (by rw [dv_length, hl]) hc (dv_one m) (by simp only [maxLen]; omega) (by omega) hB
   obtain ⟨A', c', rfl⟩ := own_form h2
   exact ⟨A', c', w', hr, by rw [dv_append]; exact h2, h3⟩
theorem wpList_any {ops : Array Oper} {rest : List Oper} {o : Oper} {a : Act} {Q : Exit → Act → World → Prop} (hgd : o.guard = none) (s x : Operand) (ho : o.op = .call { callee := .builtin .append, args := #[s, x], argTypes := #[36, 36] }) (hty : o.type = 36)
   (w : World) (B k : Nat) (v : Value) (xs : List Dot) (A : Option Addr) (m : List Dot) (n c : Nat) (hs : a.eval s = v) (hx : a.eval x = .slice A n c) (hw : w.ownsRow B 35 2 v k (dv xs)) (hA : A = none → n = 0 ∧ c = 0) (hb : Lies w w.heap.size A (dv m)) (hl : m.length = n)
   (hn : k + n ≤ 8796093022208) (hB : B ≤ w.heap.size)
   (hK : ∀ A' c' w', w'.ownsRow B 35 2 (.slice A' (k + n) c') (k + n) (dv (xs ++ m)) → w.grownBy w' v.ownBlock → wpList Tryz.prog ops Q rest (a.put o.dst (.slice A' (k + n) c')) w') : wpList Tryz.prog ops Q (o :: rest) a w := by
 refine wpList_plain hgd fun K hQ => ?_
 obtain ⟨A', c', w', hr, h2, h3⟩ := run_any w B k v xs A m n c hw hA hb hl hn hB
 rw [← hty] at hr
 unfold Oper.wp execOp
 simp only [ho, resolve, invoke, builtin, Sem.run_bind, Sem.run_pure, Result.andThen_ok, List.map_toArray, List.map_cons, List.map_nil, hs, hx]
 rw [hty] at hr ⊢
 rw [hr]
 exact hQ _ _ (hK _ _ _ h2 h3)
theorem any_grown {w wr w2 : World} {v : Value} {m : Nat} {xs : List Value} (ho : wr.ownsRow w.heap.size 35 2 v m xs) (hb : Below w.heap.size w wr) (hg : wr.grownBy w2 v.ownBlock) : Below w.heap.size w w2 :=
 hb.grown hg hb.size (fun k hk => (ho.lt k hk).1)
theorem lies_one (V : World) (r : Dot) : Lies (V.alloc (.cells #[.int .u16 (r.1 : Int), .int .u64 (r.2 : Int)] 35)) (V.alloc (.cells #[.int .u16 (r.1 : Int), .int .u64 (r.2 : Int)] 35)).heap.size (some ⟨V.heap.size, 0, none⟩) (dv [r]) :=
 fun _ => ⟨_, rfl, by simp, dot_at V r⟩
def DotPost (w : World) (m : List Dot) (e : Ending) (w' : World) : Prop := ∃ A n c, e = .returned (.slice A n c) ∧ m.length = n ∧ w'.ownsRow w.heap.size 35 2 (.slice A n c) n (dv m) ∧ Below w.heap.size w w'
theorem post_dots {w w' : World} {m : List Dot} {e : Ending} (h : DotPost w m e w') (hf : Fit m) : ∃ A n c, e = .returned (.slice A n c) ∧ m.length = n ∧ (A = none → n = 0 ∧ c = 0) ∧ n ≤ c ∧ c ≤ 9223372036854775807 ∧ Dots w' w'.heap.size A m ∧ w'.ownsRow w.heap.size 35 2 (.slice A n c) n (dv m) ∧ Below w.heap.size w w' := by
 obtain ⟨A, n, c, rfl, hn, ho, hb⟩ := h
 obtain ⟨h1, h2, h3⟩ := own_len ho
 exact ⟨A, n, c, rfl, hn, h3, h1, h2, dots_own ho hf, ho, hb⟩
def putD (l : List Dot) (d : Dot) : List Dot := l.filter (fun x => aheadD x d) ++ [d] ++ l.filter (fun x => aheadD d x)
def sortD (l : List Dot) : List Dot := l.foldl putD []
theorem ahead_iff (a b : Dot) : aheadD a b = true ↔ a.1 < b.1 ∨ (a.1 = b.1 ∧ a.2 < b.2) := decide_eq_true_iff
theorem cmp_neg (x d : Dot) : decide (cmpD x d < 0) = aheadD x d := by
 cases h : aheadD x d with
 | true => exact decide_eq_true (by rw [cmp_less h]; omega)
 | false => exact decide_eq_false (by have := cmp_sign x d h; omega)
theorem cmp_pos (x d : Dot) : decide (0 < cmpD x d) = aheadD d x := by
 cases h : aheadD d x with
 | true => exact decide_eq_true (by rw [cmp_more h]; omega)
 | false =>
   apply decide_eq_false
   unfold cmpD
   split
   · omega
   · rename_i hne
     have h2 : aheadD x d = true := by
       rw [ahead_iff]
       have h3 : ¬ (d.1 < x.1 ∨ (d.1 = x.1 ∧ d.2 < x.2)) := fun h' => by rw [(ahead_iff d x).2 h'] at h; exact absurd h (by simp)
       have h4 : ¬ (x.1 = d.1 ∧ x.2 = d.2) := fun h' => hne (Prod.ext h'.1 h'.2)
       omega
     rw [if_pos h2]; omega
theorem filter_next (f : Dot → Bool) {l : List Dot} {k : Nat} {x : Dot} (h : l[k]? = some x) : (l.take (k + 1)).filter f = (l.take k).filter f ++ (if f x = true then [x] else []) := by
 rw [take_next h, List.filter_append]
 by_cases hf : f x = true
 · simp [hf]
 · simp [hf]
theorem fit_put {l : List Dot} {d : Dot} (h : Fit l) (hd : d.1 < 65536 ∧ d.2 < 18446744073709551616) : Fit (putD l d) := by
 intro r hr
 unfold putD at hr
 simp only [List.mem_append, List.mem_filter, List.mem_singleton] at hr
 rcases hr with (hr | rfl) | hr
 · exact h r hr.1
 · exact hd
 · exact h r hr.1
theorem put_length (l : List Dot) (d : Dot) : (putD l d).length ≤ l.length + 1 := by
 have h : ∀ m : List Dot, (m.filter (fun x => aheadD x d)).length + (m.filter (fun x => aheadD d x)).length ≤ m.length := by
   intro m
   induction m with
   | nil => simp
   | cons x m ih =>
     have hx : ¬ (aheadD x d = true ∧ aheadD d x = true) := by
       rintro ⟨h1, h2⟩
       rw [ahead_iff] at h1 h2
       omega
     by_cases h1 : aheadD x d = true
     · have h2 : ¬ aheadD d x = true := fun h => hx ⟨h1, h⟩
       simp [h1, h2]; omega
     · by_cases h2 : aheadD d x = true
       · simp [h1, h2]; omega
       · simp [h1, h2]; omega
 have := h l
 unfold putD
 simp only [List.length_append, List.length_singleton]
 omega
end Go.Proofs.YtgaegfddobpomaaGreat.Dt
