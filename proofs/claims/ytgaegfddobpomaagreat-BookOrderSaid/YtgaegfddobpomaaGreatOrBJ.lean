/- Words and contracts that the proofs of this seat stand on, part 36 of 39. -/
import Derived.Test.YtgaegfddobpomaaGreatOrBI
import Derived.Test.YtgaegfddobpomaaGreatOrBC
import Derived.Test.YtgaegfddobpomaaGreatOrU
import Derived.Test.YtgaegfddobpomaaGreatOrBE

namespace Go.Proofs.YtgaegfddobpomaaGreat.Ev
open Go.ChangeShapes Go.WideShapes Go.ChangeAt Go.RowKit
set_option linter.unusedVariables false
set_option maxRecDepth 4000
theorem pfield_any (w : World) (f : Nat) (hf : f < 256) : Calls Tryz.prog 125 #[.int .u8 (f : Int)] w fun e w' => e = .returned (.bool (Fd.goodB f)) ∧ w' = w := by
 by_cases h1 : 1 ≤ f
 · have d1 : decide (1 ≤ (f : Int)) = true := decide_eq_true (by omega)
   have HR : Hid (Fd.goodB f = decide ((f : Int) ≤ 5)) := Lib.hid (by unfold Fd.goodB; rw [Bool.eq_iff_iff]; simp; omega)
   go_enter Tryz.func125, Tryz.ntmps125
   go_wp2
   all_goals
     go_ret
     exact ⟨ret_bool HR.out.symm, rfl⟩
 · have d1 : decide (1 ≤ (f : Int)) = false := decide_eq_false (by omega)
   have HR : Hid (Fd.goodB f = false) := Lib.hid (decide_eq_false (by omega))
   go_enter Tryz.func125, Tryz.ntmps125
   go_wp2
   all_goals
     go_ret
     exact ⟨ret_bool HR.out.symm, rfl⟩
set_option maxHeartbeats 8000000 in
theorem pkind_any (w : World) (p : EV) (hf5 : p.fld < 256) (hsh : Short p.txt) :
   Calls Tryz.prog 88 #[p.val] w fun e w' => e = .returned (.bool (headB p.kind p.fld p.txt)) ∧ Below w.heap.size w w' := by
 have HB := Lib.hid (below_new w p.box)
 have hb := (box_new w p _ (Below.refl _ _)).all
 have CF := fun W => pfield_any W p.fld hf5
 have CT := fun W => Fd.ptext_any p.txt W (by unfold Short at hsh; omega)
 have he := empty_text p.txt
 obtain ⟨p1, p2, p3, p4, p5, p6, A, n, c⟩ := p
 simp only [EV.val]
 simp only [EV.box] at HB hb
 simp only at CF CT he hf5 hsh
 obtain ⟨a0, a1, a2, a3, a4, a5, a6⟩ := hb
 by_cases k1 : p3 = 1
 · have hd : Hid (headB p3 p5 p6 = (Fd.goodB p5 && Fd.textB p6.data.toList)) := Lib.hid (by unfold headB; rw [if_pos k1])
   have hk : ((p3 : Int) == 1) = true := by rw [beq_iff_eq]; omega
   rw [hd.out]
   clear hd he k1
   generalize Fd.textB p6.data.toList = tb at CT ⊢
   generalize Fd.goodB p5 = gb at CF ⊢
   cases gb with
   | true =>
     go_enter Tryz.func88, Tryz.ntmps88
     go_wp2_with fail
     refine (CF _).mono ?_
     rintro e w1 ⟨rfl, rfl⟩
     go_wp2_with fail
     refine (CT _).mono ?_
     rintro e w2 ⟨rfl, rfl⟩
     clear CF CT
     go_wp2
     go_ret
     exact ⟨rfl, HB.out⟩
   | false =>
     go_enter Tryz.func88, Tryz.ntmps88
     go_wp2_with fail
     refine (CF _).mono ?_
     rintro e w1 ⟨rfl, rfl⟩
     clear CF CT
     go_wp2
     go_ret
     exact ⟨rfl, HB.out⟩
 · have e1 : ((p3 : Int) == 1) = false := by rw [beq_eq_false_iff_ne]; omega
   by_cases k2 : p3 = 2
   · have hd : Hid (headB p3 p5 p6 = (decide (p5 = 0) && decide (p6 = ⟨#[]⟩))) := Lib.hid (by unfold headB; rw [if_neg k1, if_pos k2])
     have hk : ((p3 : Int) == 2) = true := by rw [beq_iff_eq]; omega
     rw [hd.out]
     clear hd CF CT k1 k2
     by_cases h0 : p5 = 0
     · have e2 : ((p5 : Int) == 0) = true := by rw [beq_iff_eq]; omega
       rw [decide_eq_true h0]
       clear h0
       generalize decide (p6 = ⟨#[]⟩) = tb at he ⊢
       go_enter Tryz.func88, Tryz.ntmps88
       go_wp2
       go_ret
       exact ⟨rfl, HB.out⟩
     · have e2 : ((p5 : Int) == 0) = false := by rw [beq_eq_false_iff_ne]; omega
       rw [decide_eq_false h0]
       clear h0 he
       go_enter Tryz.func88, Tryz.ntmps88
       go_wp2
       go_ret
       exact ⟨rfl, HB.out⟩
   · have hd : Hid (headB p3 p5 p6 = false) := Lib.hid (by unfold headB; rw [if_neg k1, if_neg k2])
     have e2 : ((p3 : Int) == 2) = false := by rw [beq_eq_false_iff_ne]; omega
     rw [hd.out]
     clear hd CF CT k1 k2 he
     go_enter Tryz.func88, Tryz.ntmps88
     go_wp2
     go_ret
     exact ⟨rfl, HB.out⟩
def killsB (x : Evt) : Bool := decide (x.kills.length ≤ 256) && Dt.riseB x.kills && x.kills.all (fun d => !decide (d = x.dot) && Dt.mayD d)
def AllOk (e : Dt.Dot) (l : List Dt.Dot) (k : Nat) : Prop := (l.take k).all (fun d => !decide (d = e) && Dt.mayD d) = true
theorem ok_next {e x : Dt.Dot} {l : List Dt.Dot} {k : Nat} (h : AllOk e l k) (hx : l[k]? = some x) (h1 : x ≠ e) (h2 : Dt.mayD x = true) : AllOk e l (k + 1) := by
 unfold AllOk at *
 rw [List.take_add_one, hx, List.all_append, h]
 simp [h1, h2]
theorem ok_bad {e x : Dt.Dot} {l : List Dt.Dot} {k : Nat} (hx : l[k]? = some x) (h : x = e ∨ Dt.mayD x = false) : l.all (fun d => !decide (d = e) && Dt.mayD d) = false := by
 rw [List.all_eq_false]
 refine ⟨x, List.mem_of_getElem? hx, ?_⟩
 rcases h with h | h <;> simp [h]
theorem ok_done {e : Dt.Dot} {l : List Dt.Dot} {n : Nat} (hn : l.length = n) (h : AllOk e l n) : l.all (fun d => !decide (d = e) && Dt.mayD d) = true := by
 unfold AllOk at h
 rwa [List.take_of_length_le (by rw [hn]; exact Nat.le_refl _)] at h
theorem good_parts (x : Evt) : goodE x = ((Dt.unpackD x.cid).2 && Dt.mayD x.dot && headB x.kind x.fld x.txt && killsB x) := by
 unfold goodE killsB
 have e : x.kills.all (fun d => !decide (d = x.dot) && Dt.mayD d) = (x.kills.all Dt.mayD && !decide (x.dot ∈ x.kills)) := by
   rw [Bool.eq_iff_iff]
   simp only [List.all_eq_true, Bool.and_eq_true, Bool.not_eq_true', decide_eq_false_iff_not]
   constructor
   · intro h
     exact ⟨fun d hd => (h d hd).2, fun hm => (h _ hm).1 rfl⟩
   · rintro ⟨h1, h2⟩ d hd
     exact ⟨fun ee => h2 (ee ▸ hd), h1 d hd⟩
 rw [e]
 cases (Dt.unpackD x.cid).2 <;> cases Dt.mayD x.dot <;> cases headB x.kind x.fld x.txt <;> cases x.kills.all Dt.mayD <;> cases decide (x.kills.length ≤ 256) <;> cases Dt.riseB x.kills <;> cases decide (x.dot ∈ x.kills) <;> rfl
set_option maxHeartbeats 8000000 in
theorem pkillsB_any (w : World) (p : EV) (x : Evt) (h : EventIs w w.heap.size p x) :
   Calls Tryz.prog 89 #[p.val] w fun e w' => e = .returned (.bool (killsB x)) ∧ Below w.heap.size w w' := by
 have HK := Lib.hid (h.up (below_new w p.box)).kills
 have HB := Lib.hid (below_new w p.box)
 have hb := box_new w p _ (Below.refl _ _)
 have HX := Lib.hid (fun (V : World) (hV : Below (w.alloc p.box).heap.size (w.alloc p.box) V) => (hb.kept hV).all)
 have hdot := is_dot h
 have HE : Hid (killsB x = (decide (x.kills.length ≤ 256) && Dt.riseB x.kills && x.kills.all (fun d => !decide (d = (p.dev, p.num)) && Dt.mayD d))) := Lib.hid (by unfold killsB; rw [hdot])
 generalize killsB x = ans at HE ⊢
 have hn := h.kills.len
 generalize x.kills = l at HK HE hn
 have CR := Dt.prising_any (w.alloc p.box) p.adr l p.len p.cap HK.out.len HK.out.dots (Nat.le_trans HK.out.wide (by decide))
 have h63 := h.kills.wide
 clear h hb hdot
 obtain ⟨p1, p2, p3, p4, p5, p6, A, n, c⟩ := p
 simp only [EV.val]
 simp only [EV.box] at HB HX HK CR
 simp only at HE hn h63 CR
 obtain ⟨a0, a1, a2, a3, a4, a5, a6⟩ := HX.out _ (Below.refl _ _)
 have HN := Lib.hid hn
 by_cases h256 : n ≤ 256
 · have e1 : decide ((n : Int) > 256) = false := decide_eq_false (by omega)
   have e1' : ¬ (256 : Int) < (n : Int) := by omega
   have HE2 : Hid (ans = (Dt.riseB l && l.all (fun d => !decide (d = (p1, p2)) && Dt.mayD d))) := Lib.hid (by rw [HE.out, hn, decide_eq_true h256]; rfl)
   clear HE hn
   cases hr : Dt.riseB l with
   | false =>
     have hd : Hid (ans = false) := Lib.hid (by rw [HE2.out, hr]; rfl)
     rw [hr] at CR
     clear hr HE2
     go_enter Tryz.func89, Tryz.ntmps89
     go_wp2_with fail
     refine CR.mono ?_
     rintro e w1 ⟨rfl, hb1⟩
     have HW := Lib.hid (HB.out.trans (hb1.mono HB.out.size))
     clear hb1 CR a0 a1 a2 a3 a4 a5 a6
     go_wp2
     go_ret
     exact ⟨ret_bool hd.out.symm, HW.out⟩
   | true =>
     have HE3 : Hid (ans = l.all (fun d => !decide (d = (p1, p2)) && Dt.mayD d)) := Lib.hid (by rw [HE2.out, hr]; rfl)
     rw [hr] at CR
     clear hr HE2
     go_enter Tryz.func89, Tryz.ntmps89
     go_wp2_with fail
     refine CR.mono ?_
     rintro e w1 ⟨rfl, hb1⟩
     have HV1 := Lib.hid hb1
     clear a0 a1 a2 a3 a4 a5 a6
     obtain ⟨a0, a1, a2, a3, a4, a5, a6⟩ := HX.out _ hb1
     clear hb1 CR
     go_wp2
     clear a0 a1 a2 a3 a4 a5 a6
     go_loopw [18] (fun i wr => ∃ k : Nat, k ≤ n ∧ i = .int .i64 (k : Int) ∧ AllOk (p1, p2) l k ∧ Below (w.alloc (.cells #[.int .u16 (p1 : Int), .int .u64 (p2 : Int), .int .u8 (p3 : Int), .int .u64 (p4 : Int), .int .u8 (p5 : Int), .string p6, .slice A n c] 38)).heap.size (w.alloc (.cells #[.int .u16 (p1 : Int), .int .u64 (p2 : Int), .int .u8 (p3 : Int), .int .u64 (p4 : Int), .int .u8 (p5 : Int), .string p6, .slice A n c] 38)) wr) (fun i _ => n - (intOf i).toNat)
     case atStart => exact ⟨0, Nat.zero_le _, rfl, by simp [AllOk], HV1.out⟩
     case round =>
       obtain ⟨k, hk, rfl, hok, hw⟩ := hrel
       have HOK := Lib.hid hok
       have HW := Lib.hid hw
       by_cases hlt : k < n
       · obtain ⟨ad, d, rfl, hB, hld, hd1, hd2, hcs⟩ := HK.out.dots.cells (k := k) (by rw [HN.out]; exact hlt)
         obtain ⟨c0, c1⟩ := hcs wr hw
         have hw2 : Below (w.alloc (.cells #[.int .u16 (p1 : Int), .int .u64 (p2 : Int), .int .u8 (p3 : Int), .int .u64 (p4 : Int), .int .u8 (p5 : Int), .string p6, .slice (some ad) n c] 38)).heap.size (w.alloc (.cells #[.int .u16 (p1 : Int), .int .u64 (p2 : Int), .int .u8 (p3 : Int), .int .u64 (p4 : Int), .int .u8 (p5 : Int), .string p6, .slice (some ad) n c] 38)) (wr.alloc (.cells #[.int .u16 (d.1 : Int), .int .u64 (d.2 : Int)] 35)) := hw.alloc hw.size _
         have HW2 := Lib.hid hw2
         clear hw2
         obtain ⟨a0, a1, a2, a3, a4, a5, a6⟩ := HX.out _ HW2.out
         have b0 : (wr.alloc (.cells #[.int .u16 (d.1 : Int), .int .u64 (d.2 : Int)] 35)).cell? ⟨wr.heap.size, 0, none⟩ = some (.int .u16 (d.1 : Int)) := by simp [go_sem]
         have b1 : (wr.alloc (.cells #[.int .u16 (d.1 : Int), .int .u64 (d.2 : Int)] 35)).cell? ⟨wr.heap.size, 1, none⟩ = some (.int .u64 (d.2 : Int)) := by simp [go_sem]
         have CG := Dt.pgood_any (wr.alloc (.cells #[.int .u16 (d.1 : Int), .int .u64 (d.2 : Int)] 35)) d.1 d.2
         have HLD := Lib.hid hld
         clear hld hcs hw hok hd1 hd2
         obtain ⟨d1, d2⟩ := d
         simp only at c0 c1 b0 b1 CG HW2 HLD a0 a1 a2 a3 a4 a5 a6
         have hz : (k : Int) < (n : Int) := by omega
         by_cases hsame : d1 = p1 ∧ d2 = p2
         · obtain ⟨rfl, rfl⟩ := hsame
           have hd : Hid (ans = false) := Lib.hid (by rw [HE3.out]; exact ok_bad HLD.out (.inl rfl))
           clear CG
           go_wp2
           go_ret
           exact ⟨ret_bool hd.out.symm, HB.out.trans (HW2.out.mono HB.out.size)⟩
         · have hne : ((d1 : Int) == (p1 : Int)) = false ∨ (d1 = p1 ∧ ((d2 : Int) == (p2 : Int)) = false) := by
             by_cases e : d1 = p1
             · refine .inr ⟨e, ?_⟩; rw [beq_eq_false_iff_ne]; intro e2; exact hsame ⟨e, by omega⟩
             · refine .inl ?_; rw [beq_eq_false_iff_ne]; omega
           cases hm : Dt.mayD (d1, d2) with
           | false =>
             have hd : Hid (ans = false) := Lib.hid (by rw [HE3.out]; exact ok_bad HLD.out (.inr hm))
             rw [hm] at CG
             clear hm hsame
             rcases hne with q | ⟨rfl, q⟩
             all_goals
               go_wp2_with fail
               refine CG.mono ?_
               rintro e w3 ⟨rfl, hb3⟩
               have HW3 := Lib.hid (HW2.out.trans (hb3.mono HW2.out.size))
               clear hb3 CG a0 a1 a2 a3 a4 a5 a6 b0 b1 c0 c1
               go_wp2
               go_ret
               exact ⟨ret_bool hd.out.symm, HB.out.trans (HW3.out.mono HB.out.size)⟩
           | true =>
             have HO2 := Lib.hid (ok_next HOK.out HLD.out (fun e => hsame (by injection e with e1 e2; exact ⟨e1, e2⟩)) hm)
             rw [hm] at CG
             clear hm hsame
             rcases hne with q | ⟨rfl, q⟩
             all_goals
               go_wp2_with fail
               refine CG.mono ?_
               rintro e w3 ⟨rfl, hb3⟩
               have HW3 := Lib.hid (HW2.out.trans (hb3.mono HW2.out.size))
               clear hb3 CG a0 a1 a2 a3 a4 a5 a6 b0 b1 c0 c1
               go_wp2
               go_roundw
               case rel => exact ⟨k + 1, by omega, by go_num, HO2.out, HW3.out⟩
               case measure => simp [intOf]; omega
       · obtain rfl : k = n := by omega
         have hd : Hid (ans = true) := Lib.hid (by rw [HE3.out]; exact ok_done HN.out HOK.out)
         clear hok hw
         go_wp2
         go_ret
         exact ⟨ret_bool hd.out.symm, HB.out.trans (HW.out.mono HB.out.size)⟩
 · have e1 : decide ((n : Int) > 256) = true := decide_eq_true (by omega)
   have e1' : (256 : Int) < (n : Int) := by omega
   have hd : Hid (ans = false) := Lib.hid (by rw [HE.out, hn, decide_eq_false h256]; rfl)
   clear HE CR h256
   go_enter Tryz.func89, Tryz.ntmps89
   go_wp2
   go_ret
   exact ⟨ret_bool hd.out.symm, HB.out⟩
set_option maxHeartbeats 8000000 in
theorem pgoodE_any (w : World) (p : EV) (x : Evt) (h : EventIs w w.heap.size p x) :
   Calls Tryz.prog 45 #[p.val] w fun e w' => e = .returned (.bool (goodE x)) ∧ Below w.heap.size w w' := by
 have HB := Lib.hid (below_new w p.box)
 have hb := box_new w p _ (Below.refl _ _)
 have HX := Lib.hid (fun (V : World) (hV : Below (w.alloc p.box).heap.size (w.alloc p.box) V) => (hb.kept hV).all)
 have HE := Lib.hid (h.up (below_new w p.box))
 have CU := fun W => Dt.punpack_any W p.cid (by rw [h.cid]; exact h.fits.cid)
 have CG := fun W => Dt.pgood_any W p.dev p.num
 have CK := fun W => pkind_any W p (by rw [h.fld]; exact h.fits.fld) (by rw [h.txt]; exact h.fits.txt)
 have CL := fun (W : World) (hW : Below (w.alloc p.box).heap.size (w.alloc p.box) W) => pkillsB_any W p x (HE.out.up hW)
 have hg : goodE x = ((Dt.unpackD p.cid).2 && Dt.mayD (p.dev, p.num) && headB p.kind p.fld p.txt && killsB x) := by rw [good_parts, h.cid, is_dot h, h.kind, h.fld, h.txt]
 rw [hg]
 clear hg h hb HE
 obtain ⟨p1, p2, p3, p4, p5, p6, A, n, c⟩ := p
 simp only [EV.val] at CK CL ⊢
 simp only [EV.box] at HB HX CL
 simp only at CU CG CK
 obtain ⟨a0, a1, a2, a3, a4, a5, a6⟩ := HX.out _ (Below.refl _ _)
 generalize (Dt.unpackD p4).1.1 = d1 at CU
 generalize (Dt.unpackD p4).1.2 = d2 at CU
 generalize (Dt.unpackD p4).2 = b1 at CU ⊢
 generalize Dt.mayD (p1, p2) = b2 at CG ⊢
 generalize headB p3 p5 p6 = b3 at CK ⊢
 generalize killsB x = b4 at CL ⊢
 cases b1 with
 | false =>
   go_enter Tryz.func45, Tryz.ntmps45
   go_wp2_with fail
   refine (CU _).mono ?_
   rintro e w1 ⟨rfl, hb1⟩
   have HV1 := Lib.hid (bel_alloc (.cells #[.int .u16 (d1 : Int), .int .u64 (d2 : Int)] 35) hb1)
   clear hb1 CU a0 a1 a2 a3 a4 a5 a6
   obtain ⟨a0, a1, a2, a3, a4, a5, a6⟩ := HX.out _ HV1.out
   go_wp2
   go_ret
   exact ⟨rfl, HB.out.trans (HV1.out.mono HB.out.size)⟩
 | true =>
   cases b2 with
   | false =>
     go_enter Tryz.func45, Tryz.ntmps45
     go_wp2_with fail
     refine (CU _).mono ?_
     rintro e w1 ⟨rfl, hb1⟩
     have HV1 := Lib.hid (bel_alloc (.cells #[.int .u16 (d1 : Int), .int .u64 (d2 : Int)] 35) hb1)
     clear hb1 CU a0 a1 a2 a3 a4 a5 a6
     obtain ⟨a0, a1, a2, a3, a4, a5, a6⟩ := HX.out _ HV1.out
     go_wp2_with fail
     refine (CG _).mono ?_
     rintro e w3 ⟨rfl, hb2⟩
     have HV3 := Lib.hid (HV1.out.trans (hb2.mono HV1.out.size))
     clear hb2 a0 a1 a2 a3 a4 a5 a6
     obtain ⟨a0, a1, a2, a3, a4, a5, a6⟩ := HX.out _ HV3.out
     go_wp2
     go_ret
     exact ⟨rfl, HB.out.trans (HV3.out.mono HB.out.size)⟩
   | true =>
     cases b3 with
     | false =>
       go_enter Tryz.func45, Tryz.ntmps45
       go_wp2_with fail
       refine (CU _).mono ?_
       rintro e w1 ⟨rfl, hb1⟩
       have HV1 := Lib.hid (bel_alloc (.cells #[.int .u16 (d1 : Int), .int .u64 (d2 : Int)] 35) hb1)
       clear hb1 CU a0 a1 a2 a3 a4 a5 a6
       obtain ⟨a0, a1, a2, a3, a4, a5, a6⟩ := HX.out _ HV1.out
       go_wp2_with fail
       refine (CG _).mono ?_
       rintro e w3 ⟨rfl, hb2⟩
       have HV3 := Lib.hid (HV1.out.trans (hb2.mono HV1.out.size))
       clear hb2 a0 a1 a2 a3 a4 a5 a6
       obtain ⟨a0, a1, a2, a3, a4, a5, a6⟩ := HX.out _ HV3.out
       go_wp2_with fail
       refine (CK _).mono ?_
       rintro e w4 ⟨rfl, hb2⟩
       have HV4 := Lib.hid (HV3.out.trans (hb2.mono HV3.out.size))
       clear hb2 a0 a1 a2 a3 a4 a5 a6
       obtain ⟨a0, a1, a2, a3, a4, a5, a6⟩ := HX.out _ HV4.out
       go_wp2
       go_ret
       exact ⟨rfl, HB.out.trans (HV4.out.mono HB.out.size)⟩
     | true =>
       go_enter Tryz.func45, Tryz.ntmps45
       go_wp2_with fail
       refine (CU _).mono ?_
       rintro e w1 ⟨rfl, hb1⟩
       have HV1 := Lib.hid (bel_alloc (.cells #[.int .u16 (d1 : Int), .int .u64 (d2 : Int)] 35) hb1)
       clear hb1 CU a0 a1 a2 a3 a4 a5 a6
       obtain ⟨a0, a1, a2, a3, a4, a5, a6⟩ := HX.out _ HV1.out
       go_wp2_with fail
       refine (CG _).mono ?_
       rintro e w3 ⟨rfl, hb2⟩
       have HV3 := Lib.hid (HV1.out.trans (hb2.mono HV1.out.size))
       clear hb2 a0 a1 a2 a3 a4 a5 a6
       obtain ⟨a0, a1, a2, a3, a4, a5, a6⟩ := HX.out _ HV3.out
       go_wp2_with fail
       refine (CK _).mono ?_
       rintro e w4 ⟨rfl, hb2⟩
       have HV4 := Lib.hid (HV3.out.trans (hb2.mono HV3.out.size))
       clear hb2 a0 a1 a2 a3 a4 a5 a6
       obtain ⟨a0, a1, a2, a3, a4, a5, a6⟩ := HX.out _ HV4.out
       go_wp2_with fail
       refine (CL _ HV4.out).mono ?_
       rintro e w5 ⟨rfl, hb2⟩
       have HV5 := Lib.hid (HV4.out.trans (hb2.mono HV4.out.size))
       clear hb2 a0 a1 a2 a3 a4 a5 a6
       obtain ⟨a0, a1, a2, a3, a4, a5, a6⟩ := HX.out _ HV5.out
       go_wp2
       go_ret
       exact ⟨rfl, HB.out.trans (HV5.out.mono HB.out.size)⟩
end Go.Proofs.YtgaegfddobpomaaGreat.Ev

namespace Go.Proofs.YtgaegfddobpomaaGreat.Bk
open Go.ChangeShapes Go.WideShapes Go.ChangeAt Go.RowKit Go.Proofs.YtgaegfddobpomaaGreat.Kl Go.Maps
set_option linter.unusedVariables false
set_option maxRecDepth 4000
theorem goes_same {w W : World} {p : Nat} {A : Option Addr} {n k : Nat} {m1 m2 : Option Nat} {L1 L2 : List Ev.EV} {S : Bt} (h : BkIs w p A n k m1 m2 L1 L2 S) (hb : Below w.heap.size w W) : Goes w p m1 m2 S W := ⟨A, n, k, m1, m2, L1, L2, h.up hb, Turns.below hb⟩
theorem put_bad {S : Bt} {x : Ev.Evt} (h : Ev.goodE x = false) : putB S x = (S, 1) := by unfold putB; rw [if_pos h]
theorem put_seen {S : Bt} {x : Ev.Evt} (h : Ev.goodE x = true) (hs : Cx.hasC S.1 x.dot = true) : putB S x = (S, 7) := by unfold putB; rw [if_neg (by rw [h]; simp), if_pos hs]
theorem put_new {S : Bt} {x : Ev.Evt} (h : Ev.goodE x = true) (hs : Cx.hasC S.1 x.dot = false) : (putB S x).2 = 0 := by unfold putB; rw [if_neg (by rw [h]; simp), if_neg (by rw [hs]; simp)]
theorem has_laterC {w W : World} {A : Option Addr} {c : List Cx.Part} {n k : Nat} {q : Ev.EV} {x : Ev.Evt} (h : Cx.CtxAt w A c n k) (hd : dotV q = x.dot) (hf : Ev.Fits x) (hW : Below w.heap.size w W) :
   Calls Tryz.prog 46 #[.slice A n k, .agg #[.int .u16 (q.dev : Int), .int .u64 (q.num : Int)]] W fun e V => e = .returned (.bool (Cx.hasC c x.dot)) ∧ Below w.heap.size w V := by
 have h1 := Cx.phas_any W A c n k (dotV q) (h.up hW) (by rw [hd]; exact hf.dot)
 rw [show Cx.hasC c (dotV q) = Cx.hasC c x.dot by rw [hd]] at h1
 exact h1.mono fun e V ⟨a, b⟩ => ⟨a, hW.trans (b.mono hW.size)⟩
theorem dots_laterP {w W : World} {A : Option Addr} {x : Ev.Evt} {c : Nat} (h : Ev.EventsAt W W.heap.size A [x] 1 c) (hk : x.kills.length ≤ 256) (hW : Below w.heap.size w W) :
   Calls Tryz.prog 48 #[.slice A 1 c] W fun e V => ∃ A' n' c', e = .returned (.slice A' n' c') ∧ Ev.DotsAt V V.heap.size A' (Ev.dotsE [x]) n' c' ∧ Below w.heap.size w V :=
 (Ev.pdotsE_any W A [x] 1 c h (by simp [Ev.manyE]; omega)).mono fun e V ⟨A', n', c', h1, h2, h3, h4⟩ => ⟨A', n', c', h1, h2, hW.trans (h4.mono hW.size)⟩
theorem add_laterP {w W : World} {A A2 : Option Addr} {c : List Cx.Part} {l : List Dt.Dot} {n k n2 k2 : Nat} (h : Cx.CtxAt w A c n k) (hs : Cx.Small c) (hl : Ev.DotsAt W W.heap.size A2 l n2 k2) (hn : l.length ≤ 1024) (hW : Below w.heap.size w W) :
   Calls Tryz.prog 47 #[.slice A n k, .slice A2 n2 k2] W fun e V => ∃ A' n' k', e = .returned (.slice A' n' k') ∧ Cx.CtxAt V A' (Cx.setC c (Cx.ofC l) 0) n' k' ∧ Below w.heap.size w V :=
 (Cx.padd_any W A A2 c l n n2 k k2 (h.up hW) ⟨hl.len, hl.nil, hl.cap, hl.max, hl.dots⟩ ((Cx.small_wide hs).more (by decide)) (by rw [← hl.len]; omega)).mono fun e V hp => by
   obtain ⟨A', n', k', h1, h2, h3⟩ := Cx.post_ctx hp
   exact ⟨A', n', k', h1, h2, hW.trans (h3.mono hW.size)⟩
theorem not_own {w : World} {p g : Nat} {A : Option Addr} {n k : Nat} {m1 m2 : Option Nat} {L1 L2 : List Ev.EV} {T : TypeId} {v : Value} {vs : List Value} (h : BkMem w p A n k m1 m2 L1 L2) (ha : At w g T (v :: vs).toArray) (hg : g ≠ p) : ¬ Own p m1 m2 g := fun e => by
 have hc : w.cell? ⟨g, 0, none⟩ = some v := ha.cell 0
 rcases e with e | e | e
 · exact hg e
 · exact h.live.nocell e 0 v hc
 · exact h.tomb.nocell e 0 v hc
theorem Turns.grownO {w W : World} {p : Nat} {m1 m2 : Option Nat} (h : w.grownBy W m1) : Turns w p m1 m2 m1 m2 W := ⟨fun _ h => .inl h, h.os, h.tape, h.output, h.size, fun b hb hn => h.block b hb (fun e => hn (.inr (.inl e.symm)))⟩
theorem del_end {w V W : World} {p : Nat} {A : Option Addr} {n k : Nat} {m1 m2 : Option Nat} {L1 L2 : List Ev.EV} {d : Dt.Dot} (h : BkMem w p A n k m1 m2 L1 L2) (hV : Below w.heap.size w V) (hm : MapO W m1 (but d L1)) (hg : V.grownBy W m1) :
   BkMem W p A n k m1 m2 (but d L1) L2 ∧ Turns w p m1 m2 m1 m2 W := by
 have hv := h.up hV
 refine ⟨⟨(hg.block p hv.at_.lt (fun e => hv.ne.1 e.symm)).trans hv.at_, hm, hv.tomb.off (Turns.grownO (p := W.heap.size) (m2 := none) hg).off (fun b hb e => ?_), h.both, h.apart⟩, (Turns.below hV).trans (Turns.grownO hg)⟩
 rcases e with e | e | e
 · have h1 := hv.tomb.lt hb; have h2 := hg.size; omega
 · exact h.apart b e hb
 · cases e
set_option maxHeartbeats 16000000 in
theorem pput_is (w : World) (p : Nat) (A : Option Addr) (n k : Nat) (m1 m2 : Option Nat) (L1 L2 : List Ev.EV) (S : Bt) (q : Ev.EV) (x : Ev.Evt) (h : BkIs w p A n k m1 m2 L1 L2 S) (hs : Lim S) (hq : Ev.EventIs w w.heap.size q x) :
   Calls Tryz.prog 11 #[.pointer (some ⟨p, 0, none⟩), q.val] w fun e w' => e = .returned (.int .i64 ((putB S x).2 : Int)) ∧ Goes w p m1 m2 (putB S x).1 w' := by
 obtain ⟨q1, q2, q3, q4, q5, q6, qA, qn, qc⟩ := q
 have hbx := Ev.below_new w (Ev.EV.box (⟨q1, q2, q3, q4, q5, q6, qA, qn, qc⟩ : Ev.EV))
 have HA := Lib.hid (At.new w 38 (ebox (⟨q1, q2, q3, q4, q5, q6, qA, qn, qc⟩ : Ev.EV)))
 have HI := Lib.hid h
 have HQ := Lib.hid hq
 have HB := Lib.hid hbx
 have HS := Lib.hid hs
 have CG := Ev.pgoodE_any (w.alloc (Ev.EV.box (⟨q1, q2, q3, q4, q5, q6, qA, qn, qc⟩ : Ev.EV))) (⟨q1, q2, q3, q4, q5, q6, qA, qn, qc⟩ : Ev.EV) x (hq.up hbx)
 have HPG : Hid (p ≠ w.heap.size) := Lib.hid (fun e => by have := h.mem.at_.lt; omega)
 obtain ⟨y0, y1, y2, y3, y4, y5, y6⟩ := ev_cells (q := (⟨q1, q2, q3, q4, q5, q6, qA, qn, qc⟩ : Ev.EV)) HA.out
 simp only [ebox, Ev.EV.box] at HA HB CG y0 y1 y2 y3 y4 y5 y6
 simp only [Ev.EV.val] at CG ⊢
 clear h hs hq hbx
 go_enter Tryz.func11, Tryz.ntmps11
 obtain ⟨b, hg⟩ : ∃ b, Ev.goodE x = b := ⟨_, rfl⟩
 rw [hg] at CG
 have HG := Lib.hid hg
 clear hg
 go_wp2_with fail
 refine CG.mono ?_
 rintro r w2 ⟨rfl, b2⟩
 have HB2 := Lib.hid (HB.out.trans (b2.mono HB.out.size))
 have HA2 := Lib.hid (HA.out.below b2 HA.out.lt)
 clear CG b2 HA HB y0 y1 y2 y3 y4 y5 y6
 cases b with
 | false =>
   go_wp2
   go_ret
   rw [put_bad HG.out]
   exact ⟨rfl, goes_same HI.out HB2.out⟩
 | true =>
   have HXC : Hid (∀ V, Below w2.heap.size w2 V → V.cell? ⟨p, 0, none⟩ = some (.slice A n k) ∧ V.cell? ⟨w.heap.size, 0, none⟩ = some (.int .u16 (q1 : Int)) ∧ V.cell? ⟨w.heap.size, 1, none⟩ = some (.int .u64 (q2 : Int)) ∧ V.cell? ⟨w.heap.size, 2, none⟩ = some (.int .u8 (q3 : Int)) ∧ V.cell? ⟨w.heap.size, 3, none⟩ = some (.int .u64 (q4 : Int)) ∧ V.cell? ⟨w.heap.size, 4, none⟩ = some (.int .u8 (q5 : Int)) ∧ V.cell? ⟨w.heap.size, 5, none⟩ = some (.string q6) ∧ V.cell? ⟨w.heap.size, 6, none⟩ = some (.slice qA qn qc)) :=
     Lib.hid (fun V hV => ⟨((HI.out.up HB2.out).mem.cells hV).1, ev_cells (q := (⟨q1, q2, q3, q4, q5, q6, qA, qn, qc⟩ : Ev.EV)) (HA2.out.below hV HA2.out.lt)⟩)
   obtain ⟨z0, y0, y1, y2, y3, y4, y5, y6⟩ := HXC.out w2 (Below.refl _ _)
   have CH := fun W (hW : Below w2.heap.size w2 W) => has_laterC (HI.out.up HB2.out).seen (Ev.is_dot HQ.out).symm HQ.out.fits hW
   obtain ⟨c, hc⟩ : ∃ c, Cx.hasC S.1 x.dot = c := ⟨_, rfl⟩
   rw [hc] at CH
   have HC := Lib.hid hc
   clear hc
   go_wp2
   go_region_held3 (fun V => V.cell? ⟨p, 0, none⟩ = some (.slice A n k) ∧ V.cell? ⟨w.heap.size, 0, none⟩ = some (.int .u16 (q1 : Int)) ∧ V.cell? ⟨w.heap.size, 1, none⟩ = some (.int .u64 (q2 : Int)) ∧ V.cell? ⟨w.heap.size, 2, none⟩ = some (.int .u8 (q3 : Int)) ∧ V.cell? ⟨w.heap.size, 3, none⟩ = some (.int .u64 (q4 : Int)) ∧ V.cell? ⟨w.heap.size, 4, none⟩ = some (.int .u8 (q5 : Int)) ∧ V.cell? ⟨w.heap.size, 5, none⟩ = some (.string q6) ∧ V.cell? ⟨w.heap.size, 6, none⟩ = some (.slice qA qn qc)) (first | exact ⟨z0, y0, y1, y2, y3, y4, y5, y6⟩ | assumption | exact HXC.out _ (by (repeat (first | exact Below.refl _ _ | assumption | apply Ev.bel_drew)))) (first
     | (go_at_call 46; (with_reducible refine (CH _ ?_).mono ?_); (focus (repeat (first | exact Below.refl _ _ | assumption | apply Ev.bel_drew))); rintro r Va ⟨rfl, bva⟩; have hca := HXC.out Va bva))
   have HBa := Lib.hid (HB2.out.trans (bva.mono HB2.out.size))
   have HAa := Lib.hid (HA2.out.below bva HA2.out.lt)
   clear hca bva CH HXC HB2 HA2 z0 y0 y1 y2 y3 y4 y5 y6
   cases c with
   | true =>
     go_wp2
     go_ret
     rw [put_seen HG.out HC.out]
     exact ⟨rfl, goes_same HI.out HBa.out⟩
   | false =>
     have HIa := Lib.hid (HI.out.up HBa.out)
     have HQa := Lib.hid (HQ.out.up HBa.out)
     have hk := good_kills HG.out
     have hdl : (Ev.dotsE [x]).length ≤ 1024 := Nat.le_trans (dots_one x) (by omega)
     have HXC : Hid (∀ V, Below Va.heap.size Va V → V.cell? ⟨p, 0, none⟩ = some (.slice A n k) ∧ V.cell? ⟨w.heap.size, 0, none⟩ = some (.int .u16 (q1 : Int)) ∧ V.cell? ⟨w.heap.size, 1, none⟩ = some (.int .u64 (q2 : Int)) ∧ V.cell? ⟨w.heap.size, 2, none⟩ = some (.int .u8 (q3 : Int)) ∧ V.cell? ⟨w.heap.size, 3, none⟩ = some (.int .u64 (q4 : Int)) ∧ V.cell? ⟨w.heap.size, 4, none⟩ = some (.int .u8 (q5 : Int)) ∧ V.cell? ⟨w.heap.size, 5, none⟩ = some (.string q6) ∧ V.cell? ⟨w.heap.size, 6, none⟩ = some (.slice qA qn qc)) :=
       Lib.hid (fun V hV => ⟨(HIa.out.mem.cells hV).1, ev_cells (q := (⟨q1, q2, q3, q4, q5, q6, qA, qn, qc⟩ : Ev.EV)) (HAa.out.below hV HAa.out.lt)⟩)
     have HFZ : Hid (∀ V, Below Va.heap.size Va V → V.frozen? ⟨p, 0, none⟩ = false) := Lib.hid (fun V hV => HIa.out.mem.frozen hV 0)
     have CD := dots_laterP (W := (Va.alloc (Ev.EV.box (⟨q1, q2, q3, q4, q5, q6, qA, qn, qc⟩ : Ev.EV))).drew) ((evts_one Va (⟨q1, q2, q3, q4, q5, q6, qA, qn, qc⟩ : Ev.EV) x HQa.out).up ((Below.refl _ _).drew)) hk (Ev.bel_drew (Ev.bel_alloc (Ev.EV.box (⟨q1, q2, q3, q4, q5, q6, qA, qn, qc⟩ : Ev.EV)) (Below.refl Va.heap.size Va)))
     have CA := fun W A2 n2 k2 (hl : Ev.DotsAt W W.heap.size A2 (Ev.dotsE [x]) n2 k2) (hW : Below Va.heap.size Va W) => add_laterP HIa.out.seen HS.out.ctx hl hdl hW
     simp only [Ev.EV.box] at CD
     obtain ⟨z0, y0, y1, y2, y3, y4, y5, y6⟩ := HXC.out Va (Below.refl _ _)
     have v0 := HXC.out (Va.alloc (Ev.EV.box (⟨q1, q2, q3, q4, q5, q6, qA, qn, qc⟩ : Ev.EV))) (Ev.bel_alloc _ (Below.refl Va.heap.size Va))
     have v1 := HXC.out (Va.alloc (Ev.EV.box (⟨q1, q2, q3, q4, q5, q6, qA, qn, qc⟩ : Ev.EV))).drew (Ev.bel_drew (Ev.bel_alloc _ (Below.refl Va.heap.size Va)))
     have v2 := HXC.out Va.drew (Ev.bel_drew (Below.refl Va.heap.size Va))
     simp only [Ev.EV.box] at v0 v1
     obtain ⟨y00, y01, y02, y03, y04, y05, y06, y07⟩ := v0
     obtain ⟨y10, y11, y12, y13, y14, y15, y16, y17⟩ := v1
     obtain ⟨y20, y21, y22, y23, y24, y25, y26, y27⟩ := v2
     clear hk hdl
     go_wp2
     go_cut [] (fun wx => ∃ A' n' k' w4, Below Va.heap.size Va w4 ∧ Cx.CtxAt w4 A' (Cx.setC S.1 (Cx.ofC (Ev.dotsE [x])) 0) n' k' ∧ wx = w4.setCell ⟨p, 0, none⟩ (.slice A' n' k'))
     case first =>
       go_region_with (first
         | (go_at_call 47; (with_reducible refine (CA _ _ _ _ hds bvb).mono ?_); rintro r Vc ⟨A', n', k', rfl, hcx, bvc⟩; have hcc := (HXC.out Vc bvc).1; have hfz := HFZ.out Vc bvc)
         | (go_at_call 48; (with_reducible refine CD.mono ?_); rintro r Vb ⟨Ad, nd, cd, rfl, hds, bvb⟩; obtain ⟨y30, y31, y32, y33, y34, y35, y36, y37⟩ := HXC.out Vb bvb))
       all_goals
         go_wp2
         go_meet
         exact ⟨_, _, _, Vc, bvc, hcx, rfl⟩
     case rest =>
       obtain ⟨A', n', k', w4, hw4, hcx, rfl⟩ := hcut
       have hB4 := HBa.out.trans (hw4.mono HBa.out.size)
       have HB4 := Lib.hid hB4
       have HCX := Lib.hid hcx
       have HM4 := Lib.hid (HIa.out.mem.up hw4)
       have HA4 := Lib.hid (HAa.out.below hw4 HAa.out.lt)
       have HQ4 := Lib.hid (HQa.out.up hw4)
       have HM5 := Lib.hid ((HIa.out.mem.up hw4).see (A' := A') (n' := n') (k' := k'))
       have HT5 := Lib.hid (Turns.set (w := w4) (p := p) (m1 := m1) (m2 := m2) 0 (.slice A' n' k'))
       have HNO : Hid (¬ Own p m1 m2 w.heap.size) := Lib.hid (not_own HM4.out HA4.out (Ne.symm HPG.out))
       have HAT : Hid (∀ W, Turns w4 p m1 m2 m1 m2 W → At W w.heap.size 38 #[.int .u16 (q1 : Int), .int .u64 (q2 : Int), .int .u8 (q3 : Int), .int .u64 (q4 : Int), .int .u8 (q5 : Int), .string q6, .slice qA qn qc]) := Lib.hid (fun W hW => (hW.off.block _ HA4.out.lt HNO.out).trans HA4.out)
       have HEV : Hid (∀ W, Turns w4 p m1 m2 m1 m2 W → Ev.EventIs W W.heap.size (⟨q1, q2, q3, q4, q5, q6, qA, qn, qc⟩ : Ev.EV) x) := Lib.hid (fun W hW => evt_off HM4.out.nonum hW.off HQ4.out)
       have H1 := Lib.hid (Nat.le_trans HI.out.len1 HS.out.few)
       have H2 := Lib.hid (Nat.le_trans HI.out.len2 HS.out.few)
       obtain ⟨y0, y1, y2, y3, y4, y5, y6⟩ := ev_cells (q := (⟨q1, q2, q3, q4, q5, q6, qA, qn, qc⟩ : Ev.EV)) (HAT.out _ HT5.out)
       have hln : x.kills.length = qn := HQ.out.kills.len
       have HLN := Lib.hid hln
       have h63 : qn ≤ 9223372036854775807 := Nat.le_trans HQ.out.kills.cap HQ.out.kills.max
       simp only at y0 y1 y2 y3 y4 y5 y6
       clear hw4 hcx hB4 HM4 HA4 HQ4 HIa HQa HAa HXC HFZ CD CA hln y00 y01 y02 y03 y04 y05 y06 y07 y10 y11 y12 y13 y14 y15 y16 y17 y20 y21 y22 y23 y24 y25 y26 y27 z0
       go_wp2
       go_loopw [35] (fun i wr => ∃ j : Nat, j ≤ qn ∧ i = .int .i64 (j : Int) ∧ BkMem wr p A' n' k' m1 m2 (butL (x.kills.take j) L1) L2 ∧ Turns w4 p m1 m2 m1 m2 wr) (fun i _ => qn - (intOf i).toNat)
       case atStart => exact ⟨0, Nat.zero_le _, rfl, by rw [List.take_zero, butL_nil]; exact HM5.out, HT5.out⟩
       case round =>
         obtain ⟨j, hj, rfl, hm, ht⟩ := hrel
         have HM := Lib.hid hm
         have HT := Lib.hid ht
         have HE := Lib.hid (HEV.out _ ht)
         clear hm ht
         by_cases hjl : j < qn
         · obtain ⟨ad, a1, a2, rfl, hlx, hx1, hx2, d1, d3⟩ := (HE.out.kills.dots.at_ (k := j) (by rw [HE.out.kills.len]; exact hjl))
           have d3' : wr.cell? ⟨(ad.add (j * 2)).block, (ad.add (j * 2)).off + 1, none⟩ = some (.int .u64 (a2 : Int)) := by rw [Dt.add_next]; exact d3
           have hbd := Ev.below_new wr (dbox (a1, a2))
           have HXC : Hid (∀ V, Below (wr.alloc (dbox (a1, a2))).heap.size (wr.alloc (dbox (a1, a2))) V → V.cell? ⟨p, 1, none⟩ = some (.map m1) ∧ V.cell? ⟨wr.heap.size, 0, none⟩ = some (.int .u16 (a1 : Int)) ∧ V.cell? ⟨wr.heap.size, 1, none⟩ = some (.int .u64 (a2 : Int))) :=
             Lib.hid (fun V hV => ⟨((HM.out.up hbd).cells hV).2.1, dbox_cells wr V (a1, a2) hV⟩)
           have HMV : Hid (∀ V, Below (wr.alloc (dbox (a1, a2))).heap.size (wr.alloc (dbox (a1, a2))) V → MapO V m1 (butL (x.kills.take j) L1)) := Lib.hid (fun V hV => (HM.out.live.up hbd).up hV)
           have HXD : Hid (∀ V W, Below (wr.alloc (dbox (a1, a2))).heap.size (wr.alloc (dbox (a1, a2))) V → V.grownBy W m1 → W.cell? ⟨p, 1, none⟩ = some (.map m1) ∧ W.cell? ⟨wr.heap.size, 0, none⟩ = some (.int .u16 (a1 : Int)) ∧ W.cell? ⟨wr.heap.size, 1, none⟩ = some (.int .u64 (a2 : Int))) :=
             Lib.hid (fun V W hV hg => by
               obtain ⟨e1, e2, e3⟩ := HXC.out V hV
               have n1 : some p ≠ m1 := fun e => (HMV.out V hV).nocell e.symm _ _ e1
               have n2 : some wr.heap.size ≠ m1 := fun e => (HMV.out V hV).nocell e.symm _ _ e2
               exact ⟨hg.cell e1 n1, hg.cell e2 n2, hg.cell e3 n2⟩)
           have HEND : Hid (∀ V W, Below (wr.alloc (dbox (a1, a2))).heap.size (wr.alloc (dbox (a1, a2))) V → MapO W m1 (but (a1, a2) (butL (x.kills.take j) L1)) → V.grownBy W m1 → BkMem W p A' n' k' m1 m2 (butL (x.kills.take (j + 1)) L1) L2 ∧ Turns w4 p m1 m2 m1 m2 W) :=
             Lib.hid (fun V W hV hm hg => by
               obtain ⟨e1, e2⟩ := del_end HM.out (hbd.trans (hV.mono hbd.size)) hm hg
               rw [but_butL, ← Ev.take_one hlx] at e1
               exact ⟨e1, HT.out.trans e2⟩)
           obtain ⟨x1, x2, x3⟩ := HXC.out _ (Below.refl _ _)
           simp only [dbox] at HXC HMV HXD HEND x1 x2 x3
           clear hbd hlx d3 HE
           go_wp2
           go_region_held3 (fun V => V.cell? ⟨p, 1, none⟩ = some (.map m1) ∧ V.cell? ⟨wr.heap.size, 0, none⟩ = some (.int .u16 (a1 : Int)) ∧ V.cell? ⟨wr.heap.size, 1, none⟩ = some (.int .u64 (a2 : Int))) (first | exact ⟨x1, x2, x3⟩ | assumption | exact HXC.out _ (by (repeat (first | exact Below.refl _ _ | assumption | apply Ev.bel_drew)))) (first
             | (refine step_delO rfl (.tmp 42) (.tmp 43) rfl m1 (butL (x.kills.take j) L1) (a1, a2) rfl (HMV.out _ ?_) ⟨hx1, hx2⟩ rfl ?_; (focus (repeat (first | exact Below.refl _ _ | assumption | apply Ev.bel_drew))); intro w6 hm6 hg6; have hc6 := HXD.out _ w6 (by (repeat (first | exact Below.refl _ _ | assumption | apply Ev.bel_drew))) hg6; have HR := Lib.hid (HEND.out _ w6 (by (repeat (first | exact Below.refl _ _ | assumption | apply Ev.bel_drew))) hm6 hg6)))
           all_goals
             go_wp2
             go_roundw
             case rel => exact ⟨j + 1, by omega, by go_num, HR.out.1, HR.out.2⟩
             case measure => simp [intOf]; omega
         · obtain rfl : j = qn := by omega
           have hall : x.kills.take j = x.kills := List.take_of_length_le (by rw [HLN.out]; exact Nat.le_refl _)
           rw [hall] at HM
           obtain ⟨y0, y1, y2, y3, y4, y5, y6⟩ := ev_cells (q := (⟨q1, q2, q3, q4, q5, q6, qA, j, qc⟩ : Ev.EV)) (HAT.out _ HT.out)
           have CK := pkeepb_any wr p A' n' k' m1 m2 (butL x.kills L1) L2 (⟨q1, q2, q3, q4, q5, q6, qA, j, qc⟩ : Ev.EV) x HM.out HE.out (Nat.le_trans (butL_len _ _) (Nat.le_trans H1.out (by decide))) (Nat.le_trans H2.out (by decide))
           simp only [Ev.EV.val] at CK
           simp only at y0 y1 y2 y3 y4 y5 y6
           clear hall
           go_wp2_with fail
           refine CK.mono ?_
           rintro r w7 ⟨rfl, q', m1', m2', g1, g2, g3, g4⟩
           have HR := Lib.hid (put_end HI.out HQ.out HG.out HC.out HB4.out HCX.out (HT.out.trans g2) g1 g3)
           have HRV := Lib.hid (put_new HG.out HC.out)
           clear CK g1 g2 g3 g4 y0 y1 y2 y3 y4 y5 y6
           go_wp2
           go_ret
           exact ⟨by rw [HRV.out]; rfl, HR.out⟩
end Go.Proofs.YtgaegfddobpomaaGreat.Bk
