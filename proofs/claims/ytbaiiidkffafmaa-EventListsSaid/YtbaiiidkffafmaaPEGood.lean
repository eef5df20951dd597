/- The contract of the program's Good of layer event. For every event. -/
import Derived.Test.YtbaiiidkffafmaaPEDots
import Derived.Test.YtbaiiidkffafmaaPESort
namespace Go.Proofs.Ytbaiiidkffafmaa.Ev
open Go.ChangeShapes Go.WideShapes Go.ChangeAt Go.RowKit
set_option linter.unusedVariables false
set_option maxRecDepth 4000

theorem pfield_any (w : World) (f : Nat) (hf : f < 256) : Calls Try.prog 47 #[.int .u8 (f : Int)] w fun e w' => e = .returned (.bool (Fd.goodB f)) ∧ w' = w := by
  by_cases h1 : 1 ≤ f
  · have d1 : decide (1 ≤ (f : Int)) = true := decide_eq_true (by omega)
    have HR : Hid (Fd.goodB f = decide ((f : Int) ≤ 5)) := Lib.hid (by unfold Fd.goodB; rw [Bool.eq_iff_iff]; simp; omega)
    go_enter Try.func47, Try.ntmps47
    go_wp2
    all_goals
      go_ret
      exact ⟨ret_bool HR.out.symm, rfl⟩
  · have d1 : decide (1 ≤ (f : Int)) = false := decide_eq_false (by omega)
    have HR : Hid (Fd.goodB f = false) := Lib.hid (decide_eq_false (by omega))
    go_enter Try.func47, Try.ntmps47
    go_wp2
    all_goals
      go_ret
      exact ⟨ret_bool HR.out.symm, rfl⟩
set_option maxHeartbeats 8000000 in
/-- has an event what one of its kind has? -/
theorem pkind_any (w : World) (p : EV) (hf5 : p.fld < 256) (hsh : Short p.txt) :
    Calls Try.prog 26 #[p.val] w fun e w' => e = .returned (.bool (headB p.kind p.fld p.txt)) ∧ Below w.heap.size w w' := by
  have HB := Lib.hid (below_new w p.box)
  have hb := (box_new w p _ (Below.refl _ _)).all
  have CF := fun W => pfield_any W p.fld hf5
  have CT := fun W => Fd.ptext_any p.txt W (by unfold Short at hsh; omega)
  have he := empty_text p.txt
  obtain ⟨p1, p2, p3, p4, p5, p6, A, n, c⟩ := p
  simp only [EV.val]
  simp only [EV.box] at HB hb
  simp only at CF CT he hf5 hsh
  obtain ⟨a0, a1, a2, a3, a4, a5, a6⟩ := hb
  by_cases k1 : p3 = 1
  · have hd : Hid (headB p3 p5 p6 = (Fd.goodB p5 && Fd.textB p6.data.toList)) := Lib.hid (by unfold headB; rw [if_pos k1])
    have hk : ((p3 : Int) == 1) = true := by rw [beq_iff_eq]; omega
    rw [hd.out]
    clear hd he k1
    generalize Fd.textB p6.data.toList = tb at CT ⊢
    generalize Fd.goodB p5 = gb at CF ⊢
    cases gb with
    | true =>
      go_enter Try.func26, Try.ntmps26
      go_wp2_with fail
      refine (CF _).mono ?_
      rintro e w1 ⟨rfl, rfl⟩
      go_wp2_with fail
      refine (CT _).mono ?_
      rintro e w2 ⟨rfl, rfl⟩
      clear CF CT
      go_wp2
      go_ret
      exact ⟨rfl, HB.out⟩
    | false =>
      go_enter Try.func26, Try.ntmps26
      go_wp2_with fail
      refine (CF _).mono ?_
      rintro e w1 ⟨rfl, rfl⟩
      clear CF CT
      go_wp2
      go_ret
      exact ⟨rfl, HB.out⟩
  · have e1 : ((p3 : Int) == 1) = false := by rw [beq_eq_false_iff_ne]; omega
    by_cases k2 : p3 = 2
    · have hd : Hid (headB p3 p5 p6 = (decide (p5 = 0) && decide (p6 = ⟨#[]⟩))) := Lib.hid (by unfold headB; rw [if_neg k1, if_pos k2])
      have hk : ((p3 : Int) == 2) = true := by rw [beq_iff_eq]; omega
      rw [hd.out]
      clear hd CF CT k1 k2
      by_cases h0 : p5 = 0
      · have e2 : ((p5 : Int) == 0) = true := by rw [beq_iff_eq]; omega
        rw [decide_eq_true h0]
        clear h0
        generalize decide (p6 = ⟨#[]⟩) = tb at he ⊢
        go_enter Try.func26, Try.ntmps26
        go_wp2
        go_ret
        exact ⟨rfl, HB.out⟩
      · have e2 : ((p5 : Int) == 0) = false := by rw [beq_eq_false_iff_ne]; omega
        rw [decide_eq_false h0]
        clear h0 he
        go_enter Try.func26, Try.ntmps26
        go_wp2
        go_ret
        exact ⟨rfl, HB.out⟩
    · have hd : Hid (headB p3 p5 p6 = false) := Lib.hid (by unfold headB; rw [if_neg k1, if_neg k2])
      have e2 : ((p3 : Int) == 2) = false := by rw [beq_eq_false_iff_ne]; omega
      rw [hd.out]
      clear hd CF CT k1 k2 he
      go_enter Try.func26, Try.ntmps26
      go_wp2
      go_ret
      exact ⟨rfl, HB.out⟩

/-- may an event put out what it does? -/
def killsB (x : Evt) : Bool := decide (x.kills.length ≤ 256) && Dt.riseB x.kills && x.kills.all (fun d => !decide (d = x.dot) && Dt.mayD d)
def AllOk (e : Dt.Dot) (l : List Dt.Dot) (k : Nat) : Prop := (l.take k).all (fun d => !decide (d = e) && Dt.mayD d) = true
theorem ok_next {e x : Dt.Dot} {l : List Dt.Dot} {k : Nat} (h : AllOk e l k) (hx : l[k]? = some x) (h1 : x ≠ e) (h2 : Dt.mayD x = true) : AllOk e l (k + 1) := by
  unfold AllOk at *
  rw [List.take_add_one, hx, List.all_append, h]
  simp [h1, h2]
theorem ok_bad {e x : Dt.Dot} {l : List Dt.Dot} {k : Nat} (hx : l[k]? = some x) (h : x = e ∨ Dt.mayD x = false) : l.all (fun d => !decide (d = e) && Dt.mayD d) = false := by
  rw [List.all_eq_false]
  refine ⟨x, List.mem_of_getElem? hx, ?_⟩
  rcases h with h | h <;> simp [h]
theorem ok_done {e : Dt.Dot} {l : List Dt.Dot} {n : Nat} (hn : l.length = n) (h : AllOk e l n) : l.all (fun d => !decide (d = e) && Dt.mayD d) = true := by
  unfold AllOk at h
  rwa [List.take_of_length_le (by rw [hn]; exact Nat.le_refl _)] at h
theorem good_parts (x : Evt) : goodE x = ((Dt.unpackD x.cid).2 && Dt.mayD x.dot && headB x.kind x.fld x.txt && killsB x) := by
  unfold goodE killsB
  have e : x.kills.all (fun d => !decide (d = x.dot) && Dt.mayD d) = (x.kills.all Dt.mayD && !decide (x.dot ∈ x.kills)) := by
    rw [Bool.eq_iff_iff]
    simp only [List.all_eq_true, Bool.and_eq_true, Bool.not_eq_true', decide_eq_false_iff_not]
    constructor
    · intro h
      exact ⟨fun d hd => (h d hd).2, fun hm => (h _ hm).1 rfl⟩
    · rintro ⟨h1, h2⟩ d hd
      exact ⟨fun ee => h2 (ee ▸ hd), h1 d hd⟩
  rw [e]
  cases (Dt.unpackD x.cid).2 <;> cases Dt.mayD x.dot <;> cases headB x.kind x.fld x.txt <;> cases x.kills.all Dt.mayD <;> cases decide (x.kills.length ≤ 256) <;> cases Dt.riseB x.kills <;> cases decide (x.dot ∈ x.kills) <;> rfl
set_option maxHeartbeats 8000000 in
theorem pkillsB_any (w : World) (p : EV) (x : Evt) (h : EventIs w w.heap.size p x) :
    Calls Try.prog 27 #[p.val] w fun e w' => e = .returned (.bool (killsB x)) ∧ Below w.heap.size w w' := by
  have HK := Lib.hid (h.up (below_new w p.box)).kills
  have HB := Lib.hid (below_new w p.box)
  have hb := box_new w p _ (Below.refl _ _)
  have HX := Lib.hid (fun (V : World) (hV : Below (w.alloc p.box).heap.size (w.alloc p.box) V) => (hb.kept hV).all)
  have hdot := is_dot h
  have HE : Hid (killsB x = (decide (x.kills.length ≤ 256) && Dt.riseB x.kills && x.kills.all (fun d => !decide (d = (p.dev, p.num)) && Dt.mayD d))) := Lib.hid (by unfold killsB; rw [hdot])
  generalize killsB x = ans at HE ⊢
  have hn := h.kills.len
  generalize x.kills = l at HK HE hn
  have CR := Dt.prising_any (w.alloc p.box) p.adr l p.len p.cap HK.out.len HK.out.dots (Nat.le_trans HK.out.wide (by decide))
  have h63 := h.kills.wide
  clear h hb hdot
  obtain ⟨p1, p2, p3, p4, p5, p6, A, n, c⟩ := p
  simp only [EV.val]
  simp only [EV.box] at HB HX HK CR
  simp only at HE hn h63 CR
  obtain ⟨a0, a1, a2, a3, a4, a5, a6⟩ := HX.out _ (Below.refl _ _)
  have HN := Lib.hid hn
  by_cases h256 : n ≤ 256
  · have e1 : decide ((n : Int) > 256) = false := decide_eq_false (by omega)
    have e1' : ¬ (256 : Int) < (n : Int) := by omega
    have HE2 : Hid (ans = (Dt.riseB l && l.all (fun d => !decide (d = (p1, p2)) && Dt.mayD d))) := Lib.hid (by rw [HE.out, hn, decide_eq_true h256]; rfl)
    clear HE hn
    cases hr : Dt.riseB l with
    | false =>
      have hd : Hid (ans = false) := Lib.hid (by rw [HE2.out, hr]; rfl)
      rw [hr] at CR
      clear hr HE2
      go_enter Try.func27, Try.ntmps27
      go_wp2_with fail
      refine CR.mono ?_
      rintro e w1 ⟨rfl, hb1⟩
      have HW := Lib.hid (HB.out.trans (hb1.mono HB.out.size))
      clear hb1 CR a0 a1 a2 a3 a4 a5 a6
      go_wp2
      go_ret
      exact ⟨ret_bool hd.out.symm, HW.out⟩
    | true =>
      have HE3 : Hid (ans = l.all (fun d => !decide (d = (p1, p2)) && Dt.mayD d)) := Lib.hid (by rw [HE2.out, hr]; rfl)
      rw [hr] at CR
      clear hr HE2
      go_enter Try.func27, Try.ntmps27
      go_wp2_with fail
      refine CR.mono ?_
      rintro e w1 ⟨rfl, hb1⟩
      have HV1 := Lib.hid hb1
      clear a0 a1 a2 a3 a4 a5 a6
      obtain ⟨a0, a1, a2, a3, a4, a5, a6⟩ := HX.out _ hb1
      clear hb1 CR
      go_wp2
      clear a0 a1 a2 a3 a4 a5 a6
      go_loopw [18] (fun i wr => ∃ k : Nat, k ≤ n ∧ i = .int .i64 (k : Int) ∧ AllOk (p1, p2) l k ∧ Below (w.alloc (.cells #[.int .u16 (p1 : Int), .int .u64 (p2 : Int), .int .u8 (p3 : Int), .int .u64 (p4 : Int), .int .u8 (p5 : Int), .string p6, .slice A n c] 28)).heap.size (w.alloc (.cells #[.int .u16 (p1 : Int), .int .u64 (p2 : Int), .int .u8 (p3 : Int), .int .u64 (p4 : Int), .int .u8 (p5 : Int), .string p6, .slice A n c] 28)) wr) (fun i _ => n - (intOf i).toNat)
      case atStart => exact ⟨0, Nat.zero_le _, rfl, by simp [AllOk], HV1.out⟩
      case round =>
        obtain ⟨k, hk, rfl, hok, hw⟩ := hrel
        have HOK := Lib.hid hok
        have HW := Lib.hid hw
        by_cases hlt : k < n
        · obtain ⟨ad, d, rfl, hB, hld, hd1, hd2, hcs⟩ := HK.out.dots.cells (k := k) (by rw [HN.out]; exact hlt)
          obtain ⟨c0, c1⟩ := hcs wr hw
          have hw2 : Below (w.alloc (.cells #[.int .u16 (p1 : Int), .int .u64 (p2 : Int), .int .u8 (p3 : Int), .int .u64 (p4 : Int), .int .u8 (p5 : Int), .string p6, .slice (some ad) n c] 28)).heap.size (w.alloc (.cells #[.int .u16 (p1 : Int), .int .u64 (p2 : Int), .int .u8 (p3 : Int), .int .u64 (p4 : Int), .int .u8 (p5 : Int), .string p6, .slice (some ad) n c] 28)) (wr.alloc (.cells #[.int .u16 (d.1 : Int), .int .u64 (d.2 : Int)] 25)) := hw.alloc hw.size _
          have HW2 := Lib.hid hw2
          clear hw2
          obtain ⟨a0, a1, a2, a3, a4, a5, a6⟩ := HX.out _ HW2.out
          have b0 : (wr.alloc (.cells #[.int .u16 (d.1 : Int), .int .u64 (d.2 : Int)] 25)).cell? ⟨wr.heap.size, 0, none⟩ = some (.int .u16 (d.1 : Int)) := by simp [go_sem]
          have b1 : (wr.alloc (.cells #[.int .u16 (d.1 : Int), .int .u64 (d.2 : Int)] 25)).cell? ⟨wr.heap.size, 1, none⟩ = some (.int .u64 (d.2 : Int)) := by simp [go_sem]
          have CG := Dt.pgood_any (wr.alloc (.cells #[.int .u16 (d.1 : Int), .int .u64 (d.2 : Int)] 25)) d.1 d.2
          have HLD := Lib.hid hld
          clear hld hcs hw hok hd1 hd2
          obtain ⟨d1, d2⟩ := d
          simp only at c0 c1 b0 b1 CG HW2 HLD a0 a1 a2 a3 a4 a5 a6
          have hz : (k : Int) < (n : Int) := by omega
          by_cases hsame : d1 = p1 ∧ d2 = p2
          · obtain ⟨rfl, rfl⟩ := hsame
            have hd : Hid (ans = false) := Lib.hid (by rw [HE3.out]; exact ok_bad HLD.out (.inl rfl))
            clear CG
            go_wp2
            go_ret
            exact ⟨ret_bool hd.out.symm, HB.out.trans (HW2.out.mono HB.out.size)⟩
          · have hne : ((d1 : Int) == (p1 : Int)) = false ∨ (d1 = p1 ∧ ((d2 : Int) == (p2 : Int)) = false) := by
              by_cases e : d1 = p1
              · refine .inr ⟨e, ?_⟩; rw [beq_eq_false_iff_ne]; intro e2; exact hsame ⟨e, by omega⟩
              · refine .inl ?_; rw [beq_eq_false_iff_ne]; omega
            cases hm : Dt.mayD (d1, d2) with
            | false =>
              have hd : Hid (ans = false) := Lib.hid (by rw [HE3.out]; exact ok_bad HLD.out (.inr hm))
              rw [hm] at CG
              clear hm hsame
              rcases hne with q | ⟨rfl, q⟩
              all_goals
                go_wp2_with fail
                refine CG.mono ?_
                rintro e w3 ⟨rfl, hb3⟩
                have HW3 := Lib.hid (HW2.out.trans (hb3.mono HW2.out.size))
                clear hb3 CG a0 a1 a2 a3 a4 a5 a6 b0 b1 c0 c1
                go_wp2
                go_ret
                exact ⟨ret_bool hd.out.symm, HB.out.trans (HW3.out.mono HB.out.size)⟩
            | true =>
              have HO2 := Lib.hid (ok_next HOK.out HLD.out (fun e => hsame (by injection e with e1 e2; exact ⟨e1, e2⟩)) hm)
              rw [hm] at CG
              clear hm hsame
              rcases hne with q | ⟨rfl, q⟩
              all_goals
                go_wp2_with fail
                refine CG.mono ?_
                rintro e w3 ⟨rfl, hb3⟩
                have HW3 := Lib.hid (HW2.out.trans (hb3.mono HW2.out.size))
                clear hb3 CG a0 a1 a2 a3 a4 a5 a6 b0 b1 c0 c1
                go_wp2
                go_roundw
                case rel => exact ⟨k + 1, by omega, by go_num, HO2.out, HW3.out⟩
                case measure => simp [intOf]; omega
        · obtain rfl : k = n := by omega
          have hd : Hid (ans = true) := Lib.hid (by rw [HE3.out]; exact ok_done HN.out HOK.out)
          clear hok hw
          go_wp2
          go_ret
          exact ⟨ret_bool hd.out.symm, HB.out.trans (HW.out.mono HB.out.size)⟩
  · have e1 : decide ((n : Int) > 256) = true := decide_eq_true (by omega)
    have e1' : (256 : Int) < (n : Int) := by omega
    have hd : Hid (ans = false) := Lib.hid (by rw [HE.out, hn, decide_eq_false h256]; rfl)
    clear HE CR h256
    go_enter Try.func27, Try.ntmps27
    go_wp2
    go_ret
    exact ⟨ret_bool hd.out.symm, HB.out⟩
set_option maxHeartbeats 8000000 in
theorem pgoodE_any (w : World) (p : EV) (x : Evt) (h : EventIs w w.heap.size p x) :
    Calls Try.prog 8 #[p.val] w fun e w' => e = .returned (.bool (goodE x)) ∧ Below w.heap.size w w' := by
  have HB := Lib.hid (below_new w p.box)
  have hb := box_new w p _ (Below.refl _ _)
  have HX := Lib.hid (fun (V : World) (hV : Below (w.alloc p.box).heap.size (w.alloc p.box) V) => (hb.kept hV).all)
  have HE := Lib.hid (h.up (below_new w p.box))
  have CU := fun W => Dt.punpack_any W p.cid (by rw [h.cid]; exact h.fits.cid)
  have CG := fun W => Dt.pgood_any W p.dev p.num
  have CK := fun W => pkind_any W p (by rw [h.fld]; exact h.fits.fld) (by rw [h.txt]; exact h.fits.txt)
  have CL := fun (W : World) (hW : Below (w.alloc p.box).heap.size (w.alloc p.box) W) => pkillsB_any W p x (HE.out.up hW)
  have hg : goodE x = ((Dt.unpackD p.cid).2 && Dt.mayD (p.dev, p.num) && headB p.kind p.fld p.txt && killsB x) := by rw [good_parts, h.cid, is_dot h, h.kind, h.fld, h.txt]
  rw [hg]
  clear hg h hb HE
  obtain ⟨p1, p2, p3, p4, p5, p6, A, n, c⟩ := p
  simp only [EV.val] at CK CL ⊢
  simp only [EV.box] at HB HX CL
  simp only at CU CG CK
  obtain ⟨a0, a1, a2, a3, a4, a5, a6⟩ := HX.out _ (Below.refl _ _)
  generalize (Dt.unpackD p4).1.1 = d1 at CU
  generalize (Dt.unpackD p4).1.2 = d2 at CU
  generalize (Dt.unpackD p4).2 = b1 at CU ⊢
  generalize Dt.mayD (p1, p2) = b2 at CG ⊢
  generalize headB p3 p5 p6 = b3 at CK ⊢
  generalize killsB x = b4 at CL ⊢
  cases b1 with
  | false =>
    go_enter Try.func8, Try.ntmps8
    go_wp2_with fail
    refine (CU _).mono ?_
    rintro e w1 ⟨rfl, hb1⟩
    have HV1 := Lib.hid (bel_alloc (.cells #[.int .u16 (d1 : Int), .int .u64 (d2 : Int)] 25) hb1)
    clear hb1 CU a0 a1 a2 a3 a4 a5 a6
    obtain ⟨a0, a1, a2, a3, a4, a5, a6⟩ := HX.out _ HV1.out
    go_wp2
    go_ret
    exact ⟨rfl, HB.out.trans (HV1.out.mono HB.out.size)⟩
  | true =>
    cases b2 with
    | false =>
      go_enter Try.func8, Try.ntmps8
      go_wp2_with fail
      refine (CU _).mono ?_
      rintro e w1 ⟨rfl, hb1⟩
      have HV1 := Lib.hid (bel_alloc (.cells #[.int .u16 (d1 : Int), .int .u64 (d2 : Int)] 25) hb1)
      clear hb1 CU a0 a1 a2 a3 a4 a5 a6
      obtain ⟨a0, a1, a2, a3, a4, a5, a6⟩ := HX.out _ HV1.out
      go_wp2_with fail
      refine (CG _).mono ?_
      rintro e w3 ⟨rfl, hb2⟩
      have HV3 := Lib.hid (HV1.out.trans (hb2.mono HV1.out.size))
      clear hb2 a0 a1 a2 a3 a4 a5 a6
      obtain ⟨a0, a1, a2, a3, a4, a5, a6⟩ := HX.out _ HV3.out
      go_wp2
      go_ret
      exact ⟨rfl, HB.out.trans (HV3.out.mono HB.out.size)⟩
    | true =>
      cases b3 with
      | false =>
        go_enter Try.func8, Try.ntmps8
        go_wp2_with fail
        refine (CU _).mono ?_
        rintro e w1 ⟨rfl, hb1⟩
        have HV1 := Lib.hid (bel_alloc (.cells #[.int .u16 (d1 : Int), .int .u64 (d2 : Int)] 25) hb1)
        clear hb1 CU a0 a1 a2 a3 a4 a5 a6
        obtain ⟨a0, a1, a2, a3, a4, a5, a6⟩ := HX.out _ HV1.out
        go_wp2_with fail
        refine (CG _).mono ?_
        rintro e w3 ⟨rfl, hb2⟩
        have HV3 := Lib.hid (HV1.out.trans (hb2.mono HV1.out.size))
        clear hb2 a0 a1 a2 a3 a4 a5 a6
        obtain ⟨a0, a1, a2, a3, a4, a5, a6⟩ := HX.out _ HV3.out
        go_wp2_with fail
        refine (CK _).mono ?_
        rintro e w4 ⟨rfl, hb2⟩
        have HV4 := Lib.hid (HV3.out.trans (hb2.mono HV3.out.size))
        clear hb2 a0 a1 a2 a3 a4 a5 a6
        obtain ⟨a0, a1, a2, a3, a4, a5, a6⟩ := HX.out _ HV4.out
        go_wp2
        go_ret
        exact ⟨rfl, HB.out.trans (HV4.out.mono HB.out.size)⟩
      | true =>
        go_enter Try.func8, Try.ntmps8
        go_wp2_with fail
        refine (CU _).mono ?_
        rintro e w1 ⟨rfl, hb1⟩
        have HV1 := Lib.hid (bel_alloc (.cells #[.int .u16 (d1 : Int), .int .u64 (d2 : Int)] 25) hb1)
        clear hb1 CU a0 a1 a2 a3 a4 a5 a6
        obtain ⟨a0, a1, a2, a3, a4, a5, a6⟩ := HX.out _ HV1.out
        go_wp2_with fail
        refine (CG _).mono ?_
        rintro e w3 ⟨rfl, hb2⟩
        have HV3 := Lib.hid (HV1.out.trans (hb2.mono HV1.out.size))
        clear hb2 a0 a1 a2 a3 a4 a5 a6
        obtain ⟨a0, a1, a2, a3, a4, a5, a6⟩ := HX.out _ HV3.out
        go_wp2_with fail
        refine (CK _).mono ?_
        rintro e w4 ⟨rfl, hb2⟩
        have HV4 := Lib.hid (HV3.out.trans (hb2.mono HV3.out.size))
        clear hb2 a0 a1 a2 a3 a4 a5 a6
        obtain ⟨a0, a1, a2, a3, a4, a5, a6⟩ := HX.out _ HV4.out
        go_wp2_with fail
        refine (CL _ HV4.out).mono ?_
        rintro e w5 ⟨rfl, hb2⟩
        have HV5 := Lib.hid (HV4.out.trans (hb2.mono HV4.out.size))
        clear hb2 a0 a1 a2 a3 a4 a5 a6
        obtain ⟨a0, a1, a2, a3, a4, a5, a6⟩ := HX.out _ HV5.out
        go_wp2
        go_ret
        exact ⟨rfl, HB.out.trans (HV5.out.mono HB.out.size)⟩
/-- all that layer event's laws ask of the program. -/
theorem pevent : PEvent where
  good := pgoodE_any
  same := psameE_any
  all := pallE_any
  clashes := pclashE_any
  kills := pkillsE_any
  copy := pcopy_any
  sort := fun w A l n c h hn => psortE_any w A l n c h (by omega)
  dots := fun w A l n c h hn hm => pdotsE_any w A l n c h hm
end Go.Proofs.Ytbaiiidkffafmaa.Ev
