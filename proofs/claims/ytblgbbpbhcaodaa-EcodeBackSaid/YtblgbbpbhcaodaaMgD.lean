/- Words and contracts that the proofs of this seat stand on, part 4 of 14. -/
import Derived.Test.YtblgbbpbhcaodaaMgC
import Derived.ShutString
import Derived.ChangeOld
import Derived.Deep.DeepHandedRow
import Derived.Deep.Matrix
import Derived.SizedLaws
import Derived.Deep.SlicePairs
import Derived.Lib.SmallJoins
import Derived.WalkKit
import Derived.Laws.BitsAllLaws
import Derived.Laws.BytesArg
import Derived.Laws.Strings
import Derived.WalkSmall
import Derived.OpenShut
import Derived.Test.YtblgbbpbhcaodaaRows
import Derived.ProofKit
import Derived.Lib.Hide

/- The contract of the program's Good of layer event. For every event. -/
namespace Go.Proofs.Ytblgbbpbhcaodaa.Ev
open Go.ChangeShapes Go.WideShapes Go.ChangeAt Go.RowKit
set_option linter.unusedVariables false
set_option maxRecDepth 4000

theorem pfield_any (w : World) (f : Nat) (hf : f < 256) : Calls Try.prog 69 #[.int .u8 (f : Int)] w fun e w' => e = .returned (.bool (Fd.goodB f)) ∧ w' = w := by
  by_cases h1 : 1 ≤ f
  · have d1 : decide (1 ≤ (f : Int)) = true := decide_eq_true (by omega)
    have HR : Hid (Fd.goodB f = decide ((f : Int) ≤ 5)) := Lib.hid (by unfold Fd.goodB; rw [Bool.eq_iff_iff]; simp; omega)
    go_enter Try.func69, Try.ntmps69
    go_wp2
    all_goals
      go_ret
      exact ⟨ret_bool HR.out.symm, rfl⟩
  · have d1 : decide (1 ≤ (f : Int)) = false := decide_eq_false (by omega)
    have HR : Hid (Fd.goodB f = false) := Lib.hid (decide_eq_false (by omega))
    go_enter Try.func69, Try.ntmps69
    go_wp2
    all_goals
      go_ret
      exact ⟨ret_bool HR.out.symm, rfl⟩
set_option maxHeartbeats 8000000 in
/-- has an event what one of its kind has? -/
theorem pkind_any (w : World) (p : EV) (hf5 : p.fld < 256) (hsh : Short p.txt) :
    Calls Try.prog 54 #[p.val] w fun e w' => e = .returned (.bool (headB p.kind p.fld p.txt)) ∧ Below w.heap.size w w' := by
  have HB := Lib.hid (below_new w p.box)
  have hb := (box_new w p _ (Below.refl _ _)).all
  have CF := fun W => pfield_any W p.fld hf5
  have CT := fun W => Fd.ptext_any p.txt W (by unfold Short at hsh; omega)
  have he := empty_text p.txt
  obtain ⟨p1, p2, p3, p4, p5, p6, A, n, c⟩ := p
  simp only [EV.val]
  simp only [EV.box] at HB hb
  simp only at CF CT he hf5 hsh
  obtain ⟨a0, a1, a2, a3, a4, a5, a6⟩ := hb
  by_cases k1 : p3 = 1
  · have hd : Hid (headB p3 p5 p6 = (Fd.goodB p5 && Fd.textB p6.data.toList)) := Lib.hid (by unfold headB; rw [if_pos k1])
    have hk : ((p3 : Int) == 1) = true := by rw [beq_iff_eq]; omega
    rw [hd.out]
    clear hd he k1
    generalize Fd.textB p6.data.toList = tb at CT ⊢
    generalize Fd.goodB p5 = gb at CF ⊢
    cases gb with
    | true =>
      go_enter Try.func54, Try.ntmps54
      go_wp2_with fail
      refine (CF _).mono ?_
      rintro e w1 ⟨rfl, rfl⟩
      go_wp2_with fail
      refine (CT _).mono ?_
      rintro e w2 ⟨rfl, rfl⟩
      clear CF CT
      go_wp2
      go_ret
      exact ⟨rfl, HB.out⟩
    | false =>
      go_enter Try.func54, Try.ntmps54
      go_wp2_with fail
      refine (CF _).mono ?_
      rintro e w1 ⟨rfl, rfl⟩
      clear CF CT
      go_wp2
      go_ret
      exact ⟨rfl, HB.out⟩
  · have e1 : ((p3 : Int) == 1) = false := by rw [beq_eq_false_iff_ne]; omega
    by_cases k2 : p3 = 2
    · have hd : Hid (headB p3 p5 p6 = (decide (p5 = 0) && decide (p6 = ⟨#[]⟩))) := Lib.hid (by unfold headB; rw [if_neg k1, if_pos k2])
      have hk : ((p3 : Int) == 2) = true := by rw [beq_iff_eq]; omega
      rw [hd.out]
      clear hd CF CT k1 k2
      by_cases h0 : p5 = 0
      · have e2 : ((p5 : Int) == 0) = true := by rw [beq_iff_eq]; omega
        rw [decide_eq_true h0]
        clear h0
        generalize decide (p6 = ⟨#[]⟩) = tb at he ⊢
        go_enter Try.func54, Try.ntmps54
        go_wp2
        go_ret
        exact ⟨rfl, HB.out⟩
      · have e2 : ((p5 : Int) == 0) = false := by rw [beq_eq_false_iff_ne]; omega
        rw [decide_eq_false h0]
        clear h0 he
        go_enter Try.func54, Try.ntmps54
        go_wp2
        go_ret
        exact ⟨rfl, HB.out⟩
    · have hd : Hid (headB p3 p5 p6 = false) := Lib.hid (by unfold headB; rw [if_neg k1, if_neg k2])
      have e2 : ((p3 : Int) == 2) = false := by rw [beq_eq_false_iff_ne]; omega
      rw [hd.out]
      clear hd CF CT k1 k2 he
      go_enter Try.func54, Try.ntmps54
      go_wp2
      go_ret
      exact ⟨rfl, HB.out⟩

/-- may an event put out what it does? -/
def killsB (x : Evt) : Bool := decide (x.kills.length ≤ 256) && Dt.riseB x.kills && x.kills.all (fun d => !decide (d = x.dot) && Dt.mayD d)
def AllOk (e : Dt.Dot) (l : List Dt.Dot) (k : Nat) : Prop := (l.take k).all (fun d => !decide (d = e) && Dt.mayD d) = true
theorem ok_next {e x : Dt.Dot} {l : List Dt.Dot} {k : Nat} (h : AllOk e l k) (hx : l[k]? = some x) (h1 : x ≠ e) (h2 : Dt.mayD x = true) : AllOk e l (k + 1) := by
  unfold AllOk at *
  rw [List.take_add_one, hx, List.all_append, h]
  simp [h1, h2]
theorem ok_bad {e x : Dt.Dot} {l : List Dt.Dot} {k : Nat} (hx : l[k]? = some x) (h : x = e ∨ Dt.mayD x = false) : l.all (fun d => !decide (d = e) && Dt.mayD d) = false := by
  rw [List.all_eq_false]
  refine ⟨x, List.mem_of_getElem? hx, ?_⟩
  rcases h with h | h <;> simp [h]
theorem ok_done {e : Dt.Dot} {l : List Dt.Dot} {n : Nat} (hn : l.length = n) (h : AllOk e l n) : l.all (fun d => !decide (d = e) && Dt.mayD d) = true := by
  unfold AllOk at h
  rwa [List.take_of_length_le (by rw [hn]; exact Nat.le_refl _)] at h
theorem good_parts (x : Evt) : goodE x = ((Dt.unpackD x.cid).2 && Dt.mayD x.dot && headB x.kind x.fld x.txt && killsB x) := by
  unfold goodE killsB
  have e : x.kills.all (fun d => !decide (d = x.dot) && Dt.mayD d) = (x.kills.all Dt.mayD && !decide (x.dot ∈ x.kills)) := by
    rw [Bool.eq_iff_iff]
    simp only [List.all_eq_true, Bool.and_eq_true, Bool.not_eq_true', decide_eq_false_iff_not]
    constructor
    · intro h
      exact ⟨fun d hd => (h d hd).2, fun hm => (h _ hm).1 rfl⟩
    · rintro ⟨h1, h2⟩ d hd
      exact ⟨fun ee => h2 (ee ▸ hd), h1 d hd⟩
  rw [e]
  cases (Dt.unpackD x.cid).2 <;> cases Dt.mayD x.dot <;> cases headB x.kind x.fld x.txt <;> cases x.kills.all Dt.mayD <;> cases decide (x.kills.length ≤ 256) <;> cases Dt.riseB x.kills <;> cases decide (x.dot ∈ x.kills) <;> rfl
set_option maxHeartbeats 8000000 in
theorem pkillsB_any (w : World) (p : EV) (x : Evt) (h : EventIs w w.heap.size p x) :
    Calls Try.prog 55 #[p.val] w fun e w' => e = .returned (.bool (killsB x)) ∧ Below w.heap.size w w' := by
  have HK := Lib.hid (h.up (below_new w p.box)).kills
  have HB := Lib.hid (below_new w p.box)
  have hb := box_new w p _ (Below.refl _ _)
  have HX := Lib.hid (fun (V : World) (hV : Below (w.alloc p.box).heap.size (w.alloc p.box) V) => (hb.kept hV).all)
  have hdot := is_dot h
  have HE : Hid (killsB x = (decide (x.kills.length ≤ 256) && Dt.riseB x.kills && x.kills.all (fun d => !decide (d = (p.dev, p.num)) && Dt.mayD d))) := Lib.hid (by unfold killsB; rw [hdot])
  generalize killsB x = ans at HE ⊢
  have hn := h.kills.len
  generalize x.kills = l at HK HE hn
  have CR := Dt.prising_any (w.alloc p.box) p.adr l p.len p.cap HK.out.len HK.out.dots (Nat.le_trans HK.out.wide (by decide))
  have h63 := h.kills.wide
  clear h hb hdot
  obtain ⟨p1, p2, p3, p4, p5, p6, A, n, c⟩ := p
  simp only [EV.val]
  simp only [EV.box] at HB HX HK CR
  simp only at HE hn h63 CR
  obtain ⟨a0, a1, a2, a3, a4, a5, a6⟩ := HX.out _ (Below.refl _ _)
  have HN := Lib.hid hn
  by_cases h256 : n ≤ 256
  · have e1 : decide ((n : Int) > 256) = false := decide_eq_false (by omega)
    have e1' : ¬ (256 : Int) < (n : Int) := by omega
    have HE2 : Hid (ans = (Dt.riseB l && l.all (fun d => !decide (d = (p1, p2)) && Dt.mayD d))) := Lib.hid (by rw [HE.out, hn, decide_eq_true h256]; rfl)
    clear HE hn
    cases hr : Dt.riseB l with
    | false =>
      have hd : Hid (ans = false) := Lib.hid (by rw [HE2.out, hr]; rfl)
      rw [hr] at CR
      clear hr HE2
      go_enter Try.func55, Try.ntmps55
      go_wp2_with fail
      refine CR.mono ?_
      rintro e w1 ⟨rfl, hb1⟩
      have HW := Lib.hid (HB.out.trans (hb1.mono HB.out.size))
      clear hb1 CR a0 a1 a2 a3 a4 a5 a6
      go_wp2
      go_ret
      exact ⟨ret_bool hd.out.symm, HW.out⟩
    | true =>
      have HE3 : Hid (ans = l.all (fun d => !decide (d = (p1, p2)) && Dt.mayD d)) := Lib.hid (by rw [HE2.out, hr]; rfl)
      rw [hr] at CR
      clear hr HE2
      go_enter Try.func55, Try.ntmps55
      go_wp2_with fail
      refine CR.mono ?_
      rintro e w1 ⟨rfl, hb1⟩
      have HV1 := Lib.hid hb1
      clear a0 a1 a2 a3 a4 a5 a6
      obtain ⟨a0, a1, a2, a3, a4, a5, a6⟩ := HX.out _ hb1
      clear hb1 CR
      go_wp2
      clear a0 a1 a2 a3 a4 a5 a6
      go_loopw [18] (fun i wr => ∃ k : Nat, k ≤ n ∧ i = .int .i64 (k : Int) ∧ AllOk (p1, p2) l k ∧ Below (w.alloc (.cells #[.int .u16 (p1 : Int), .int .u64 (p2 : Int), .int .u8 (p3 : Int), .int .u64 (p4 : Int), .int .u8 (p5 : Int), .string p6, .slice A n c] 40)).heap.size (w.alloc (.cells #[.int .u16 (p1 : Int), .int .u64 (p2 : Int), .int .u8 (p3 : Int), .int .u64 (p4 : Int), .int .u8 (p5 : Int), .string p6, .slice A n c] 40)) wr) (fun i _ => n - (intOf i).toNat)
      case atStart => exact ⟨0, Nat.zero_le _, rfl, by simp [AllOk], HV1.out⟩
      case round =>
        obtain ⟨k, hk, rfl, hok, hw⟩ := hrel
        have HOK := Lib.hid hok
        have HW := Lib.hid hw
        by_cases hlt : k < n
        · obtain ⟨ad, d, rfl, hB, hld, hd1, hd2, hcs⟩ := HK.out.dots.cells (k := k) (by rw [HN.out]; exact hlt)
          obtain ⟨c0, c1⟩ := hcs wr hw
          have hw2 : Below (w.alloc (.cells #[.int .u16 (p1 : Int), .int .u64 (p2 : Int), .int .u8 (p3 : Int), .int .u64 (p4 : Int), .int .u8 (p5 : Int), .string p6, .slice (some ad) n c] 40)).heap.size (w.alloc (.cells #[.int .u16 (p1 : Int), .int .u64 (p2 : Int), .int .u8 (p3 : Int), .int .u64 (p4 : Int), .int .u8 (p5 : Int), .string p6, .slice (some ad) n c] 40)) (wr.alloc (.cells #[.int .u16 (d.1 : Int), .int .u64 (d.2 : Int)] 37)) := hw.alloc hw.size _
          have HW2 := Lib.hid hw2
          clear hw2
          obtain ⟨a0, a1, a2, a3, a4, a5, a6⟩ := HX.out _ HW2.out
          have b0 : (wr.alloc (.cells #[.int .u16 (d.1 : Int), .int .u64 (d.2 : Int)] 37)).cell? ⟨wr.heap.size, 0, none⟩ = some (.int .u16 (d.1 : Int)) := by simp [go_sem]
          have b1 : (wr.alloc (.cells #[.int .u16 (d.1 : Int), .int .u64 (d.2 : Int)] 37)).cell? ⟨wr.heap.size, 1, none⟩ = some (.int .u64 (d.2 : Int)) := by simp [go_sem]
          have CG := Dt.pgood_any (wr.alloc (.cells #[.int .u16 (d.1 : Int), .int .u64 (d.2 : Int)] 37)) d.1 d.2
          have HLD := Lib.hid hld
          clear hld hcs hw hok hd1 hd2
          obtain ⟨d1, d2⟩ := d
          simp only at c0 c1 b0 b1 CG HW2 HLD a0 a1 a2 a3 a4 a5 a6
          have hz : (k : Int) < (n : Int) := by omega
          by_cases hsame : d1 = p1 ∧ d2 = p2
          · obtain ⟨rfl, rfl⟩ := hsame
            have hd : Hid (ans = false) := Lib.hid (by rw [HE3.out]; exact ok_bad HLD.out (.inl rfl))
            clear CG
            go_wp2
            go_ret
            exact ⟨ret_bool hd.out.symm, HB.out.trans (HW2.out.mono HB.out.size)⟩
          · have hne : ((d1 : Int) == (p1 : Int)) = false ∨ (d1 = p1 ∧ ((d2 : Int) == (p2 : Int)) = false) := by
              by_cases e : d1 = p1
              · refine .inr ⟨e, ?_⟩; rw [beq_eq_false_iff_ne]; intro e2; exact hsame ⟨e, by omega⟩
              · refine .inl ?_; rw [beq_eq_false_iff_ne]; omega
            cases hm : Dt.mayD (d1, d2) with
            | false =>
              have hd : Hid (ans = false) := Lib.hid (by rw [HE3.out]; exact ok_bad HLD.out (.inr hm))
              rw [hm] at CG
              clear hm hsame
              rcases hne with q | ⟨rfl, q⟩
              all_goals
                go_wp2_with fail
                refine CG.mono ?_
                rintro e w3 ⟨rfl, hb3⟩
                have HW3 := Lib.hid (HW2.out.trans (hb3.mono HW2.out.size))
                clear hb3 CG a0 a1 a2 a3 a4 a5 a6 b0 b1 c0 c1
                go_wp2
                go_ret
                exact ⟨ret_bool hd.out.symm, HB.out.trans (HW3.out.mono HB.out.size)⟩
            | true =>
              have HO2 := Lib.hid (ok_next HOK.out HLD.out (fun e => hsame (by injection e with e1 e2; exact ⟨e1, e2⟩)) hm)
              rw [hm] at CG
              clear hm hsame
              rcases hne with q | ⟨rfl, q⟩
              all_goals
                go_wp2_with fail
                refine CG.mono ?_
                rintro e w3 ⟨rfl, hb3⟩
                have HW3 := Lib.hid (HW2.out.trans (hb3.mono HW2.out.size))
                clear hb3 CG a0 a1 a2 a3 a4 a5 a6 b0 b1 c0 c1
                go_wp2
                go_roundw
                case rel => exact ⟨k + 1, by omega, by go_num, HO2.out, HW3.out⟩
                case measure => simp [intOf]; omega
        · obtain rfl : k = n := by omega
          have hd : Hid (ans = true) := Lib.hid (by rw [HE3.out]; exact ok_done HN.out HOK.out)
          clear hok hw
          go_wp2
          go_ret
          exact ⟨ret_bool hd.out.symm, HB.out.trans (HW.out.mono HB.out.size)⟩
  · have e1 : decide ((n : Int) > 256) = true := decide_eq_true (by omega)
    have e1' : (256 : Int) < (n : Int) := by omega
    have hd : Hid (ans = false) := Lib.hid (by rw [HE.out, hn, decide_eq_false h256]; rfl)
    clear HE CR h256
    go_enter Try.func55, Try.ntmps55
    go_wp2
    go_ret
    exact ⟨ret_bool hd.out.symm, HB.out⟩
set_option maxHeartbeats 8000000 in
theorem pgoodE_any (w : World) (p : EV) (x : Evt) (h : EventIs w w.heap.size p x) :
    Calls Try.prog 31 #[p.val] w fun e w' => e = .returned (.bool (goodE x)) ∧ Below w.heap.size w w' := by
  have HB := Lib.hid (below_new w p.box)
  have hb := box_new w p _ (Below.refl _ _)
  have HX := Lib.hid (fun (V : World) (hV : Below (w.alloc p.box).heap.size (w.alloc p.box) V) => (hb.kept hV).all)
  have HE := Lib.hid (h.up (below_new w p.box))
  have CU := fun W => Dt.punpack_any W p.cid (by rw [h.cid]; exact h.fits.cid)
  have CG := fun W => Dt.pgood_any W p.dev p.num
  have CK := fun W => pkind_any W p (by rw [h.fld]; exact h.fits.fld) (by rw [h.txt]; exact h.fits.txt)
  have CL := fun (W : World) (hW : Below (w.alloc p.box).heap.size (w.alloc p.box) W) => pkillsB_any W p x (HE.out.up hW)
  have hg : goodE x = ((Dt.unpackD p.cid).2 && Dt.mayD (p.dev, p.num) && headB p.kind p.fld p.txt && killsB x) := by rw [good_parts, h.cid, is_dot h, h.kind, h.fld, h.txt]
  rw [hg]
  clear hg h hb HE
  obtain ⟨p1, p2, p3, p4, p5, p6, A, n, c⟩ := p
  simp only [EV.val] at CK CL ⊢
  simp only [EV.box] at HB HX CL
  simp only at CU CG CK
  obtain ⟨a0, a1, a2, a3, a4, a5, a6⟩ := HX.out _ (Below.refl _ _)
  generalize (Dt.unpackD p4).1.1 = d1 at CU
  generalize (Dt.unpackD p4).1.2 = d2 at CU
  generalize (Dt.unpackD p4).2 = b1 at CU ⊢
  generalize Dt.mayD (p1, p2) = b2 at CG ⊢
  generalize headB p3 p5 p6 = b3 at CK ⊢
  generalize killsB x = b4 at CL ⊢
  cases b1 with
  | false =>
    go_enter Try.func31, Try.ntmps31
    go_wp2_with fail
    refine (CU _).mono ?_
    rintro e w1 ⟨rfl, hb1⟩
    have HV1 := Lib.hid (bel_alloc (.cells #[.int .u16 (d1 : Int), .int .u64 (d2 : Int)] 37) hb1)
    clear hb1 CU a0 a1 a2 a3 a4 a5 a6
    obtain ⟨a0, a1, a2, a3, a4, a5, a6⟩ := HX.out _ HV1.out
    go_wp2
    go_ret
    exact ⟨rfl, HB.out.trans (HV1.out.mono HB.out.size)⟩
  | true =>
    cases b2 with
    | false =>
      go_enter Try.func31, Try.ntmps31
      go_wp2_with fail
      refine (CU _).mono ?_
      rintro e w1 ⟨rfl, hb1⟩
      have HV1 := Lib.hid (bel_alloc (.cells #[.int .u16 (d1 : Int), .int .u64 (d2 : Int)] 37) hb1)
      clear hb1 CU a0 a1 a2 a3 a4 a5 a6
      obtain ⟨a0, a1, a2, a3, a4, a5, a6⟩ := HX.out _ HV1.out
      go_wp2_with fail
      refine (CG _).mono ?_
      rintro e w3 ⟨rfl, hb2⟩
      have HV3 := Lib.hid (HV1.out.trans (hb2.mono HV1.out.size))
      clear hb2 a0 a1 a2 a3 a4 a5 a6
      obtain ⟨a0, a1, a2, a3, a4, a5, a6⟩ := HX.out _ HV3.out
      go_wp2
      go_ret
      exact ⟨rfl, HB.out.trans (HV3.out.mono HB.out.size)⟩
    | true =>
      cases b3 with
      | false =>
        go_enter Try.func31, Try.ntmps31
        go_wp2_with fail
        refine (CU _).mono ?_
        rintro e w1 ⟨rfl, hb1⟩
        have HV1 := Lib.hid (bel_alloc (.cells #[.int .u16 (d1 : Int), .int .u64 (d2 : Int)] 37) hb1)
        clear hb1 CU a0 a1 a2 a3 a4 a5 a6
        obtain ⟨a0, a1, a2, a3, a4, a5, a6⟩ := HX.out _ HV1.out
        go_wp2_with fail
        refine (CG _).mono ?_
        rintro e w3 ⟨rfl, hb2⟩
        have HV3 := Lib.hid (HV1.out.trans (hb2.mono HV1.out.size))
        clear hb2 a0 a1 a2 a3 a4 a5 a6
        obtain ⟨a0, a1, a2, a3, a4, a5, a6⟩ := HX.out _ HV3.out
        go_wp2_with fail
        refine (CK _).mono ?_
        rintro e w4 ⟨rfl, hb2⟩
        have HV4 := Lib.hid (HV3.out.trans (hb2.mono HV3.out.size))
        clear hb2 a0 a1 a2 a3 a4 a5 a6
        obtain ⟨a0, a1, a2, a3, a4, a5, a6⟩ := HX.out _ HV4.out
        go_wp2
        go_ret
        exact ⟨rfl, HB.out.trans (HV4.out.mono HB.out.size)⟩
      | true =>
        go_enter Try.func31, Try.ntmps31
        go_wp2_with fail
        refine (CU _).mono ?_
        rintro e w1 ⟨rfl, hb1⟩
        have HV1 := Lib.hid (bel_alloc (.cells #[.int .u16 (d1 : Int), .int .u64 (d2 : Int)] 37) hb1)
        clear hb1 CU a0 a1 a2 a3 a4 a5 a6
        obtain ⟨a0, a1, a2, a3, a4, a5, a6⟩ := HX.out _ HV1.out
        go_wp2_with fail
        refine (CG _).mono ?_
        rintro e w3 ⟨rfl, hb2⟩
        have HV3 := Lib.hid (HV1.out.trans (hb2.mono HV1.out.size))
        clear hb2 a0 a1 a2 a3 a4 a5 a6
        obtain ⟨a0, a1, a2, a3, a4, a5, a6⟩ := HX.out _ HV3.out
        go_wp2_with fail
        refine (CK _).mono ?_
        rintro e w4 ⟨rfl, hb2⟩
        have HV4 := Lib.hid (HV3.out.trans (hb2.mono HV3.out.size))
        clear hb2 a0 a1 a2 a3 a4 a5 a6
        obtain ⟨a0, a1, a2, a3, a4, a5, a6⟩ := HX.out _ HV4.out
        go_wp2_with fail
        refine (CL _ HV4.out).mono ?_
        rintro e w5 ⟨rfl, hb2⟩
        have HV5 := Lib.hid (HV4.out.trans (hb2.mono HV4.out.size))
        clear hb2 a0 a1 a2 a3 a4 a5 a6
        obtain ⟨a0, a1, a2, a3, a4, a5, a6⟩ := HX.out _ HV5.out
        go_wp2
        go_ret
        exact ⟨rfl, HB.out.trans (HV5.out.mono HB.out.size)⟩
end Go.Proofs.Ytblgbbpbhcaodaa.Ev

/- What the frames of layer event's laws share: an event, a list of events, a dot that came in, as the walks take them. No condition. -/
namespace Go.Proofs.Ytblgbbpbhcaodaa.Ev
open Go.ChangeShapes Go.WideShapes Go.ChangeAt Go.RowKit Go.Deep Go.Joins
set_option linter.unusedVariables false
set_option maxRecDepth 4000

theorem own : ownKnob Try.prog.godebug = none := by kernel_rfl
theorem laidOut : laidOutB Try.prog = true := by kernel_rfl
theorem cells16 : Try.prog.cellsOf 34 = 1 := by kernel_rfl
theorem cells64 : Try.prog.cellsOf 35 = 1 := by kernel_rfl
theorem cellsD : Try.prog.cellsOf 37 = 2 := by kernel_rfl
theorem cellsE : Try.prog.cellsOf 40 = 7 := by kernel_rfl
theorem bytesD : Try.prog.bytesOf 37 = 16 := by kernel_rfl
theorem bytesE : Try.prog.bytesOf 40 = 80 := by kernel_rfl
theorem wf_u64 {n : Int} (h : (Lit.int .u64 n).wf = true) : ∃ s : Nat, n = (s : Int) ∧ s < 18446744073709551616 := by
  simp [Lit.wf, IntKind.min, IntKind.max, IntKind.bits, IntKind.signed] at h
  exact ⟨n.toNat, by omega, by omega⟩
theorem wf_u16 {n : Int} (h : (Lit.int .u16 n).wf = true) : ∃ s : Nat, n = (s : Int) ∧ s < 65536 := by
  simp [Lit.wf, IntKind.min, IntKind.max, IntKind.bits, IntKind.signed] at h
  exact ⟨n.toNat, by omega, by omega⟩
theorem wf_u8 {n : Int} (h : (Lit.int .u8 n).wf = true) : ∃ s : Nat, n = (s : Int) ∧ s < 256 := by
  simp [Lit.wf, IntKind.min, IntKind.max, IntKind.bits, IntKind.signed] at h
  exact ⟨n.toNat, by omega, by omega⟩
/-- each slice and text within weighs at most what an argument may weigh. -/
def Held {H : Type} (t : TypeId) (d : DataW H) : Prop := ∀ n ∈ d.weights Try.prog t, n ≤ reachBytes
theorem weights_all {H : Type} {P : Program} {e : TypeId} {l : List (DataW H)} {d : DataW H} (h : d ∈ l) : ∀ n ∈ d.weights P e, n ∈ DataW.weightsAll P e l := by
  induction l with
  | nil => cases h
  | cons x l ih =>
    intro n hn
    simp only [DataW.weightsAll, List.mem_append]
    rcases List.mem_cons.1 h with rfl | h
    · exact Or.inl hn
    · exact Or.inr (ih h n hn)
theorem Held.elem {H : Type} {t e : TypeId} {elems spare : List (DataW H)} (h : Held t (.slice elems spare)) (hu : Try.prog.underlying t = some (.slice e)) {d : DataW H} (hd : d ∈ elems) : Held e d := fun n hn =>
  h n (by simp only [DataW.weights, hu, List.mem_cons, List.mem_append]; exact Or.inr (Or.inl (weights_all hd n hn)))
theorem Held.length {H : Type} {t e : TypeId} {elems spare : List (DataW H)} (h : Held t (.slice elems spare)) (hu : Try.prog.underlying t = some (.slice e)) : (elems.length + spare.length) * Try.prog.bytesOf e ≤ reachBytes :=
  h _ (by simp [DataW.weights, hu])
theorem Held.part {H : Type} {t t' : TypeId} {fs : Array Field} {parts : List (DataW H)} (h : Held t (.agg parts)) (hu : Try.prog.underlying t = some (.struct fs)) {j : Nat} {d : DataW H} (ht : (fs.toList.map (·.type))[j]? = some t') (hd : parts[j]? = some d) : Held t' d := fun n hn =>
  h n (by simp only [DataW.weights, hu]; exact DataW.weights_mem_each ht hd n hn)
theorem list_of {α : Type} {Q : Nat → α → Prop} (n : Nat) (h : ∀ i, i < n → ∃ t, Q i t) : ∃ L : List α, L.length = n ∧ ∀ (i : Nat) (t : α), L[i]? = some t → Q i t := by
  induction n with
  | zero => exact ⟨[], rfl, fun i t hi => by simp at hi⟩
  | succ n ih =>
    obtain ⟨L, hL, hQ⟩ := ih (fun i hi => h i (by omega))
    obtain ⟨t, ht⟩ := h n (by omega)
    refine ⟨L ++ [t], by simp [hL], fun i u hu => ?_⟩
    rcases Nat.lt_or_ge i n with hi | hi
    · rw [List.getElem?_append_left (by omega)] at hu
      exact hQ i u hu
    · rw [List.getElem?_append_right (by omega), hL] at hu
      have e : i = n := by
        rcases Nat.eq_or_lt_of_le hi with e | e
        · exact e.symm
        · rw [List.getElem?_eq_none (by simp; omega)] at hu; cases hu
      subst e
      simp at hu
      subst hu
      exact ht
theorem lies_dots {w : World} {B : Nat} {ad : Addr} (hB : ad.block < B) (L : List Dt.Dot) (h : ∀ (i : Nat) (r : Dt.Dot), L[i]? = some r → w.cell? (ad.add (i * 2)) = some (.int .u16 (r.1 : Int)) ∧ w.cell? (ad.add (i * 2 + 1)) = some (.int .u64 (r.2 : Int))) : Dt.Lies w B (some ad) (Dt.dv L) := fun _ => by
  refine ⟨ad, rfl, hB, fun j u hu => ?_⟩
  have hj : j < (Dt.dv L).length := (List.getElem?_eq_some_iff.1 hu).1
  rw [Dt.dv_length] at hj
  have hd : j / 2 < L.length := by omega
  have hg := List.getElem?_eq_getElem hd
  obtain ⟨g1, g2⟩ := Dt.dv_get hg
  obtain ⟨c1, c2⟩ := h _ _ hg
  rcases Nat.mod_two_eq_zero_or_one j with h0 | h0
  · have e : j = j / 2 * 2 := by omega
    rw [e] at hu ⊢
    rw [g1] at hu
    cases hu
    exact c1
  · have e : j = j / 2 * 2 + 1 := by omega
    generalize hz : j / 2 = z at *
    subst e
    rw [g2] at hu
    cases hu
    exact c2

/-- a dot that came in; it reads as it did in every world. -/
theorem dot_of {H : Type} {enc : TypeId × Value → H} {W : World} {b0 : Nat} {v : Value} {d : DataW H} {p : List MemPlace} (hv : Value.okWide Try.prog W .any b0 37 v) (h : DataW.Trod enc Try.prog W 0 (fun _ => true) true 37 v d p) :
    ∃ r : Dt.Dot, v = .agg #[.int .u16 (r.1 : Int), .int .u64 (r.2 : Int)] ∧ r.1 < 65536 ∧ r.2 < 18446744073709551616 ∧ p = [] ∧ ∀ (W' : World) (sp : Nat → Bool), DataW.Trod enc Try.prog W' 0 sp true 37 v d p := by
  obtain ⟨c0, c1, y0, y1, m, rfl, rfl, rfl, hy0, hy1⟩ := open_agg2 Try.underlying37 (by kernel_rfl) cellsD hv h
  obtain ⟨a, e0, rfl, wa⟩ := DataW.trod_int Try.underlying34 hy0
  obtain ⟨b, e1, rfl, wb⟩ := DataW.trod_int Try.underlying35 hy1
  simp at e0 e1
  subst e0 e1
  have wa' := wa
  have wb' := wb
  obtain ⟨s, rfl, hs⟩ := wf_u16 wa
  obtain ⟨t, rfl, ht⟩ := wf_u64 wb
  exact ⟨(s, t), rfl, hs, ht, rfl, fun W' sp =>
    shut_agg2 (y0 := (.lit (.int .u16 (s : Int)), [])) (y1 := (.lit (.int .u64 (t : Int)), [])) Try.underlying37 (by kernel_rfl) cellsD ⟨1, by simp [DataW.trod, Try.underlying34, wa']⟩ ⟨1, by simp [DataW.trod, Try.underlying35, wb']⟩⟩
/-- dots that stand in a cell. -/
theorem dots_cell {H : Type} {enc : TypeId × Value → H} {W : World} {fuel : Nat} {v : Value} {d : DataW H} {p : List MemPlace} (h : DataW.trod enc Try.prog W 0 (fun _ => true) true fuel 38 [v] = some (d, p)) (hz : Held 38 d) :
    ∃ (A : Option Addr) (n c : Nat) (l : List Dt.Dot), v = .slice A n c ∧ DotsAt W W.heap.size A l n c ∧ n ≤ 8796093021952 := by
  rcases open_slice_pairs Try.underlying38 Try.underlying37 cellsD rfl rfl cells16 cells64 h with ⟨hcs, _⟩ | ⟨x, n0, c0, m, f0, V0, V1, D0, D1, P0, P1, hcs, hb, hl, hm, hmm, hx, hi⟩
  · obtain rfl := (List.cons.inj hcs).1
    exact ⟨none, 0, 0, [], rfl, DotsAt.none_ _ _, by decide⟩
  · obtain rfl := (List.cons.inj hcs).1
    unfold maxLen at hm
    have hmc : m = c0 := by simpa using hmm
    obtain rfl := (Prod.mk.inj hx).1
    have hw := hz.length Try.underlying38
    rw [bytesD] at hw
    simp only [List.length_map, List.length_range, reachBytes] at hw
    have each : ∀ i, i < n0 → ∃ r : Dt.Dot, (r.1 < 65536 ∧ r.2 < 18446744073709551616) ∧ W.cell? (x.add (i * 2)) = some (.int .u16 (r.1 : Int)) ∧ W.cell? (x.add (i * 2 + 1)) = some (.int .u64 (r.2 : Int)) := by
      intro i hil
      obtain ⟨h0, h1, t0, t1⟩ := hi i (by omega)
      obtain ⟨z0, e0, _, w0⟩ := DataW.trod_int Try.underlying34 t0
      obtain ⟨z1, e1, _, w1⟩ := DataW.trod_int Try.underlying35 t1
      obtain ⟨s0, rfl, hs0⟩ := wf_u16 w0
      obtain ⟨s1, rfl, hs1⟩ := wf_u64 w1
      rw [(List.cons.inj e0).1] at h0
      rw [(List.cons.inj e1).1] at h1
      exact ⟨(s0, s1), ⟨hs0, hs1⟩, h0, h1⟩
    obtain ⟨L, hL, hQ⟩ := list_of n0 each
    refine ⟨some x, n0, c0, L, rfl, ⟨hL, (fun e => by cases e), hl, by omega, by omega, fun r hr => ?_, ?_⟩, by omega⟩
    · obtain ⟨i, hi', rfl⟩ := List.getElem_of_mem hr
      exact (hQ i _ (List.getElem?_eq_getElem hi')).1
    · rcases Nat.eq_zero_or_pos L.length with h0 | h0
      · rw [List.eq_nil_of_length_eq_zero h0]; exact Dt.Lies.none_ _ _ _
      · refine lies_dots ?_ L (fun i r hr => (hQ i r hr).2)
        have h1 := (hQ 0 _ (List.getElem?_eq_getElem h0)).2.1
        have h2 := World.block_lt_of_cell? W _ h1
        rwa [block_add] at h2
/-- an event's cells. -/
theorem evt_cells {H : Type} {enc : TypeId × Value → H} {W : World} {fuel : Nat} {cs : List Value} {d : DataW H} {p : List MemPlace} (h : DataW.trod enc Try.prog W 0 (fun _ => true) true fuel 40 cs = some (d, p)) (hz : Held 40 d) :
    ∃ (q : EV) (x : Evt), cs = q.cells ∧ EventIs W W.heap.size q x ∧ q.len ≤ 8796093021952 := by
  obtain ⟨xs, f1, _, hxy, hlen, hxl, hfd⟩ := DataW.trod_struct Try.underlying40 h
  rw [cellsE] at hlen
  match xs, hxl, cs, hlen with
  | [y0, y1, y2, y3, y4, y5], _, [u0, u1, u2, u3, u4, u5, u6], _ =>
    have g0 := hfd 0 _ rfl
    have g1 := hfd 1 _ rfl
    have g2 := hfd 2 _ rfl
    have g3 := hfd 3 _ rfl
    have g4 := hfd 4 _ rfl
    have g5 := hfd 5 _ rfl
    simp only [List.getElem?_cons_zero, List.getElem?_cons_succ] at g0 g1 g2 g3 g4 g5
    have hD : d = .agg ([y0, y1, y2, y3, y4, y5].map (·.1)) := congrArg Prod.fst hxy
    subst hD
    obtain ⟨zs, f2, _, hzy, _, hzl, hfz⟩ := DataW.trod_struct Try.underlying37 g0
    match zs, hzl with
    | [z0, z1], _ =>
      have k0 := hfz 0 _ rfl
      have k1 := hfz 1 _ rfl
      simp only [List.getElem?_cons_zero, List.getElem?_cons_succ] at k0 k1
      obtain ⟨i0, e0, _, w0⟩ := DataW.trod_int Try.underlying34 k0
      obtain ⟨i1, e1, _, w1⟩ := DataW.trod_int Try.underlying35 k1
      obtain ⟨i2, e2, _, w2⟩ := DataW.trod_int Try.underlying5 g1
      obtain ⟨i3, e3, _, w3⟩ := DataW.trod_int Try.underlying35 g2
      obtain ⟨i4, e4, _, w4⟩ := DataW.trod_int Try.underlying5 g3
      obtain ⟨s, e5, hs1, _⟩ := DataW.trod_string Try.underlying9 g4
      obtain ⟨y51, y52⟩ := y5
      have g5' : DataW.trod enc Try.prog W 0 (fun _ => true) true f1 38 [u6] = some (y51, y52) := g5
      obtain ⟨A, n, c, l, e6, hT, hn⟩ := dots_cell g5' (hz.part (j := 5) Try.underlying40 rfl rfl)
      have hst : Held 9 y4.1 := hz.part (j := 4) Try.underlying40 rfl rfl
      rw [hs1] at hst
      have hsl := hst s.data.toList.length (by simp [DataW.weights])
      obtain rfl := (List.cons.inj e0).1
      obtain rfl := (List.cons.inj e1).1
      obtain rfl := (List.cons.inj e2).1
      obtain rfl := (List.cons.inj e3).1
      obtain rfl := (List.cons.inj e4).1
      obtain rfl := (List.cons.inj e5).1
      subst e6
      obtain ⟨s0, rfl, hs0⟩ := wf_u16 w0
      obtain ⟨s1, rfl, hs1⟩ := wf_u64 w1
      obtain ⟨s2, rfl, hs2⟩ := wf_u8 w2
      obtain ⟨s3, rfl, hs3⟩ := wf_u64 w3
      obtain ⟨s4, rfl, hs4⟩ := wf_u8 w4
      refine ⟨⟨s0, s1, s2, s3, s4, s, A, n, c⟩, ⟨(s0, s1), s2, s3, s4, s, l⟩, rfl, ⟨rfl, rfl, rfl, rfl, rfl, rfl, ⟨⟨hs0, hs1⟩, hs2, hs3, hs4, ?_⟩, hT⟩, hn⟩
      unfold Short
      simp only [reachBytes, Array.length_toList] at hsl
      have e : s.data.size = s.size := rfl
      show s.size ≤ 140737488355328
      omega
/-- an event that came in. -/
theorem evt_of {H : Type} {enc : TypeId × Value → H} {W : World} {b0 : Nat} {v : Value} {d : DataW H} {p : List MemPlace} (hv : Value.okWide Try.prog W .any b0 40 v) (h : DataW.Trod enc Try.prog W 0 (fun _ => true) true 40 v d p) (hz : Held 40 d) :
    ∃ (q : EV) (x : Evt), v = q.val ∧ EventIs W W.heap.size q x ∧ q.len ≤ 8796093021952 := by
  obtain ⟨cs, rfl, hsz⟩ := okWide_struct Try.underlying40 hv
  obtain ⟨fuel, hf⟩ := h
  obtain ⟨q, x, e, hq, hn⟩ := evt_cells hf hz
  refine ⟨q, x, ?_, hq, hn⟩
  have e2 : cs.toList = q.cells := e
  have e3 : cs = q.cells.toArray := by rw [← e2]
  rw [e3]
/-- events that came in. -/
theorem evts_of {H : Type} {enc : TypeId × Value → H} {W : World} {A : Option Addr} {n c : Nat} {d : DataW H} {p : List MemPlace} (h : DataW.Trod enc Try.prog W 0 (fun _ => true) true 22 (.slice A n c) d p) (hz : Held 22 d) :
    ∃ l : List Evt, EventsAt W W.heap.size A l n c := by
  obtain ⟨fuel, hf⟩ := h
  rcases open_slice Try.underlying22 hf with ⟨hcs, _⟩ | ⟨x, n0, c0, m, f0, D, Pl, hcs, hb, hl, hm, hmm, hx, hi⟩
  · simp [Value.cells] at hcs
    obtain ⟨rfl, rfl, rfl⟩ := hcs
    exact ⟨[], EventsAt.none_ _ _⟩
  · simp [Value.cells] at hcs
    obtain ⟨rfl, rfl, rfl⟩ := hcs
    unfold maxLen at hm
    have hmc : m = c := by simpa using hmm
    obtain rfl := (Prod.mk.inj hx).1
    have hw := hz.length Try.underlying22
    rw [bytesE] at hw
    simp only [List.length_map, List.length_range, reachBytes] at hw
    have each : ∀ i, i < n → ∃ r : EV × Evt, EventIs W W.heap.size r.1 r.2 ∧ ∀ j (hj : j < r.1.cells.length), W.cell? (x.add (i * 7 + j)) = some r.1.cells[j] := by
      intro i hil
      obtain ⟨cs', k1, k2⟩ := hi i (by omega)
      rw [cellsE] at k1
      obtain ⟨_, hlen, hcell⟩ := World.cells?_some k1
      have hh : Held 40 (D i) := hz.elem Try.underlying22 (List.mem_map.2 ⟨i, List.mem_range.2 hil, rfl⟩)
      obtain ⟨q, y, rfl, hq, _⟩ := evt_cells k2 hh
      refine ⟨(q, y), hq, fun j hj => ?_⟩
      have := hcell j hj
      rw [add_add] at this
      rw [this]
      exact List.getElem?_eq_getElem hj
    obtain ⟨L, hL, hQ⟩ := list_of n each
    refine ⟨L.map (fun r => r.2), ⟨by rw [List.length_map, hL], (fun e => by cases e), hl, by omega, by omega, L.map (fun r => r.1), fun h0 => ?_, by rw [List.length_map, List.length_map], ?_⟩⟩
    · rw [ev_length, List.length_map] at h0
      have h1 := (hQ 0 _ (List.getElem?_eq_getElem (show 0 < L.length by omega))).2 0 (show 0 < 7 by decide)
      have h2 := World.block_lt_of_cell? W _ h1
      rw [block_add] at h2
      refine ⟨x, rfl, h2, fun j u hu => ?_⟩
      have hj : j < L.length * 7 := by have := (List.getElem?_eq_some_iff.1 hu).1; rwa [ev_length, List.length_map] at this
      have hk : j / 7 < L.length := by omega
      have hg : (L.map (fun r => r.1))[j / 7]? = some (L[j / 7]).1 := by simp [hk]
      have hv := ev_get hg (j % 7) (by omega)
      rw [show j / 7 * 7 + j % 7 = j by omega, hu] at hv
      have hc := (hQ (j / 7) _ (List.getElem?_eq_getElem hk)).2 (j % 7) (show j % 7 < 7 by omega)
      rw [show j / 7 * 7 + j % 7 = j by omega] at hc
      rw [hc, ← List.getElem?_eq_getElem, ← hv]
    · intro k q y hq hy
      rw [List.getElem?_map] at hq hy
      obtain ⟨r, hr, rfl⟩ := Option.map_eq_some_iff.1 hq
      rw [hr] at hy
      cases hy
      exact (hQ k r hr).1
end Go.Proofs.Ytblgbbpbhcaodaa.Ev

/- Plain facts on numbers below 2^64 and their bytes that the claims of layer pack rest on: how many bytes, which ones, the number of some bytes, the order of bytes. No program is named here. -/
namespace Go.Proofs.Ytblgbbpbhcaodaa.Nu
open Go Go.RowKit

/-- How many bytes a number has. -/
def lenN : Nat → Nat → Nat
  | 0, _ => 0
  | f + 1, v => if v = 0 then 0 else 1 + lenN f (v / 256)
def blen (v : Nat) : Nat := lenN 8 v
/-- The lowest bytes, the highest one first. -/
def dig : Nat → Nat → List Nat
  | 0, _ => []
  | k + 1, v => v / 256 ^ k % 256 :: dig k v
/-- A number's bytes. -/
def enc (v : Nat) : List Nat := blen v :: dig (blen v) v
/-- The number of some bytes. -/
def val (l : List Nat) : Nat := l.foldl (fun a x => a * 256 + x) 0
def Small (l : List Nat) : Prop := ∀ x ∈ l, x < 256

theorem pos256 (k : Nat) : 0 < 256 ^ k := Nat.pow_pos (by decide)
theorem dig_length (k v : Nat) : (dig k v).length = k := by
  induction k with
  | zero => rfl
  | succ k ih => simp [dig, ih]
theorem dig_small (k v : Nat) : Small (dig k v) := by
  induction k with
  | zero => intro x hx; cases hx
  | succ k ih =>
    intro x hx
    rcases List.mem_cons.1 hx with rfl | hx
    · exact Nat.mod_lt _ (by decide)
    · exact ih x hx
theorem lenN_le (f v : Nat) : lenN f v ≤ f := by
  induction f generalizing v with
  | zero => exact Nat.le_refl _
  | succ f ih =>
    unfold lenN
    split
    · omega
    · have := ih (v / 256); omega
theorem blen_le (v : Nat) : blen v ≤ 8 := lenN_le 8 v
theorem lenN_zero (f : Nat) : lenN f 0 = 0 := by cases f <;> simp [lenN]
theorem blen_zero : blen 0 = 0 := lenN_zero 8
theorem lt_lenN (f v : Nat) (h : v < 256 ^ f) : v < 256 ^ lenN f v := by
  induction f generalizing v with
  | zero => simpa [lenN] using h
  | succ f ih =>
    unfold lenN
    split
    · rename_i hz; subst hz; decide
    · have h1 : v / 256 < 256 ^ f := by rw [Nat.pow_succ] at h; omega
      have := ih _ h1
      rw [Nat.add_comm, Nat.pow_succ]; omega
theorem le_lenN (f v k : Nat) (h : lenN f v = k + 1) : 256 ^ k ≤ v := by
  induction f generalizing v k with
  | zero => simp [lenN] at h
  | succ f ih =>
    unfold lenN at h
    split at h
    · omega
    · rename_i hz
      cases k with
      | zero => rw [Nat.pow_zero]; omega
      | succ k =>
        have := ih (v / 256) k (by omega)
        rw [Nat.pow_succ]; omega
theorem lt_blen {v : Nat} (h : v < 18446744073709551616) : v < 256 ^ blen v := lt_lenN 8 v (by exact h)
theorem le_blen {v k : Nat} (h : blen v = k + 1) : 256 ^ k ≤ v := le_lenN 8 v k h
theorem blen_of {v k : Nat} (hv : v < 18446744073709551616) (h0 : 256 ^ k ≤ v) (h1 : v < 256 ^ (k + 1)) : blen v = k + 1 := by
  have a := lt_blen hv
  have b : k < blen v := (Nat.pow_lt_pow_iff_right (by decide : 1 < 256)).1 (Nat.lt_of_le_of_lt h0 a)
  obtain ⟨m, hm⟩ : ∃ m, blen v = m + 1 := ⟨blen v - 1, by omega⟩
  have c := le_blen hm
  have d : m < k + 1 := (Nat.pow_lt_pow_iff_right (by decide : 1 < 256)).1 (Nat.lt_of_le_of_lt c h1)
  omega
theorem enc_length (v : Nat) : (enc v).length = 1 + blen v := by simp [enc, dig_length]; omega
theorem enc_small (v : Nat) : Small (enc v) := by
  intro x hx
  rcases List.mem_cons.1 hx with rfl | hx
  · have := blen_le v; omega
  · exact dig_small _ _ x hx

theorem dig_add (k v a : Nat) : dig k (v + a * 256 ^ k) = dig k v := by
  induction k generalizing a with
  | zero => rfl
  | succ k ih =>
    have e : v + a * 256 ^ (k + 1) = v + a * 256 * 256 ^ k := by rw [Nat.pow_succ, Nat.mul_comm (256 ^ k), ← Nat.mul_assoc]
    unfold dig
    rw [e, ih (a * 256), Nat.add_mul_div_right _ _ (pos256 k)]
    congr 1
    omega
theorem fold_val (l : List Nat) (a : Nat) : l.foldl (fun a x => a * 256 + x) a = a * 256 ^ l.length + val l := by
  induction l generalizing a with
  | nil => simp [val]
  | cons x t ih =>
    have h1 := ih (a * 256 + x)
    have h2 := ih (0 * 256 + x)
    unfold val
    rw [List.foldl_cons, List.foldl_cons, h1, h2, List.length_cons, Nat.pow_succ, Nat.add_mul, Nat.mul_assoc, Nat.mul_comm 256]
    simp
    omega
theorem val_cons (x : Nat) (t : List Nat) : val (x :: t) = x * 256 ^ t.length + val t := by
  have h := fold_val t (0 * 256 + x)
  unfold val at h ⊢
  rw [List.foldl_cons, h]
  simp
theorem val_snoc (l : List Nat) (x : Nat) : val (l ++ [x]) = val l * 256 + x := by
  unfold val; rw [List.foldl_append]; rfl
theorem val_nil : val [] = 0 := rfl
theorem val_lt {l : List Nat} (h : Small l) : val l < 256 ^ l.length := by
  induction l with
  | nil => simp [val]
  | cons x t ih =>
    have h1 := ih fun y hy => h y (List.mem_cons_of_mem _ hy)
    have h2 : x < 256 := h x List.mem_cons_self
    rw [val_cons, List.length_cons, Nat.pow_succ]
    have : x * 256 ^ t.length ≤ 255 * 256 ^ t.length := Nat.mul_le_mul_right _ (by omega)
    omega
theorem val_dig (k v : Nat) : val (dig k v) = v % 256 ^ k := by
  induction k with
  | zero => simp [dig, val, Nat.mod_one]
  | succ k ih =>
    unfold dig
    rw [val_cons, dig_length, ih, Nat.pow_succ, Nat.mod_mul, Nat.mul_comm (256 ^ k)]
    omega
theorem dig_val {l : List Nat} (h : Small l) : dig l.length (val l) = l := by
  induction l with
  | nil => rfl
  | cons x t ih =>
    have hs : Small t := fun y hy => h y (List.mem_cons_of_mem _ hy)
    have h1 := ih hs
    have h2 : x < 256 := h x List.mem_cons_self
    have h3 := val_lt hs
    rw [val_cons, List.length_cons]
    unfold dig
    rw [Nat.add_comm, dig_add, h1, Nat.add_mul_div_right _ _ (pos256 _), Nat.div_eq_of_lt h3]
    congr 1
    omega
theorem val_enc {v : Nat} (h : v < 18446744073709551616) : val (dig (blen v) v) = v := by
  rw [val_dig, Nat.mod_eq_of_lt (lt_blen h)]
/-- The highest byte is not 0. -/
theorem dig_head {v k : Nat} (h : v < 18446744073709551616) (hk : blen v = k + 1) : v / 256 ^ k % 256 ≠ 0 := by
  have h1 := le_blen hk
  have h2 := lt_blen h
  rw [hk, Nat.pow_succ] at h2
  have h3 : 1 ≤ v / 256 ^ k := (Nat.le_div_iff_mul_le (pos256 k)).2 (by omega)
  have h4 : v / 256 ^ k < 256 := (Nat.div_lt_iff_lt_mul (pos256 k)).2 (by omega)
  omega
/-- Bytes in the only form. -/
theorem enc_val {n : Nat} {t : List Nat} (hn : n ≤ 8) (ht : t.length = n) (hs : Small t) (h0 : ∀ x, t[0]? = some x → x ≠ 0) : enc (val t) = n :: t ∧ val t < 18446744073709551616 := by
  have hl := val_lt hs
  have h64 : val t < 18446744073709551616 := by
    have : 256 ^ t.length ≤ 256 ^ 8 := Nat.pow_le_pow_right (by decide) (by omega)
    exact Nat.lt_of_lt_of_le hl this
  have hb : blen (val t) = n := by
    cases t with
    | nil => subst ht; exact blen_zero
    | cons x r =>
      have hx : x ≠ 0 := h0 x rfl
      subst ht
      refine blen_of h64 ?_ hl
      rw [val_cons]
      have : 1 * 256 ^ r.length ≤ x * 256 ^ r.length := Nat.mul_le_mul_right _ (by omega)
      omega
  refine ⟨?_, h64⟩
  unfold enc
  rw [hb]
  subst ht
  rw [dig_val hs]

/-- Which of two lists of bytes stands ahead. -/
def less : List Nat → List Nat → Bool
  | _, [] => false
  | [], _ :: _ => true
  | a :: x, b :: y => decide (a < b) || (decide (a = b) && less x y)
theorem less_dig (k v w : Nat) : less (dig k v) (dig k w) = decide (v % 256 ^ k < w % 256 ^ k) := by
  induction k with
  | zero => simp [dig, less, Nat.mod_one]
  | succ k ih =>
    unfold dig less
    rw [ih, Nat.pow_succ, Nat.mod_mul, Nat.mod_mul]
    have h1 := Nat.mod_lt v (pos256 k)
    have h2 := Nat.mod_lt w (pos256 k)
    generalize v % 256 ^ k = p at *
    generalize w % 256 ^ k = q at *
    generalize v / 256 ^ k % 256 = a at *
    generalize w / 256 ^ k % 256 = b at *
    generalize 256 ^ k = m at *
    rw [Bool.eq_iff_iff]
    simp only [Bool.or_eq_true, Bool.and_eq_true, decide_eq_true_eq]
    rcases Nat.lt_trichotomy a b with h | rfl | h
    · have : m * (a + 1) ≤ m * b := Nat.mul_le_mul_left _ h
      rw [Nat.mul_succ] at this
      constructor
      · intro _; omega
      · intro _; exact .inl h
    · constructor
      · rintro (h | ⟨_, h⟩) <;> omega
      · intro h; exact .inr ⟨rfl, by omega⟩
    · have : m * (b + 1) ≤ m * a := Nat.mul_le_mul_left _ h
      rw [Nat.mul_succ] at this
      constructor
      · rintro (h | ⟨h, _⟩) <;> omega
      · intro _; omega
theorem less_enc {v w : Nat} (hv : v < 18446744073709551616) (hw : w < 18446744073709551616) : less (enc v) (enc w) = decide (v < w) := by
  have h1 := lt_blen hv
  have h2 := lt_blen hw
  unfold enc less
  rcases Nat.lt_trichotomy (blen v) (blen w) with h | h | h
  · obtain ⟨k, hk⟩ : ∃ k, blen w = k + 1 := ⟨blen w - 1, by omega⟩
    have h3 := le_blen hk
    have h4 : 256 ^ blen v ≤ 256 ^ k := Nat.pow_le_pow_right (by decide) (by omega)
    have h5 : v < w := by omega
    simp [h, h5]
  · rw [h, less_dig, Nat.mod_eq_of_lt (by rw [← h]; exact h1), Nat.mod_eq_of_lt h2]
    simp
  · obtain ⟨k, hk⟩ : ∃ k, blen v = k + 1 := ⟨blen v - 1, by omega⟩
    have h3 := le_blen hk
    have h4 : 256 ^ blen w ≤ 256 ^ k := Nat.pow_le_pow_right (by decide) (by omega)
    have h5 : ¬ v < w := by omega
    have h6 : ¬ blen v < blen w := by omega
    have h7 : ¬ blen v = blen w := by omega
    simp [h5, h6, h7]
theorem enc_inj {v w : Nat} (hv : v < 18446744073709551616) (hw : w < 18446744073709551616) : enc v = enc w ↔ v = w := by
  constructor
  · intro h
    unfold enc at h
    obtain ⟨h1, h2⟩ := List.cons.inj h
    have e1 := val_enc hv
    rw [h2, val_enc hw] at e1
    exact e1.symm
  · rintro rfl; rfl

/-- Bytes as a string. -/
def str (l : List Nat) : ByteArray := strOfNums (l.map fun x : Nat => (x : Int))
theorem str_toList (l : List Nat) : (str l).toList = l.map UInt8.ofNat := by
  rw [ByteArray.toList_eq, str, strOfNums_data, List.map_map]
  apply List.map_congr_left
  intro x _
  simp
theorem ofNat_inj {a b : Nat} (ha : a < 256) (hb : b < 256) : UInt8.ofNat a = UInt8.ofNat b ↔ a = b := by
  constructor
  · intro h
    have h2 := congrArg UInt8.toNat h
    rw [UInt8.toNat_ofNat', UInt8.toNat_ofNat'] at h2
    omega
  · rintro rfl; rfl
theorem ofNat_lt {a b : Nat} (ha : a < 256) (hb : b < 256) : UInt8.ofNat a < UInt8.ofNat b ↔ a < b := by
  rw [UInt8.lt_iff_toNat_lt, UInt8.toNat_ofNat', UInt8.toNat_ofNat']
  omega
theorem map_inj {l m : List Nat} (hl : Small l) (hm : Small m) : l.map UInt8.ofNat = m.map UInt8.ofNat ↔ l = m := by
  induction l generalizing m with
  | nil => cases m <;> simp
  | cons x t ih =>
    cases m with
    | nil => simp
    | cons y r =>
      rw [List.map_cons, List.map_cons, List.cons.injEq, List.cons.injEq, ofNat_inj (hl x List.mem_cons_self) (hm y List.mem_cons_self),
        ih (fun z hz => hl z (List.mem_cons_of_mem _ hz)) (fun z hz => hm z (List.mem_cons_of_mem _ hz))]
theorem str_eql {l m : List Nat} (hl : Small l) (hm : Small m) : ((str l).toList == (str m).toList) = decide (l = m) := by
  rw [str_toList, str_toList, Bool.eq_iff_iff, beq_iff_eq, decide_eq_true_eq]
  exact map_inj hl hm
theorem str_less {l m : List Nat} (hl : Small l) (hm : Small m) : Op.bytesLess (str l).toList (str m).toList = less l m := by
  rw [str_toList, str_toList]
  induction l generalizing m with
  | nil => cases m <;> rfl
  | cons x t ih =>
    cases m with
    | nil => rfl
    | cons y r =>
      have a := ofNat_lt (hl x List.mem_cons_self) (hm y List.mem_cons_self)
      have b := ofNat_inj (hl x List.mem_cons_self) (hm y List.mem_cons_self)
      have c := ih (m := r) (fun z hz => hl z (List.mem_cons_of_mem _ hz)) (fun z hz => hm z (List.mem_cons_of_mem _ hz))
      simp only [List.map_cons, Op.bytesLess, less, c]
      rw [Bool.eq_iff_iff]
      simp only [Bool.or_eq_true, Bool.and_eq_true, decide_eq_true_eq, beq_iff_eq, a, b]
end Go.Proofs.Ytblgbbpbhcaodaa.Nu

/- The contracts of layer shift's Len and Byte and of the document's answers for them, as layer num calls them: what each call returns, for every number of its parameters' types; the world stays as it was. -/
namespace Go.Proofs.Ytblgbbpbhcaodaa.Sh
open Go.ChangeShapes Go.WideShapes Go.ChangeAt Go.RowKit
set_option linter.unusedVariables false
set_option maxRecDepth 4000

theorem ret_int {k : IntKind} {a b : Int} (h : a = b) : Ending.returned (.int k a) = .returned (.int k b) := by rw [h]
theorem pow_pos' (k : Nat) : (0 : Int) < 2 ^ k := Int.pow_pos (by decide)
/-- A byte of a number. -/
def byt (v i : Int) : Int := if 0 ≤ i ∧ i < 8 then v / 2 ^ (i * 8).toNat % 256 else 0
/-- How many bytes. -/
def lenN : Nat → Int → Int
  | 0, _ => 0
  | f + 1, v => if v ≤ 0 then 0 else 1 + lenN f (v / 256)
def len (v : Int) : Int := lenN 8 v

theorem byte_any (v i : Int) (w : World) (h0 : 0 ≤ v) (h1 : v < 18446744073709551616) (i0 : -9223372036854775808 ≤ i) (i1 : i ≤ 9223372036854775807) :
    Calls Try.prog 63 #[.int .u64 v, .int .i64 i] w fun e w' => e = .returned (.int .u8 (byt v i)) ∧ w = w' := by
  by_cases h : 0 ≤ i ∧ i < 8
  · obtain ⟨a0, a1⟩ := h
    go_enter Try.func63, Try.ntmps63
    go_wp2
    go_ret
    exact ⟨ret_int (by unfold byt; rw [if_pos ⟨a0, a1⟩]), rfl⟩
  · by_cases h2 : i < 0
    · go_enter Try.func63, Try.ntmps63
      go_wp2
      go_ret
      exact ⟨ret_int (by unfold byt; rw [if_neg h]), rfl⟩
    · have h3 : 8 ≤ i := by omega
      have hd : decide (i < 8) = false := by simpa using h3
      go_enter Try.func63, Try.ntmps63
      go_wp2
      go_ret
      exact ⟨ret_int (by unfold byt; rw [if_neg h]), rfl⟩

theorem div_step (v : Int) (j : Nat) : v / 2 ^ (8 * (j + 1)) = v / 2 ^ (8 * j) / 256 := by
  rw [show 8 * (j + 1) = 8 * j + 8 from by omega, Int.pow_add, ← Int.ediv_ediv_of_nonneg (Int.le_of_lt (pow_pos' _))]
  rfl

set_option maxHeartbeats 400000 in
theorem rbyte_any (v i : Int) (w : World) (h0 : 0 ≤ v) (h1 : v < 18446744073709551616) (i0 : -9223372036854775808 ≤ i) (i1 : i ≤ 9223372036854775807) :
    Calls Try.prog 48 #[.int .u64 v, .int .i64 i] w fun e w' => e = .returned (.int .u8 (byt v i)) ∧ w = w' := by
  by_cases h : 0 ≤ i ∧ i < 8
  · have e1 : byt v i = v / 2 ^ (i * 8).toNat % 256 := if_pos h
    rw [e1]
    clear e1
    obtain ⟨a0, a1⟩ := h
    obtain ⟨n, rfl⟩ := Int.eq_ofNat_of_zero_le a0
    have hb : decide (7 < (n : Int)) = false := by simp; omega
    have hn : n < 8 := by omega
    go_enter Try.func48, Try.ntmps48
    go_wp2
    go_loop [0, 5] (fun x k => ∃ j : Nat, j ≤ n ∧ k = .int .i64 j ∧ x = .int .u64 (v / 2 ^ (8 * j))) (fun _ k => n - (intOf k).toNat)
    case atStart => exact ⟨0, by omega, rfl, by simp⟩
    case round =>
      obtain ⟨j, hj, rfl, rfl⟩ := hrel
      have q0 : 0 ≤ v / 2 ^ (8 * j) := Int.ediv_nonneg h0 (Int.le_of_lt (pow_pos' _))
      have q1 : v / 2 ^ (8 * j) < 18446744073709551616 := by
        have : v / 2 ^ (8 * j) ≤ v := Int.ediv_le_self _ h0
        omega
      by_cases hlt : j < n
      · go_wp2
        go_round
        case rel => exact ⟨j + 1, by omega, by go_num, by rw [div_step]⟩
        case measure => simp [intOf]; omega
      · go_wp2
        go_ret
        exact ⟨ret_int (by rw [show j = n from by omega, show ((n : Int) * 8).toNat = 8 * n from by omega]), rfl⟩
  · have e1 : byt v i = 0 := if_neg h
    rw [e1]
    clear e1
    by_cases h2 : i < 0
    · clear h
      go_enter Try.func48, Try.ntmps48
      go_wp2
      go_ret
      exact ⟨rfl, rfl⟩
    · have h3 : 7 < i := by omega
      have hb : decide (7 < i) = true := by simpa using h3
      clear h
      go_enter Try.func48, Try.ntmps48
      go_wp2
      go_ret
      exact ⟨rfl, rfl⟩

theorem len_step (f : Nat) (x : Int) (h0 : 0 < x) (h1 : x < 2 ^ (8 * f)) : ∃ g : Nat, f = g + 1 ∧ x / 256 < 2 ^ (8 * g) ∧ lenN f x = 1 + lenN g (x / 256) := by
  cases f with
  | zero => simp at h1; omega
  | succ g =>
    refine ⟨g, rfl, ?_, ?_⟩
    · rw [show 8 * (g + 1) = 8 * g + 8 from by omega, Int.pow_add] at h1
      rw [show (2 : Int) ^ 8 = 256 from rfl] at h1
      generalize (2 : Int) ^ (8 * g) = p at *
      omega
    · rw [lenN, if_neg (by omega)]

theorem lenN_zero (f : Nat) : lenN f 0 = 0 := by cases f <;> simp [lenN]

set_option maxHeartbeats 400000 in
theorem len_any (v : Int) (w : World) (h0 : 0 ≤ v) (h1 : v < 18446744073709551616) :
    Calls Try.prog 62 #[.int .u64 v] w fun e w' => e = .returned (.int .i64 (len v)) ∧ w = w' := by
  have hl : ∃ L, L = len v := ⟨_, rfl⟩
  obtain ⟨L, hL⟩ := hl
  rw [← hL]
  have HL := Lib.hid hL
  clear hL
  go_enter Try.func62, Try.ntmps62
  go_wp2
  go_loop [0, 3] (fun s t => ∃ (f : Nat) (x c : Int), 0 ≤ x ∧ x < 2 ^ (8 * f) ∧ x < 18446744073709551616 ∧ 0 ≤ c ∧ c + f ≤ 8 ∧ c + lenN f x = L ∧ s = .int .u64 x ∧ t = .int .i64 c) (fun s _ => (intOf s).toNat)
  case atStart => exact ⟨8, v, 0, h0, h1, h1, by omega, by omega, by rw [HL.out]; unfold len; omega, rfl, rfl⟩
  case round =>
    obtain ⟨f, x, c, x0, x1, x2, c0, c1, hc, rfl, rfl⟩ := hrel
    have HC := Lib.hid hc
    have HX := Lib.hid x1
    clear hc x1
    by_cases hx : 0 < x
    · have hb : (x != 0) = true := by simp; omega
      go_wp2
      go_round
      case rel =>
        obtain ⟨g, rfl, g1, g2⟩ := len_step f x hx HX.out
        exact ⟨g, x / 256, c + 1, by omega, g1, by omega, by omega, by omega, by have := HC.out; omega, rfl, rfl⟩
      case measure => simp [intOf]; omega
    · obtain rfl : x = 0 := by omega
      go_wp2
      go_ret
      exact ⟨ret_int (by have := HC.out; rw [lenN_zero] at this; omega), rfl⟩

set_option maxHeartbeats 400000 in
theorem rlen_any (v : Int) (w : World) (h0 : 0 ≤ v) (h1 : v < 18446744073709551616) :
    Calls Try.prog 47 #[.int .u64 v] w fun e w' => e = .returned (.int .i64 (len v)) ∧ w = w' := by
  have hl : ∃ L, L = len v := ⟨_, rfl⟩
  obtain ⟨L, hL⟩ := hl
  rw [← hL]
  have HL := Lib.hid hL
  clear hL
  go_enter Try.func47, Try.ntmps47
  go_wp2
  go_loop [0, 3] (fun s t => ∃ (f : Nat) (x c : Int), 0 ≤ x ∧ x < 2 ^ (8 * f) ∧ x < 18446744073709551616 ∧ 0 ≤ c ∧ c + f ≤ 8 ∧ c + lenN f x = L ∧ s = .int .u64 x ∧ t = .int .i64 c) (fun s _ => (intOf s).toNat)
  case atStart => exact ⟨8, v, 0, h0, h1, h1, by omega, by omega, by rw [HL.out]; unfold len; omega, rfl, rfl⟩
  case round =>
    obtain ⟨f, x, c, x0, x1, x2, c0, c1, hc, rfl, rfl⟩ := hrel
    have HC := Lib.hid hc
    have HX := Lib.hid x1
    clear hc x1
    by_cases hx : 0 < x
    · go_wp2
      go_round
      case rel =>
        obtain ⟨g, rfl, g1, g2⟩ := len_step f x hx HX.out
        exact ⟨g, x / 256, c + 1, by omega, g1, by omega, by omega, by omega, by have := HC.out; omega, rfl, rfl⟩
      case measure => simp [intOf]; omega
    · obtain rfl : x = 0 := by omega
      go_wp2
      go_ret
      exact ⟨ret_int (by have := HC.out; rw [lenN_zero] at this; omega), rfl⟩

theorem lenN_nat (f v : Nat) : lenN f (v : Int) = ((Nu.lenN f v : Nat) : Int) := by
  induction f generalizing v with
  | zero => rfl
  | succ f ih =>
    unfold lenN Nu.lenN
    by_cases h : v = 0
    · subst h; simp
    · rw [if_neg (by omega), if_neg h, show (v : Int) / 256 = ((v / 256 : Nat) : Int) by omega, ih]
      omega
theorem len_nat (v : Nat) : len (v : Int) = ((Nu.blen v : Nat) : Int) := lenN_nat 8 v
theorem byt_nat (v i : Nat) (hi : i < 8) : byt (v : Int) (i : Int) = ((v / 256 ^ i % 256 : Nat) : Int) := by
  unfold byt
  rw [if_pos (by omega), show ((i : Int) * 8).toNat = 8 * i by omega]
  have e : (256 : Nat) ^ i = 2 ^ (8 * i) := by rw [Nat.pow_mul]
  rw [e]
  simp

theorem len_c (v : Nat) (w : World) (h : v < 18446744073709551616) : Calls Try.prog 62 #[.int .u64 (v : Int)] w fun e w' => e = .returned (.int .i64 ((Nu.blen v : Nat) : Int)) ∧ w = w' := by
  have := len_any (v : Int) w (by omega) (by omega)
  rwa [len_nat] at this
theorem rlen_c (v : Nat) (w : World) (h : v < 18446744073709551616) : Calls Try.prog 47 #[.int .u64 (v : Int)] w fun e w' => e = .returned (.int .i64 ((Nu.blen v : Nat) : Int)) ∧ w = w' := by
  have := rlen_any (v : Int) w (by omega) (by omega)
  rwa [len_nat] at this
theorem byte_c (v i : Nat) (w : World) (h : v < 18446744073709551616) (hi : i < 8) : Calls Try.prog 63 #[.int .u64 (v : Int), .int .i64 (i : Int)] w fun e w' => e = .returned (.int .u8 ((v / 256 ^ i % 256 : Nat) : Int)) ∧ w = w' := by
  have := byte_any (v : Int) (i : Int) w (by omega) (by omega) (by omega) (by omega)
  rwa [byt_nat v i hi] at this
theorem rbyte_c (v i : Nat) (w : World) (h : v < 18446744073709551616) (hi : i < 8) : Calls Try.prog 48 #[.int .u64 (v : Int), .int .i64 (i : Int)] w fun e w' => e = .returned (.int .u8 ((v / 256 ^ i % 256 : Nat) : Int)) ∧ w = w' := by
  have := rbyte_any (v : Int) (i : Int) w (by omega) (by omega) (by omega) (by omega)
  rwa [byt_nat v i hi] at this
theorem size_c (v : Nat) (w : World) (h : v < 18446744073709551616) : Calls Try.prog 61 #[.int .u64 (v : Int)] w fun e w' => e = .returned (.int .i64 (1 + (Nu.blen v : Nat) : Int)) ∧ w = w' := by
  have hb := Nu.blen_le v
  go_enter Try.func61, Try.ntmps61
  go_wp2_with fail
  refine (len_c v _ h).mono ?_
  rintro e w' ⟨rfl, rfl⟩
  go_wp2
  go_ret
  exact ⟨rfl, rfl⟩
end Go.Proofs.Ytblgbbpbhcaodaa.Sh
