/- The contracts of the program's Size and Base of layer ctx. Condition: at most 2^28 parts, of at most 2^28 runs together. -/
import Derived.Test.YtegclhgfibfanaaGreatKO
import Derived.Test.YtegclhgfibfanaaGreatKU
import Derived.Test.YtegclhgfibfanaaGreatKE
import Derived.Test.YtegclhgfibfanaaGreatKF
namespace Go.Proofs.YtegclhgfibfanaaGreat.Cx
open Go.ChangeShapes Go.WideShapes Go.ChangeAt Go.RowKit Go.Maps
set_option linter.unusedVariables false
set_option maxRecDepth 4000

set_option maxHeartbeats 4000000 in
theorem psize_any (w : World) (A1 : Option Addr) (a : List Part) (n1 c1 : Nat) (h1 : CtxAt w A1 a n1 c1) (ha : Wide 268435456 a) :
    Calls Tryz.prog 23 #[.slice A1 n1 c1] w fun e w' => e = .returned (.int .u64 ((sizeC a : Nat) : Int)) ∧ Below w.heap.size w w' := by
  have CB := pbydev_any w A1 a n1 c1 h1 ha
  have HL := Lib.hid (fun d => raw_short ha d)
  have HLT := Lib.hid (size_lt a)
  clear h1 ha
  go_enter Tryz.func23, Tryz.ntmps23
  go_wp2_with fail
  refine CB.mono ?_
  rintro e w1 ⟨rfl, hM, hb⟩
  have HB := Lib.hid hb
  obtain ⟨hbB, D, g, hown, hh, hs⟩ := hM.mapS
  have HH := Lib.hid hh
  have HSL := Lib.hid hs
  have HWN := Lib.hid hown
  have hst := Lib.hid (sizeP_start hh hs)
  clear CB hM hb hh hs hown
  go_wp2_with (first
    | (at_range; refine wpList_range_own _ rfl _ 51 rfl 25 36 law16 Tryz.underlying51 _ w.heap.size n1 _ rfl HWN.out ?_; intro w0 hrg0 hg0 hs0)
    | go_in)
  have HR0 := Lib.hid hrg0
  have HB0 : Hid (Below w1.heap.size w1 w0) := Lib.hid ((Below.refl _ w1).grown hg0 (Nat.le_refl _) (fun j hj => by cases hj))
  clear hrg0 hg0 hs0
  go_frame
  go_loopw [3] (fun v wr => ∃ (left : Lit → Bool) (cnt : Nat), v = .int .u64 ((sizeP left (rawC a) : Nat) : Int) ∧ wr.ranges Tryz.prog 25 valS w.heap.size w1.heap.size n1 D left cnt ∧ Below w1.heap.size w1 wr) (fun _ wr => wr.rangeLeft w.heap.size w1.heap.size)
  case atStart => exact ⟨_, _, by rw [hst.out]; rfl, HR0.out, HB0.out⟩
  case round =>
    obtain ⟨left, cnt, rfl, hrg, hw⟩ := hrel
    have HW := Lib.hid hw
    have HRL := Lib.hid hrg.left_eq
    clear hw
    go_wp2_with (first
      | (at_next; refine wpList_nextS rfl _ rfl w.heap.size w1.heap.size n1 _ _ _ rfl hrg ?_ ?_)
      | go_in)
    · intro hc0 hl0
      have HE : Hid (sizeP left (rawC a) = sizeC a) := Lib.hid (sizeP_end a hl0)
      have HWF : Hid (Below w.heap.size w wr) := Lib.hid (HB.out.trans (HW.out.mono HB.out.size))
      clear hrg
      go_wp2
      go_ret
      exact ⟨by rw [HE.out]; rfl, HWF.out⟩
    · intro x sl wn cnt1 hwx hlx hat hrg1 hlt hg1 hs1 hen
      obtain ⟨d, rfl, hd, hR, hRB⟩ := entryS HH.out HSL.out hwx hat
      have HW1 : Hid (Below w1.heap.size w1 wn) := Lib.hid (HW.out.grown hg1 HW.out.size (fun j hj => by cases hj; exact Nat.le_refl _))
      have hRn := hR.up HW1.out
      have CS := Ru.psize_any wn sl.adr (rawC a d) sl.len sl.cap hRn.len hRn.runs (by rw [← hRn.len]; have := HL.out d; omega)
      have HP : Hid (sizeP (fun z => left z && !z.sameKey (keyL d)) (rawC a) = sizeP left (rawC a) + Ru.sizeR (Ru.nrm (rawC a d))) := Lib.hid (Dt.part_step _ hlx hd)
      have HQ := Lib.hid (sizeP_le (fun z => left z && !z.sameKey (keyL d)) a)
      have HR1 := Lib.hid hrg1
      have hsum : sizeP left (rawC a) + Ru.sizeR (Ru.nrm (rawC a d)) < 18446744073709551616 := by
        have h3 := HQ.out
        rw [HP.out] at h3
        exact Nat.lt_of_le_of_lt h3 HLT.out
      obtain ⟨s, hs⟩ : ∃ s, sizeP left (rawC a) = s := ⟨_, rfl⟩
      obtain ⟨z, hz⟩ : ∃ z, Ru.sizeR (Ru.nrm (rawC a d)) = z := ⟨_, rfl⟩
      rw [hs, hz] at HP hsum
      rw [hz] at CS
      rw [hs]
      clear hg1 hrg hrg1 hat hwx hs1 hlx HQ hR hRB hRn hs hz
      go_wp2_with fail
      refine CS.mono ?_
      rintro e w2 ⟨rfl, hb2⟩
      have HR2 := Lib.hid (HR1.out.kept (bel_grown hb2 none) (fun e => by cases e) (fun e => by cases e))
      have HW2 := Lib.hid (HW1.out.trans (hb2.mono HW1.out.size))
      clear hb2 CS hen
      go_wp2
      refine ⟨⟨_, cnt1, ?_, HR2.out, HW2.out⟩, ?_⟩
      · rw [HP.out]
        go_num
      · rw [HR2.out.left_eq, HRL.out]
        exact hlt
set_option maxHeartbeats 4000000 in
theorem pbase_any (w : World) (A1 : Option Addr) (a : List Part) (n1 c1 : Nat) (h1 : CtxAt w A1 a n1 c1) (ha : Wide 268435456 a) :
    Calls Tryz.prog 26 #[.slice A1 n1 c1] w (Dt.DotPost w (baseC a)) := by
  have CB := pbydev_any w A1 a n1 c1 h1 ha
  have HL := Lib.hid (fun d => raw_short ha d)
  have HFC := Lib.hid h1.fit
  have hn1 : n1 ≤ 268435456 := by rw [← h1.len]; exact ha.1
  clear h1 ha
  go_enter Tryz.func26, Tryz.ntmps26
  go_wp2_with fail
  refine CB.mono ?_
  rintro e w1 ⟨rfl, hM, hb⟩
  have HB := Lib.hid hb
  have hbl := hM.lt
  obtain ⟨hbB, D, g, hown, hh, hs⟩ := hM.mapS
  have HH := Lib.hid hh
  have HSL := Lib.hid hs
  have HWN := Lib.hid hown
  have hst := Lib.hid (gatherB_start hh hs)
  have hszD := hown.size_le
  clear CB hM hb hh hs hown
  go_wp2_with (first
    | (at_range; refine wpList_range_own _ rfl _ 51 rfl 25 36 law16 Tryz.underlying51 _ w.heap.size n1 _ rfl HWN.out ?_; intro w0 hrg0 hg0 hs0)
    | go_in)
  have HR0 := Lib.hid hrg0
  have HB0 : Hid (Below w1.heap.size w1 w0) := Lib.hid ((Below.refl _ w1).grown hg0 (Nat.le_refl _) (fun j hj => by cases hj))
  clear hrg0 hg0 hs0
  go_frame
  go_loopw [3] (fun v wr => ∃ (left : Lit → Bool) (cnt : Nat) (m : List Dot) (A : Option Addr) (k c : Nat), v = .slice A k c ∧ m.length = k ∧ k + cnt ≤ n1 ∧ wr.ranges Tryz.prog 25 valS w.heap.size w1.heap.size n1 D left cnt ∧ GatherB (rawC a) left m ∧
      wr.ownsRow w1.heap.size 28 2 (.slice A k c) k (Dt.dv m) ∧ Below w1.heap.size w1 wr) (fun _ wr => wr.rangeLeft w.heap.size w1.heap.size)
  case atStart => exact ⟨_, _, [], none, 0, 0, rfl, rfl, by omega, HR0.out, hst.out, World.ownsRow_nil _ _ _ _, HB0.out⟩
  case round =>
    obtain ⟨left, cnt, m, A, k, c, rfl, hm, hkn2, hrg, hga, ho, hw⟩ := hrel
    have HM := Lib.hid hm
    have HG := Lib.hid hga
    have HO := Lib.hid ho
    have HW := Lib.hid hw
    have HRL := Lib.hid hrg.left_eq
    have HNE := Lib.hid (neS_iter hrg ho)
    have HOF := Lib.hid (ownS_from ho)
    clear hm hga ho hw
    go_wp2_with (first
      | (at_next; refine wpList_nextS rfl _ rfl w.heap.size w1.heap.size n1 _ _ _ rfl hrg ?_ ?_)
      | go_in)
    · intro hc0 hl0
      have HE : Hid (Dt.normV m = baseC a) := Lib.hid (gatherB_end HFC.out HG.out hl0)
      have HWF : Hid (Below w.heap.size w wr) := Lib.hid (HB.out.trans (HW.out.mono HB.out.size))
      have CN := Dt.pnorm_long Dt.psort_any wr A m k c HM.out (Dt.dots_own HO.out HG.out.fit) (by omega)
      rw [HE.out] at CN
      clear hrg
      go_wp2_with fail
      refine CN.mono ?_
      intro e V hp
      obtain ⟨A2, n2, c2, rfl, h2, h3, h4⟩ := Dt.post_up HWF.out hp
      have HP2 := Lib.hid (And.intro h2 (And.intro h3 h4))
      clear hp h2 h3 h4 CN
      go_wp2
      go_ret
      exact ⟨A2, n2, c2, rfl, HP2.out⟩
    · intro x sl wn cnt1 hwx hlx hat hrg1 hlt hg1 hs1 hen
      obtain ⟨d, rfl, hd, hR, hRB⟩ := entryS HH.out HSL.out hwx hat
      have HW1 : Hid (Below w1.heap.size w1 wn) := Lib.hid (HW.out.grown hg1 HW.out.size (fun j hj => by cases hj; exact Nat.le_refl _))
      have HO1 := Lib.hid (HO.out.kept hg1 HNE.out)
      have hRn := hR.up HW1.out
      have CF := Ru.pfirst_any wn sl.adr (rawC a d) sl.len sl.cap hRn.len hRn.runs (by rw [← hRn.len]; have := HL.out d; omega)
      have HG1 := Lib.hid (HG.out.step hd)
      have HR1 := Lib.hid hrg1
      have hz := first_fit (f := rawC a) d
      generalize Ru.firstR (Ru.nrm (rawC a d)) = z at HG1 CF hz
      have ez : IntKind.u64.wrap ((z : Int) - 1) = ((z - 1 : Nat) : Int) := by rw [IntWalk.u64_in _ (by omega)]; omega
      clear hg1 hrg hrg1 hat hwx hs1 hlx hR hRB hRn
      go_wp2_with fail
      refine CF.mono ?_
      rintro e w2 ⟨rfl, hb2⟩
      have HR2 := Lib.hid ((HR1.out.kept (bel_grown hb2 none) (fun e => by cases e) (fun e => by cases e)).alloc (.cells #[.int .u16 (d : Int), .int .u64 ((z - 1 : Nat) : Int)] 28))
      have HW2 : Hid (Below w1.heap.size w1 (w2.alloc (.cells #[.int .u16 (d : Int), .int .u64 ((z - 1 : Nat) : Int)] 28))) := Lib.hid (bel_alloc _ (HW1.out.trans (hb2.mono HW1.out.size)))
      have HO2 := Lib.hid ((Dt.own_kept HO1.out hb2).alloc (.cells #[.int .u16 (d : Int), .int .u64 ((z - 1 : Nat) : Int)] 28))
      clear hb2 CF hen
      go_wp2_with (first
        | (at_builtin; refine Dt.wpList_own rfl (.tmp 14) (.tmp 20) rfl rfl _ w1.heap.size k (.slice A k c) m (some ⟨w2.heap.size, 0, none⟩) [(d, z - 1)] 1 1 rfl rfl HO2.out (fun h => by cases h) (Dt.lies_one w2 (d, z - 1)) rfl (by omega) HW2.out.size ?_; intro A3 c3 w3 ho3 hg3)
        | go_in)
      have HR3 := Lib.hid (HR2.out.kept hg3 (fun e => by have := HOF.out _ e.symm; omega) (fun e => by rcases HNE.out with h | h; rw [h] at e; cases e; exact h e.symm))
      have HW3 : Hid (Below w1.heap.size w1 w3) := Lib.hid (HW2.out.grown hg3 HW2.out.size HOF.out)
      have hlen : (m ++ [(d, z - 1)]).length = k + 1 := by rw [List.length_append, HM.out]; rfl
      refine ⟨⟨_, cnt1, m ++ [(d, z - 1)], A3, k + 1, c3, rfl, hlen, by omega, HR3.out, HG1.out, ho3, HW3.out⟩, ?_⟩
      rw [HR3.out.left_eq, HRL.out]
      exact hlt
end Go.Proofs.YtegclhgfibfanaaGreat.Cx
