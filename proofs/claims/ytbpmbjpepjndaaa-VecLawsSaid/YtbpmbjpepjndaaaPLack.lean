/- The contract of the program's Lack. For all vectors of at most 2^43 dots. -/
import Derived.Test.YtbpmbjpepjndaaaPTold
namespace Go.Proofs.Ytbpmbjpepjndaaa.Dt
open Go.ChangeShapes Go.WideShapes Go.ChangeAt Go.RowKit Go.Maps
set_option linter.unusedVariables false

theorem sum_le (l : List Nat) (f g : Nat → Nat) (h : ∀ d, f d ≤ g d) : (l.map f).sum ≤ (l.map g).sum := by
  induction l with
  | nil => simp
  | cons d l ih =>
    have := h d
    rw [List.map_cons, List.map_cons, List.sum_cons, List.sum_cons]
    omega
theorem part_le (left : Lit → Bool) (g : Nat → Nat) : partV left g ≤ ((List.range topV).map g).sum := by
  unfold partV
  refine sum_le _ _ _ fun d => ?_
  split <;> omega
/-- what lacks, so far. -/
abbrev lackP (left : Lit → Bool) (a b : List Dot) : Nat := partV left (fun d => ofV b d - ofV a d)
theorem lackP_le (left : Lit → Bool) (a b : List Dot) : lackP left a b ≤ lackV a b := part_le left _
set_option maxHeartbeats 2000000 in
theorem plack_any (w : World) (A1 A2 : Option Addr) (l1 l2 : List Dot) (n1 n2 c1 c2 : Nat) (h1 : VecAt w A1 l1 n1 c1) (h2 : VecAt w A2 l2 n2 c2) :
    Calls Try.prog 24 #[.slice A1 n1 c1, .slice A2 n2 c2] w fun e w' => e = .returned (.int .u64 ((lackV l1 l2 : Nat) : Int)) ∧ Below w.heap.size w w' := by
  have H2 := Lib.hid h2
  have HLT := Lib.hid (lack_lt l1 l2)
  have C1 := ptold_any w A1 l1 n1 c1 h1.len h1.dots (Nat.le_trans h1.few (by decide))
  clear h1 h2
  go_enter Try.func24, Try.ntmps24
  go_wp2_with fail
  refine C1.mono ?_
  rintro e w1 ⟨rfl, hm1, hb1⟩
  have HM1 := Lib.hid hm1
  have HB1 := Lib.hid hb1
  have h2 := H2.out.up hb1
  have C2 := ptold_any w1 A2 l2 n2 c2 h2.len h2.dots (Nat.le_trans h2.few (by decide))
  clear hm1 hb1 C1 h2
  go_wp2_with fail
  refine C2.mono ?_
  rintro e w2 ⟨rfl, hm2, hb2⟩
  have HM1' : Hid (MapAt w2 w.heap.size 65536 (ofV l1)) := Lib.hid (HM1.out.below hb2 HM1.out.lt)
  have HB2 : Hid (Below w.heap.size w w2) := Lib.hid (HB1.out.trans (hb2.mono HB1.out.size))
  have hlt1 := HM1'.out.lt
  obtain ⟨D, hown, hh⟩ := hm2
  have HH := Lib.hid hh
  have HWN := Lib.hid hown
  have hba := hown.lt
  clear hh hown hb2 C2 HM1
  go_wp2_with (first
    | (at_range; refine wpList_range_own _ rfl _ 44 rfl 24 25 law16 Try.underlying44 _ w1.heap.size 65536 _ rfl HWN.out ?_; intro w0 hrg0 hg0 hs0)
    | go_in)
  have HR0 := Lib.hid hrg0
  have HB0 : Hid (Below w2.heap.size w2 w0) := Lib.hid ((Below.refl _ w2).grown hg0 (Nat.le_refl _) (fun j hj => by cases hj))
  clear hrg0 hg0 hs0
  have hst : lackP (Maps.has D) l1 l2 = 0 := part_start HH.out (fun d hd => by rw [hd]; exact Nat.zero_sub _)
  have HST := Lib.hid hst
  clear hst
  go_frame
  go_loopw [6] (fun v wr => ∃ (left : Lit → Bool) (cnt : Nat), v = .int .u64 ((lackP left l1 l2 : Nat) : Int) ∧ wr.ranges Try.prog 24 (plainElem Try.prog 25) w1.heap.size w2.heap.size 65536 D left cnt ∧ Below w2.heap.size w2 wr) (fun _ wr => wr.rangeLeft w1.heap.size w2.heap.size)
  case atStart => exact ⟨_, _, by rw [HST.out]; rfl, HR0.out, HB0.out⟩
  case round =>
    obtain ⟨left, cnt, rfl, hrg, hw⟩ := hrel
    have HW := Lib.hid hw
    have HRL := Lib.hid hrg.left_eq
    clear hw
    go_wp2_with (first
      | (at_next; refine wpList_next_ranges_ii _ rfl _ rfl 24 25 .u16 .u64 law16 Try.underlying24 Try.underlying25 w1.heap.size w2.heap.size 65536 _ _ _ rfl hrg ?_ ?_)
      | go_in)
    · intro hc0 hl0
      have HE : Hid (lackP left l1 l2 = lackV l1 l2) := part_end _ hl0
      have HWF : Hid (Below w.heap.size w wr) := Lib.hid (HB2.out.trans (HW.out.mono HB2.out.size))
      clear hrg
      go_wp2
      go_ret
      exact ⟨by rw [HE.out]; rfl, HWF.out⟩
    · intro x y wn cnt1 hwx hwc hlx hat hrg1 hlt hg1 hs1 hen
      obtain ⟨d, rfl, hd, hfd, rfl⟩ := entry_is HH.out hwx hat
      have HW1 : Hid (Below w2.heap.size w2 wn) := Lib.hid (HW.out.grown hg1 HW.out.size (fun j hj => by cases hj; exact Nat.le_refl _))
      have HG1 : Hid (MapAt wn w.heap.size 65536 (ofV l1)) := HM1'.out.below HW1.out hlt1
      have HR1 := Lib.hid hrg1
      have HP : Hid (lackP (fun z => left z && !z.sameKey (keyL d)) l1 l2 = lackP left l1 l2 + (ofV l2 d - ofV l1 d)) := part_step _ hlx hd
      have HQ := Lib.hid (lackP_le (fun z => left z && !z.sameKey (keyL d)) l1 l2)
      have hfl := of_lt l1 d
      have hgl := of_lt l2 d
      have hsum : lackP left l1 l2 + (ofV l2 d - ofV l1 d) < 18446744073709551616 := by
        have h3 := HQ.out
        rw [HP.out] at h3
        exact Nat.lt_of_le_of_lt h3 HLT.out
      clear hg1 hrg hrg1 hat hwx hwc hs1 hlx HQ
      obtain ⟨s, hs⟩ : ∃ s, lackP left l1 l2 = s := ⟨_, rfl⟩
      rw [hs] at HP hsum ⊢
      clear hs
      by_cases hgf : ofV l2 d ≤ ofV l1 d
      · have HE : Hid (lackP (fun z => left z && !z.sameKey (keyL d)) l1 l2 = s) := Lib.hid (by rw [HP.out]; omega)
        go_wp2_with (first
          | (at_lookup; refine wpList_look (by rfl) _ _ rfl w.heap.size 65536 d (ofV l1) rfl HG1.out hd rfl ?_)
          | go_in)
        refine ⟨⟨_, cnt1, by rw [HE.out], HR1.out, HW1.out⟩, ?_⟩
        rw [HR1.out.left_eq, HRL.out]
        exact hlt
      · have hgf2 : ofV l1 d < ofV l2 d := Nat.lt_of_not_le hgf
        go_wp2_with (first
          | (at_lookup; refine wpList_look (by rfl) _ _ rfl w.heap.size 65536 d (ofV l1) rfl HG1.out hd rfl ?_)
          | go_in)
        refine ⟨⟨_, cnt1, ?_, HR1.out, HW1.out⟩, ?_⟩
        · rw [HP.out]
          go_num
        · rw [HR1.out.left_eq, HRL.out]
          exact hlt
end Go.Proofs.Ytbpmbjpepjndaaa.Dt
