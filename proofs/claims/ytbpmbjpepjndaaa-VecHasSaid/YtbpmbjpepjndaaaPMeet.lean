/- The contract of the program's Meet. For all vectors of at most 2^43 dots. -/
import Derived.Test.YtbpmbjpepjndaaaPInOrder
namespace Go.Proofs.Ytbpmbjpepjndaaa.Dt
open Go.ChangeShapes Go.WideShapes Go.ChangeAt Go.RowKit Go.Maps
set_option linter.unusedVariables false

/-- what both tell, of the devices that are no longer to come. -/
abbrev bothM (left : Lit → Bool) (f g : Nat → Nat) : Nat → Nat := fun d => if left (keyL d) = true then 0 else min (f d) (g d)
theorem both_start {D : DataW Unit} {f g : Nat → Nat} (h : Holds D f) : bothM (Maps.has D) f g = fun _ => 0 := by
  funext d
  unfold bothM
  by_cases hh : Maps.has D (keyL d) = true
  · rw [if_pos hh]
  · rw [if_neg hh]
    rcases Nat.eq_zero_or_pos (f d) with h0 | h0
    · rw [h0]; exact Nat.zero_min _
    · exact absurd (h.some_ d h0).2 hh
theorem both_end {left : Lit → Bool} {f g : Nat → Nat} (h : ∀ kl, left kl = false) : bothM left f g = fun d => min (f d) (g d) := by
  funext d
  unfold bothM
  rw [h, if_neg (by simp)]
theorem both_put {left : Lit → Bool} {f g : Nat → Nat} {d : Nat} : (fun e => if e = d then min (f d) (g d) else bothM left f g e) = bothM (fun z => left z && !z.sameKey (keyL d)) f g := by
  funext e
  unfold bothM
  simp only [same_key]
  by_cases he : e = d
  · subst he; simp
  · simp [he]
theorem both_skip {left : Lit → Bool} {f g : Nat → Nat} {d : Nat} (hl : left (keyL d) = true) (h : g d = 0) : bothM left f g = bothM (fun z => left z && !z.sameKey (keyL d)) f g := by
  rw [← both_put]
  funext e
  by_cases he : e = d
  · subst he; rw [if_pos rfl, h]; unfold bothM; rw [if_pos hl]; exact (Nat.min_zero _).symm
  · rw [if_neg he]
set_option maxHeartbeats 2000000 in
theorem pmeet_any (hsort : Sorts) (w : World) (A1 A2 : Option Addr) (l1 l2 : List Dot) (n1 n2 c1 c2 : Nat) (h1 : VecAt w A1 l1 n1 c1) (h2 : VecAt w A2 l2 n2 c2) :
    Calls Try.prog 20 #[.slice A1 n1 c1, .slice A2 n2 c2] w (DotPost w (meetV l1 l2)) := by
  have hmm := @run_makeMap Try.prog
  have H1 := Lib.hid h1
  have HS := Lib.hid hsort
  have HTM := Lib.hid (tells_meet h1.dots.1 h2.dots.1)
  have C1 := ptold_any w A2 l2 n2 c2 h2.len h2.dots (Nat.le_trans h2.few (by decide))
  clear h1 h2 hsort
  go_enter Try.func20, Try.ntmps20
  go_wp2_with fail
  refine C1.mono ?_
  rintro e w1 ⟨rfl, hm1, hb1⟩
  have HM1 := Lib.hid hm1
  have HB1 := Lib.hid hb1
  have hl1 := hm1.lt
  have HB2 : Hid (Below w1.heap.size w1 (w1.alloc (.map #[] 0))) := below_new _ _
  have HMB : Hid (MapAt (w1.alloc (.map #[] 0)) w1.heap.size 0 (fun _ => 0)) := Lib.hid (map_new w1)
  have h2 := (H1.out.up hb1).up HB2.out
  have C2 := ptold_any (w1.alloc (.map #[] 0)) A1 l1 n1 c1 h2.len h2.dots (Nat.le_trans h2.few (by decide))
  have hsz : (w1.alloc (.map #[] 0)).heap.size = w1.heap.size + 1 := by simp
  rw [hsz] at C2
  clear hm1 hb1 C1 h2
  go_wp2_with fail
  generalize w1.alloc (.map #[] 0) = w2 at *
  refine C2.mono ?_
  rintro e w3 ⟨rfl, hm3, hb3⟩
  have HB3 : Hid (Below w1.heap.size w1 w3) := Lib.hid (HB2.out.trans (hb3.mono (by omega)))
  have HMB3 : Hid (MapAt w3 w1.heap.size 0 (fun _ => 0)) := Lib.hid (HMB.out.below hb3 (by omega))
  obtain ⟨D, hown, hh⟩ := hm3
  have HH := Lib.hid hh
  have HWN := Lib.hid hown
  have hba := hown.lt
  clear hh hown hb3 C2 HMB HB2 hsz
  go_wp2_with (first
    | (at_range; refine wpList_range_own _ rfl _ 44 rfl 24 25 law16 Try.underlying44 _ (w1.heap.size + 1) 65536 _ rfl HWN.out ?_; intro w0 hrg0 hg0 hs0)
    | go_in)
  have HR0 := Lib.hid hrg0
  have HB0 : Hid (Below w1.heap.size w1 w0) := Lib.hid (HB3.out.grown hg0 (by omega) (fun j hj => by cases hj))
  have HMB0 : Hid (MapAt w0 w1.heap.size 65536 (bothM (Maps.has D) (ofV l1) (ofV l2))) := by
    rw [both_start HH.out]
    exact (HMB3.out.below ((Below.refl _ w3).grown hg0 (Nat.le_refl _) (fun j hj => by cases hj)) HMB3.out.lt).more (by omega)
  clear hrg0 hg0 hs0
  go_frame
  go_loopw [] (fun wr => ∃ (left : Lit → Bool) (cnt : Nat), wr.ranges Try.prog 24 (plainElem Try.prog 25) (w1.heap.size + 1) w3.heap.size 65536 D left cnt ∧ MapAt wr w1.heap.size 65536 (bothM left (ofV l1) (ofV l2)) ∧ Below w1.heap.size w1 wr) (fun wr => wr.rangeLeft (w1.heap.size + 1) w3.heap.size)
  case atStart => exact ⟨_, _, HR0.out, HMB0.out, HB0.out⟩
  case round =>
    obtain ⟨left, cnt, hrg, hmb, hw⟩ := hrel
    have HMR := Lib.hid hmb
    have HW := Lib.hid hw
    have HRL := Lib.hid hrg.left_eq
    clear hmb hw
    go_wp2_with (first
      | (at_next; refine wpList_next_ranges_ii _ rfl _ rfl 24 25 .u16 .u64 law16 Try.underlying24 Try.underlying25 (w1.heap.size + 1) w3.heap.size 65536 _ _ _ rfl hrg ?_ ?_)
      | go_in)
    · intro hc0 hl0
      have HE := Lib.hid (HMR.out.turn (both_end hl0))
      have CI := pinorder_any HS.out wr w1.heap.size 65536 _ HE.out HTM.out
      have HWF : Hid (Below w.heap.size w wr) := Lib.hid (HB1.out.trans (HW.out.mono HB1.out.size))
      rw [show listV (fun d => min (ofV l1 d) (ofV l2 d)) = meetV l1 l2 from rfl] at CI
      clear hrg
      go_wp2_with fail
      refine CI.mono ?_
      intro e V hp
      obtain ⟨A2, n2, c2, rfl, h2, h3, h4⟩ := post_up HWF.out hp
      have HP2 := Lib.hid (And.intro h2 (And.intro h3 h4))
      clear hp h2 h3 h4 CI
      go_wp2
      go_ret
      exact ⟨A2, n2, c2, rfl, HP2.out⟩
    · intro x y wn cnt1 hwx hwc hlx hat hrg1 hlt hg1 hs1 hen
      obtain ⟨d, rfl, hd, hfd, rfl⟩ := entry_is HH.out hwx hat
      have HW1 : Hid (Below w1.heap.size w1 wn) := Lib.hid (HW.out.grown hg1 HW.out.size (fun j hj => by cases hj; omega))
      have HG1 : Hid (MapAt wn w.heap.size 65536 (ofV l2)) := HM1.out.below HW1.out hl1
      have HMW : Hid (MapAt wn w1.heap.size 65536 (bothM left (ofV l1) (ofV l2))) := by
        obtain ⟨D2, h5, h6⟩ := HMR.out
        exact ⟨D2, h5.kept hg1 (fun e => by injection e with e; omega), h6⟩
      have HR1 := Lib.hid hrg1
      have hfl := of_lt l1 d
      have hgl := of_lt l2 d
      have HLX := Lib.hid hlx
      clear hg1 hrg hrg1 hat hwx hwc hs1 hlx
      by_cases hg0 : ofV l2 d = 0
      · have HSK : Hid (bothM left (ofV l1) (ofV l2) = bothM (fun z => left z && !z.sameKey (keyL d)) (ofV l1) (ofV l2)) := both_skip HLX.out hg0
        have HM4 := Lib.hid (HMW.out.turn HSK.out)
        go_wp2_with (first
          | (at_lookup; refine wpList_look (by rfl) _ _ rfl w.heap.size 65536 d (ofV l2) rfl HG1.out hd rfl ?_)
          | go_in)
        refine ⟨⟨_, cnt1, HR1.out, HM4.out, HW1.out⟩, ?_⟩
        rw [HR1.out.left_eq, HRL.out]
        exact hlt
      · have hg1 : 0 < ofV l2 d := Nat.pos_of_ne_zero hg0
        have dne : (((ofV l2 d : Nat) : Int) != 0) = true := by rw [bne_iff_ne]; omega
        by_cases hgf : ofV l1 d ≤ ofV l2 d
        · have HPUT : Hid ((fun e => if e = d then ofV l1 d else bothM left (ofV l1) (ofV l2) e) = bothM (fun z => left z && !z.sameKey (keyL d)) (ofV l1) (ofV l2)) := by
            have h := both_put (left := left) (f := ofV l1) (g := ofV l2) (d := d)
            rw [Nat.min_eq_left hgf] at h
            exact h
          go_wp2_with (first
            | (at_lookup; refine wpList_look (by rfl) _ _ rfl w.heap.size 65536 d (ofV l2) rfl HG1.out hd rfl ?_)
            | (at_mapUpdate; refine wpList_put rfl _ _ _ rfl w1.heap.size 65536 d (ofV l1 d) (bothM left (ofV l1) (ofV l2)) rfl HMW.out (by decide) hd rfl rfl (by omega) (by omega) ?_; intro w4 hm4 hg4)
            | go_in)
          have HR4 := Lib.hid (HR1.out.kept hg4 (fun e => by injection e with e; omega) (fun e => by injection e with e; omega))
          have HM4 : Hid (MapAt w4 w1.heap.size 65536 (bothM (fun z => left z && !z.sameKey (keyL d)) (ofV l1) (ofV l2))) := Lib.hid ((hm4.turn HPUT.out).tight)
          have HW4 : Hid (Below w1.heap.size w1 w4) := Lib.hid (HW1.out.grown hg4 HW1.out.size (fun j hj => by cases hj; exact Nat.le_refl _))
          refine ⟨⟨_, _, _, _, _, _, _, _, _, _, _, _, _, _, _, _, _, _, ⟨_, cnt1, HR4.out, HM4.out, HW4.out⟩, rfl⟩, ?_⟩
          rw [HR4.out.left_eq, HRL.out]
          exact hlt
        · have HPUT : Hid ((fun e => if e = d then ofV l2 d else bothM left (ofV l1) (ofV l2) e) = bothM (fun z => left z && !z.sameKey (keyL d)) (ofV l1) (ofV l2)) := by
            have h := both_put (left := left) (f := ofV l1) (g := ofV l2) (d := d)
            rw [Nat.min_eq_right (Nat.le_of_not_le hgf)] at h
            exact h
          go_wp2_with (first
            | (at_lookup; refine wpList_look (by rfl) _ _ rfl w.heap.size 65536 d (ofV l2) rfl HG1.out hd rfl ?_)
            | (at_mapUpdate; refine wpList_put rfl _ _ _ rfl w1.heap.size 65536 d (ofV l2 d) (bothM left (ofV l1) (ofV l2)) rfl HMW.out (by decide) hd rfl rfl (by omega) (by omega) ?_; intro w4 hm4 hg4)
            | go_in)
          have HR4 := Lib.hid (HR1.out.kept hg4 (fun e => by injection e with e; omega) (fun e => by injection e with e; omega))
          have HM4 : Hid (MapAt w4 w1.heap.size 65536 (bothM (fun z => left z && !z.sameKey (keyL d)) (ofV l1) (ofV l2))) := Lib.hid ((hm4.turn HPUT.out).tight)
          have HW4 : Hid (Below w1.heap.size w1 w4) := Lib.hid (HW1.out.grown hg4 HW1.out.size (fun j hj => by cases hj; exact Nat.le_refl _))
          refine ⟨⟨_, _, _, _, _, _, _, _, _, _, _, _, _, _, _, _, _, _, ⟨_, cnt1, HR4.out, HM4.out, HW4.out⟩, rfl⟩, ?_⟩
          rw [HR4.out.left_eq, HRL.out]
          exact hlt
end Go.Proofs.Ytbpmbjpepjndaaa.Dt
