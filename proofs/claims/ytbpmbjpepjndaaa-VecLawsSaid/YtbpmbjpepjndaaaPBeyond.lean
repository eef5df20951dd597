/- The contracts of the program's beyond and Order. For all vectors of at most 2^43 dots. -/
import Derived.Test.YtbpmbjpepjndaaaPTold
namespace Go.Proofs.Ytbpmbjpepjndaaa.Dt
open Go.ChangeShapes Go.WideShapes Go.ChangeAt Go.RowKit Go.Maps
set_option linter.unusedVariables false

/-- does the first one tell of no device more? -/
def mostF (f g : Nat → Nat) : Bool := (List.range topV).all (fun d => decide (f d ≤ g d))
theorem mostF_yes {f g : Nat → Nat} (h : ∀ d, f d ≤ g d) : mostF f g = true := by
  unfold mostF
  rw [List.all_eq_true]
  exact fun d _ => decide_eq_true (h d)
theorem mostF_no {f g : Nat → Nat} {d : Nat} (hd : d < 65536) (h : g d < f d) : mostF f g = false := by
  unfold mostF
  rw [List.all_eq_false]
  exact ⟨d, List.mem_range.2 (by rw [top_eq]; exact hd), by simp; omega⟩
set_option maxHeartbeats 2000000 in
theorem pbeyond_any (w : World) (ba bb na nb : Nat) (f g : Nat → Nat) (h1 : MapAt w ba na f) (h2 : MapAt w bb nb g) :
    Calls Try.prog 31 #[.map (some ba), .map (some bb)] w fun e w' => e = .returned (.bool (!mostF f g)) ∧ Below w.heap.size w w' := by
  have HB2 := Lib.hid h2
  have hbb := h2.lt
  obtain ⟨D, hown, hh⟩ := h1
  have HH := Lib.hid hh
  have HWN := Lib.hid hown
  have hba := hown.lt
  clear hh hown h2
  go_enter Try.func31, Try.ntmps31
  go_wp2_with (first
    | (at_range; refine wpList_range_own _ rfl _ 44 rfl 24 25 law16 Try.underlying44 _ ba na _ rfl HWN.out ?_; intro w0 hrg0 hg0 hs0)
    | go_in)
  have HR0 := Lib.hid hrg0
  have HB0 : Hid (Below w.heap.size w w0) := Lib.hid ((Below.refl _ w).grown hg0 (Nat.le_refl _) (fun j hj => by cases hj))
  clear hrg0 hg0 hs0
  go_frame
  go_loopw [] (fun wr => ∃ (left : Lit → Bool) (cnt : Nat), wr.ranges Try.prog 24 (plainElem Try.prog 25) ba w.heap.size na D left cnt ∧ (∀ d, left (keyL d) = false → f d ≤ g d) ∧ Below w.heap.size w wr) (fun wr => wr.rangeLeft ba w.heap.size)
  case atStart =>
    refine ⟨_, _, HR0.out, fun d hd => ?_, HB0.out⟩
    rcases Nat.eq_zero_or_pos (f d) with h0 | h0
    · omega
    · have := (HH.out.some_ d h0).2
      rw [hd] at this; cases this
  case round =>
    obtain ⟨left, cnt, hrg, hle, hw⟩ := hrel
    have HLE := Lib.hid hle
    have HW := Lib.hid hw
    have HRL := Lib.hid hrg.left_eq
    clear hle hw
    go_wp2_with (first
      | (at_next; refine wpList_next_ranges_ii _ rfl _ rfl 24 25 .u16 .u64 law16 Try.underlying24 Try.underlying25 ba w.heap.size na _ _ _ rfl hrg ?_ ?_)
      | go_in)
    · intro hc0 hl0
      have HE : Hid (mostF f g = true) := mostF_yes (fun d => HLE.out d (hl0 _))
      clear hrg
      go_wp2
      go_ret
      exact ⟨by rw [HE.out]; rfl, HW.out⟩
    · intro x y wn cnt1 hwx hwc hlx hat hrg1 hlt hg1 hs1 hen
      obtain ⟨d, rfl, hd, hfd, rfl⟩ := entry_is HH.out hwx hat
      have HW1 : Hid (Below w.heap.size w wn) := Lib.hid (HW.out.grown hg1 HW.out.size (fun j hj => by cases hj; exact Nat.le_refl _))
      have HG1 : Hid (MapAt wn bb nb g) := HB2.out.below HW1.out hbb
      have HR1 := Lib.hid hrg1
      clear hg1 hrg hrg1 hat hwx hwc hs1
      by_cases hgf : g d < f d
      · have HE : Hid (mostF f g = false) := mostF_no hd hgf
        have dgt : decide (((g d : Nat) : Int) < ((f d : Nat) : Int)) = true := decide_eq_true (by omega)
        go_wp2_with (first
          | (at_lookup; refine wpList_look (by rfl) _ _ rfl bb nb d g rfl HG1.out hd rfl ?_)
          | go_in)
        go_ret
        exact ⟨by rw [HE.out]; rfl, HW1.out⟩
      · have dgt : decide (((g d : Nat) : Int) < ((f d : Nat) : Int)) = false := decide_eq_false (by omega)
        have HS : Hid (∀ e, (left (keyL e) && !(keyL e).sameKey (keyL d)) = false → f e ≤ g e) := fun e he => by
          rcases struck.1 he with h1 | h1
          · exact HLE.out e h1
          · rw [h1]; exact Nat.le_of_not_lt hgf
        go_wp2_with (first
          | (at_lookup; refine wpList_look (by rfl) _ _ rfl bb nb d g rfl HG1.out hd rfl ?_)
          | go_in)
        refine ⟨⟨_, cnt1, HR1.out, HS.out, HW1.out⟩, ?_⟩
        rw [HR1.out.left_eq, HRL.out]
        exact hlt
end Go.Proofs.Ytbpmbjpepjndaaa.Dt
