/- The contract of the program's 'inOrder': the vector, in order, that tells what a map of devices does; dot.Sort comes in as a hypothesis. -/
import Derived.Test.YtbpmbjpepjndaaaPTold
import Derived.Test.YtbpmbjpepjndaaaPDPlain
namespace Go.Proofs.Ytbpmbjpepjndaaa.Dt
open Go.ChangeShapes Go.WideShapes Go.ChangeAt Go.RowKit Go.Maps
set_option linter.unusedVariables false

/-- what dot.Sort is asked. -/
def Sorts : Prop := ∀ (w : World) (A : Option Addr) (l : List Dot) (n c : Nat), l.length = n → (A = none → n = 0 ∧ c = 0) → Dots w w.heap.size A l → n ≤ 4398046511104 → Calls Try.prog 34 #[.slice A n c] w (DotPost w (sortD l))
/-- put in order, what was gathered is the vector that tells f. -/
theorem gather_sort {f : Nat → Nat} {left : Lit → Bool} {m : List Dot} (h : Gather f left m) (hf : Tells f) (hl : ∀ kl, left kl = false) : sortD m = listV f := gather_end h hf hl (sort_ord m) (fun x => sort_mem m x)
theorem post_up {w W V : World} {m : List Dot} {e : Ending} (hb : Below w.heap.size w W) (h : DotPost W m e V) : DotPost w m e V := by
  obtain ⟨A, n, c, h1, h2, h3, h4⟩ := h
  exact ⟨A, n, c, h1, h2, own_less h3 hb.size, hb.trans (h4.mono hb.size)⟩
theorem ne_iter {w : World} {B b r n k c : Nat} {D : DataW Unit} {left : Lit → Bool} {cnt : Nat} {A : Option Addr} {xs : List Value} (h : w.ranges Try.prog 24 (plainElem Try.prog 25) b r n D left cnt) (ho : w.ownsRow B 27 2 (.slice A k c) k xs) :
    (Value.slice A k c).ownBlock = none ∨ (Value.slice A k c).ownBlock ≠ some r := by
  rcases ho.2 with ⟨h1, _⟩ | ⟨g, cap, cur, h1, _, h2, _⟩
  · cases h1; exact .inl rfl
  · cases h1
    right
    intro e
    have e2 : g = r := by simpa [Value.ownBlock] using e
    obtain ⟨es, clock, since, seen, c0, _, _, _, _, h3, _⟩ := h
    rw [← e2, h2] at h3
    cases h3
theorem own_from {w : World} {B k c : Nat} {A : Option Addr} {xs : List Value} (ho : w.ownsRow B 27 2 (.slice A k c) k xs) : ∀ j, (Value.slice A k c).ownBlock = some j → B ≤ j := by
  intro j hj
  cases A with
  | none => cases hj
  | some ad =>
    have e2 : ad.block = j := by simpa [Value.ownBlock] using hj
    have := (ho.lt ad.block rfl).1
    omega
set_option maxHeartbeats 4000000 in
theorem pinorder_any (hsort : Sorts) (w : World) (b n : Nat) (f : Nat → Nat) (h0 : MapAt w b n f) (hf : Tells f) :
    Calls Try.prog 27 #[.map (some b)] w (DotPost w (listV f)) := by
  have h := h0.tight
  obtain ⟨i0, hi0, hz0, hz1, hz2⟩ := info_parts dot_info
  have HT := Lib.hid h
  obtain ⟨D, hown, hh⟩ := h
  have HH := Lib.hid hh
  have HF := Lib.hid hf
  have HWN := Lib.hid hown
  have hbl := hown.lt
  have hlen := hown.len (t := 44) (e := 25) Try.underlying44 3
  have hkn := hown.size_le
  obtain ⟨kn, hknD⟩ : ∃ kn, Maps.size D = kn := ⟨_, rfl⟩
  have HKN := Lib.hid hknD
  rw [hknD] at hlen hkn
  clear hh hf h0 hown hknD
  go_enter Try.func27, Try.ntmps27
  go_wp2_with (first
    | (at_make
       refine wpList_make_own _ rfl _ _ 23 rfl w.heap.size 27 i0 (.agg #[.int .u16 0, .int .u64 0]) 2 Try.underlying23 hi0 hz0 hz1 _ _ _ kn rfl rfl rfl (by rw [hz2]; omega) (by simp only [maxLen]; omega) (Nat.le_refl _) ?_
       intro w1 ho1 hg1
       have HO1 := Lib.hid ho1
       have HG1 := Lib.hid hg1
       have HWN1 := Lib.hid (HWN.out.kept hg1 (fun e => by cases e))
       clear ho1 hg1)
    | (at_range; refine wpList_range_own _ rfl _ 44 rfl 24 25 law16 Try.underlying44 _ b 65536 _ rfl HWN1.out ?_; intro w0 hrg0 hg0 hs0)
    | go_in)
  have HR0 := Lib.hid hrg0
  have HB0 : Hid (Below w.heap.size w w0) := Lib.hid (((Below.refl _ w).grown HG1.out (Nat.le_refl _) (fun j hj => by cases hj)).grown hg0 HG1.out.size (fun j hj => by cases hj))
  have hsz := HWN1.out.size_le
  have HS0 := Lib.hid hs0
  have HO2 : Hid (w0.ownsRow w.heap.size 27 2 (.slice (some ⟨w.heap.size, 0, none⟩) 0 kn) 0 (dv [])) := HO1.out.kept hg0 (.inr (fun e => by cases e))
  have hw1 := HG1.out.size
  clear hrg0 hg0 hs0 hlen
  go_frame
  go_loopw [3] (fun v wr => ∃ (left : Lit → Bool) (cnt : Nat) (m : List Dot) (A : Option Addr) (k c : Nat), v = .slice A k c ∧ m.length = k ∧ k + cnt ≤ 65536 ∧ wr.ranges Try.prog 24 (plainElem Try.prog 25) b w1.heap.size 65536 D left cnt ∧ Gather f left m ∧
      wr.ownsRow w.heap.size 27 2 (.slice A k c) k (dv m) ∧ Below w.heap.size w wr) (fun _ wr => wr.rangeLeft b w1.heap.size)
  case atStart => exact ⟨_, _, [], _, 0, kn, rfl, rfl, by omega, HR0.out, gather_start HH.out, HO2.out, HB0.out⟩
  case round =>
    obtain ⟨left, cnt, m, A, k, c, rfl, hm, hkn2, hrg, hga, ho, hw⟩ := hrel
    have HM := Lib.hid hm
    have HG := Lib.hid hga
    have HO := Lib.hid ho
    have HW := Lib.hid hw
    have HRL := Lib.hid hrg.left_eq
    have HNE := Lib.hid (ne_iter hrg ho)
    clear hm hga ho hw
    go_wp2_with (first
      | (at_next; refine wpList_next_ranges_ii _ rfl _ rfl 24 25 .u16 .u64 law16 Try.underlying24 Try.underlying25 b w1.heap.size 65536 _ _ _ rfl hrg ?_ ?_)
      | go_in)
    · intro hc0 hl0
      have HE := Lib.hid hl0
      clear hrg
      obtain ⟨hn1, hn2, hn3⟩ := own_len HO.out
      have CS := hsort wr A m k c HM.out hn3 (dots_own HO.out (HG.out.fit HF.out)) (by omega)
      rw [gather_sort HG.out HF.out HE.out] at CS
      clear hn1 hn2 hn3
      go_wp2_with fail
      refine CS.mono ?_
      intro e V hp
      obtain ⟨A2, n2, c2, rfl, h2, h3, h4⟩ := post_up HW.out hp
      clear hp CS
      have HP2 := Lib.hid (And.intro h2 (And.intro h3 h4))
      clear h2 h3 h4
      go_wp2
      go_ret
      exact ⟨A2, n2, c2, rfl, HP2.out⟩
    · intro x y wn cnt1 hwx hwc hlx hat hrg1 hlt hg1 hs1 hen
      obtain ⟨d, rfl, hd, hfd, rfl⟩ := entry_is HH.out hwx hat
      have HG1 := Lib.hid (HG.out.step hd hfd hlx)
      have HO1 := Lib.hid ((HO.out.kept hg1 HNE.out).alloc (.cells #[.int .u16 (d : Int), .int .u64 ((f d : Nat) : Int)] 27))
      have HW1 : Hid (Below w.heap.size w (wn.alloc (.cells #[.int .u16 (d : Int), .int .u64 ((f d : Nat) : Int)] 27))) := Lib.hid (bel_alloc _ (HW.out.grown hg1 HW.out.size (fun j hj => by cases hj; exact hw1)))
      have HR1 := Lib.hid (hrg1.alloc (.cells #[.int .u16 (d : Int), .int .u64 ((f d : Nat) : Int)] 27))
      clear hg1 hrg hrg1 hat hwx hwc hs1
      go_wp2_with (first
        | (at_builtin; refine wpList_own rfl (.tmp 16) (.tmp 20) rfl rfl _ w.heap.size k (.slice A k c) m (some ⟨wn.heap.size, 0, none⟩) [(d, f d)] 1 1 rfl rfl HO1.out (fun h => by cases h) (lies_one wn (d, f d)) rfl (by omega) HW1.out.size ?_; intro A3 c3 w3 ho3 hg3)
        | go_in)
      have HR3 := Lib.hid (HR1.out.kept hg3 (fun e => by have := own_from HO1.out b e.symm; omega) (fun e => by rcases HNE.out with h | h; rw [h] at e; cases e; exact h e.symm))
      have HW3 : Hid (Below w.heap.size w w3) := Lib.hid (any_grown HO1.out HW1.out hg3)
      have hlen : (m ++ [(d, f d)]).length = k + 1 := by rw [List.length_append, HM.out]; rfl
      refine ⟨⟨_, cnt1, m ++ [(d, f d)], A3, k + 1, c3, rfl, hlen, by omega, HR3.out, HG1.out, ho3, HW3.out⟩, ?_⟩
      rw [HR3.out.left_eq, HRL.out]
      exact hlt
end Go.Proofs.Ytbpmbjpepjndaaa.Dt
