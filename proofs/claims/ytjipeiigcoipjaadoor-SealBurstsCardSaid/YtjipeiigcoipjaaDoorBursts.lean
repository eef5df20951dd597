/- The walk of the law SealBursts: it returns true, for every slice of at most 2^47 - 4096 bytes, and every place and mask; nothing that was there has changed. It asks that crc's table lies in its variable. -/
import Derived.Test.YtjipeiigcoipjaaDoorSays
namespace Go.Proofs.YtjipeiigcoipjaaDoor.Se
open Go.ChangeShapes Go.WideShapes Go.ChangeAt Go.RowKit
set_option linter.unusedVariables false

/-- what was sealed is opened. -/
theorem shut_opens (x : Nat) (l : List Nat) : kindOf (Crc.shut (x :: l)) = x ∧ bodyOf (Crc.shut (x :: l)) = l ∧ errOf (Crc.shut (x :: l)) = 0 := by
  have hl : (Crc.shut (x :: l)).length = (l.length + 1) + 4 := by rw [Crc.shut_length, List.length_cons]
  have h := told_ok (x := x) hl (by omega) (Crc.shut_fits _) (by unfold Crc.shut; simp)
  have e : ((Crc.shut (x :: l)).take (l.length + 1)).drop 1 = l := by
    unfold Crc.shut
    rw [List.take_append_of_le_length (by simp)]
    simp
  rw [e] at h
  exact h
theorem spoilt_shuts {l : List Nat} {x p mask : Nat} (hx : x < 256) (hs : Crc.Small l) (hp : p ≤ 8 * (Crc.shut (x :: l)).length) (hm : mask < 4294967296) (hn : mask % 2 ^ (8 * (Crc.shut (x :: l)).length - p) ≠ 0) :
    kindOf (Crc.spoilt (Crc.shut (x :: l)) p mask) = 0 ∧ bodyOf (Crc.spoilt (Crc.shut (x :: l)) p mask) = [] ∧ errOf (Crc.spoilt (Crc.shut (x :: l)) p mask) = 5 := by
  refine told_bad ?_ ?_
  · rw [Crc.spoilt_length, Crc.shut_length, List.length_cons]; omega
  · rcases hf : Crc.fits (Crc.spoilt (Crc.shut (x :: l)) p mask) with _ | _
    · rfl
    · exact absurd ((Crc.spoilt_fits (small_one hx hs) hp hm).1 hf) hn

set_option maxHeartbeats 1000000 in
theorem bursts_walk (w : World) (A : Option Addr) (l : List Nat) (n c mask : Nat) (at_ : Int) (hn : l.length = n) (hA : A = none → n = 0 ∧ c = 0) (ht : Tab w) (hb : Bytes w w.heap.size A l) (hl : n ≤ 140737488351232) (hm : mask < 4294967296) (a0 : -9223372036854775808 ≤ at_) (a1 : at_ ≤ 9223372036854775807) :
    Calls Tryd.prog 6 #[.slice A n c, .int .i64 at_, .int .u32 (mask : Int)] w fun e w' => e = .returned (.bool true) ∧ Below w.heap.size w w' := by
  have hT := Lib.hid ht
  have hB := Lib.hid hb
  have HN := Lib.hid hn
  have HA := Lib.hid hA
  clear ht hb hn hA
  obtain ⟨s, hs⟩ : ∃ s, Crc.shut (9 :: l) = s := ⟨_, rfl⟩
  have HS := Lib.hid hs
  have sS : Hid (Crc.Small s) := by show Crc.Small s; rw [← hs]; exact Crc.shut_small (small_one (by decide) hB.out.1)
  have sL : Hid (s.length = n + 5) := by show _ = _; rw [← hs, Crc.shut_length, List.length_cons, HN.out]
  clear hs
  go_enter Tryd.func6, Tryd.ntmps6
  go_wp2_with fail
  refine (pshut_any w A l n c 9 HN.out HA.out hB.out (by decide) hl hT.out).mono ?_
  rw [HS.out]
  intro e w1 h1
  obtain ⟨g1, cap1, n1, rfl, hn1, _, _, hb1, bel1⟩ := post_bytes h1 sS.out
  obtain rfl : n1 = n + 5 := hn1.symm.trans sL.out
  have B1 := Lib.hid bel1
  have K1 := Lib.hid hb1
  clear h1 bel1 hb1 hn1
  obtain ⟨p, hp⟩ : ∃ p, place at_ (n + 5) = p := ⟨_, rfl⟩
  have HP := Lib.hid hp
  have hpl : Hid (p ≤ 8 * s.length) := by show _ ≤ _; rw [sL.out, ← hp]; exact Nat.le_of_lt (place_lt at_ (by omega))
  obtain ⟨x, hx⟩ : ∃ x, Crc.spoilt s p mask = x := ⟨_, rfl⟩
  have HX := Lib.hid hx
  have sX : Hid (x.length = n + 5) := by show _ = _; rw [← hx, Crc.spoilt_length, sL.out]
  clear hp hx
  go_wp2_with fail
  refine (pspoil_any w1 (some ⟨g1, 0, none⟩) s (n + 5) cap1 mask at_ sL.out (fun e => by cases e) K1.out (by omega) hm a0 a1).mono ?_
  rw [HP.out, HX.out]
  rintro e w2 ⟨A2, n2, c2, rfl, hn2, hb2, hnc2, hc2, _, bel2, _⟩
  obtain rfl : n2 = n + 5 := hn2.symm.trans sX.out
  have B2 : Hid (Below w.heap.size w w2) := B1.out.trans (bel2.mono B1.out.size)
  have K1 := Lib.hid (K1.out.up bel2)
  have K2 := Lib.hid hb2
  clear bel2 hb2 hn2
  go_wp2_with fail
  refine (rspoil_any w2 (some ⟨g1, 0, none⟩) s (n + 5) cap1 mask at_ sL.out K1.out (by omega) hm a0 a1).mono ?_
  rintro e w3 ⟨A3, c3, cnt, rfl, hn3, hb3, hcnt, bel3⟩
  rw [HP.out, ← sL.out] at hcnt
  have HC := Lib.hid hcnt
  have B3 : Hid (Below w.heap.size w w3) := B2.out.trans (bel3.mono B2.out.size)
  have K2 := Lib.hid (K2.out.up bel3)
  clear bel3 hb3 hn3 hcnt
  go_wp2_with fail
  refine (open_any w3 A2 x (n + 5) c2 sX.out (hT.out.below B3.out) K2.out hnc2 hc2 (by omega)).mono ?_
  rintro e w4 ⟨A4, n4, c4, rfl, hn4, hb4, _, _, bel4⟩
  have B4 : Hid (Below w.heap.size w w4) := B3.out.trans (bel4.mono B3.out.size)
  have K4 := Lib.hid hb4
  have N4 := Lib.hid hn4
  clear bel4 hb4 hn4
  by_cases hz : cnt = 0
  · have e1 : x = s := by rw [← HX.out]; exact Crc.spoilt_none sS.out hpl.out (HC.out.1 hz)
    have ⟨k1, k2, k3⟩ : kindOf x = 9 ∧ bodyOf x = l ∧ errOf x = 0 := by rw [e1, ← HS.out]; exact shut_opens 9 l
    rw [k1, k3]
    have K4 := Lib.hid K4.out
    rw [k2] at K4
    have N4 := Lib.hid N4.out
    rw [k2] at N4
    clear k1 k2 k3 e1
    subst hz
    go_wp2_with fail
    refine (equal_is w4 _ _ _ _ _ _ n4 n c4 c true N4.out HN.out K4.out (hB.out.up B4.out) (by simp)).mono ?_
    rintro e w' ⟨rfl, rfl⟩
    go_wp2_with fail
    refine (works_any w4 (hT.out.below B4.out)).mono ?_
    rintro e w5 ⟨rfl, bel5⟩
    go_wp2
    go_ret
    exact ⟨rfl, B4.out.trans (bel5.mono B4.out.size)⟩
  · have ⟨k1, k2, k3⟩ : kindOf x = 0 ∧ bodyOf x = [] ∧ errOf x = 5 := by
      rw [← HX.out, ← HS.out]
      have hpl' := hpl.out
      have hne : mask % 2 ^ (8 * s.length - p) ≠ 0 := fun h => hz (HC.out.2 h)
      rw [← HS.out] at hpl' hne
      exact spoilt_shuts (by decide) hB.out.1 hpl' hm hne
    rw [k1, k3]
    have N4 := Lib.hid N4.out
    rw [k2] at N4
    obtain rfl : 0 = n4 := N4.out
    have hzI : ((cnt : Int) == 0) = false := by rw [beq_eq_false_iff_ne]; omega
    clear k1 k2 k3
    go_wp2_with fail
    refine (works_any w4 (hT.out.below B4.out)).mono ?_
    rintro e w5 ⟨rfl, bel5⟩
    go_wp2
    go_ret
    exact ⟨rfl, B4.out.trans (bel5.mono B4.out.size)⟩
end Go.Proofs.YtjipeiigcoipjaaDoor.Se
