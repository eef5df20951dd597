/- The walk of the law CrcBursts: it returns true, for every slice of fewer bytes than 2^47, and every place and mask; nothing that was there has changed. It asks that the package's table lies in its variable. -/
import Derived.Test.YtlgfieplapebjaaDoorWalks
import Derived.Test.YtlgfieplapebjaaDoorTurned
namespace Go.Proofs.YtlgfieplapebjaaDoor.Cr
open Go.ChangeShapes Go.WideShapes Go.ChangeAt Go.RowKit
set_option linter.unusedVariables false

theorem bursts_none (w : World) (A : Option Addr) (c at_ mask : Nat) (ht : Tab w) :
    Calls Tryd.prog 5 #[.slice A 0 c, .int .u16 (at_ : Int), .int .u32 (mask : Int)] w fun e w' => e = .returned (.bool true) ∧ Below w.heap.size w w' := by
  have hT := Lib.hid ht
  clear ht
  go_enter Tryd.func5, Tryd.ntmps5
  go_wp2_with fail
  refine (works_any _ hT.out).mono ?_
  rintro e w' ⟨rfl, b5⟩
  go_wp2
  go_ret
  exact ⟨rfl, b5⟩

theorem bursts_some (w : World) (A : Option Addr) (l : List Nat) (c at_ mask : Nat) (ht : Tab w) (hb : Bytes w w.heap.size A l) (h0 : 0 < l.length) (hl : l.length ≤ 140737488351232) (hat : at_ < 65536) (hm : mask < 4294967296) :
    Calls Tryd.prog 5 #[.slice A l.length c, .int .u16 (at_ : Int), .int .u32 (mask : Int)] w fun e w' => e = .returned (.bool true) ∧ Below w.heap.size w w' := by
  have hT := Lib.hid ht
  have hB := Lib.hid hb
  clear ht hb
  obtain ⟨p, hp⟩ : ∃ p : Nat, p = at_ % (8 * l.length) := ⟨_, rfl⟩
  have hpl : p < 8 * l.length := by rw [hp]; exact Nat.mod_lt _ (by omega)
  have hpI : (at_ : Int) % (8 * (l.length : Int)) = (p : Int) := by rw [hp]; simp
  have hne : ((l.length : Int) == 0) = false := by rw [beq_eq_false_iff_ne]; omega
  have hne8 : ((8 * (l.length : Int)) == 0) = false := by rw [beq_eq_false_iff_ne]; omega
  clear hp
  go_enter Tryd.func5, Tryd.ntmps5
  go_wp2_with fail
  refine (turned_any w A l c p mask hB.out h0 hl hpl hm).mono ?_
  rintro e w1 ⟨g, cap, x, cnt, l', rfl, hlen, hb1, hle, hx, hiff, bel⟩
  have hburst := Crc.burst hlen hle hx (Nat.le_of_lt hpl)
  have n1 : l'.length ≤ 9223372036854775807 := by omega
  have HL := Lib.hid hlen
  have HB1 := Lib.hid hb1
  have HB2 := Lib.hid (hB.out.up bel)
  have HT1 := Lib.hid (hT.out.below bel)
  clear hpI hne hne8 hlen hb1 hle hx
  by_cases hz : x = 0
  · have hs : Crc.more 0 l' = Crc.more 0 l := hburst.2 hz
    obtain rfl : cnt = 0 := hiff.2 hz
    obtain ⟨s, r1⟩ : ∃ s, Crc.more 0 l = s := ⟨_, rfl⟩
    have R1 := Lib.hid (hs.trans r1)
    have R2 := Lib.hid r1
    clear hs r1 hz hiff hburst
    go_wp2_with fail
    refine (one_part w1 _ l' _ _ _ s HL.out.symm rfl R1.out HT1.out HB1.out n1).mono ?_
    rintro e w' ⟨rfl, rfl⟩
    have b1 := below_new w1 (.cells #[.slice (some ⟨g, 0, none⟩) l.length cap] 24)
    go_wp2_with fail
    refine (one_part _ A l _ _ _ s rfl (by simp) R2.out (HT1.out.below b1) (HB2.out.up b1) (by omega)).mono ?_
    rintro e w' ⟨rfl, rfl⟩
    have b2 := b1.alloc b1.size (.cells #[.slice A l.length c] 24)
    go_wp2_with fail
    refine (works_any _ (HT1.out.below b2)).mono ?_
    rintro e w' ⟨rfl, b5⟩
    go_wp2
    go_ret
    exact ⟨rfl, bel.trans ((b2.trans (b5.mono b2.size)).mono bel.size)⟩
  · have hs : ¬ Crc.more 0 l' = Crc.more 0 l := fun h => hz (hburst.1 h)
    have hc : ¬ cnt = 0 := fun h => hz (hiff.1 h)
    obtain ⟨s1, r1⟩ : ∃ s, Crc.more 0 l' = s := ⟨_, rfl⟩
    obtain ⟨s2, r2⟩ : ∃ s, Crc.more 0 l = s := ⟨_, rfl⟩
    have e1 : ((s1 : Int) == (s2 : Int)) = false := by rw [beq_eq_false_iff_ne, ← r1, ← r2]; omega
    have e2 : ((cnt : Int) == 0) = false := by rw [beq_eq_false_iff_ne]; omega
    have R1 := Lib.hid r1
    have R2 := Lib.hid r2
    clear hs hc r1 r2 hz hiff hburst
    go_wp2_with fail
    refine (one_part w1 _ l' _ _ _ s1 HL.out.symm rfl R1.out HT1.out HB1.out n1).mono ?_
    rintro e w' ⟨rfl, rfl⟩
    have b1 := below_new w1 (.cells #[.slice (some ⟨g, 0, none⟩) l.length cap] 24)
    go_wp2_with fail
    refine (one_part _ A l _ _ _ s2 rfl (by simp) R2.out (HT1.out.below b1) (HB2.out.up b1) (by omega)).mono ?_
    rintro e w' ⟨rfl, rfl⟩
    have b2 := b1.alloc b1.size (.cells #[.slice A l.length c] 24)
    go_wp2_with fail
    refine (works_any _ (HT1.out.below b2)).mono ?_
    rintro e w' ⟨rfl, b5⟩
    go_wp2
    go_ret
    exact ⟨rfl, bel.trans ((b2.trans (b5.mono b2.size)).mono bel.size)⟩

theorem bursts_walk (w : World) (A : Option Addr) (l : List Nat) (c at_ mask : Nat) (ht : Tab w) (hb : Bytes w w.heap.size A l) (hl : l.length ≤ 140737488351232) (hat : at_ < 65536) (hm : mask < 4294967296) :
    Calls Tryd.prog 5 #[.slice A l.length c, .int .u16 (at_ : Int), .int .u32 (mask : Int)] w fun e w' => e = .returned (.bool true) ∧ Below w.heap.size w w' := by
  rcases Nat.eq_zero_or_pos l.length with h0 | h0
  · rw [h0]; exact bursts_none w A c at_ mask ht
  · exact bursts_some w A l c at_ mask ht hb h0 hl hat hm
end Go.Proofs.YtlgfieplapebjaaDoor.Cr
