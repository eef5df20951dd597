/- The walks of layer crc's laws: each returns true, for every slice of bytes; nothing that was there has changed. They ask that the package's table lies in its variable. -/
import Derived.Test.YtlgfieplapebjaaDoorCrc
namespace Go.Proofs.YtlgfieplapebjaaDoor.Cr
open Go.ChangeShapes Go.WideShapes Go.ChangeAt Go.RowKit
set_option linter.unusedVariables false

theorem Bytes.up {w W : World} {A : Option Addr} {l : List Nat} (h : Bytes w w.heap.size A l) (hb : Below w.heap.size w W) : Bytes W W.heap.size A l := (h.below hb).more hb.size

theorem two_parts (w : World) (A1 A2 : Option Addr) (l1 l2 : List Nat) (m1 m2 d1 d2 g s : Nat) (e1 : m1 = l1.length) (e2 : m2 = l2.length) (hg : g = w.heap.size) (hs : Crc.more (Crc.more 0 l1) l2 = s) (ht : Tab w)
    (h1 : Bytes w w.heap.size A1 l1) (h2 : Bytes w w.heap.size A2 l2) (n1 : l1.length ≤ 9223372036854775807) (n2 : l2.length ≤ 9223372036854775807) :
    Calls Tryd.prog 7 #[.slice (some ⟨g, 0, none⟩) 2 2] (w.alloc (.cells #[.slice A1 m1 d1, .slice A2 m2 d2] 24)) fun e w' => e = .returned (.int .u32 (s : Int)) ∧ w.alloc (.cells #[.slice A1 m1 d1, .slice A2 m2 d2] 24) = w' :=
  of_new w [⟨A1, d1, l1⟩, ⟨A2, d2, l2⟩] _ (by subst e1 e2; rfl) g 2 2 hg rfl (by simp) s hs ht (fun p hp => by
    rcases List.mem_cons.1 hp with rfl | hp
    · exact ⟨h1, n1⟩
    · obtain rfl := List.mem_singleton.1 hp
      exact ⟨h2, n2⟩)

theorem one_part (w : World) (A : Option Addr) (l : List Nat) (m d g s : Nat) (hm : m = l.length) (hg : g = w.heap.size) (hs : Crc.more 0 l = s) (ht : Tab w) (hb : Bytes w w.heap.size A l) (hl : l.length ≤ 9223372036854775807) :
    Calls Tryd.prog 7 #[.slice (some ⟨g, 0, none⟩) 1 1] (w.alloc (.cells #[.slice A m d] 24)) fun e w' => e = .returned (.int .u32 (s : Int)) ∧ w.alloc (.cells #[.slice A m d] 24) = w' := by
  subst hs
  exact of_one w A l m d g hm hg ht hb hl

theorem one_walk (w : World) (A1 A2 A3 : Option Addr) (l1 l2 l3 : List Nat) (c1 c2 c3 : Nat) (ht : Tab w) (h1 : Bytes w w.heap.size A1 l1) (h2 : Bytes w w.heap.size A2 l2) (h3 : Bytes w w.heap.size A3 l3)
    (n1 : l1.length ≤ 9223372036854775807) (n2 : l2.length ≤ 9223372036854775807) (n3 : l3.length ≤ 9223372036854775807) :
    Calls Tryd.prog 6 #[.slice A1 l1.length c1, .slice A2 l2.length c2, .slice A3 l3.length c3] w fun e w' => e = .returned (.bool true) ∧ Below w.heap.size w w' := by
  have hT := Lib.hid ht
  have hB1 := Lib.hid h1
  have hB2 := Lib.hid h2
  have hB3 := Lib.hid h3
  obtain ⟨s1, r1⟩ : ∃ s, Crc.more 0 l1 = s := ⟨_, rfl⟩
  obtain ⟨s2, r2⟩ : ∃ s, Crc.more 0 l2 = s := ⟨_, rfl⟩
  obtain ⟨t1, r3⟩ : ∃ s, Crc.more (Crc.more 0 l1) l3 = s := ⟨_, rfl⟩
  obtain ⟨t2, r4⟩ : ∃ s, Crc.more (Crc.more 0 l2) l3 = s := ⟨_, rfl⟩
  have hiff : s1 = s2 ↔ t1 = t2 := by
    rw [← r1, ← r2, ← r3, ← r4]
    exact (Crc.more_inj (Crc.more_lt h1.1 (by decide)) (Crc.more_lt h2.1 (by decide))).symm
  have R1 := Lib.hid r1
  have R2 := Lib.hid r2
  have R3 := Lib.hid r3
  have R4 := Lib.hid r4
  clear r1 r2 r3 r4 ht h1 h2 h3
  by_cases hs : s1 = s2
  · obtain rfl := hs
    obtain rfl : t1 = t2 := hiff.1 rfl
    clear hiff
    go_enter Tryd.func6, Tryd.ntmps6
    go_wp2_with fail
    refine (one_part w A1 l1 _ _ _ s1 rfl rfl R1.out hT.out hB1.out n1).mono ?_
    rintro e w' ⟨rfl, rfl⟩
    have b1 := below_new w (.cells #[.slice A1 l1.length c1] 24)
    go_wp2_with fail
    refine (one_part _ A2 l2 _ _ _ s1 rfl (by simp) R2.out (hT.out.below b1) (hB2.out.up b1) n2).mono ?_
    rintro e w' ⟨rfl, rfl⟩
    have b2 := b1.alloc b1.size (.cells #[.slice A2 l2.length c2] 24)
    go_wp2_with fail
    refine (two_parts _ A1 A3 l1 l3 _ _ _ _ _ t1 rfl rfl (by simp) R3.out (hT.out.below b2) (hB1.out.up b2) (hB3.out.up b2) n1 n3).mono ?_
    rintro e w' ⟨rfl, rfl⟩
    have b3 := b2.alloc b2.size (.cells #[.slice A1 l1.length c1, .slice A3 l3.length c3] 24)
    go_wp2_with fail
    refine (two_parts _ A2 A3 l2 l3 _ _ _ _ _ t1 rfl rfl (by simp) R4.out (hT.out.below b3) (hB2.out.up b3) (hB3.out.up b3) n2 n3).mono ?_
    rintro e w' ⟨rfl, rfl⟩
    have b4 := b3.alloc b3.size (.cells #[.slice A2 l2.length c2, .slice A3 l3.length c3] 24)
    go_wp2_with fail
    refine (works_any _ (hT.out.below b4)).mono ?_
    rintro e w' ⟨rfl, b5⟩
    go_wp2
    go_ret
    exact ⟨rfl, b4.trans (b5.mono b4.size)⟩
  · have e1 : ((s1 : Int) == (s2 : Int)) = false := by rw [beq_eq_false_iff_ne]; omega
    have e2 : ((t1 : Int) == (t2 : Int)) = false := by
      rw [beq_eq_false_iff_ne]; intro h; exact hs (hiff.2 (by omega))
    clear hiff hs
    go_enter Tryd.func6, Tryd.ntmps6
    go_wp2_with fail
    refine (one_part w A1 l1 _ _ _ s1 rfl rfl R1.out hT.out hB1.out n1).mono ?_
    rintro e w' ⟨rfl, rfl⟩
    have b1 := below_new w (.cells #[.slice A1 l1.length c1] 24)
    go_wp2_with fail
    refine (one_part _ A2 l2 _ _ _ s2 rfl (by simp) R2.out (hT.out.below b1) (hB2.out.up b1) n2).mono ?_
    rintro e w' ⟨rfl, rfl⟩
    have b2 := b1.alloc b1.size (.cells #[.slice A2 l2.length c2] 24)
    go_wp2_with fail
    refine (two_parts _ A1 A3 l1 l3 _ _ _ _ _ t1 rfl rfl (by simp) R3.out (hT.out.below b2) (hB1.out.up b2) (hB3.out.up b2) n1 n3).mono ?_
    rintro e w' ⟨rfl, rfl⟩
    have b3 := b2.alloc b2.size (.cells #[.slice A1 l1.length c1, .slice A3 l3.length c3] 24)
    go_wp2_with fail
    refine (two_parts _ A2 A3 l2 l3 _ _ _ _ _ t2 rfl rfl (by simp) R4.out (hT.out.below b3) (hB2.out.up b3) (hB3.out.up b3) n2 n3).mono ?_
    rintro e w' ⟨rfl, rfl⟩
    have b4 := b3.alloc b3.size (.cells #[.slice A2 l2.length c2, .slice A3 l3.length c3] 24)
    go_wp2_with fail
    refine (works_any _ (hT.out.below b4)).mono ?_
    rintro e w' ⟨rfl, b5⟩
    go_wp2
    go_ret
    exact ⟨rfl, b4.trans (b5.mono b4.size)⟩

theorem says_walk (w : World) (A1 A3 : Option Addr) (ps : List Part) (l3 : List Nat) (c1 c3 s : Nat) (ht : Tab w) (h1 : Parts w w.heap.size A1 ps) (h3 : Bytes w w.heap.size A3 l3) (hs : s < 4294967296)
    (n1 : ps.length ≤ 9223372036854775807) (n3 : l3.length ≤ 9223372036854775807) :
    Calls Tryd.prog 3 #[.slice A1 ps.length c1, .int .u32 (s : Int), .slice A3 l3.length c3] w fun e w' => e = .returned (.bool true) ∧ Below w.heap.size w w' := by
  have hT := Lib.hid ht
  have hB1 := Lib.hid h1
  have hB3 := Lib.hid h3
  clear ht h1 h3
  go_enter Tryd.func3, Tryd.ntmps3
  go_wp2_with fail
  refine (of_any ps _ _ _ _ n1 hT.out hB1.out).mono ?_
  rintro e w' ⟨rfl, rfl⟩
  go_wp2_with fail
  refine (rof_any ps _ _ _ _ n1 hB1.out).mono ?_
  rintro e w' ⟨rfl, rfl⟩
  go_wp2_with fail
  refine (more_any s l3 _ _ _ _ hs n3 hT.out hB3.out).mono ?_
  rintro e w' ⟨rfl, rfl⟩
  go_wp2_with fail
  refine (rmore_any s l3 _ _ _ _ hs n3 hB3.out).mono ?_
  rintro e w' ⟨rfl, rfl⟩
  go_wp2_with fail
  refine (works_any _ hT.out).mono ?_
  rintro e w' ⟨rfl, b5⟩
  go_wp2
  go_ret
  exact ⟨rfl, b5⟩
end Go.Proofs.YtlgfieplapebjaaDoor.Cr
