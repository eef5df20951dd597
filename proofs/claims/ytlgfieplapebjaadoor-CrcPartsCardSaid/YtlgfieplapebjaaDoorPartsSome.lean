/- The walk of the law CrcParts at some bytes: it returns true, for every place; nothing that was there has changed. It asks that the package's table lies in its variable. -/
import Derived.Test.YtlgfieplapebjaaDoorLater
namespace Go.Proofs.YtlgfieplapebjaaDoor.Cr
open Go.ChangeShapes Go.WideShapes Go.ChangeAt Go.RowKit
set_option linter.unusedVariables false

set_option maxHeartbeats 8000000 in
theorem parts_some (w : World) (ad : Addr) (l : List Nat) (n c cut : Nat) (hln : Hid (l.length = n)) (ht : Hid (Tab w)) (hb : Hid (Bytes w w.heap.size (some ad) l)) (h0 : 0 < n) (hlc : n ≤ c) (hc : c ≤ 9223372036854775807) (hcut : cut < 65536) :
    Calls Tryd.prog 4 #[.slice (some ad) n c, .int .u16 (cut : Int)] w fun e w' => e = .returned (.bool true) ∧ Below w.heap.size w w' := by
  obtain ⟨k, hk⟩ : ∃ k : Nat, k = cut % n := ⟨_, rfl⟩
  have hkl : k < n := by rw [hk]; exact Nat.mod_lt _ h0
  have hkI : (cut : Int) % (n : Int) = (k : Int) := by rw [hk]; simp
  clear hk
  have hpos : decide ((0 : Int) < (n : Int)) = true := by rw [decide_eq_true_iff]; omega
  have hne : ((n : Int) == 0) = false := by rw [beq_eq_false_iff_ne]; omega
  obtain ⟨s1, hs1⟩ : ∃ s, Crc.more 0 (l.take k) = s := ⟨_, rfl⟩
  obtain ⟨s, hs⟩ : ∃ s, Crc.more 0 l = s := ⟨_, rfl⟩
  have l1 : Hid ((l.take k).length = k) := by show _ = _; rw [List.length_take, hln.out]; omega
  have l2 : Hid ((l.drop k).length = n - k) := by show _ = _; rw [List.length_drop, hln.out]
  have r1 := Lib.hid hs1
  have r0 := Lib.hid hs
  have r3 : Hid (Crc.more (Crc.more (Crc.more 0 (l.take k)) []) (l.drop k) = s) := by
    show _ = _
    rw [Crc.more_nil, Crc.more_more, List.take_append_drop]; exact hs
  have r4 : Hid (Crc.more s1 (l.drop k) = s) := by
    show _ = _
    rw [← hs1, Crc.more_more, List.take_append_drop]; exact hs
  have hs1l : s1 < 4294967296 := by rw [← hs1]; exact Crc.more_lt (small_take hb.out.1 k) (by decide)
  clear hs1 hs
  have b1 := Lib.hid (hb.out.take k)
  have b2 := Lib.hid (hb.out.drop k)
  go_enter Tryd.func4, Tryd.ntmps4
  go_wp2_with fail
  rw [hkI]
  clear hkI hpos hne
  have hck : ¬ c = k := by omega
  have i1 : (0 : Int) ≤ (k : Int) := by omega
  have i2 : (k : Int) ≤ (n : Int) := by omega
  have i3 : (k : Int) ≤ (c : Int) := by omega
  have i4 : k ≤ n := by omega
  have i5 : k ≤ c := by omega
  go_region_held3 (fun _ => True) (trivial) (first
    | (go_at_call 11; (with_reducible refine (works_later w _ ht.out ?_).mono ?_); (repeat (first | exact Below.refl _ _ | apply bel_drew | apply bel_alloc)); rintro e w' ⟨rfl, bw⟩)
    | (go_at_call 9; (with_reducible refine (more_later w _ s s1 (n - k) (c - k) (some (ad.add k)) (l.drop k) l2.out r4.out hs1l ht.out b2.out (by omega) ?_).mono ?_); (repeat (first | exact Below.refl _ _ | apply bel_drew | apply bel_alloc)); rintro e w' ⟨rfl, rfl⟩)
    | (go_at_call 7; (with_reducible refine (of_three_later w _ _ s k (n - k) c (c - k) (some ad) (some (ad.add k)) (l.take k) (l.drop k) l1.out l2.out r3.out ht.out b1.out b2.out (by omega) (by omega) ?_ ?_ ?_ ?_).mono ?_); (repeat (first | exact Below.refl _ _ | apply bel_drew | apply bel_alloc)); (focus (simp [go_sem]; done)); (focus (simp [go_sem]; done)); (focus (simp [go_sem]; done)); rintro e w' ⟨rfl, rfl⟩)
    | (go_at_call 7; (with_reducible refine (of_one_later w _ _ s n c (some ad) l hln.out r0.out ht.out hb.out (by omega) ?_ ?_).mono ?_); (repeat (first | exact Below.refl _ _ | apply bel_drew | apply bel_alloc)); (focus (simp [go_sem]; done)); rintro e w' ⟨rfl, rfl⟩)
    | (go_at_call 7; (with_reducible refine (of_one_later w _ _ s1 k c (some ad) (l.take k) l1.out r1.out ht.out b1.out (by omega) ?_ ?_).mono ?_); (repeat (first | exact Below.refl _ _ | apply bel_drew | apply bel_alloc)); (focus (simp [go_sem]; done)); rintro e w' ⟨rfl, rfl⟩))
  all_goals (go_wp2; go_ret; exact ⟨rfl, by assumption⟩)
end Go.Proofs.YtlgfieplapebjaaDoor.Cr
