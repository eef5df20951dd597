/- The contracts of field's special and Text and of the document's Text. For every byte and every text. -/
import Derived.Test.YtbaiiidkffafmaaFWords
namespace Go.Proofs.Ytbaiiidkffafmaa.Fd
open Go.ChangeShapes Go.WideShapes Go.ChangeAt Go.RowKit
set_option linter.unusedVariables false

theorem eq_byte (c : UInt8) (n : Nat) (hn : n < 256) : ((c.toNat : Int) == (n : Int)) = decide (c = UInt8.ofNat n) := by
  rw [Bool.eq_iff_iff, beq_iff_eq, decide_eq_true_iff]
  constructor
  · intro h
    apply UInt8.toNat_inj.1
    rw [UInt8.toNat_ofNat_of_lt' (by show n < 256; exact hn)]
    omega
  · intro h
    rw [h, UInt8.toNat_ofNat_of_lt' (by show n < 256; exact hn)]
theorem eq34 (c : UInt8) : ((c.toNat : Int) == 34) = decide (c = 34) := eq_byte c 34 (by decide)
theorem eq92 (c : UInt8) : ((c.toNat : Int) == 92) = decide (c = 92) := eq_byte c 92 (by decide)
theorem ne34 (c : UInt8) : ((c.toNat : Int) != 34) = !decide (c = 34) := by rw [bne, eq34]
theorem ne92 (c : UInt8) : ((c.toNat : Int) != 92) = !decide (c = 92) := by rw [bne, eq92]

set_option maxHeartbeats 4000000 in
theorem rtext_any (s : ByteArray) (w : World) (hs : s.size ≤ 4611686018427387904) :
    Calls Try.prog 31 #[.string s] w fun e w' => e = .returned (.bool (textB s.data.toList)) ∧ w' = w := by
  go_enter Try.func31, Try.ntmps31
  go_wp2
  go_loop [3] (fun i => ∃ k : Nat, k ≤ s.size ∧ i = .int .i64 k ∧ (s.data.toList.take k).all okB = true) (fun i => s.size - (intOf i).toNat)
  case atStart => exact ⟨0, Nat.zero_le _, rfl, rfl⟩
  case round =>
    obtain ⟨k, hk, rfl, ha⟩ := hrel
    by_cases hlt : k < s.size
    · have hgk := Lib.hid (at_byte s k hlt)
      by_cases e1 : okB s[k] = true
      · have HA : Hid ((s.data.toList.take (k + 1)).all okB = true) := Lib.hid (by rw [take_snoc s k hlt, List.all_append, ha, Bool.true_and]; simp [e1])
        have e2 := of_decide_eq_true e1
        have t1 : decide ((s[k].toNat : Int) < 32) = false := decide_eq_false (by omega)
        have t2 : decide (126 < (s[k].toNat : Int)) = false := decide_eq_false (by omega)
        clear e1 e2 ha
        go_wp2
        go_round
        case rel => exact ⟨k + 1, by omega, by go_num, HA.out⟩
        case measure => simp [intOf]; omega
      · have e1' : okB s[k] = false := by simpa using e1
        have HR := Lib.hid (text_part hgk.out e1')
        have e2 := of_decide_eq_false e1'
        clear e1 e1' ha
        by_cases e3 : s[k].toNat < 32
        · have t1 : decide ((s[k].toNat : Int) < 32) = true := decide_eq_true (by omega)
          clear e2
          go_wp2
          go_ret
          exact ⟨ret_bool HR.out.symm, rfl⟩
        · have t1 : decide ((s[k].toNat : Int) < 32) = false := decide_eq_false (by omega)
          have t2 : decide (126 < (s[k].toNat : Int)) = true := decide_eq_true (by omega)
          clear e2 e3
          go_wp2
          go_ret
          exact ⟨ret_bool HR.out.symm, rfl⟩
    · obtain rfl : k = s.size := by omega
      have e : s.data.toList.take s.size = s.data.toList := List.take_of_length_le (by simp)
      rw [e] at ha
      have HR : Hid (textB s.data.toList = decide (s.size ≤ 60)) := Lib.hid (by unfold textB; rw [ha, Bool.true_and, list_size])
      have t1 : decide ((s.size : Int) ≤ 60) = decide (s.size ≤ 60) := by rw [Bool.eq_iff_iff]; simp; omega
      clear ha e
      go_wp2
      go_ret
      exact ⟨ret_bool HR.out.symm, rfl⟩

set_option maxHeartbeats 4000000 in
theorem ptext_any (s : ByteArray) (w : World) (hs : s.size ≤ 4611686018427387904) :
    Calls Try.prog 48 #[.string s] w fun e w' => e = .returned (.bool (textB s.data.toList)) ∧ w' = w := by
  by_cases h60 : 60 < s.size
  · have d1 : decide (60 < (s.size : Int)) = true := decide_eq_true (by omega)
    have HR : Hid (textB s.data.toList = false) := Lib.hid (by unfold textB; rw [list_size, decide_eq_false (by omega), Bool.and_false])
    go_enter Try.func48, Try.ntmps48
    go_wp2
    go_ret
    exact ⟨ret_bool HR.out.symm, rfl⟩
  have d1 : decide (60 < (s.size : Int)) = false := decide_eq_false (by omega)
  have hl60 : Hid (s.size ≤ 60) := Lib.hid (by omega)
  go_enter Try.func48, Try.ntmps48
  go_wp2
  go_loop [9] (fun i => ∃ k : Nat, k ≤ s.size ∧ i = .int .i64 k ∧ (s.data.toList.take k).all okB = true) (fun i => s.size - (intOf i).toNat)
  case atStart => exact ⟨0, Nat.zero_le _, rfl, rfl⟩
  case round =>
    obtain ⟨k, hk, rfl, ha⟩ := hrel
    by_cases hlt : k < s.size
    · have hgk := Lib.hid (at_byte s k hlt)
      by_cases e1 : okB s[k] = true
      · have HA : Hid ((s.data.toList.take (k + 1)).all okB = true) := Lib.hid (by rw [take_snoc s k hlt, List.all_append, ha, Bool.true_and]; simp [e1])
        have e2 := of_decide_eq_true e1
        have t1 : decide ((s[k].toNat : Int) < 32) = false := decide_eq_false (by omega)
        have t2 : decide (126 < (s[k].toNat : Int)) = false := decide_eq_false (by omega)
        clear e1 e2 ha
        go_wp2
        go_round
        case rel => exact ⟨k + 1, by omega, by go_num, HA.out⟩
        case measure => simp [intOf]; omega
      · have e1' : okB s[k] = false := by simpa using e1
        have HR := Lib.hid (text_part hgk.out e1')
        have e2 := of_decide_eq_false e1'
        clear e1 e1' ha
        by_cases e3 : s[k].toNat < 32
        · have t1 : decide ((s[k].toNat : Int) < 32) = true := decide_eq_true (by omega)
          clear e2
          go_wp2
          go_ret
          exact ⟨ret_bool HR.out.symm, rfl⟩
        · have t1 : decide ((s[k].toNat : Int) < 32) = false := decide_eq_false (by omega)
          have t2 : decide (126 < (s[k].toNat : Int)) = true := decide_eq_true (by omega)
          clear e2 e3
          go_wp2
          go_ret
          exact ⟨ret_bool HR.out.symm, rfl⟩
    · obtain rfl : k = s.size := by omega
      have e : s.data.toList.take s.size = s.data.toList := List.take_of_length_le (by simp)
      rw [e] at ha
      have HR : Hid (textB s.data.toList = true) := Lib.hid (by unfold textB; rw [ha, Bool.true_and, list_size]; exact decide_eq_true hl60.out)
      clear ha e
      go_wp2
      go_ret
      exact ⟨ret_bool HR.out.symm, rfl⟩
end Go.Proofs.Ytbaiiidkffafmaa.Fd
