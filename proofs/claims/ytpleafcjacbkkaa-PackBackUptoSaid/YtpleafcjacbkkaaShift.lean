/- The contracts of layer shift's Len and Byte and of the document's answers for them, as layer num calls them: what each call returns, for every number of its parameters' types; the world stays as it was. -/
import Derived.Test.YtpleafcjacbkkaaRows
import Derived.Test.YtpleafcjacbkkaaMath
import Derived.WalkKit
import Derived.ProofKit
import Derived.OpenShut
import Derived.Lib.Hide
namespace Go.Proofs.Ytpleafcjacbkkaa.Sh
open Go.ChangeShapes Go.WideShapes Go.ChangeAt Go.RowKit
set_option linter.unusedVariables false

theorem ret_int {k : IntKind} {a b : Int} (h : a = b) : Ending.returned (.int k a) = .returned (.int k b) := by rw [h]
theorem pow_pos' (k : Nat) : (0 : Int) < 2 ^ k := Int.pow_pos (by decide)
/-- A byte of a number. -/
def byt (v i : Int) : Int := if 0 ≤ i ∧ i < 8 then v / 2 ^ (i * 8).toNat % 256 else 0
/-- How many bytes. -/
def lenN : Nat → Int → Int
  | 0, _ => 0
  | f + 1, v => if v ≤ 0 then 0 else 1 + lenN f (v / 256)
def len (v : Int) : Int := lenN 8 v

theorem byte_any (v i : Int) (w : World) (h0 : 0 ≤ v) (h1 : v < 18446744073709551616) (i0 : -9223372036854775808 ≤ i) (i1 : i ≤ 9223372036854775807) :
    Calls Try.prog 46 #[.int .u64 v, .int .i64 i] w fun e w' => e = .returned (.int .u8 (byt v i)) ∧ w = w' := by
  by_cases h : 0 ≤ i ∧ i < 8
  · obtain ⟨a0, a1⟩ := h
    go_enter Try.func46, Try.ntmps46
    go_wp2
    go_ret
    exact ⟨ret_int (by unfold byt; rw [if_pos ⟨a0, a1⟩]), rfl⟩
  · by_cases h2 : i < 0
    · go_enter Try.func46, Try.ntmps46
      go_wp2
      go_ret
      exact ⟨ret_int (by unfold byt; rw [if_neg h]), rfl⟩
    · have h3 : 8 ≤ i := by omega
      have hd : decide (i < 8) = false := by simpa using h3
      go_enter Try.func46, Try.ntmps46
      go_wp2
      go_ret
      exact ⟨ret_int (by unfold byt; rw [if_neg h]), rfl⟩

theorem div_step (v : Int) (j : Nat) : v / 2 ^ (8 * (j + 1)) = v / 2 ^ (8 * j) / 256 := by
  rw [show 8 * (j + 1) = 8 * j + 8 from by omega, Int.pow_add, ← Int.ediv_ediv_of_nonneg (Int.le_of_lt (pow_pos' _))]
  rfl

set_option maxHeartbeats 400000 in
theorem rbyte_any (v i : Int) (w : World) (h0 : 0 ≤ v) (h1 : v < 18446744073709551616) (i0 : -9223372036854775808 ≤ i) (i1 : i ≤ 9223372036854775807) :
    Calls Try.prog 42 #[.int .u64 v, .int .i64 i] w fun e w' => e = .returned (.int .u8 (byt v i)) ∧ w = w' := by
  by_cases h : 0 ≤ i ∧ i < 8
  · have e1 : byt v i = v / 2 ^ (i * 8).toNat % 256 := if_pos h
    rw [e1]
    clear e1
    obtain ⟨a0, a1⟩ := h
    obtain ⟨n, rfl⟩ := Int.eq_ofNat_of_zero_le a0
    have hb : decide (7 < (n : Int)) = false := by simp; omega
    have hn : n < 8 := by omega
    go_enter Try.func42, Try.ntmps42
    go_wp2
    go_loop [0, 5] (fun x k => ∃ j : Nat, j ≤ n ∧ k = .int .i64 j ∧ x = .int .u64 (v / 2 ^ (8 * j))) (fun _ k => n - (intOf k).toNat)
    case atStart => exact ⟨0, by omega, rfl, by simp⟩
    case round =>
      obtain ⟨j, hj, rfl, rfl⟩ := hrel
      have q0 : 0 ≤ v / 2 ^ (8 * j) := Int.ediv_nonneg h0 (Int.le_of_lt (pow_pos' _))
      have q1 : v / 2 ^ (8 * j) < 18446744073709551616 := by
        have : v / 2 ^ (8 * j) ≤ v := Int.ediv_le_self _ h0
        omega
      by_cases hlt : j < n
      · go_wp2
        go_round
        case rel => exact ⟨j + 1, by omega, by go_num, by rw [div_step]⟩
        case measure => simp [intOf]; omega
      · go_wp2
        go_ret
        exact ⟨ret_int (by rw [show j = n from by omega, show ((n : Int) * 8).toNat = 8 * n from by omega]), rfl⟩
  · have e1 : byt v i = 0 := if_neg h
    rw [e1]
    clear e1
    by_cases h2 : i < 0
    · clear h
      go_enter Try.func42, Try.ntmps42
      go_wp2
      go_ret
      exact ⟨rfl, rfl⟩
    · have h3 : 7 < i := by omega
      have hb : decide (7 < i) = true := by simpa using h3
      clear h
      go_enter Try.func42, Try.ntmps42
      go_wp2
      go_ret
      exact ⟨rfl, rfl⟩

theorem len_step (f : Nat) (x : Int) (h0 : 0 < x) (h1 : x < 2 ^ (8 * f)) : ∃ g : Nat, f = g + 1 ∧ x / 256 < 2 ^ (8 * g) ∧ lenN f x = 1 + lenN g (x / 256) := by
  cases f with
  | zero => simp at h1; omega
  | succ g =>
    refine ⟨g, rfl, ?_, ?_⟩
    · rw [show 8 * (g + 1) = 8 * g + 8 from by omega, Int.pow_add] at h1
      rw [show (2 : Int) ^ 8 = 256 from rfl] at h1
      generalize (2 : Int) ^ (8 * g) = p at *
      omega
    · rw [lenN, if_neg (by omega)]

theorem lenN_zero (f : Nat) : lenN f 0 = 0 := by cases f <;> simp [lenN]

set_option maxHeartbeats 400000 in
theorem len_any (v : Int) (w : World) (h0 : 0 ≤ v) (h1 : v < 18446744073709551616) :
    Calls Try.prog 45 #[.int .u64 v] w fun e w' => e = .returned (.int .i64 (len v)) ∧ w = w' := by
  have hl : ∃ L, L = len v := ⟨_, rfl⟩
  obtain ⟨L, hL⟩ := hl
  rw [← hL]
  have HL := Lib.hid hL
  clear hL
  go_enter Try.func45, Try.ntmps45
  go_wp2
  go_loop [0, 3] (fun s t => ∃ (f : Nat) (x c : Int), 0 ≤ x ∧ x < 2 ^ (8 * f) ∧ x < 18446744073709551616 ∧ 0 ≤ c ∧ c + f ≤ 8 ∧ c + lenN f x = L ∧ s = .int .u64 x ∧ t = .int .i64 c) (fun s _ => (intOf s).toNat)
  case atStart => exact ⟨8, v, 0, h0, h1, h1, by omega, by omega, by rw [HL.out]; unfold len; omega, rfl, rfl⟩
  case round =>
    obtain ⟨f, x, c, x0, x1, x2, c0, c1, hc, rfl, rfl⟩ := hrel
    have HC := Lib.hid hc
    have HX := Lib.hid x1
    clear hc x1
    by_cases hx : 0 < x
    · have hb : (x != 0) = true := by simp; omega
      go_wp2
      go_round
      case rel =>
        obtain ⟨g, rfl, g1, g2⟩ := len_step f x hx HX.out
        exact ⟨g, x / 256, c + 1, by omega, g1, by omega, by omega, by omega, by have := HC.out; omega, rfl, rfl⟩
      case measure => simp [intOf]; omega
    · obtain rfl : x = 0 := by omega
      go_wp2
      go_ret
      exact ⟨ret_int (by have := HC.out; rw [lenN_zero] at this; omega), rfl⟩

set_option maxHeartbeats 400000 in
theorem rlen_any (v : Int) (w : World) (h0 : 0 ≤ v) (h1 : v < 18446744073709551616) :
    Calls Try.prog 41 #[.int .u64 v] w fun e w' => e = .returned (.int .i64 (len v)) ∧ w = w' := by
  have hl : ∃ L, L = len v := ⟨_, rfl⟩
  obtain ⟨L, hL⟩ := hl
  rw [← hL]
  have HL := Lib.hid hL
  clear hL
  go_enter Try.func41, Try.ntmps41
  go_wp2
  go_loop [0, 3] (fun s t => ∃ (f : Nat) (x c : Int), 0 ≤ x ∧ x < 2 ^ (8 * f) ∧ x < 18446744073709551616 ∧ 0 ≤ c ∧ c + f ≤ 8 ∧ c + lenN f x = L ∧ s = .int .u64 x ∧ t = .int .i64 c) (fun s _ => (intOf s).toNat)
  case atStart => exact ⟨8, v, 0, h0, h1, h1, by omega, by omega, by rw [HL.out]; unfold len; omega, rfl, rfl⟩
  case round =>
    obtain ⟨f, x, c, x0, x1, x2, c0, c1, hc, rfl, rfl⟩ := hrel
    have HC := Lib.hid hc
    have HX := Lib.hid x1
    clear hc x1
    by_cases hx : 0 < x
    · go_wp2
      go_round
      case rel =>
        obtain ⟨g, rfl, g1, g2⟩ := len_step f x hx HX.out
        exact ⟨g, x / 256, c + 1, by omega, g1, by omega, by omega, by omega, by have := HC.out; omega, rfl, rfl⟩
      case measure => simp [intOf]; omega
    · obtain rfl : x = 0 := by omega
      go_wp2
      go_ret
      exact ⟨ret_int (by have := HC.out; rw [lenN_zero] at this; omega), rfl⟩

theorem lenN_nat (f v : Nat) : lenN f (v : Int) = ((Nu.lenN f v : Nat) : Int) := by
  induction f generalizing v with
  | zero => rfl
  | succ f ih =>
    unfold lenN Nu.lenN
    by_cases h : v = 0
    · subst h; simp
    · rw [if_neg (by omega), if_neg h, show (v : Int) / 256 = ((v / 256 : Nat) : Int) by omega, ih]
      omega
theorem len_nat (v : Nat) : len (v : Int) = ((Nu.blen v : Nat) : Int) := lenN_nat 8 v
theorem byt_nat (v i : Nat) (hi : i < 8) : byt (v : Int) (i : Int) = ((v / 256 ^ i % 256 : Nat) : Int) := by
  unfold byt
  rw [if_pos (by omega), show ((i : Int) * 8).toNat = 8 * i by omega]
  have e : (256 : Nat) ^ i = 2 ^ (8 * i) := by rw [Nat.pow_mul]
  rw [e]
  simp

theorem len_c (v : Nat) (w : World) (h : v < 18446744073709551616) : Calls Try.prog 45 #[.int .u64 (v : Int)] w fun e w' => e = .returned (.int .i64 ((Nu.blen v : Nat) : Int)) ∧ w = w' := by
  have := len_any (v : Int) w (by omega) (by omega)
  rwa [len_nat] at this
theorem rlen_c (v : Nat) (w : World) (h : v < 18446744073709551616) : Calls Try.prog 41 #[.int .u64 (v : Int)] w fun e w' => e = .returned (.int .i64 ((Nu.blen v : Nat) : Int)) ∧ w = w' := by
  have := rlen_any (v : Int) w (by omega) (by omega)
  rwa [len_nat] at this
theorem byte_c (v i : Nat) (w : World) (h : v < 18446744073709551616) (hi : i < 8) : Calls Try.prog 46 #[.int .u64 (v : Int), .int .i64 (i : Int)] w fun e w' => e = .returned (.int .u8 ((v / 256 ^ i % 256 : Nat) : Int)) ∧ w = w' := by
  have := byte_any (v : Int) (i : Int) w (by omega) (by omega) (by omega) (by omega)
  rwa [byt_nat v i hi] at this
theorem rbyte_c (v i : Nat) (w : World) (h : v < 18446744073709551616) (hi : i < 8) : Calls Try.prog 42 #[.int .u64 (v : Int), .int .i64 (i : Int)] w fun e w' => e = .returned (.int .u8 ((v / 256 ^ i % 256 : Nat) : Int)) ∧ w = w' := by
  have := rbyte_any (v : Int) (i : Int) w (by omega) (by omega) (by omega) (by omega)
  rwa [byt_nat v i hi] at this
theorem size_c (v : Nat) (w : World) (h : v < 18446744073709551616) : Calls Try.prog 44 #[.int .u64 (v : Int)] w fun e w' => e = .returned (.int .i64 (1 + (Nu.blen v : Nat) : Int)) ∧ w = w' := by
  have hb := Nu.blen_le v
  go_enter Try.func44, Try.ntmps44
  go_wp2_with fail
  refine (len_c v _ h).mono ?_
  rintro e w' ⟨rfl, rfl⟩
  go_wp2
  go_ret
  exact ⟨rfl, rfl⟩
end Go.Proofs.Ytpleafcjacbkkaa.Sh
