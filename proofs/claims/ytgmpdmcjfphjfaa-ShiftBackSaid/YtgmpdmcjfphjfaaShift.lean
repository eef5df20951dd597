/- The contracts of layer shift's functions and of the document's answers for them: what each call returns, for every number of its parameters' types; the world stays as it was. -/
import Derived.Test.YtgmpdmcjfphjfaaRows
import Derived.Test.YtgmpdmcjfphjfaaMath
import Derived.WalkKit
import Derived.ProofKit
import Derived.OpenShut
import Derived.Lib.Hide
namespace Go.Proofs.Ytgmpdmcjfphjfaa.Sh
open Go.ChangeShapes Go.WideShapes Go.ChangeAt Go.RowKit
set_option linter.unusedVariables false

theorem ret_int {k : IntKind} {a b : Int} (h : a = b) : Ending.returned (.int k a) = .returned (.int k b) := by rw [h]

theorem low_any (v : Int) (w : World) (h0 : 0 ≤ v) (h1 : v < 18446744073709551616) :
    Calls Try.prog 26 #[.int .u64 v] w fun e w' => e = .returned (.int .u64 (v % 281474976710656)) ∧ w = w' := by
  go_enter Try.func26, Try.ntmps26
  go_wp2
  go_ret
  exact ⟨ret_int (by rw [IntKind.wrap_u64]; omega), rfl⟩

theorem pack_any (d v : Int) (w : World) (hd0 : 0 ≤ d) (hd1 : d < 65536) (h0 : 0 ≤ v) (h1 : v < 18446744073709551616) :
    Calls Try.prog 9 #[.int .u16 d, .int .u64 v] w fun e w' => e = .returned (.int .u64 (d * 281474976710656 + v % 281474976710656)) ∧ w = w' := by
  go_enter Try.func9, Try.ntmps9
  go_wp2_with (go_at_call 26; refine (low_any _ _ (by omega) (by omega)).mono ?_; rintro e w' ⟨rfl, rfl⟩)
  go_ret
  exact ⟨ret_int (pack_or d v hd0 hd1), rfl⟩

theorem rpack_any (d v : Int) (w : World) (hd0 : 0 ≤ d) (hd1 : d < 65536) (h0 : 0 ≤ v) (h1 : v < 18446744073709551616) :
    Calls Try.prog 10 #[.int .u16 d, .int .u64 v] w fun e w' => e = .returned (.int .u64 (d * 281474976710656 + v % 281474976710656)) ∧ w = w' := by
  go_enter Try.func10, Try.ntmps10
  go_wp2
  go_ret
  exact ⟨rfl, rfl⟩

theorem split_any (v : Int) (w : World) (h0 : 0 ≤ v) (h1 : v < 18446744073709551616) :
    Calls Try.prog 7 #[.int .u64 v] w fun e w' => e = .returned (.tuple #[.int .u16 (v / 281474976710656), .int .u64 (v % 281474976710656)]) ∧ w = w' := by
  go_enter Try.func7, Try.ntmps7
  go_wp2_with (go_at_call 26; refine (low_any _ _ (by omega) (by omega)).mono ?_; rintro e w' ⟨rfl, rfl⟩)
  go_ret2
  exact ⟨rfl, rfl⟩

theorem rsplit_any (v : Int) (w : World) (h0 : 0 ≤ v) (h1 : v < 18446744073709551616) :
    Calls Try.prog 8 #[.int .u64 v] w fun e w' => e = .returned (.tuple #[.int .u16 (v / 281474976710656), .int .u64 (v % 281474976710656)]) ∧ w = w' := by
  go_enter Try.func8, Try.ntmps8
  go_wp2
  go_ret2
  exact ⟨rfl, rfl⟩

theorem byte_any (v i : Int) (w : World) (h0 : 0 ≤ v) (h1 : v < 18446744073709551616) (i0 : -9223372036854775808 ≤ i) (i1 : i ≤ 9223372036854775807) :
    Calls Try.prog 11 #[.int .u64 v, .int .i64 i] w fun e w' => e = .returned (.int .u8 (byt v i)) ∧ w = w' := by
  by_cases h : 0 ≤ i ∧ i < 8
  · obtain ⟨a0, a1⟩ := h
    go_enter Try.func11, Try.ntmps11
    go_wp2
    go_ret
    exact ⟨ret_int (by unfold byt; rw [if_pos ⟨a0, a1⟩]), rfl⟩
  · by_cases h2 : i < 0
    · go_enter Try.func11, Try.ntmps11
      go_wp2
      go_ret
      exact ⟨ret_int (by unfold byt; rw [if_neg h]), rfl⟩
    · have h3 : 8 ≤ i := by omega
      have hd : decide (i < 8) = false := by simpa using h3
      go_enter Try.func11, Try.ntmps11
      go_wp2
      go_ret
      exact ⟨ret_int (by unfold byt; rw [if_neg h]), rfl⟩

theorem with_any (v i b : Int) (w : World) (h0 : 0 ≤ v) (h1 : v < 18446744073709551616) (i0 : -9223372036854775808 ≤ i) (i1 : i ≤ 9223372036854775807) (b0 : 0 ≤ b) (b1 : b < 256) :
    Calls Try.prog 13 #[.int .u64 v, .int .i64 i, .int .u8 b] w fun e w' => e = .returned (.int .u64 (wth v i b)) ∧ w = w' := by
  by_cases h : 0 ≤ i ∧ i < 8
  · obtain ⟨a0, a1⟩ := h
    go_enter Try.func13, Try.ntmps13
    go_wp2
    go_ret
    exact ⟨ret_int (with_or v i b h0 h1 a0 a1 b0 b1), rfl⟩
  · by_cases h2 : i < 0
    · go_enter Try.func13, Try.ntmps13
      go_wp2
      go_ret
      exact ⟨ret_int (by unfold wth; rw [if_neg h]), rfl⟩
    · have h3 : 8 ≤ i := by omega
      have hd : decide (i < 8) = false := by simpa using h3
      go_enter Try.func13, Try.ntmps13
      go_wp2
      go_ret
      exact ⟨ret_int (by unfold wth; rw [if_neg h]), rfl⟩

theorem turn_any (v n : Int) (w : World) (h0 : 0 ≤ v) (h1 : v < 18446744073709551616) (n0 : -9223372036854775808 ≤ n) (n1 : n ≤ 9223372036854775807) :
    Calls Try.prog 20 #[.int .u64 v, .int .i64 n] w fun e w' => e = .returned (.int .u64 (trn v n)) ∧ w = w' := by
  have hk0 : 0 ≤ n % 64 := by omega
  have hk1 : n % 64 < 64 := by omega
  have hand := and63 n
  go_enter Try.func20, Try.ntmps20
  go_wp2
  go_ret
  exact ⟨ret_int (by rw [IntKind.wrap_u64]; exact turn_or v (n % 64) h0 h1 hk0 hk1), rfl⟩

theorem fold_any (n : Int) (w : World) (n0 : -9223372036854775808 ≤ n) (n1 : n ≤ 9223372036854775807) :
    Calls Try.prog 22 #[.int .i64 n] w fun e w' => e = .returned (.int .u64 (fld n)) ∧ w = w' := by
  go_enter Try.func22, Try.ntmps22
  go_wp2
  go_ret
  exact ⟨ret_int (fold_xor n n0 n1), rfl⟩

theorem unfold_any (v : Int) (w : World) (h0 : 0 ≤ v) (h1 : v < 18446744073709551616) :
    Calls Try.prog 24 #[.int .u64 v] w fun e w' => e = .returned (.int .i64 (unf v)) ∧ w = w' := by
  go_enter Try.func24, Try.ntmps24
  go_wp2
  go_ret
  exact ⟨ret_int (unfold_xor v h0 h1), rfl⟩

theorem rfold_any (n : Int) (w : World) (n0 : -9223372036854775808 ≤ n) (n1 : n ≤ 9223372036854775807) :
    Calls Try.prog 23 #[.int .i64 n] w fun e w' => e = .returned (.int .u64 (fld n)) ∧ w = w' := by
  by_cases h : 0 ≤ n
  · go_enter Try.func23, Try.ntmps23
    go_wp2
    go_ret
    exact ⟨ret_int (by unfold fld; rw [if_pos h]), rfl⟩
  · have h2 : n < 0 := by omega
    go_enter Try.func23, Try.ntmps23
    go_wp2
    go_ret
    exact ⟨ret_int (by unfold fld; rw [if_neg (by omega)]; omega), rfl⟩

theorem runfold_any (v : Int) (w : World) (h0 : 0 ≤ v) (h1 : v < 18446744073709551616) :
    Calls Try.prog 25 #[.int .u64 v] w fun e w' => e = .returned (.int .i64 (unf v)) ∧ w = w' := by
  by_cases h : v % 2 = 0
  · have hb : (v % 2 == 0) = true := by simp [h]
    go_enter Try.func25, Try.ntmps25
    go_wp2
    go_ret
    exact ⟨ret_int (by unfold unf; rw [if_pos h]), rfl⟩
  · have hb : (v % 2 == 0) = false := by simp [h]
    go_enter Try.func25, Try.ntmps25
    go_wp2
    go_ret
    exact ⟨ret_int (by unfold unf; rw [if_neg h]), rfl⟩

/-- A number in 16 bits, or none. -/
def nrw (n : Int) : Int := if 0 ≤ n ∧ n < 65536 then n else 0
def isN (n : Int) : Bool := decide (0 ≤ n ∧ n < 65536)

theorem narrow_any (n : Int) (w : World) (n0 : -9223372036854775808 ≤ n) (n1 : n ≤ 9223372036854775807) :
    Calls Try.prog 18 #[.int .i64 n] w fun e w' => e = .returned (.tuple #[.int .u16 (nrw n), .bool (isN n)]) ∧ w = w' := by
  by_cases h : 0 ≤ n ∧ n < 65536
  · have e1 : nrw n = n := if_pos h
    have e2 : isN n = true := decide_eq_true h
    rw [e1, e2]
    obtain ⟨a0, a1⟩ := h
    have hb : (n / 65536 != 0) = false := by simp; omega
    clear e1 e2
    go_enter Try.func18, Try.ntmps18
    go_wp2
    go_ret2
    exact ⟨rfl, rfl⟩
  · have e1 : nrw n = 0 := if_neg h
    have e2 : isN n = false := decide_eq_false h
    rw [e1, e2]
    have hb : (n / 65536 != 0) = true := by simp; omega
    clear e1 e2 h
    go_enter Try.func18, Try.ntmps18
    go_wp2
    go_ret2
    exact ⟨rfl, rfl⟩

theorem rnarrow_any (n : Int) (w : World) (n0 : -9223372036854775808 ≤ n) (n1 : n ≤ 9223372036854775807) :
    Calls Try.prog 19 #[.int .i64 n] w fun e w' => e = .returned (.tuple #[.int .u16 (nrw n), .bool (isN n)]) ∧ w = w' := by
  by_cases h : 0 ≤ n ∧ n < 65536
  · have e1 : nrw n = n := if_pos h
    have e2 : isN n = true := decide_eq_true h
    rw [e1, e2]
    obtain ⟨a0, a1⟩ := h
    have hb : decide (65535 < n) = false := by simp; omega
    clear e1 e2
    go_enter Try.func19, Try.ntmps19
    go_wp2
    go_ret2
    exact ⟨rfl, rfl⟩
  · have e1 : nrw n = 0 := if_neg h
    have e2 : isN n = false := decide_eq_false h
    rw [e1, e2]
    clear e1 e2
    by_cases h2 : n < 0
    · clear h
      go_enter Try.func19, Try.ntmps19
      go_wp2
      go_ret2
      exact ⟨rfl, rfl⟩
    · have h3 : 65535 < n := by omega
      have hb : decide (65535 < n) = true := by simpa using h3
      clear h
      go_enter Try.func19, Try.ntmps19
      go_wp2
      go_ret2
      exact ⟨rfl, rfl⟩

theorem div_step (v : Int) (j : Nat) : v / 2 ^ (8 * (j + 1)) = v / 2 ^ (8 * j) / 256 := by
  rw [show 8 * (j + 1) = 8 * j + 8 from by omega, Int.pow_add, ← Int.ediv_ediv_of_nonneg (Int.le_of_lt (pow_pos' _))]
  rfl

set_option maxHeartbeats 400000 in
theorem rbyte_any (v i : Int) (w : World) (h0 : 0 ≤ v) (h1 : v < 18446744073709551616) (i0 : -9223372036854775808 ≤ i) (i1 : i ≤ 9223372036854775807) :
    Calls Try.prog 12 #[.int .u64 v, .int .i64 i] w fun e w' => e = .returned (.int .u8 (byt v i)) ∧ w = w' := by
  by_cases h : 0 ≤ i ∧ i < 8
  · have e1 : byt v i = v / 2 ^ (i * 8).toNat % 256 := if_pos h
    rw [e1]
    clear e1
    obtain ⟨a0, a1⟩ := h
    obtain ⟨n, rfl⟩ := Int.eq_ofNat_of_zero_le a0
    have hb : decide (7 < (n : Int)) = false := by simp; omega
    have hn : n < 8 := by omega
    go_enter Try.func12, Try.ntmps12
    go_wp2
    go_loop [0, 5] (fun x k => ∃ j : Nat, j ≤ n ∧ k = .int .i64 j ∧ x = .int .u64 (v / 2 ^ (8 * j))) (fun _ k => n - (intOf k).toNat)
    case atStart => exact ⟨0, by omega, rfl, by simp⟩
    case round =>
      obtain ⟨j, hj, rfl, rfl⟩ := hrel
      have q0 : 0 ≤ v / 2 ^ (8 * j) := Int.ediv_nonneg h0 (Int.le_of_lt (pow_pos' _))
      have q1 : v / 2 ^ (8 * j) < 18446744073709551616 := by
        have : v / 2 ^ (8 * j) ≤ v := Int.ediv_le_self _ h0
        omega
      by_cases hlt : j < n
      · go_wp2
        go_round
        case rel => exact ⟨j + 1, by omega, by go_num, by rw [div_step]⟩
        case measure => simp [intOf]; omega
      · go_wp2
        go_ret
        exact ⟨ret_int (by rw [show j = n from by omega, show ((n : Int) * 8).toNat = 8 * n from by omega]), rfl⟩
  · have e1 : byt v i = 0 := if_neg h
    rw [e1]
    clear e1
    by_cases h2 : i < 0
    · clear h
      go_enter Try.func12, Try.ntmps12
      go_wp2
      go_ret
      exact ⟨rfl, rfl⟩
    · have h3 : 7 < i := by omega
      have hb : decide (7 < i) = true := by simpa using h3
      clear h
      go_enter Try.func12, Try.ntmps12
      go_wp2
      go_ret
      exact ⟨rfl, rfl⟩

/-- What the rounds of the document's With build. -/
def top (x k : Int) : Int := x / 2 ^ (8 * (k + 1)).toNat

theorem top_step (v i b k : Int) (b0 : 0 ≤ b) (b1 : b < 256) (k0 : 0 ≤ k) (k1 : k < 8) :
    top (wth v i b) (k - 1) = top (wth v i b) k * 256 + if k = i then b else byt v k := by
  obtain ⟨n, rfl⟩ := Int.eq_ofNat_of_zero_le k0
  unfold top
  have h := up_step (wth v i b) n (by omega)
  rw [byt_wth v i b n b0 b1 k0 k1] at h
  rw [show (8 * ((n : Int) - 1 + 1)).toNat = 8 * n from by omega, show (8 * ((n : Int) + 1)).toNat = 8 * (n + 1) from by omega]
  exact h

theorem top_range (x k : Int) (h0 : 0 ≤ x) (h1 : x < 18446744073709551616) : 0 ≤ top x k ∧ top x k < 18446744073709551616 := by
  unfold top
  have a := Int.ediv_nonneg h0 (Int.le_of_lt (pow_pos' (8 * (k + 1)).toNat))
  have b := Int.ediv_le_self (2 ^ (8 * (k + 1)).toNat) h0
  omega

set_option maxHeartbeats 800000 in
theorem rwith_any (v i b : Int) (w : World) (h0 : 0 ≤ v) (h1 : v < 18446744073709551616) (i0 : -9223372036854775808 ≤ i) (i1 : i ≤ 9223372036854775807) (b0 : 0 ≤ b) (b1 : b < 256) :
    Calls Try.prog 14 #[.int .u64 v, .int .i64 i, .int .u8 b] w fun e w' => e = .returned (.int .u64 (wth v i b)) ∧ w = w' := by
  go_enter Try.func14, Try.ntmps14
  go_wp2
  go_loop [7, 8] (fun x t => ∃ k : Int, -1 ≤ k ∧ k ≤ 7 ∧ t = .int .i64 k ∧ x = .int .u64 (top (wth v i b) k)) (fun _ t => (intOf t + 1).toNat)
  case atStart =>
    refine ⟨7, by omega, by omega, rfl, ?_⟩
    have hr := wth_range v i b h0 h1 b0 b1
    unfold top
    rw [show (2 : Int) ^ (8 * ((7 : Int) + 1)).toNat = 18446744073709551616 from rfl, Int.ediv_eq_zero_of_lt hr.1 hr.2]
  case round =>
    obtain ⟨k, k0, k1, rfl, rfl⟩ := hrel
    obtain ⟨r0, r1⟩ := wth_range v i b h0 h1 b0 b1
    by_cases hlt : 0 ≤ k
    · have hst := top_step v i b k b0 b1 hlt (by omega)
      obtain ⟨t0, t1⟩ := top_range (wth v i b) k r0 r1
      obtain ⟨s0, s1⟩ := top_range (wth v i b) (k - 1) r0 r1
      obtain ⟨y0, y1⟩ := byt_range v k
      generalize top (wth v i b) k = X at *
      by_cases hk : k = i
      · have hb : (k == i) = true := by simp [hk]
        rw [if_pos hk] at hst
        rw [hst] at s0 s1
        have HS := Lib.hid hst
        clear hst hk
        have z1 : X * 256 < 18446744073709551616 := by omega
        go_wp2_with (go_at_call 12; refine (rbyte_any _ _ _ (by omega) (by omega) (by omega) (by omega)).mono ?_; rintro e w' ⟨rfl, rfl⟩)
        go_round
        case rel => exact ⟨k - 1, by omega, by omega, rfl, by rw [HS.out]⟩
        case measure => simp [intOf]; omega
      · have hb : (k == i) = false := by simp [hk]
        rw [if_neg hk] at hst
        rw [hst] at s0 s1
        have HS := Lib.hid hst
        clear hst hk
        have z1 : X * 256 < 18446744073709551616 := by omega
        go_wp2_with (go_at_call 12; refine (rbyte_any _ _ _ (by omega) (by omega) (by omega) (by omega)).mono ?_; rintro e w' ⟨rfl, rfl⟩)
        go_round
        case rel => exact ⟨k - 1, by omega, by omega, rfl, by rw [HS.out]⟩
        case measure => simp [intOf]; omega
    · have e : top (wth v i b) k = wth v i b := by
        unfold top
        rw [show (8 * (k + 1)).toNat = 0 from by omega]
        simp
      rw [e]
      clear e
      go_wp2
      go_ret
      exact ⟨rfl, rfl⟩

theorem len_step (f : Nat) (x : Int) (h0 : 0 < x) (h1 : x < 2 ^ (8 * f)) : ∃ g : Nat, f = g + 1 ∧ x / 256 < 2 ^ (8 * g) ∧ lenN f x = 1 + lenN g (x / 256) := by
  cases f with
  | zero => simp at h1; omega
  | succ g =>
    refine ⟨g, rfl, ?_, ?_⟩
    · rw [show 8 * (g + 1) = 8 * g + 8 from by omega, Int.pow_add] at h1
      rw [show (2 : Int) ^ 8 = 256 from rfl] at h1
      generalize (2 : Int) ^ (8 * g) = p at *
      omega
    · rw [lenN, if_neg (by omega)]

theorem lenN_zero (f : Nat) : lenN f 0 = 0 := by cases f <;> simp [lenN]

set_option maxHeartbeats 400000 in
theorem len_any (v : Int) (w : World) (h0 : 0 ≤ v) (h1 : v < 18446744073709551616) :
    Calls Try.prog 15 #[.int .u64 v] w fun e w' => e = .returned (.int .i64 (len v)) ∧ w = w' := by
  have hl : ∃ L, L = len v := ⟨_, rfl⟩
  obtain ⟨L, hL⟩ := hl
  rw [← hL]
  have HL := Lib.hid hL
  clear hL
  go_enter Try.func15, Try.ntmps15
  go_wp2
  go_loop [0, 3] (fun s t => ∃ (f : Nat) (x c : Int), 0 ≤ x ∧ x < 2 ^ (8 * f) ∧ x < 18446744073709551616 ∧ 0 ≤ c ∧ c + f ≤ 8 ∧ c + lenN f x = L ∧ s = .int .u64 x ∧ t = .int .i64 c) (fun s _ => (intOf s).toNat)
  case atStart => exact ⟨8, v, 0, h0, h1, h1, by omega, by omega, by rw [HL.out]; unfold len; omega, rfl, rfl⟩
  case round =>
    obtain ⟨f, x, c, x0, x1, x2, c0, c1, hc, rfl, rfl⟩ := hrel
    have HC := Lib.hid hc
    have HX := Lib.hid x1
    clear hc x1
    by_cases hx : 0 < x
    · have hb : (x != 0) = true := by simp; omega
      go_wp2
      go_round
      case rel =>
        obtain ⟨g, rfl, g1, g2⟩ := len_step f x hx HX.out
        exact ⟨g, x / 256, c + 1, by omega, g1, by omega, by omega, by omega, by have := HC.out; omega, rfl, rfl⟩
      case measure => simp [intOf]; omega
    · obtain rfl : x = 0 := by omega
      go_wp2
      go_ret
      exact ⟨ret_int (by have := HC.out; rw [lenN_zero] at this; omega), rfl⟩

set_option maxHeartbeats 400000 in
theorem rlen_any (v : Int) (w : World) (h0 : 0 ≤ v) (h1 : v < 18446744073709551616) :
    Calls Try.prog 16 #[.int .u64 v] w fun e w' => e = .returned (.int .i64 (len v)) ∧ w = w' := by
  have hl : ∃ L, L = len v := ⟨_, rfl⟩
  obtain ⟨L, hL⟩ := hl
  rw [← hL]
  have HL := Lib.hid hL
  clear hL
  go_enter Try.func16, Try.ntmps16
  go_wp2
  go_loop [0, 3] (fun s t => ∃ (f : Nat) (x c : Int), 0 ≤ x ∧ x < 2 ^ (8 * f) ∧ x < 18446744073709551616 ∧ 0 ≤ c ∧ c + f ≤ 8 ∧ c + lenN f x = L ∧ s = .int .u64 x ∧ t = .int .i64 c) (fun s _ => (intOf s).toNat)
  case atStart => exact ⟨8, v, 0, h0, h1, h1, by omega, by omega, by rw [HL.out]; unfold len; omega, rfl, rfl⟩
  case round =>
    obtain ⟨f, x, c, x0, x1, x2, c0, c1, hc, rfl, rfl⟩ := hrel
    have HC := Lib.hid hc
    have HX := Lib.hid x1
    clear hc x1
    by_cases hx : 0 < x
    · go_wp2
      go_round
      case rel =>
        obtain ⟨g, rfl, g1, g2⟩ := len_step f x hx HX.out
        exact ⟨g, x / 256, c + 1, by omega, g1, by omega, by omega, by omega, by have := HC.out; omega, rfl, rfl⟩
      case measure => simp [intOf]; omega
    · obtain rfl : x = 0 := by omega
      go_wp2
      go_ret
      exact ⟨ret_int (by have := HC.out; rw [lenN_zero] at this; omega), rfl⟩

theorem tmod64 (n : Int) : -64 < n.tmod 64 ∧ n.tmod 64 < 64 ∧ (n.tmod 64 + 64) % 64 = n % 64 := by
  rw [Int.tmod_eq_emod]
  split <;> (simp; omega)

theorem rot_wrap (x : Int) (h0 : 0 ≤ x) (h1 : x < 18446744073709551616) : IntKind.u64.wrap (IntKind.u64.wrap (x * 2) + x / 9223372036854775808) = rot1 x := by
  rw [IntKind.wrap_u64, IntKind.wrap_u64]; unfold rot1; omega

set_option maxHeartbeats 400000 in
theorem rturn_any (v n : Int) (w : World) (h0 : 0 ≤ v) (h1 : v < 18446744073709551616) (n0 : -9223372036854775808 ≤ n) (n1 : n ≤ 9223372036854775807) :
    Calls Try.prog 21 #[.int .u64 v, .int .i64 n] w fun e w' => e = .returned (.int .u64 (trn v n)) ∧ w = w' := by
  obtain ⟨t0, t1, t2⟩ := tmod64 n
  have hm : ∃ m : Nat, m = (n % 64).toNat := ⟨_, rfl⟩
  obtain ⟨m, hm⟩ := hm
  have e1 : trn v n = rotN m v := by rw [hm]; rfl
  rw [e1]
  clear e1
  have hm64 : m < 64 := by omega
  have T2 := Lib.hid t2
  have HM := Lib.hid hm
  clear t2 hm
  go_enter Try.func21, Try.ntmps21
  go_wp2
  go_loop [0, 5] (fun s t => ∃ (j : Nat), j ≤ m ∧ t = .int .i64 j ∧ s = .int .u64 (rotN (m - j) v)) (fun _ t => (intOf t).toNat)
  case atStart => exact ⟨m, by omega, by rw [T2.out, HM.out]; congr 1; omega, by simp [rotN]⟩
  case round =>
    obtain ⟨j, hj, rfl, rfl⟩ := hrel
    obtain ⟨x0, x1⟩ := rotN_range (m - j) v h0 h1
    have hx : ∃ x, x = rotN (m - j) v := ⟨_, rfl⟩
    obtain ⟨x, hx⟩ := hx
    rw [← hx] at x0 x1 ⊢
    have HX := Lib.hid hx
    clear hx
    by_cases hlt : 0 < j
    · go_wp2
      go_round
      case rel =>
        refine ⟨j - 1, by omega, by congr 1; omega, ?_⟩
        rw [show m - (j - 1) = (m - j) + 1 from by omega]
        simp only [rotN]
        rw [← HX.out, rot_wrap x x0 x1]
      case measure => simp [intOf]; omega
    · obtain rfl : j = 0 := by omega
      go_wp2
      go_ret
      exact ⟨ret_int (by rw [HX.out]; rfl), rfl⟩

theorem pack_c (w : World) : Calls Try.prog 9 #[.int .u16 3, .int .u64 17] w fun e w' => e = .returned (.int .u64 844424930131985) ∧ w = w' :=
  (pack_any 3 17 w (by decide) (by decide) (by decide) (by decide)).mono fun _ _ h => ⟨h.1.trans (ret_int (by decide)), h.2⟩
theorem fold_m (w : World) : Calls Try.prog 22 #[.int .i64 (-1)] w fun e w' => e = .returned (.int .u64 1) ∧ w = w' :=
  (fold_any (-1) w (by decide) (by decide)).mono fun _ _ h => ⟨h.1.trans (ret_int (by decide)), h.2⟩
theorem fold_1 (w : World) : Calls Try.prog 22 #[.int .i64 1] w fun e w' => e = .returned (.int .u64 2) ∧ w = w' :=
  (fold_any 1 w (by decide) (by decide)).mono fun _ _ h => ⟨h.1.trans (ret_int (by decide)), h.2⟩
theorem turn_c (w : World) : Calls Try.prog 20 #[.int .u64 1, .int .i64 (-1)] w fun e w' => e = .returned (.int .u64 9223372036854775808) ∧ w = w' :=
  (turn_any 1 (-1) w (by decide) (by decide) (by decide) (by decide)).mono fun _ _ h => ⟨h.1.trans (ret_int (by decide +kernel)), h.2⟩

theorem works_any (w : World) : Calls Try.prog 17 #[] w fun e w' => e = .returned (.bool true) ∧ w = w' := by
  go_enter Try.func17, Try.ntmps17
  go_wp2_with fail
  refine (pack_c _).mono ?_; rintro e w' ⟨rfl, rfl⟩
  go_wp2_with fail
  refine (fold_m _).mono ?_; rintro e w' ⟨rfl, rfl⟩
  go_wp2_with fail
  refine (fold_1 _).mono ?_; rintro e w' ⟨rfl, rfl⟩
  go_wp2_with fail
  refine (turn_c _).mono ?_; rintro e w' ⟨rfl, rfl⟩
  go_wp2_with fail
  go_ret
  exact ⟨rfl, rfl⟩

theorem wf_u16 {a : Int} (h : (Lit.int .u16 a).wf = true) : 0 ≤ a ∧ a < 65536 := by
  simp [Lit.wf, IntKind.min, IntKind.max, IntKind.bits, IntKind.signed] at h; omega
theorem wf_u64 {a : Int} (h : (Lit.int .u64 a).wf = true) : 0 ≤ a ∧ a < 18446744073709551616 := by
  simp [Lit.wf, IntKind.min, IntKind.max, IntKind.bits, IntKind.signed] at h; omega
theorem wf_i64 {a : Int} (h : (Lit.int .i64 a).wf = true) : -9223372036854775808 ≤ a ∧ a ≤ 9223372036854775807 := by
  simp [Lit.wf, IntKind.min, IntKind.max, IntKind.bits, IntKind.signed] at h; omega
end Go.Proofs.Ytgmpdmcjfphjfaa.Sh
