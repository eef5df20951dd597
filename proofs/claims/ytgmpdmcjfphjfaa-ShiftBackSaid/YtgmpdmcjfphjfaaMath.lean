/- Plain facts on numbers below 2^64 that the claims of layer shift rest on: bits put together, taken apart, turned round and folded, as sums, quotients and remainders. No program is named here. -/
import Derived.WalkKit
import Derived.Laws.BitsAllLaws
import Derived.WalkSmall
import Derived.OpenShut
namespace Go.Proofs.Ytgmpdmcjfphjfaa.Sh
open Go Go.RowKit

/-- A byte of a number. -/
def byt (v i : Int) : Int := if 0 ≤ i ∧ i < 8 then v / 2 ^ (i * 8).toNat % 256 else 0
/-- A number with another byte. -/
def wth (v i b : Int) : Int := if 0 ≤ i ∧ i < 8 then (v / 2 ^ (i * 8).toNat / 256 * 256 + b) * 2 ^ (i * 8).toNat + v % 2 ^ (i * 8).toNat else v
/-- One turn to the left. -/
def rot1 (v : Int) : Int := v * 2 % 18446744073709551616 + v / 9223372036854775808
/-- Some turns. -/
def rotN : Nat → Int → Int
  | 0, v => v
  | k + 1, v => rot1 (rotN k v)
/-- A number turned. -/
def trn (v n : Int) : Int := rotN (n % 64).toNat v
/-- Folded. -/
def fld (n : Int) : Int := if 0 ≤ n then 2 * n else -2 * n - 1
/-- Unfolded. -/
def unf (v : Int) : Int := if v % 2 = 0 then v / 2 else -(v / 2) - 1
/-- How many bytes. -/
def lenN : Nat → Int → Int
  | 0, _ => 0
  | f + 1, v => if v ≤ 0 then 0 else 1 + lenN f (v / 256)
def len (v : Int) : Int := lenN 8 v

theorem wraps_u64 (n : Int) (h₀ : 0 ≤ n) (h₁ : n < 2 ^ 64) : IntKind.u64.wrap n = n := by rw [IntKind.wrap_u64]; omega

theorem or_join (i : Nat) (hi : i ≤ 64) (x y : Int) (hx0 : 0 ≤ x) (hx : x % 2 ^ i = 0) (hx1 : x < 18446744073709551616) (hy0 : 0 ≤ y) (hy : y < 2 ^ i) :
    bits .or .u64 x y = x + y := by
  have hp : (2 : Int) ^ i ≤ 2 ^ 64 := by
    have h := Nat.pow_le_pow_right (n := 2) (by decide) hi
    exact_mod_cast h
  exact bits_join .u64 64 (by decide) wraps_u64 i x y hx0 hx (by omega) hy0 hy (by omega)

theorem pack_or (d v : Int) (h0 : 0 ≤ d) (h1 : d < 65536) : bits .or .u64 (d * 281474976710656) (v % 281474976710656) = d * 281474976710656 + v % 281474976710656 :=
  or_join 48 (by decide) _ _ (by omega) (by omega) (by omega) (by omega) (by omega)

theorem and63 (n : Int) : bits .and .u64 (IntKind.u64.wrap n) 63 = n % 64 := by
  have h := bits_mask .u64 64 (by decide) wraps_u64 6 (by decide) (IntKind.u64.wrap n) (by rw [IntKind.wrap_u64]; omega) (by rw [IntKind.wrap_u64]; omega)
  rw [IntKind.wrap_u64] at h ⊢
  have h2 : bits .and .u64 (n % 18446744073709551616) 63 = n % 18446744073709551616 % 64 := h
  omega

theorem pow_split (k : Nat) (hk : k ≤ 64) : (2 : Int) ^ k * 2 ^ (64 - k) = 18446744073709551616 := by
  rw [← Int.pow_add, show k + (64 - k) = 64 from by omega]; rfl

theorem pow_pos' (k : Nat) : (0 : Int) < 2 ^ k := Int.pow_pos (by decide)

theorem rot1_range (v : Int) (h0 : 0 ≤ v) (h1 : v < 18446744073709551616) : 0 ≤ rot1 v ∧ rot1 v < 18446744073709551616 := by
  unfold rot1; omega

theorem rotN_range (k : Nat) (v : Int) (h0 : 0 ≤ v) (h1 : v < 18446744073709551616) : 0 ≤ rotN k v ∧ rotN k v < 18446744073709551616 := by
  induction k with
  | zero => exact ⟨h0, h1⟩
  | succ k ih => exact rot1_range _ ih.1 ih.2

theorem rotN_add (j k : Nat) (v : Int) : rotN (j + k) v = rotN j (rotN k v) := by
  induction j with
  | zero => simp [rotN]
  | succ j ih => rw [Nat.succ_add]; simp only [rotN]; rw [ih]

/-- The closed form of some turns. -/
theorem rotN_form (k : Nat) (hk : k ≤ 64) (v : Int) (h0 : 0 ≤ v) (h1 : v < 18446744073709551616) :
    rotN k v = v % 2 ^ (64 - k) * 2 ^ k + v / 2 ^ (64 - k) := by
  induction k with
  | zero =>
    simp only [rotN, Nat.sub_zero]
    have : (2 : Int) ^ 64 = 18446744073709551616 := rfl
    rw [this]; omega
  | succ k ih =>
    have e := ih (by omega)
    simp only [rotN]
    rw [e]
    have hq : (2 : Int) ^ (64 - k) = 2 * 2 ^ (64 - (k + 1)) := by
      rw [show 64 - k = (64 - (k + 1)) + 1 from by omega, Int.pow_succ]; omega
    have hp : (2 : Int) ^ (k + 1) = 2 * 2 ^ k := by rw [Int.pow_succ]; omega
    have hs := pow_split (k + 1) hk
    have hP := pow_pos' k
    have hQ := pow_pos' (64 - (k + 1))
    rw [hq, hp]
    rw [hp] at hs
    generalize (2 : Int) ^ k = P at *
    generalize (2 : Int) ^ (64 - (k + 1)) = Q at *
    -- v = A * Q + d, A = 2a + c
    have hPQ : P * Q = 9223372036854775808 := by
      have : 2 * P * Q = 2 * (P * Q) := by rw [Int.mul_assoc]
      omega
    have hd := Int.emod_add_mul_ediv v Q
    have hd0 := Int.emod_nonneg v (Int.ne_of_gt hQ)
    have hd1 := Int.emod_lt_of_pos v hQ
    have ha : v / (2 * Q) = v / Q / 2 := by rw [Int.mul_comm 2 Q, Int.ediv_ediv_of_nonneg (Int.le_of_lt hQ)]
    have hm : v % (2 * Q) = v / Q % 2 * Q + v % Q := by
      have := Int.emod_add_mul_ediv v (2 * Q)
      rw [ha] at this
      have h2 : 2 * Q * (v / Q / 2) = Q * (v / Q - v / Q % 2) := by
        have : v / Q - v / Q % 2 = 2 * (v / Q / 2) := by omega
        rw [this, Int.mul_comm 2 Q, Int.mul_assoc]
      have h3 : Q * (v / Q - v / Q % 2) = Q * (v / Q) - v / Q % 2 * Q := by rw [Int.mul_sub, Int.mul_comm Q (v / Q % 2)]
      omega
    rw [hm, ha]
    -- bounds
    have hA1 : v / Q < 2 * P := by
      apply Int.ediv_lt_of_lt_mul hQ
      omega
    have hA0 : 0 ≤ v / Q := Int.ediv_nonneg h0 (Int.le_of_lt hQ)
    generalize v / Q = A at *
    generalize v % Q = d at *
    have hdP0 : 0 ≤ d * P := Int.mul_nonneg hd0 (Int.le_of_lt hP)
    have hdP1 : d * P ≤ 9223372036854775808 - P := by
      have h1' : d * P ≤ (Q - 1) * P := Int.mul_le_mul_of_nonneg_right (by omega) (Int.le_of_lt hP)
      have h2' : (Q - 1) * P = P * Q - P := by rw [Int.sub_mul, Int.mul_comm Q P]; omega
      omega
    have hx : d * (2 * P) = 2 * (d * P) := by rw [Int.mul_comm 2 P, ← Int.mul_assoc]; omega
    have hy : (A % 2 * Q + d) * P = A % 2 * 9223372036854775808 + d * P := by
      rw [Int.add_mul, Int.mul_assoc, Int.mul_comm Q P, hPQ]
    rw [hx, hy]
    generalize d * P = x at *
    unfold rot1
    omega

theorem rotN_64 (v : Int) (h0 : 0 ≤ v) (h1 : v < 18446744073709551616) : rotN 64 v = v := by
  rw [rotN_form 64 (by decide) v h0 h1]
  simp

theorem rotN_64mul (m : Nat) (v : Int) (h0 : 0 ≤ v) (h1 : v < 18446744073709551616) : rotN (64 * m) v = v := by
  induction m with
  | zero => rfl
  | succ m ih => rw [Nat.mul_succ, rotN_add, rotN_64 v h0 h1, ih]

theorem rotN_comm (j k : Nat) (v : Int) : rotN j (rotN k v) = rotN k (rotN j v) := by
  rw [← rotN_add, ← rotN_add, Nat.add_comm]

theorem rotN_not (k : Nat) (v : Int) (h0 : 0 ≤ v) (h1 : v < 18446744073709551616) : rotN k (18446744073709551615 - v) = 18446744073709551615 - rotN k v := by
  induction k with
  | zero => rfl
  | succ k ih =>
    simp only [rotN]; rw [ih]
    have h := rotN_range k v h0 h1
    generalize rotN k v = x at *
    unfold rot1; omega

/-- The program's turn. -/
theorem turn_or (v k : Int) (h0 : 0 ≤ v) (h1 : v < 18446744073709551616) (k0 : 0 ≤ k) (k1 : k < 64) :
    bits .or .u64 (v * 2 ^ k.toNat % 18446744073709551616) (v / 2 ^ (64 - k).toNat) = rotN k.toNat v := by
  obtain ⟨n, rfl⟩ := Int.eq_ofNat_of_zero_le k0
  have hn : n < 64 := by omega
  rw [Int.toNat_natCast, show (64 - (n : Int)).toNat = 64 - n from by omega, rotN_form n (by omega) v h0 h1]
  have hs := pow_split n (by omega)
  have hP := pow_pos' n
  have hQ := pow_pos' (64 - n)
  have hx : v * 2 ^ n % 18446744073709551616 = v % 2 ^ (64 - n) * 2 ^ n := by
    rw [← hs, Int.mul_comm v, Int.mul_emod_mul_of_pos _ _ hP, Int.mul_comm]
  rw [hx]
  have hm0 := Int.emod_nonneg v (Int.ne_of_gt hQ)
  have hm1 := Int.emod_lt_of_pos v hQ
  refine or_join n (by omega) _ _ (Int.mul_nonneg hm0 (Int.le_of_lt hP)) (Int.mul_emod_left _ _) ?_ (Int.ediv_nonneg h0 (Int.le_of_lt hQ)) ?_
  · have : v % 2 ^ (64 - n) * 2 ^ n < 2 ^ (64 - n) * 2 ^ n := Int.mul_lt_mul_of_pos_right hm1 hP
    rw [Int.mul_comm ((2 : Int) ^ (64 - n)), hs] at this
    exact this
  · apply Int.ediv_lt_of_lt_mul hQ
    rw [hs]; exact h1

/-- All bits turned. -/
theorem xor_ones (x : Nat) (h : x < 18446744073709551616) : x ^^^ 18446744073709551615 = 18446744073709551615 - x := by
  apply Nat.eq_of_testBit_eq
  intro i
  have e1 : (18446744073709551615 - x) = 2 ^ 64 - (x + 1) := by omega
  have e2 : (18446744073709551615 : Nat) = 2 ^ 64 - 1 := by decide
  rw [e1, Nat.testBit_two_pow_sub_succ (by omega), Nat.testBit_xor, e2, Nat.testBit_two_pow_sub_one]
  by_cases hi : i < 64
  · simp [hi]
  · have hz : x.testBit i = false := Nat.testBit_lt_two_pow (Nat.lt_of_lt_of_le (show x < 2 ^ 64 from h) (Nat.pow_le_pow_right (by decide) (by omega)))
    simp [hi, hz]

theorem xor_not (x : Nat) (h : x < 18446744073709551616) : x ^^^ (18446744073709551615 - x) = 18446744073709551615 := by
  rw [← xor_ones x h, ← Nat.xor_assoc, Nat.xor_self, Nat.zero_xor]

theorem xor_not_u64 (x : Int) (h0 : 0 ≤ x) (h1 : x < 18446744073709551616) : bits .xor .u64 x (18446744073709551615 - x) = 18446744073709551615 := by
  rw [u64_xor x _ h0 h1 (by omega) (by omega), show (18446744073709551615 - x).toNat = 18446744073709551615 - x.toNat from by omega, xor_not _ (by omega)]
  rfl

/-- The program's fold. -/
theorem fold_xor (n : Int) (h0 : -9223372036854775808 ≤ n) (h1 : n ≤ 9223372036854775807) :
    bits .xor .u64 (IntKind.u64.wrap (IntKind.u64.wrap n * 2)) (IntKind.u64.wrap (n / 9223372036854775808)) = fld n := by
  rw [IntKind.wrap_u64, IntKind.wrap_u64, IntKind.wrap_u64]
  unfold fld
  by_cases h : 0 ≤ n
  · rw [if_pos h, show n / 9223372036854775808 = 0 from by omega, show n % 18446744073709551616 * 2 % 18446744073709551616 = 2 * n from by omega]
    rw [u64_xor _ _ (by omega) (by omega) (by decide) (by decide)]
    simp; omega
  · rw [if_neg h, show n / 9223372036854775808 = -1 from by omega, show n % 18446744073709551616 * 2 % 18446744073709551616 = 2 * n + 18446744073709551616 from by omega]
    rw [show (-1 : Int) % 18446744073709551616 = 18446744073709551615 from by decide]
    rw [u64_xor _ _ (by omega) (by omega) (by decide) (by decide)]
    rw [show (18446744073709551615 : Int).toNat = 18446744073709551615 from rfl, xor_ones _ (by omega)]
    omega

theorem bits_xor_i64_zero (x : Int) (h0 : -9223372036854775808 ≤ x) (h1 : x ≤ 9223372036854775807) : bits .xor .i64 x 0 = x := by
  simp only [bits]
  rw [show BitVec.ofInt IntKind.i64.bits 0 = 0#_ from rfl, BitVec.xor_zero, BitVec.toNat_ofInt]
  rw [show ((2 ^ IntKind.i64.bits : Nat) : Int) = 18446744073709551616 from rfl]
  rw [IntKind.wrap_i64]
  omega

theorem bits_xor_i64_ones (x : Int) (h0 : -9223372036854775808 ≤ x) (h1 : x ≤ 9223372036854775807) : bits .xor .i64 x (-1) = -x - 1 := by
  simp only [bits]
  rw [BitVec.toNat_xor, BitVec.toNat_ofInt, BitVec.toNat_ofInt]
  rw [show ((2 ^ IntKind.i64.bits : Nat) : Int) = 18446744073709551616 from rfl]
  rw [show ((-1 : Int) % 18446744073709551616).toNat = 18446744073709551615 from rfl, xor_ones _ (by omega)]
  rw [IntKind.wrap_i64]
  omega

/-- The program's unfold. -/
theorem unfold_xor (n : Int) (h0 : 0 ≤ n) (h1 : n < 18446744073709551616) :
    bits .xor .i64 (n / 2) (wrap64 (-wrap64 (bits .and .u64 n 1))) = unf n := by
  rw [and_one_u64 n h0 (by omega)]
  unfold unf
  rcases (by omega : n % 2 = 0 ∨ n % 2 = 1) with h | h
  · rw [if_pos h, h]
    rw [show wrap64 (-wrap64 0) = 0 from by unfold wrap64; rfl]
    exact bits_xor_i64_zero _ (by omega) (by omega)
  · rw [if_neg (by omega), h]
    rw [show wrap64 (-wrap64 1) = -1 from by unfold wrap64; rfl]
    exact bits_xor_i64_ones _ (by omega) (by omega)

theorem unf_fld (n : Int) : unf (fld n) = n := by unfold unf fld; split <;> split <;> omega
theorem fld_unf (n : Int) (h : 0 ≤ n) : fld (unf n) = n := by unfold unf fld; split <;> split <;> omega
theorem fld_range (n : Int) (h0 : -9223372036854775808 ≤ n) (h1 : n ≤ 9223372036854775807) : 0 ≤ fld n ∧ fld n < 18446744073709551616 := by unfold fld; split <;> omega
theorem unf_range (n : Int) (h0 : 0 ≤ n) (h1 : n < 18446744073709551616) : -9223372036854775808 ≤ unf n ∧ unf n ≤ 9223372036854775807 := by unfold unf; split <;> omega

/-- Bits put out, and others put in. -/
theorem with_nat (v b s : Nat) (hv : v < 2 ^ 64) (hb : b < 256) (hs : s + 8 ≤ 64) :
    (v &&& (2 ^ 64 - (255 * 2 ^ s + 1))) ||| (b * 2 ^ s) = 2 ^ (s + 8) * (v / 2 ^ (s + 8)) + (2 ^ s * b + v % 2 ^ s) := by
  have hlow : v % 2 ^ s < 2 ^ s := Nat.mod_lt _ (Nat.two_pow_pos s)
  have hmid : 2 ^ s * b + v % 2 ^ s < 2 ^ (s + 8) := by
    have : 2 ^ s * b ≤ 2 ^ s * 255 := Nat.mul_le_mul_left _ (by omega)
    rw [Nat.pow_add]; omega
  have hmask : 255 * 2 ^ s < 2 ^ 64 := by
    have h1 : 2 ^ (s + 8) ≤ 2 ^ 64 := Nat.pow_le_pow_right (by decide) hs
    have h2 : 2 ^ (s + 8) = 256 * 2 ^ s := by rw [Nat.pow_add, Nat.mul_comm]
    have h3 := Nat.two_pow_pos s
    omega
  apply Nat.eq_of_testBit_eq
  intro i
  rw [Nat.testBit_two_pow_mul_add _ hmid, Nat.testBit_two_pow_mul_add _ hlow, Nat.testBit_or, Nat.testBit_and, Nat.testBit_two_pow_sub_succ hmask,
    Nat.testBit_mul_two_pow, Nat.testBit_mul_two_pow, Nat.testBit_mod_two_pow, Nat.testBit_div_two_pow]
  rw [show (255 : Nat) = 2 ^ 8 - 1 from rfl, Nat.testBit_two_pow_sub_one]
  by_cases h1 : i < s
  · have h2 : ¬ s ≤ i := by omega
    have h3 : i < 64 := by omega
    have h4 : i < s + 8 := by omega
    simp [h1, h2, h3, h4]
  · have h2 : s ≤ i := by omega
    by_cases h4 : i < s + 8
    · have h5 : i - s < 8 := by omega
      simp [h1, h2, h4, h5]
    · have h5 : ¬ i - s < 8 := by omega
      have hz : b.testBit (i - s) = false := Nat.testBit_lt_two_pow (Nat.lt_of_lt_of_le (show b < 2 ^ 8 from hb) (Nat.pow_le_pow_right (by decide) (by omega)))
      simp only [h1, h2, h4, h5, hz, if_false, decide_true, decide_false, Bool.and_false, Bool.not_false, Bool.or_false, Bool.and_true]
      rw [show i - (s + 8) + (s + 8) = i from by omega]
      by_cases h6 : i < 64
      · simp [h6]
      · have hy : v.testBit i = false := Nat.testBit_lt_two_pow (Nat.lt_of_lt_of_le hv (Nat.pow_le_pow_right (by decide) (by omega)))
        simp [hy]

theorem pow_le_56 (s : Nat) (h : s ≤ 56) : (2 : Int) ^ s ≤ 72057594037927936 := by
  have h2 := Nat.pow_le_pow_right (n := 2) (by decide) h
  have h3 : ((2 ^ s : Nat) : Int) ≤ ((2 ^ 56 : Nat) : Int) := Int.ofNat_le.2 h2
  rw [Int.natCast_pow] at h3
  exact h3

/-- The program's number with another byte. -/
theorem with_or (v i b : Int) (h0 : 0 ≤ v) (h1 : v < 18446744073709551616) (i0 : 0 ≤ i) (i1 : i < 8) (b0 : 0 ≤ b) (b1 : b < 256) :
    bits .or .u64 (bits .andNot .u64 v (IntKind.u64.wrap (255 * 2 ^ (i * 8).toNat))) (IntKind.u64.wrap (b * 2 ^ (i * 8).toNat)) = wth v i b := by
  unfold wth
  rw [if_pos ⟨i0, i1⟩]
  have hs : (i * 8).toNat ≤ 56 := by omega
  generalize (i * 8).toNat = s at *
  have hp := pow_le_56 s hs
  have hpos := pow_pos' s
  obtain ⟨v, rfl⟩ := Int.eq_ofNat_of_zero_le h0
  obtain ⟨b, rfl⟩ := Int.eq_ofNat_of_zero_le b0
  have hm : (255 : Int) * 2 ^ s < 18446744073709551616 := by omega
  have hb : (b : Int) * 2 ^ s < 18446744073709551616 := by
    have : (b : Int) * 2 ^ s ≤ 255 * 2 ^ s := Int.mul_le_mul_of_nonneg_right (by omega) (Int.le_of_lt hpos)
    omega
  have hb0 : 0 ≤ (b : Int) * 2 ^ s := Int.mul_nonneg (by omega) (Int.le_of_lt hpos)
  rw [IntKind.wrap_u64, IntKind.wrap_u64, Int.emod_eq_of_lt (by omega) hm, Int.emod_eq_of_lt hb0 hb]
  have hc : ((2 ^ s : Nat) : Int) = 2 ^ s := by simp
  have c1 : (255 : Int) * 2 ^ s = ((255 * 2 ^ s : Nat) : Int) := by rw [Int.natCast_mul, hc]; rfl
  have c2 : (b : Int) * 2 ^ s = ((b * 2 ^ s : Nat) : Int) := by rw [Int.natCast_mul, hc]
  rw [c1] at hm ⊢
  rw [c2] at hb ⊢
  rw [u64_andNot_nat _ _ (by omega) (by omega)]
  have hle : v &&& (18446744073709551615 - 255 * 2 ^ s) ≤ v := Nat.and_le_left
  rw [u64_or_nat _ _ (by omega) (by omega)]
  have e := with_nat v b s (by omega) (by omega) (by omega)
  rw [show 18446744073709551615 - 255 * 2 ^ s = 2 ^ 64 - (255 * 2 ^ s + 1) from by omega, e]
  rw [Nat.pow_add, show (2 : Nat) ^ 8 = 256 from rfl, ← Nat.div_div_eq_div_mul]
  rw [← hc]
  simp only [Int.natCast_add, Int.natCast_mul, Int.natCast_ediv, Int.natCast_emod]
  generalize ((2 ^ s : Nat) : Int) = p
  have k1 : ((256 : Nat) : Int) = 256 := rfl
  rw [k1]
  generalize (v : Int) / p / 256 = q
  generalize (v : Int) % p = r
  rw [Int.add_mul, Int.mul_assoc p 256 q, Int.mul_comm p (256 * q), Int.mul_comm p (b : Int), Int.mul_comm 256 q]
  omega

theorem byt_range (v i : Int) : 0 ≤ byt v i ∧ byt v i < 256 := by unfold byt; split <;> omega

theorem wth_range (v i b : Int) (h0 : 0 ≤ v) (h1 : v < 18446744073709551616) (b0 : 0 ≤ b) (b1 : b < 256) : 0 ≤ wth v i b ∧ wth v i b < 18446744073709551616 := by
  by_cases h : 0 ≤ i ∧ i < 8
  · have e := with_or v i b h0 h1 h.1 h.2 b0 b1
    have hw := wf_bits .or .u64 (bits .andNot .u64 v (IntKind.u64.wrap (255 * 2 ^ (i * 8).toNat))) (IntKind.u64.wrap (b * 2 ^ (i * 8).toNat))
    rw [e] at hw
    simp [Lit.wf, IntKind.min, IntKind.max, IntKind.bits, IntKind.signed] at hw
    omega
  · unfold wth; rw [if_neg h]; exact ⟨h0, h1⟩

/-- Of a number with another byte each byte. -/
theorem byt_wth (v i b k : Int) (b0 : 0 ≤ b) (b1 : b < 256) (k0 : 0 ≤ k) (k1 : k < 8) : byt (wth v i b) k = if k = i then b else byt v k := by
  by_cases h : 0 ≤ i ∧ i < 8
  · unfold byt wth
    have hk : 0 ≤ k ∧ k < 8 := ⟨k0, k1⟩
    rw [if_pos h, if_pos hk, if_pos hk]
    obtain ⟨i0, i1⟩ := h
    rcases (by omega : k = 0 ∨ k = 1 ∨ k = 2 ∨ k = 3 ∨ k = 4 ∨ k = 5 ∨ k = 6 ∨ k = 7) with rfl | rfl | rfl | rfl | rfl | rfl | rfl | rfl <;>
      rcases (by omega : i = 0 ∨ i = 1 ∨ i = 2 ∨ i = 3 ∨ i = 4 ∨ i = 5 ∨ i = 6 ∨ i = 7) with rfl | rfl | rfl | rfl | rfl | rfl | rfl | rfl <;>
      simp <;> omega
  · unfold wth
    rw [if_neg h, if_neg (by omega)]

/-- A number is built from the top, a byte at a time. -/
theorem up_step (x : Int) (k : Nat) (hk : k < 8) : x / 2 ^ (8 * k) = x / 2 ^ (8 * (k + 1)) * 256 + byt x k := by
  unfold byt
  rw [if_pos (by omega), show ((k : Int) * 8).toNat = 8 * k from by omega, show 8 * (k + 1) = 8 * k + 8 from by omega, Int.pow_add,
    ← Int.ediv_ediv_of_nonneg (Int.le_of_lt (pow_pos' _))]
  rw [show (2 : Int) ^ 8 = 256 from rfl]
  omega

theorem lenN_range (f : Nat) (v : Int) : 0 ≤ lenN f v ∧ lenN f v ≤ f := by
  induction f generalizing v with
  | zero => simp [lenN]
  | succ f ih => unfold lenN; split; · omega
                 · have := ih (v / 256); omega

/-- More fuel changes nothing. -/
theorem lenN_more (f : Nat) (v : Int) (h : v < 2 ^ (8 * f)) : lenN (f + 1) v = lenN f v := by
  induction f generalizing v with
  | zero => have : v ≤ 0 := by simpa using (by omega : v < 1 → v ≤ 0) (by simpa using h)
            simp [lenN, this]
  | succ f ih =>
    unfold lenN
    by_cases hv : v ≤ 0
    · rw [if_pos hv, if_pos hv]
    · rw [if_neg hv, if_neg hv, ih]
      rw [show 8 * (f + 1) = 8 * f + 8 from by omega, Int.pow_add] at h
      have : (2 : Int) ^ 8 = 256 := rfl
      rw [this] at h
      generalize (2 : Int) ^ (8 * f) = p at *
      omega

end Go.Proofs.Ytgmpdmcjfphjfaa.Sh
