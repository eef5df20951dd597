/- Plain arithmetic for layer seal: numbers as bytes, the lowest one first; what was sealed leaves one number; what some bits turned make of that. No program is named here. -/
import Derived.Test.YtjipeiigcoipjaaDoorMath
import Derived.WalkKit
import Derived.Laws.BitsAllLaws
import Derived.Laws.BytesArg
import Derived.Laws.Strings
import Derived.WalkSmall
import Derived.OpenShut
namespace Go.Proofs.YtjipeiigcoipjaaDoor.Crc
open Go Go.RowKit

/-- so many bytes of a number, the lowest one first. -/
def unle : Nat → Nat → List Nat
  | 0, _ => []
  | n + 1, v => v % 256 :: unle n (v / 256)
theorem unle_length (n : Nat) : ∀ v, (unle n v).length = n := by
  induction n with
  | zero => intro v; rfl
  | succ n ih => intro v; simp [unle, ih]
theorem unle_small (n : Nat) : ∀ v, Small (unle n v) := by
  induction n with
  | zero => intro v x hx; cases hx
  | succ n ih =>
    intro v x hx
    rcases List.mem_cons.1 hx with rfl | hx
    · exact Nat.mod_lt _ (by decide)
    · exact ih _ x hx
theorem unle_snoc (n : Nat) : ∀ v, unle (n + 1) v = unle n v ++ [v / 2 ^ (8 * n) % 256] := by
  induction n with
  | zero => intro v; simp [unle]
  | succ n ih =>
    intro v
    have e : v / 256 / 2 ^ (8 * n) = v / 2 ^ (8 * (n + 1)) := by
      rw [Nat.div_div_eq_div_mul]
      have : 256 * 2 ^ (8 * n) = 2 ^ (8 * (n + 1)) := by rw [Nat.mul_add, Nat.pow_add, Nat.mul_comm]
      rw [this]
    rw [unle, ih (v / 256), e]
    rfl
theorem small_cons {x : Nat} {xs : List Nat} (h : Small (x :: xs)) : x < 256 ∧ Small xs := ⟨h x (by simp), fun y hy => h y (by simp [hy])⟩
theorem low_mod {x : Nat} (y : Nat) (h : x < 256) : (x ^^^ 2 ^ 8 * y) % 256 = x := by
  have e : (2 : Nat) ^ 8 = 256 := rfl
  rw [← e, Nat.xor_mod_two_pow, Nat.mul_mod_right, Nat.xor_zero, e, Nat.mod_eq_of_lt h]
theorem low_div {x : Nat} (y : Nat) (h : x < 256) : (x ^^^ 2 ^ 8 * y) / 256 = y := by
  have e : (2 : Nat) ^ 8 = 256 := rfl
  rw [← e, Nat.xor_div_two_pow, Nat.mul_div_cancel_left _ (by decide), e, Nat.div_eq_of_lt h, Nat.zero_xor]
theorem le_unle (n : Nat) : ∀ v, le (unle n v) = v % 2 ^ (8 * n) := by
  induction n with
  | zero => intro v; simp [unle, le, Nat.mod_one]
  | succ n ih =>
    intro v
    rw [unle, le_cons, ih]
    have h := split_low (v % 2 ^ (8 * (n + 1))) 8
    have e : 2 ^ (8 * (n + 1)) = 2 ^ 8 * 2 ^ (8 * n) := by rw [← Nat.pow_add]; congr 1; omega
    have h1 : v % 2 ^ (8 * (n + 1)) % 2 ^ 8 = v % 256 := Nat.mod_mod_of_dvd _ (by rw [e]; exact Nat.dvd_mul_right _ _)
    have h2 : v % 2 ^ (8 * (n + 1)) / 2 ^ 8 = v / 256 % 2 ^ (8 * n) := by rw [e, Nat.mod_mul_right_div_self]
    rw [h1, h2] at h
    exact h.symm
theorem unle_le {l : List Nat} (h : Small l) : unle l.length (le l) = l := by
  induction l with
  | nil => rfl
  | cons x xs ih =>
    have ⟨hx, hs⟩ := small_cons h
    rw [List.length_cons, unle, le_cons, low_mod _ hx, low_div _ hx, ih hs]
theorem le_lt {l : List Nat} (h : Small l) : le l < 2 ^ (8 * l.length) := by
  have h1 := le_unle l.length (le l)
  rw [unle_le h] at h1
  rw [h1]
  exact Nat.mod_lt _ (Nat.pow_pos (by decide))
/-- the same bytes, told by their number. -/
theorem eq_unle {l : List Nat} {n v : Nat} (h : Small l) (hn : l.length = n) (hv : le l = v % 2 ^ (8 * n)) : l = unle n v := by
  have h1 := unle_le h
  have h2 := unle_le (unle_small n v)
  rw [le_unle, unle_length] at h2
  rw [← h1, hn, hv, h2]
theorem run_four (c : Nat) (l d : List Nat) (hd : d.length = 4) : run c (l ++ d) = halves 32 (run c l ^^^ le d) := by
  rw [run_append, run_eq d, hd]

/-- bytes, and their sum behind. -/
def shut (l : List Nat) : List Nat := l ++ unle 4 (more 0 l)
theorem shut_length (l : List Nat) : (shut l).length = l.length + 4 := by unfold shut; rw [List.length_append, unle_length]
theorem shut_small {l : List Nat} (h : Small l) : Small (shut l) := fun x hx => (List.mem_append.1 hx).elim (h x) (unle_small _ _ x)
theorem more_eq (l : List Nat) : more 0 l = run (inv 0) l ^^^ 4294967295 := rfl
theorem inv0_lt : inv 0 < 4294967296 := inv_lt (by decide)
/-- do the last four bytes tell the sum of all ahead of them? -/
def fits (l : List Nat) : Bool := decide (l = shut (l.take (l.length - 4)))
theorem shut_fits (l : List Nat) : fits (shut l) = true := by
  refine decide_eq_true ?_
  rw [shut_length, Nat.add_sub_cancel]
  unfold shut
  rw [List.take_left]
theorem fits_iff {l : List Nat} (h : Small l) (h4 : 4 ≤ l.length) : fits l = true ↔ run (inv 0) l = halves 32 4294967295 := by
  obtain ⟨t, ht⟩ : ∃ t, t = l.take (l.length - 4) := ⟨_, rfl⟩
  obtain ⟨d, hd⟩ : ∃ d, d = l.drop (l.length - 4) := ⟨_, rfl⟩
  have hl : l = t ++ d := by rw [ht, hd, List.take_append_drop]
  have hd4 : d.length = 4 := by rw [hd, List.length_drop]; omega
  have st : Small t := fun x hx => h x (by rw [hl]; exact List.mem_append_left _ hx)
  have sd : Small d := fun x hx => h x (by rw [hl]; exact List.mem_append_right _ hx)
  have hr := run_lt st inv0_lt
  have hdl : le d < 4294967296 := by have := le_lt sd; rw [hd4] at this; exact this
  have key : run (inv 0) l = halves 32 (run (inv 0) t ^^^ le d) := by rw [hl]; exact run_four _ t d hd4
  have hfit : fits l = true ↔ d = unle 4 (more 0 t) := by
    unfold fits shut
    rw [← ht, decide_eq_true_iff]
    constructor
    · intro e
      have : t ++ d = t ++ unle 4 (more 0 t) := by rw [← hl]; exact e
      exact List.append_cancel_left this
    · intro e
      rw [← e]; exact hl
  rw [hfit, key]
  constructor
  · intro e
    have : le d = run (inv 0) t ^^^ 4294967295 := by
      rw [e, le_unle, more_eq]
      exact Nat.mod_eq_of_lt (Nat.xor_lt_two_pow (n := 32) hr (by decide))
    rw [this, ← Nat.xor_assoc, Nat.xor_self, Nat.zero_xor]
  · intro e
    have e1 := halves_inj 32 (Nat.xor_lt_two_pow (n := 32) hr hdl) (by decide) e
    have e2 : le d = run (inv 0) t ^^^ 4294967295 := by rw [← e1, ← Nat.xor_assoc, Nat.xor_self, Nat.zero_xor]
    refine eq_unle sd hd4 ?_
    rw [e2, more_eq]
    exact (Nat.mod_eq_of_lt (Nat.xor_lt_two_pow (n := 32) hr (by decide))).symm

/-- bytes of which some bits are turned, from a bit on. -/
def spoilt (l : List Nat) (at_ mask : Nat) : List Nat := unle l.length (le l ^^^ 2 ^ at_ * mask)
theorem spoilt_length (l : List Nat) (at_ mask : Nat) : (spoilt l at_ mask).length = l.length := unle_length _ _
theorem spoilt_small (l : List Nat) (at_ mask : Nat) : Small (spoilt l at_ mask) := unle_small _ _
theorem cut_mask {n at_ : Nat} (mask : Nat) (h : at_ ≤ 8 * n) : 2 ^ at_ * mask % 2 ^ (8 * n) = 2 ^ at_ * (mask % 2 ^ (8 * n - at_)) := by
  have e : 2 ^ (8 * n) = 2 ^ at_ * 2 ^ (8 * n - at_) := by rw [← Nat.pow_add]; congr 1; omega
  rw [e, Nat.mul_mod_mul_left]
theorem le_spoilt {l : List Nat} {at_ : Nat} (mask : Nat) (hs : Small l) (h : at_ ≤ 8 * l.length) : le (spoilt l at_ mask) = le l ^^^ 2 ^ at_ * (mask % 2 ^ (8 * l.length - at_)) := by
  unfold spoilt
  rw [le_unle, Nat.xor_mod_two_pow, Nat.mod_eq_of_lt (le_lt hs), cut_mask mask h]
theorem spoilt_of {l m : List Nat} {at_ mask : Nat} (hm : Small m) (hs : Small l) (hl : m.length = l.length) (h : at_ ≤ 8 * l.length) (he : le m = le l ^^^ 2 ^ at_ * (mask % 2 ^ (8 * l.length - at_))) : m = spoilt l at_ mask := by
  refine eq_unle hm hl ?_
  rw [he, Nat.xor_mod_two_pow, Nat.mod_eq_of_lt (le_lt hs), cut_mask mask h]
theorem spoilt_none {l : List Nat} {at_ mask : Nat} (hs : Small l) (h : at_ ≤ 8 * l.length) (he : mask % 2 ^ (8 * l.length - at_) = 0) : spoilt l at_ mask = l :=
  (spoilt_of hs hs rfl h (by rw [he, Nat.mul_zero, Nat.xor_zero])).symm
/-- NO DAMAGE WITHIN 32 BITS IN A ROW IS LET THROUGH. -/
theorem spoilt_fits {l : List Nat} {at_ mask : Nat} (hs : Small l) (h : at_ ≤ 8 * (shut l).length) (hm : mask < 4294967296) : fits (spoilt (shut l) at_ mask) = true ↔ mask % 2 ^ (8 * (shut l).length - at_) = 0 := by
  have h4 : 4 ≤ (shut l).length := by rw [shut_length]; omega
  have h1 := (fits_iff (shut_small hs) h4).1 (shut_fits l)
  rw [fits_iff (spoilt_small _ _ _) (by rw [spoilt_length]; exact h4), ← h1]
  have hb := burst (spoilt_length (shut l) at_ mask) (le_spoilt mask (shut_small hs) h) (Nat.lt_of_le_of_lt (Nat.mod_le _ _) hm) h
  rw [← hb, more_eq, more_eq]
  constructor
  · intro e; rw [e]
  · intro e; exact inv_inj e

theorem mask_even {mask k d : Nat} (h : mask / 2 ^ k % 2 = 0) : mask % 2 ^ (k + 1) % 2 ^ d = mask % 2 ^ k % 2 ^ d := by
  rw [Nat.mod_pow_succ, h, Nat.mul_zero, Nat.add_zero]
theorem mask_out {mask k d : Nat} (h : d ≤ k) : mask % 2 ^ (k + 1) % 2 ^ d = mask % 2 ^ k % 2 ^ d := by
  rw [Nat.mod_mod_of_dvd _ (Nat.pow_dvd_pow 2 (by omega)), Nat.mod_mod_of_dvd _ (Nat.pow_dvd_pow 2 h)]
theorem mask_turn {mask k d : Nat} (h : mask / 2 ^ k % 2 = 1) (hk : k < d) : mask % 2 ^ (k + 1) % 2 ^ d = mask % 2 ^ k % 2 ^ d + 2 ^ k := by
  have p1 : 2 ^ (k + 1) ≤ 2 ^ d := Nat.pow_le_pow_right (by decide) hk
  have p2 : 2 ^ k ≤ 2 ^ d := Nat.pow_le_pow_right (by decide) (by omega)
  have q1 : mask % 2 ^ (k + 1) < 2 ^ (k + 1) := Nat.mod_lt _ (Nat.pow_pos (by decide))
  have q2 : mask % 2 ^ k < 2 ^ k := Nat.mod_lt _ (Nat.pow_pos (by decide))
  rw [Nat.mod_eq_of_lt (Nat.lt_of_lt_of_le q1 p1), Nat.mod_eq_of_lt (Nat.lt_of_lt_of_le q2 p2), Nat.mod_pow_succ, h, Nat.mul_one]
theorem half_mask (mask k : Nat) : mask / 2 ^ (k + 1) = mask / 2 ^ k / 2 := by rw [Nat.pow_succ, Nat.div_div_eq_div_mul]

/-- one byte more of a mask that is moved. -/
theorem byte_more (q k T : Nat) : 2 ^ (8 * q) * (T % 2 ^ (8 * (k + 1))) = 2 ^ (8 * q) * (T % 2 ^ (8 * k)) ^^^ 2 ^ (8 * (q + k)) * (T / 2 ^ (8 * k) % 256) := by
  have h := split_low (T % 2 ^ (8 * (k + 1))) (8 * k)
  have e : 2 ^ (8 * (k + 1)) = 2 ^ (8 * k) * 256 := by rw [Nat.mul_add, Nat.pow_add]
  have h1 : T % 2 ^ (8 * (k + 1)) % 2 ^ (8 * k) = T % 2 ^ (8 * k) := Nat.mod_mod_of_dvd _ (by rw [e]; exact Nat.dvd_mul_right _ _)
  have h2 : T % 2 ^ (8 * (k + 1)) / 2 ^ (8 * k) = T / 2 ^ (8 * k) % 256 := by rw [e, Nat.mod_mul_right_div_self]
  rw [h1, h2] at h
  rw [h]
  have hx := Nat.shiftLeft_xor_distrib (a := T % 2 ^ (8 * k)) (b := 2 ^ (8 * k) * (T / 2 ^ (8 * k) % 256)) (i := 8 * q)
  have e3 : 2 ^ (8 * (q + k)) = 2 ^ (8 * q) * 2 ^ (8 * k) := by rw [← Nat.pow_add]; congr 1; omega
  rw [e3, Nat.mul_assoc]
  simpa [Nat.shiftLeft_eq, Nat.mul_comm] using hx
theorem next_byte (T k : Nat) : T / 2 ^ (8 * (k + 1)) = T / 2 ^ (8 * k) / 256 := by
  rw [Nat.div_div_eq_div_mul]
  have e : 2 ^ (8 * (k + 1)) = 2 ^ (8 * k) * 256 := by rw [Nat.mul_add, Nat.pow_add]
  rw [e]
theorem at_split (at_ mask : Nat) : 2 ^ (8 * (at_ / 8)) * (mask * 2 ^ (at_ % 8)) = 2 ^ at_ * mask := by
  rw [Nat.mul_comm mask, ← Nat.mul_assoc, ← Nat.pow_add]
  congr 2
  omega
/-- where the mask that is moved has no bit left. -/
theorem spoilt_left {l m : List Nat} {at_ mask k : Nat} (hm : Small m) (_hs : Small l) (hl : m.length = l.length) (he : le m = le l ^^^ 2 ^ (8 * (at_ / 8)) * (mask * 2 ^ (at_ % 8) % 2 ^ (8 * k))) (hz : mask * 2 ^ (at_ % 8) / 2 ^ (8 * k) = 0) : m = spoilt l at_ mask := by
  have hlt : mask * 2 ^ (at_ % 8) < 2 ^ (8 * k) := by
    rcases Nat.lt_or_ge (mask * 2 ^ (at_ % 8)) (2 ^ (8 * k)) with h | h
    · exact h
    · have := Nat.div_pos h (Nat.pow_pos (by decide)); omega
  rw [Nat.mod_eq_of_lt hlt, at_split] at he
  refine eq_unle hm hl ?_
  rw [← he, ← hl]
  exact (Nat.mod_eq_of_lt (le_lt hm)).symm
/-- where the bytes have ended. -/
theorem spoilt_end {l m : List Nat} {at_ mask k : Nat} (hm : Small m) (hs : Small l) (hl : m.length = l.length) (he : le m = le l ^^^ 2 ^ (8 * (at_ / 8)) * (mask * 2 ^ (at_ % 8) % 2 ^ (8 * k))) (hk : at_ / 8 + k = l.length) : m = spoilt l at_ mask := by
  refine eq_unle hm hl ?_
  have e : 2 ^ (8 * l.length) = 2 ^ (8 * (at_ / 8)) * 2 ^ (8 * k) := by rw [← Nat.pow_add]; congr 1; omega
  have h1 : 2 ^ at_ * mask % 2 ^ (8 * l.length) = 2 ^ (8 * (at_ / 8)) * (mask * 2 ^ (at_ % 8) % 2 ^ (8 * k)) := by
    rw [← at_split, e, Nat.mul_mod_mul_left]
  rw [Nat.xor_mod_two_pow, h1, Nat.mod_eq_of_lt (le_lt hs), he]

/-- Bytes as a string. -/
def str (l : List Nat) : ByteArray := strOfNums (l.map fun x : Nat => (x : Int))
theorem str_toList (l : List Nat) : (str l).toList = l.map UInt8.ofNat := by
  rw [ByteArray.toList_eq, str, strOfNums_data, List.map_map]
  apply List.map_congr_left
  intro x _
  simp
theorem ofNat_inj {a b : Nat} (ha : a < 256) (hb : b < 256) : UInt8.ofNat a = UInt8.ofNat b ↔ a = b := by
  constructor
  · intro h
    have h2 := congrArg UInt8.toNat h
    rw [UInt8.toNat_ofNat', UInt8.toNat_ofNat'] at h2
    omega
  · rintro rfl; rfl
theorem ofNat_lt {a b : Nat} (ha : a < 256) (hb : b < 256) : UInt8.ofNat a < UInt8.ofNat b ↔ a < b := by
  rw [UInt8.lt_iff_toNat_lt, UInt8.toNat_ofNat', UInt8.toNat_ofNat']
  omega
theorem map_inj {l m : List Nat} (hl : Small l) (hm : Small m) : l.map UInt8.ofNat = m.map UInt8.ofNat ↔ l = m := by
  induction l generalizing m with
  | nil => cases m <;> simp
  | cons x t ih =>
    cases m with
    | nil => simp
    | cons y r =>
      rw [List.map_cons, List.map_cons, List.cons.injEq, List.cons.injEq, ofNat_inj (hl x List.mem_cons_self) (hm y List.mem_cons_self),
        ih (fun z hz => hl z (List.mem_cons_of_mem _ hz)) (fun z hz => hm z (List.mem_cons_of_mem _ hz))]
theorem str_eql {l m : List Nat} (hl : Small l) (hm : Small m) : ((str l).toList == (str m).toList) = decide (l = m) := by
  rw [str_toList, str_toList, Bool.eq_iff_iff, beq_iff_eq, decide_eq_true_eq]
  exact map_inj hl hm
end Go.Proofs.YtjipeiigcoipjaaDoor.Crc
