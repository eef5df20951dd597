/- Plain facts on numbers below 2^64 and their bytes that the claims of layer pack rest on: how many bytes, which ones, the number of some bytes, the order of bytes. No program is named here. -/
import Derived.WalkKit
import Derived.Laws.BitsAllLaws
import Derived.Laws.BytesArg
import Derived.Laws.Strings
import Derived.WalkSmall
import Derived.OpenShut
namespace Go.Proofs.Ytpleafcjacbkkaa.Nu
open Go Go.RowKit

/-- How many bytes a number has. -/
def lenN : Nat → Nat → Nat
  | 0, _ => 0
  | f + 1, v => if v = 0 then 0 else 1 + lenN f (v / 256)
def blen (v : Nat) : Nat := lenN 8 v
/-- The lowest bytes, the highest one first. -/
def dig : Nat → Nat → List Nat
  | 0, _ => []
  | k + 1, v => v / 256 ^ k % 256 :: dig k v
/-- A number's bytes. -/
def enc (v : Nat) : List Nat := blen v :: dig (blen v) v
/-- The number of some bytes. -/
def val (l : List Nat) : Nat := l.foldl (fun a x => a * 256 + x) 0
def Small (l : List Nat) : Prop := ∀ x ∈ l, x < 256

theorem pos256 (k : Nat) : 0 < 256 ^ k := Nat.pow_pos (by decide)
theorem dig_length (k v : Nat) : (dig k v).length = k := by
  induction k with
  | zero => rfl
  | succ k ih => simp [dig, ih]
theorem dig_small (k v : Nat) : Small (dig k v) := by
  induction k with
  | zero => intro x hx; cases hx
  | succ k ih =>
    intro x hx
    rcases List.mem_cons.1 hx with rfl | hx
    · exact Nat.mod_lt _ (by decide)
    · exact ih x hx
theorem lenN_le (f v : Nat) : lenN f v ≤ f := by
  induction f generalizing v with
  | zero => exact Nat.le_refl _
  | succ f ih =>
    unfold lenN
    split
    · omega
    · have := ih (v / 256); omega
theorem blen_le (v : Nat) : blen v ≤ 8 := lenN_le 8 v
theorem lenN_zero (f : Nat) : lenN f 0 = 0 := by cases f <;> simp [lenN]
theorem blen_zero : blen 0 = 0 := lenN_zero 8
theorem lt_lenN (f v : Nat) (h : v < 256 ^ f) : v < 256 ^ lenN f v := by
  induction f generalizing v with
  | zero => simpa [lenN] using h
  | succ f ih =>
    unfold lenN
    split
    · rename_i hz; subst hz; decide
    · have h1 : v / 256 < 256 ^ f := by rw [Nat.pow_succ] at h; omega
      have := ih _ h1
      rw [Nat.add_comm, Nat.pow_succ]; omega
theorem le_lenN (f v k : Nat) (h : lenN f v = k + 1) : 256 ^ k ≤ v := by
  induction f generalizing v k with
  | zero => simp [lenN] at h
  | succ f ih =>
    unfold lenN at h
    split at h
    · omega
    · rename_i hz
      cases k with
      | zero => rw [Nat.pow_zero]; omega
      | succ k =>
        have := ih (v / 256) k (by omega)
        rw [Nat.pow_succ]; omega
theorem lt_blen {v : Nat} (h : v < 18446744073709551616) : v < 256 ^ blen v := lt_lenN 8 v (by exact h)
theorem le_blen {v k : Nat} (h : blen v = k + 1) : 256 ^ k ≤ v := le_lenN 8 v k h
theorem blen_of {v k : Nat} (hv : v < 18446744073709551616) (h0 : 256 ^ k ≤ v) (h1 : v < 256 ^ (k + 1)) : blen v = k + 1 := by
  have a := lt_blen hv
  have b : k < blen v := (Nat.pow_lt_pow_iff_right (by decide : 1 < 256)).1 (Nat.lt_of_le_of_lt h0 a)
  obtain ⟨m, hm⟩ : ∃ m, blen v = m + 1 := ⟨blen v - 1, by omega⟩
  have c := le_blen hm
  have d : m < k + 1 := (Nat.pow_lt_pow_iff_right (by decide : 1 < 256)).1 (Nat.lt_of_le_of_lt c h1)
  omega
theorem enc_length (v : Nat) : (enc v).length = 1 + blen v := by simp [enc, dig_length]; omega
theorem enc_small (v : Nat) : Small (enc v) := by
  intro x hx
  rcases List.mem_cons.1 hx with rfl | hx
  · have := blen_le v; omega
  · exact dig_small _ _ x hx

theorem dig_add (k v a : Nat) : dig k (v + a * 256 ^ k) = dig k v := by
  induction k generalizing a with
  | zero => rfl
  | succ k ih =>
    have e : v + a * 256 ^ (k + 1) = v + a * 256 * 256 ^ k := by rw [Nat.pow_succ, Nat.mul_comm (256 ^ k), ← Nat.mul_assoc]
    unfold dig
    rw [e, ih (a * 256), Nat.add_mul_div_right _ _ (pos256 k)]
    congr 1
    omega
theorem fold_val (l : List Nat) (a : Nat) : l.foldl (fun a x => a * 256 + x) a = a * 256 ^ l.length + val l := by
  induction l generalizing a with
  | nil => simp [val]
  | cons x t ih =>
    have h1 := ih (a * 256 + x)
    have h2 := ih (0 * 256 + x)
    unfold val
    rw [List.foldl_cons, List.foldl_cons, h1, h2, List.length_cons, Nat.pow_succ, Nat.add_mul, Nat.mul_assoc, Nat.mul_comm 256]
    simp
    omega
theorem val_cons (x : Nat) (t : List Nat) : val (x :: t) = x * 256 ^ t.length + val t := by
  have h := fold_val t (0 * 256 + x)
  unfold val at h ⊢
  rw [List.foldl_cons, h]
  simp
theorem val_snoc (l : List Nat) (x : Nat) : val (l ++ [x]) = val l * 256 + x := by
  unfold val; rw [List.foldl_append]; rfl
theorem val_nil : val [] = 0 := rfl
theorem val_lt {l : List Nat} (h : Small l) : val l < 256 ^ l.length := by
  induction l with
  | nil => simp [val]
  | cons x t ih =>
    have h1 := ih fun y hy => h y (List.mem_cons_of_mem _ hy)
    have h2 : x < 256 := h x List.mem_cons_self
    rw [val_cons, List.length_cons, Nat.pow_succ]
    have : x * 256 ^ t.length ≤ 255 * 256 ^ t.length := Nat.mul_le_mul_right _ (by omega)
    omega
theorem val_dig (k v : Nat) : val (dig k v) = v % 256 ^ k := by
  induction k with
  | zero => simp [dig, val, Nat.mod_one]
  | succ k ih =>
    unfold dig
    rw [val_cons, dig_length, ih, Nat.pow_succ, Nat.mod_mul, Nat.mul_comm (256 ^ k)]
    omega
theorem dig_val {l : List Nat} (h : Small l) : dig l.length (val l) = l := by
  induction l with
  | nil => rfl
  | cons x t ih =>
    have hs : Small t := fun y hy => h y (List.mem_cons_of_mem _ hy)
    have h1 := ih hs
    have h2 : x < 256 := h x List.mem_cons_self
    have h3 := val_lt hs
    rw [val_cons, List.length_cons]
    unfold dig
    rw [Nat.add_comm, dig_add, h1, Nat.add_mul_div_right _ _ (pos256 _), Nat.div_eq_of_lt h3]
    congr 1
    omega
theorem val_enc {v : Nat} (h : v < 18446744073709551616) : val (dig (blen v) v) = v := by
  rw [val_dig, Nat.mod_eq_of_lt (lt_blen h)]
/-- The highest byte is not 0. -/
theorem dig_head {v k : Nat} (h : v < 18446744073709551616) (hk : blen v = k + 1) : v / 256 ^ k % 256 ≠ 0 := by
  have h1 := le_blen hk
  have h2 := lt_blen h
  rw [hk, Nat.pow_succ] at h2
  have h3 : 1 ≤ v / 256 ^ k := (Nat.le_div_iff_mul_le (pos256 k)).2 (by omega)
  have h4 : v / 256 ^ k < 256 := (Nat.div_lt_iff_lt_mul (pos256 k)).2 (by omega)
  omega
/-- Bytes in the only form. -/
theorem enc_val {n : Nat} {t : List Nat} (hn : n ≤ 8) (ht : t.length = n) (hs : Small t) (h0 : ∀ x, t[0]? = some x → x ≠ 0) : enc (val t) = n :: t ∧ val t < 18446744073709551616 := by
  have hl := val_lt hs
  have h64 : val t < 18446744073709551616 := by
    have : 256 ^ t.length ≤ 256 ^ 8 := Nat.pow_le_pow_right (by decide) (by omega)
    exact Nat.lt_of_lt_of_le hl this
  have hb : blen (val t) = n := by
    cases t with
    | nil => subst ht; exact blen_zero
    | cons x r =>
      have hx : x ≠ 0 := h0 x rfl
      subst ht
      refine blen_of h64 ?_ hl
      rw [val_cons]
      have : 1 * 256 ^ r.length ≤ x * 256 ^ r.length := Nat.mul_le_mul_right _ (by omega)
      omega
  refine ⟨?_, h64⟩
  unfold enc
  rw [hb]
  subst ht
  rw [dig_val hs]

/-- Which of two lists of bytes stands ahead. -/
def less : List Nat → List Nat → Bool
  | _, [] => false
  | [], _ :: _ => true
  | a :: x, b :: y => decide (a < b) || (decide (a = b) && less x y)
theorem less_dig (k v w : Nat) : less (dig k v) (dig k w) = decide (v % 256 ^ k < w % 256 ^ k) := by
  induction k with
  | zero => simp [dig, less, Nat.mod_one]
  | succ k ih =>
    unfold dig less
    rw [ih, Nat.pow_succ, Nat.mod_mul, Nat.mod_mul]
    have h1 := Nat.mod_lt v (pos256 k)
    have h2 := Nat.mod_lt w (pos256 k)
    generalize v % 256 ^ k = p at *
    generalize w % 256 ^ k = q at *
    generalize v / 256 ^ k % 256 = a at *
    generalize w / 256 ^ k % 256 = b at *
    generalize 256 ^ k = m at *
    rw [Bool.eq_iff_iff]
    simp only [Bool.or_eq_true, Bool.and_eq_true, decide_eq_true_eq]
    rcases Nat.lt_trichotomy a b with h | rfl | h
    · have : m * (a + 1) ≤ m * b := Nat.mul_le_mul_left _ h
      rw [Nat.mul_succ] at this
      constructor
      · intro _; omega
      · intro _; exact .inl h
    · constructor
      · rintro (h | ⟨_, h⟩) <;> omega
      · intro h; exact .inr ⟨rfl, by omega⟩
    · have : m * (b + 1) ≤ m * a := Nat.mul_le_mul_left _ h
      rw [Nat.mul_succ] at this
      constructor
      · rintro (h | ⟨h, _⟩) <;> omega
      · intro _; omega
theorem less_enc {v w : Nat} (hv : v < 18446744073709551616) (hw : w < 18446744073709551616) : less (enc v) (enc w) = decide (v < w) := by
  have h1 := lt_blen hv
  have h2 := lt_blen hw
  unfold enc less
  rcases Nat.lt_trichotomy (blen v) (blen w) with h | h | h
  · obtain ⟨k, hk⟩ : ∃ k, blen w = k + 1 := ⟨blen w - 1, by omega⟩
    have h3 := le_blen hk
    have h4 : 256 ^ blen v ≤ 256 ^ k := Nat.pow_le_pow_right (by decide) (by omega)
    have h5 : v < w := by omega
    simp [h, h5]
  · rw [h, less_dig, Nat.mod_eq_of_lt (by rw [← h]; exact h1), Nat.mod_eq_of_lt h2]
    simp
  · obtain ⟨k, hk⟩ : ∃ k, blen v = k + 1 := ⟨blen v - 1, by omega⟩
    have h3 := le_blen hk
    have h4 : 256 ^ blen w ≤ 256 ^ k := Nat.pow_le_pow_right (by decide) (by omega)
    have h5 : ¬ v < w := by omega
    have h6 : ¬ blen v < blen w := by omega
    have h7 : ¬ blen v = blen w := by omega
    simp [h5, h6, h7]
theorem enc_inj {v w : Nat} (hv : v < 18446744073709551616) (hw : w < 18446744073709551616) : enc v = enc w ↔ v = w := by
  constructor
  · intro h
    unfold enc at h
    obtain ⟨h1, h2⟩ := List.cons.inj h
    have e1 := val_enc hv
    rw [h2, val_enc hw] at e1
    exact e1.symm
  · rintro rfl; rfl

/-- Bytes as a string. -/
def str (l : List Nat) : ByteArray := strOfNums (l.map fun x : Nat => (x : Int))
theorem str_toList (l : List Nat) : (str l).toList = l.map UInt8.ofNat := by
  rw [ByteArray.toList_eq, str, strOfNums_data, List.map_map]
  apply List.map_congr_left
  intro x _
  simp
theorem ofNat_inj {a b : Nat} (ha : a < 256) (hb : b < 256) : UInt8.ofNat a = UInt8.ofNat b ↔ a = b := by
  constructor
  · intro h
    have h2 := congrArg UInt8.toNat h
    rw [UInt8.toNat_ofNat', UInt8.toNat_ofNat'] at h2
    omega
  · rintro rfl; rfl
theorem ofNat_lt {a b : Nat} (ha : a < 256) (hb : b < 256) : UInt8.ofNat a < UInt8.ofNat b ↔ a < b := by
  rw [UInt8.lt_iff_toNat_lt, UInt8.toNat_ofNat', UInt8.toNat_ofNat']
  omega
theorem map_inj {l m : List Nat} (hl : Small l) (hm : Small m) : l.map UInt8.ofNat = m.map UInt8.ofNat ↔ l = m := by
  induction l generalizing m with
  | nil => cases m <;> simp
  | cons x t ih =>
    cases m with
    | nil => simp
    | cons y r =>
      rw [List.map_cons, List.map_cons, List.cons.injEq, List.cons.injEq, ofNat_inj (hl x List.mem_cons_self) (hm y List.mem_cons_self),
        ih (fun z hz => hl z (List.mem_cons_of_mem _ hz)) (fun z hz => hm z (List.mem_cons_of_mem _ hz))]
theorem str_eql {l m : List Nat} (hl : Small l) (hm : Small m) : ((str l).toList == (str m).toList) = decide (l = m) := by
  rw [str_toList, str_toList, Bool.eq_iff_iff, beq_iff_eq, decide_eq_true_eq]
  exact map_inj hl hm
theorem str_less {l m : List Nat} (hl : Small l) (hm : Small m) : Op.bytesLess (str l).toList (str m).toList = less l m := by
  rw [str_toList, str_toList]
  induction l generalizing m with
  | nil => cases m <;> rfl
  | cons x t ih =>
    cases m with
    | nil => rfl
    | cons y r =>
      have a := ofNat_lt (hl x List.mem_cons_self) (hm y List.mem_cons_self)
      have b := ofNat_inj (hl x List.mem_cons_self) (hm y List.mem_cons_self)
      have c := ih (m := r) (fun z hz => hl z (List.mem_cons_of_mem _ hz)) (fun z hz => hm z (List.mem_cons_of_mem _ hz))
      simp only [List.map_cons, Op.bytesLess, less, c]
      rw [Bool.eq_iff_iff]
      simp only [Bool.or_eq_true, Bool.and_eq_true, decide_eq_true_eq, beq_iff_eq, a, b]
end Go.Proofs.Ytpleafcjacbkkaa.Nu
