/-
  THE PLAIN ARITHMETIC OF LAYER crc: one halving of the sum's number, that it is linear over '^' and loses nothing below 2^32; the run over a list of bytes is as many halvings of the first number with all bytes laid behind each other; bursts. No condition.
-/
namespace Go.Proofs.YtjipeiigcoipjaaDoor.Crc

/-- one halving. -/
def half (c : Nat) : Nat := if c % 2 = 1 then c / 2 ^^^ 3988292384 else c / 2

theorem xor_mod_two (a b : Nat) : (a ^^^ b) % 2 = (a % 2 + b % 2) % 2 := by
  have h := Nat.testBit_xor a b 0
  simp only [Nat.testBit_zero] at h
  rcases Nat.mod_two_eq_zero_or_one a with ha | ha <;> rcases Nat.mod_two_eq_zero_or_one b with hb | hb <;> rcases Nat.mod_two_eq_zero_or_one (a ^^^ b) with hx | hx <;> simp [ha, hb, hx] at h ⊢

theorem xor_div_two (a b : Nat) : (a ^^^ b) / 2 = a / 2 ^^^ b / 2 := by
  have := Nat.shiftRight_xor_distrib (a := a) (b := b) (i := 1)
  simpa [Nat.shiftRight_succ] using this

theorem half_xor (a b : Nat) : half (a ^^^ b) = half a ^^^ half b := by
  unfold half
  rw [xor_mod_two, xor_div_two]
  rcases Nat.mod_two_eq_zero_or_one a with ha | ha <;> rcases Nat.mod_two_eq_zero_or_one b with hb | hb <;> rw [ha, hb]
  · simp
  · simp [Nat.xor_assoc]
  · simp only [Nat.add_zero, Nat.mod_succ, if_true, Nat.zero_ne_one, if_false]
    rw [Nat.xor_assoc, Nat.xor_assoc, Nat.xor_comm (b / 2)]
  · apply Nat.eq_of_testBit_eq
    intro i
    simp only [Nat.reduceAdd, Nat.mod_self, Nat.zero_ne_one, if_false, if_true, Nat.testBit_xor]
    cases Nat.testBit (a / 2) i <;> cases Nat.testBit (b / 2) i <;> cases Nat.testBit 3988292384 i <;> rfl

theorem half_dbl (y : Nat) : half (2 * y) = y := by
  unfold half
  rw [if_neg (by omega)]
  omega

theorem half_lt {c : Nat} (h : c < 4294967296) : half c < 4294967296 := by
  unfold half
  split
  · exact Nat.xor_lt_two_pow (n := 32) (by omega) (by omega)
  · omega

theorem half_zero {c : Nat} (h : c < 4294967296) (hz : half c = 0) : c = 0 := by
  unfold half at hz
  split at hz
  · exfalso
    have h1 : (c / 2 ^^^ 3988292384) ^^^ 3988292384 = 3988292384 := by rw [hz]; simp
    rw [Nat.xor_assoc, Nat.xor_self, Nat.xor_zero] at h1
    omega
  · omega

/-- k halvings. -/
def halves : Nat → Nat → Nat
  | 0, c => c
  | k + 1, c => halves k (half c)

theorem halves_xor (k : Nat) : ∀ a b : Nat, halves k (a ^^^ b) = halves k a ^^^ halves k b := by
  induction k with
  | zero => intro a b; rfl
  | succ k ih => intro a b; simp only [halves, half_xor, ih]

theorem halves_add (a : Nat) : ∀ b c : Nat, halves (a + b) c = halves b (halves a c) := by
  induction a with
  | zero => intro b c; rw [Nat.zero_add]; rfl
  | succ a ih => intro b c; rw [Nat.add_right_comm]; simp only [halves, ih]

theorem halves_pow (k : Nat) : ∀ y : Nat, halves k (2 ^ k * y) = y := by
  induction k with
  | zero => intro y; simp [halves]
  | succ k ih =>
    intro y
    have e : 2 ^ (k + 1) * y = 2 * (2 ^ k * y) := by rw [Nat.pow_succ, Nat.mul_comm (2 ^ k) 2, Nat.mul_assoc]
    rw [e]
    simp only [halves, half_dbl, ih]

theorem halves_lt (k : Nat) : ∀ {c : Nat}, c < 4294967296 → halves k c < 4294967296 := by
  induction k with
  | zero => intro c h; exact h
  | succ k ih => intro c h; exact ih (half_lt h)

theorem halves_zero (k : Nat) : ∀ {c : Nat}, c < 4294967296 → halves k c = 0 → c = 0 := by
  induction k with
  | zero => intro c _ h; exact h
  | succ k ih => intro c h hz; exact half_zero h (ih (half_lt h) hz)

theorem halves_of_zero (k : Nat) : halves k 0 = 0 := by
  induction k with
  | zero => rfl
  | succ k ih => exact ih

theorem xor_eq_zero {a b : Nat} (h : a ^^^ b = 0) : a = b := by
  have h1 : (a ^^^ b) ^^^ b = b := by rw [h]; simp
  rw [Nat.xor_assoc, Nat.xor_self, Nat.xor_zero] at h1
  exact h1

theorem halves_inj (k : Nat) {a b : Nat} (ha : a < 4294967296) (hb : b < 4294967296) (h : halves k a = halves k b) : a = b := by
  apply xor_eq_zero
  refine halves_zero k (Nat.xor_lt_two_pow (n := 32) ha hb) ?_
  rw [halves_xor, h, Nat.xor_self]

/-- all bytes of a list, each one. -/
def Small (l : List Nat) : Prop := ∀ x ∈ l, x < 256

/-- the number behind some bytes more. -/
def byte (c x : Nat) : Nat := halves 8 (c ^^^ x)
theorem byte_eq (c x : Nat) : byte c x = halves 8 (c ^^^ x) := by unfold byte; rfl
def run (c : Nat) (l : List Nat) : Nat := l.foldl byte c
theorem run_nil (c : Nat) : run c [] = c := by unfold run; exact List.foldl_nil
theorem run_cons (c x : Nat) (xs : List Nat) : run c (x :: xs) = run (byte c x) xs := by unfold run; exact List.foldl_cons ..

/-- the bytes laid behind each other, the first one lowest. -/
def le : List Nat → Nat
  | [] => 0
  | x :: xs => x ^^^ 2 ^ 8 * le xs

theorem halves_byte (a y : Nat) : halves 8 (a ^^^ 2 ^ 8 * y) = halves 8 a ^^^ y := by
  have h := halves_xor 8 a (2 ^ 8 * y)
  have h2 := halves_pow 8 y
  exact h.trans (congrArg (fun z => halves 8 a ^^^ z) h2)

theorem le_cons (x : Nat) (xs : List Nat) : le (x :: xs) = x ^^^ 2 ^ 8 * le xs := by rw [le]

theorem run_eq (l : List Nat) : ∀ c : Nat, run c l = halves (8 * l.length) (c ^^^ le l) := by
  induction l with
  | nil => intro c; rw [run_nil]; exact (Nat.xor_zero c).symm
  | cons x xs ih =>
    intro c
    have e : 8 * (x :: xs).length = 8 + 8 * xs.length := by simp only [List.length_cons]; omega
    have h0 : byte c x ^^^ le xs = halves 8 (c ^^^ (x ^^^ 2 ^ 8 * le xs)) := by
      rw [byte_eq]
      exact (halves_byte (c ^^^ x) (le xs)).symm.trans (congrArg (halves 8) (Nat.xor_assoc c x (2 ^ 8 * le xs)))
    have h3 := halves_add 8 (8 * xs.length) (c ^^^ (x ^^^ 2 ^ 8 * le xs))
    rw [run_cons, e, le_cons]
    exact ((ih _).trans (congrArg (halves (8 * xs.length)) h0)).trans h3.symm

theorem run_append (a b : List Nat) (c : Nat) : run c (a ++ b) = run (run c a) b := by
  unfold run; exact List.foldl_append ..

theorem run_snoc (c : Nat) (a : List Nat) (x : Nat) : run c (a ++ [x]) = byte (run c a) x := by rw [run_append, run_cons, run_nil]

theorem byte_lt {c x : Nat} (hc : c < 4294967296) (hx : x < 256) : byte c x < 4294967296 := by
  rw [byte_eq]; exact halves_lt 8 (Nat.xor_lt_two_pow (n := 32) hc (by omega))

theorem run_lt {l : List Nat} (hl : Small l) : ∀ {c : Nat}, c < 4294967296 → run c l < 4294967296 := by
  induction l with
  | nil => intro c h; rw [run_nil]; exact h
  | cons x xs ih =>
    intro c h
    rw [run_cons]
    exact ih (fun y hy => hl y (by simp [hy])) (byte_lt h (hl x (by simp)))

theorem run_inj {l : List Nat} {c d : Nat} (hc : c < 4294967296) (hd : d < 4294967296) (h : run c l = run d l) : c = d := by
  rw [run_eq, run_eq, halves_xor, halves_xor] at h
  have h1 : (halves (8 * l.length) c ^^^ halves (8 * l.length) (le l)) ^^^ halves (8 * l.length) (le l) = (halves (8 * l.length) d ^^^ halves (8 * l.length) (le l)) ^^^ halves (8 * l.length) (le l) := by rw [h]
  rw [Nat.xor_assoc, Nat.xor_assoc, Nat.xor_self, Nat.xor_zero, Nat.xor_zero] at h1
  exact halves_inj _ hc hd h1

/-- all 32 bits turned. -/
def inv (s : Nat) : Nat := s ^^^ 4294967295
theorem inv_lt {s : Nat} (h : s < 4294967296) : inv s < 4294967296 := Nat.xor_lt_two_pow (n := 32) h (by omega)
theorem inv_inv (s : Nat) : inv (inv s) = s := by unfold inv; rw [Nat.xor_assoc, Nat.xor_self, Nat.xor_zero]
theorem inv_inj {a b : Nat} (h : inv a = inv b) : a = b := by rw [← inv_inv a, h, inv_inv]

/-- the sum with some bytes more. -/
def more (s : Nat) (l : List Nat) : Nat := inv (run (inv s) l)
/-- the sum with some parts more. -/
def sums : Nat → List (List Nat) → Nat
  | s, [] => s
  | s, p :: ps => sums (more s p) ps

theorem more_lt {s : Nat} {l : List Nat} (hl : Small l) (h : s < 4294967296) : more s l < 4294967296 := inv_lt (run_lt hl (inv_lt h))
theorem more_nil (s : Nat) : more s [] = s := inv_inv s
theorem more_more (s : Nat) (a b : List Nat) : more (more s a) b = more s (a ++ b) := by unfold more; rw [inv_inv, run_append]
theorem more_inj {l : List Nat} {s t : Nat} (hs : s < 4294967296) (ht : t < 4294967296) : more s l = more t l ↔ s = t :=
  ⟨fun h => inv_inj (run_inj (inv_lt hs) (inv_lt ht) (inv_inj h)), fun h => by rw [h]⟩
theorem sums_snoc (a : List (List Nat)) (p : List Nat) : ∀ s : Nat, sums s (a ++ [p]) = more (sums s a) p := by
  induction a with
  | nil => intro s; rfl
  | cons x xs ih => intro s; simp only [List.cons_append, sums, ih]
theorem sums_lt {a : List (List Nat)} (ha : ∀ p ∈ a, Small p) : ∀ {s : Nat}, s < 4294967296 → sums s a < 4294967296 := by
  induction a with
  | nil => intro s h; exact h
  | cons x xs ih => intro s h; exact ih (fun p hp => ha p (by simp [hp])) (more_lt (ha x (by simp)) h)

theorem le_set (l : List Nat) (y : Nat) : ∀ (j : Nat) (x : Nat), l[j]? = some x → le (l.set j (x ^^^ y)) = le l ^^^ 2 ^ (8 * j) * y := by
  induction l with
  | nil => intro j x h; simp at h
  | cons z zs ih =>
    intro j x h
    cases j with
    | zero =>
      obtain rfl : z = x := by simpa using h
      simp only [List.set_cons_zero, le, Nat.mul_zero, Nat.pow_zero, Nat.one_mul]
      rw [Nat.xor_assoc, Nat.xor_assoc, Nat.xor_comm y]
    | succ j =>
      have h' : zs[j]? = some x := by simpa using h
      simp only [List.set_cons_succ, le, ih j x h']
      have e : 2 ^ (8 * (j + 1)) * y = 2 ^ 8 * (2 ^ (8 * j) * y) := by rw [← Nat.mul_assoc, ← Nat.pow_add]; congr 2; omega
      rw [e, Nat.xor_assoc]
      congr 1
      have := Nat.shiftLeft_xor_distrib (a := le zs) (b := 2 ^ (8 * j) * y) (i := 8)
      simpa [Nat.shiftLeft_eq, Nat.mul_comm] using this

/-- what bits are turned, of a text's bits, from a bit on: NO BURST GETS THROUGH. -/
theorem burst {l x : List Nat} {e at_ : Nat} (hlen : x.length = l.length) (hx : le x = le l ^^^ 2 ^ at_ * e) (he : e < 4294967296) (hat : at_ ≤ 8 * l.length) :
    more 0 x = more 0 l ↔ e = 0 := by
  constructor
  · intro h
    have h1 := inv_inj h
    rw [run_eq, run_eq, hlen, hx, halves_xor, halves_xor _ _ (le l), halves_xor] at h1
    have h2 : halves (8 * l.length) (2 ^ at_ * e) = 0 := by
      have h3 : ∀ a b c : Nat, a ^^^ (b ^^^ c) = a ^^^ b → c = 0 := by
        intro a b c h
        have h4 : (a ^^^ b) ^^^ ((a ^^^ b) ^^^ c) = 0 := by rw [Nat.xor_assoc a b c, h, Nat.xor_self]
        rw [← Nat.xor_assoc, Nat.xor_self, Nat.zero_xor] at h4
        exact h4
      exact h3 _ _ _ h1
    have e1 : 8 * l.length = at_ + (8 * l.length - at_) := by omega
    rw [e1, halves_add, halves_pow] at h2
    exact halves_zero _ he h2
  · intro h
    subst h
    unfold more
    rw [run_eq, run_eq, hlen, hx, Nat.mul_zero, Nat.xor_zero]

/-- the table of four halvings. -/
def tab : List Nat := [0, 498536548, 997073096, 651767980, 1994146192, 1802195444, 1303535960, 1342533948, 3988292384, 4027552580, 3604390888, 3412177804, 2607071920, 2262029012, 2685067896, 3183342108]

theorem tab_get (r : Nat) (h : r < 16) : tab.getD r 0 = halves 4 r := by
  have key : ∀ r : Fin 16, tab.getD r.1 0 = halves 4 r.1 := by decide +kernel
  exact key ⟨r, h⟩

theorem split_low (v k : Nat) : v = v % 2 ^ k ^^^ 2 ^ k * (v / 2 ^ k) := by
  apply Nat.eq_of_testBit_eq
  intro i
  rw [Nat.testBit_xor, Nat.testBit_mod_two_pow, Nat.testBit_two_pow_mul, Nat.testBit_div_two_pow]
  by_cases h : i < k
  · have h' : ¬ i ≥ k := by omega
    simp [h, h']
  · have h' : i ≥ k := by omega
    have e : i - k + k = i := by omega
    simp [h, h', e]

theorem four (v : Nat) : v / 16 ^^^ tab.getD (v % 16) 0 = halves 4 v := by
  rw [tab_get _ (Nat.mod_lt _ (by decide))]
  have h := split_low v 4
  have e : (2 : Nat) ^ 4 = 16 := rfl
  rw [e] at h
  conv => rhs; rw [h]
  have h16 : halves 4 (16 * (v / 16)) = v / 16 := halves_pow 4 (v / 16)
  rw [halves_xor, h16, Nat.xor_comm]

theorem eight (v : Nat) : halves 4 (halves 4 v) = halves 8 v := (halves_add 4 4 v).symm

theorem works_sum : sums 0 [[49, 50, 51, 52, 53, 54, 55, 56, 57]] = 3421780262 := by decide +kernel

/-- one bit more of a burst. -/
theorem bit_more {e i : Nat} (h : e < 2 ^ i) (at_ : Nat) : 2 ^ at_ * (e + 2 ^ i) = 2 ^ at_ * e ^^^ 2 ^ (at_ + i) := by
  have h1 : e + 2 ^ i = e ^^^ 2 ^ i := by
    apply Nat.eq_of_testBit_eq
    intro j
    rw [Nat.testBit_xor, Nat.add_comm e, Nat.testBit_two_pow]
    rcases Nat.lt_trichotomy j i with hj | hj | hj
    · rw [Nat.testBit_two_pow_add_gt hj]
      have : ¬ i = j := by omega
      simp [this]
    · subst hj
      rw [Nat.testBit_two_pow_add_eq]
      have : e.testBit j = false := Nat.testBit_lt_two_pow h
      simp [this]
    · have hz : e.testBit j = false := Nat.testBit_lt_two_pow (Nat.lt_of_lt_of_le h (Nat.pow_le_pow_right (by decide) (by omega)))
      have hz2 : (2 ^ i + e).testBit j = false := by
        apply Nat.testBit_lt_two_pow
        have : 2 ^ (i + 1) ≤ 2 ^ j := Nat.pow_le_pow_right (by decide) (by omega)
        rw [Nat.pow_succ] at this
        omega
      have : ¬ i = j := by omega
      simp [hz, hz2, this]
  rw [h1]
  have := Nat.shiftLeft_xor_distrib (a := e) (b := 2 ^ i) (i := at_)
  rw [Nat.pow_add]
  simpa [Nat.shiftLeft_eq, Nat.mul_comm] using this

end Go.Proofs.YtjipeiigcoipjaaDoor.Crc
