/- The contracts of the document's answers for layer dot on texts that are read: Number, Parse. For every text. -/
import Derived.Test.YtoojlalpcmlanaaDoorDText
namespace Go.Proofs.YtoojlalpcmlanaaDoor.Dt
open Go.ChangeShapes Go.WideShapes Go.ChangeAt Go.RowKit
set_option linter.unusedVariables false

/-- is a byte a digit? -/
def isDig (c : UInt8) : Bool := decide (48 ≤ c.toNat ∧ c.toNat ≤ 57)
/-- the number of digits. -/
def valB (l : List UInt8) : Nat := l.foldl (fun v c => v * 10 + (c.toNat - 48)) 0
theorem valB_snoc (l : List UInt8) (c : UInt8) : valB (l ++ [c]) = valB l * 10 + (c.toNat - 48) := by
  unfold valB; rw [List.foldl_append]; rfl
theorem isDig_iff (c : UInt8) : isDig c = true ↔ 48 ≤ c.toNat ∧ c.toNat ≤ 57 := decide_eq_true_iff
theorem valB_from (l : List UInt8) (a : Nat) (h : l.all isDig = true) : l.foldl (fun v c => v * 10 + (c.toNat - 48)) a < (a + 1) * 10 ^ l.length := by
  induction l generalizing a with
  | nil => simp
  | cons c l ih =>
    rw [List.all_cons, Bool.and_eq_true] at h
    have h2 := (isDig_iff c).1 h.1
    have h3 := ih (a * 10 + (c.toNat - 48)) h.2
    rw [List.foldl_cons, List.length_cons, Nat.pow_succ]
    have h4 : (a * 10 + (c.toNat - 48) + 1) * 10 ^ l.length ≤ (a * 10 + 10) * 10 ^ l.length := Nat.mul_le_mul_right _ (by omega)
    have h5 : (a * 10 + 10) * 10 ^ l.length = (a + 1) * (10 ^ l.length * 10) := by
      have : a * 10 + 10 = (a + 1) * 10 := by omega
      rw [this, Nat.mul_assoc, Nat.mul_comm 10]
    omega
theorem valB_less (l : List UInt8) (h : l.all isDig = true) : valB l < 10 ^ l.length := by
  have := valB_from l 0 h
  unfold valB
  omega
/-- what the document's Number says. -/
def badB (l : List UInt8) : Bool := decide (l.length < 1 ∨ 15 < l.length ∨ (1 < l.length ∧ l[0]? = some 48))
def numB (l : List UInt8) : Nat × Bool := if badB l = true then (0, false) else if l.all isDig = true then (valB l, true) else (0, false)
theorem take_snoc (s : ByteArray) (k : Nat) (h : k < s.size) : s.data.toList.take (k + 1) = s.data.toList.take k ++ [s[k]] := by
  rw [List.take_succ_eq_append_getElem (by simpa using h)]; rfl
theorem pow15 {k : Nat} (h : k ≤ 15) : 10 ^ k ≤ 1000000000000000 := Nat.pow_le_pow_right (by omega) h

theorem badB_true {l : List UInt8} (h : l.length < 1 ∨ 15 < l.length ∨ (1 < l.length ∧ l[0]? = some 48)) : numB l = (0, false) := by
  unfold numB badB; rw [if_pos (decide_eq_true h)]
theorem numB_good {l : List UInt8} (h : ¬ (l.length < 1 ∨ 15 < l.length ∨ (1 < l.length ∧ l[0]? = some 48))) : numB l = if l.all isDig = true then (valB l, true) else (0, false) := by
  unfold numB badB; rw [if_neg (by rw [decide_eq_false h]; simp)]
theorem all_part {l : List UInt8} {k : Nat} {c : UInt8} (hc : l[k]? = some c) (hn : isDig c = false) : l.all isDig = false := by
  rw [List.all_eq_false]
  exact ⟨c, List.mem_of_getElem? hc, by simp [hn]⟩
theorem get_zero {s : ByteArray} (h : 0 < s.size) : s.data.toList[0]? = some s[0] := by
  have h' : 0 < s.data.toList.length := by simpa using h
  rw [List.getElem?_eq_getElem h']; rfl

set_option maxHeartbeats 4000000 in
theorem rnumber_any (s : ByteArray) (w : World) (hs : s.size ≤ maxLen) :
    Calls Tryd.prog 44 #[.string s] w fun e w' => e = .returned (.tuple #[.int .u64 ((numB s.data.toList).1 : Int), .bool (numB s.data.toList).2]) ∧ w' = w := by
  unfold maxLen at hs
  have hlen : s.data.toList.length = s.size := by simp
  by_cases c1 : s.size < 1
  · have d1 : decide ((s.size : Int) < 1) = true := decide_eq_true (by omega)
    rw [badB_true (.inl (by omega))]
    clear hlen
    go_enter Tryd.func44, Tryd.ntmps44
    go_wp2
    go_ret2
    exact ⟨rfl, rfl⟩
  have d1 : decide ((s.size : Int) < 1) = false := decide_eq_false (by omega)
  by_cases c2 : 15 < s.size
  · have d2 : decide (15 < (s.size : Int)) = true := decide_eq_true (by omega)
    rw [badB_true (.inr (.inl (by omega)))]
    clear hlen
    go_enter Tryd.func44, Tryd.ntmps44
    go_wp2
    go_ret2
    exact ⟨rfl, rfl⟩
  have d2 : decide (15 < (s.size : Int)) = false := decide_eq_false (by omega)
  have h0 : 0 < s.size := by omega
  have g0 := get_zero h0
  by_cases c3 : 1 < s.size ∧ s[0] = 48
  · obtain ⟨c4, c5⟩ := c3
    have d3 : decide (1 < (s.size : Int)) = true := decide_eq_true (by omega)
    rw [badB_true (.inr (.inr ⟨by omega, by rw [g0, c5]⟩))]
    have d4 : ((s[0].toNat : Int) == 48) = true := by rw [c5]; rfl
    clear hlen g0 c5
    go_enter Tryd.func44, Tryd.ntmps44
    go_wp2
    go_ret2
    exact ⟨rfl, rfl⟩
  have hG : Hid (numB s.data.toList = if s.data.toList.all isDig = true then (valB s.data.toList, true) else (0, false)) := numB_good (by
    rintro (h | h | ⟨h, h'⟩)
    · omega
    · omega
    · rw [g0] at h'
      exact c3 ⟨by omega, by simpa using h'⟩)
  have c6 : s.size = 1 ∧ decide (1 < (s.size : Int)) = false ∨ decide (1 < (s.size : Int)) = true ∧ ((s[0].toNat : Int) == 48) = false := by
    by_cases h : 1 < s.size
    · refine .inr ⟨decide_eq_true (by omega), ?_⟩
      rw [beq_eq_false_iff_ne]
      intro h2
      exact c3 ⟨h, UInt8.toNat_inj.1 (by show s[0].toNat = 48; omega)⟩
    · exact .inl ⟨by omega, decide_eq_false (by omega)⟩
  clear c3 g0 hlen
  rcases c6 with ⟨_, d3⟩ | ⟨d3, d4⟩
  all_goals
    go_enter Tryd.func44, Tryd.ntmps44
    go_wp2
    go_loop [4, 5] (fun v i => ∃ k : Nat, k ≤ s.size ∧ i = .int .i64 k ∧ v = .int .u64 (valB (s.data.toList.take k)) ∧ (s.data.toList.take k).all isDig = true) (fun _ i => s.size - (intOf i).toNat)
    case atStart => exact ⟨0, Nat.zero_le _, rfl, rfl, rfl⟩
    case round =>
      obtain ⟨k, hk, rfl, rfl, ha⟩ := hrel
      by_cases hlt : k < s.size
      · have hgk : Hid (s.data.toList[k]? = some s[k]) := by
          have h' : k < s.data.toList.length := by simpa using hlt
          exact Lib.hid (by rw [List.getElem?_eq_getElem h']; rfl)
        have hts := take_snoc s k hlt
        have hx := valB_less _ ha
        have hx2 : 10 ^ (s.data.toList.take k).length ≤ 1000000000000000 := pow15 (by have : (s.data.toList.take k).length ≤ k := List.length_take_le _ _; omega)
        have hx3 : valB (s.data.toList.take k) < 1000000000000000 := by omega
        have HV : Hid (valB (s.data.toList.take (k + 1)) = valB (s.data.toList.take k) * 10 + (s[k].toNat - 48)) := Lib.hid (by rw [hts, valB_snoc])
        have HA : Hid ((s.data.toList.take (k + 1)).all isDig = isDig s[k]) := Lib.hid (by rw [hts, List.all_append, ha, Bool.true_and]; simp)
        clear hx hx2 hts ha
        obtain ⟨x, hxe⟩ : ∃ x, valB (s.data.toList.take k) = x := ⟨_, rfl⟩
        rw [hxe] at HV hx3 ⊢
        clear hxe
        have hr := s[k].toNat_lt
        by_cases e1 : s[k].toNat < 48
        · have t1 : decide ((s[k].toNat : Int) < 48) = true := decide_eq_true (by omega)
          have hf := all_part hgk.out (decide_eq_false (by omega))
          have HR : Hid (numB s.data.toList = (0, false)) := Lib.hid (by rw [hG.out, hf]; rfl)
          clear hf
          go_wp2
          go_ret2
          rw [HR.out]
          exact ⟨rfl, rfl⟩
        · have t1 : decide ((s[k].toNat : Int) < 48) = false := decide_eq_false (by omega)
          by_cases e2 : 57 < s[k].toNat
          · have t2 : decide (57 < (s[k].toNat : Int)) = true := decide_eq_true (by omega)
            have hf := all_part hgk.out (decide_eq_false (by omega))
            have HR : Hid (numB s.data.toList = (0, false)) := Lib.hid (by rw [hG.out, hf]; rfl)
            clear hf
            go_wp2
            go_ret2
            rw [HR.out]
            exact ⟨rfl, rfl⟩
          · have t2 : decide (57 < (s[k].toNat : Int)) = false := decide_eq_false (by omega)
            have HD : Hid (isDig s[k] = true) := Lib.hid ((isDig_iff _).2 (by omega))
            go_wp2
            go_round
            case rel => exact ⟨k + 1, by omega, by go_num, by rw [HV.out]; simp; omega, by rw [HA.out, HD.out]⟩
            case measure => simp [intOf]; omega
      · obtain rfl : k = s.size := by omega
        have e : s.data.toList.take s.size = s.data.toList := List.take_of_length_le (by simp)
        rw [e] at ha ⊢
        have HR : Hid (numB s.data.toList = (valB s.data.toList, true)) := Lib.hid (by rw [hG.out, if_pos ha])
        clear ha e
        go_wp2
        go_ret2
        rw [HR.out]
        exact ⟨rfl, rfl⟩
end Go.Proofs.YtoojlalpcmlanaaDoor.Dt
