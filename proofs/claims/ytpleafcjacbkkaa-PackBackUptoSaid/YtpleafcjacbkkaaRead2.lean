/- The contract of the document's Read at a place where a byte stands: it answers what num's Read answers. For every slice of bytes; nothing has changed. -/
import Derived.Test.YtpleafcjacbkkaaRead
namespace Go.Proofs.Ytpleafcjacbkkaa.Nu
open Go.ChangeShapes Go.WideShapes Go.ChangeAt Go.RowKit
set_option linter.unusedVariables false

theorem form_false {n : Nat} {r : List Nat} (h : form n r = false) : 8 < n ∨ (0 < n ∧ r[0]? = some 0) := by
  have := of_decide_eq_false h
  by_cases h8 : 8 < n
  · exact .inl h8
  · refine .inr ⟨by
      rcases Nat.eq_zero_or_pos n with h0 | h0
      · exact absurd ⟨by omega, .inl h0⟩ this
      · exact h0, ?_⟩
    by_cases hr : r[0]? = some 0
    · exact hr
    · exact absurd ⟨by omega, .inr hr⟩ this
theorem add_lit (ad : Addr) (k : Nat) : ad.add (k + 1) = ⟨ad.block, ad.off + (k + 1), none⟩ := by unfold Addr.add; simp
theorem form_true {n : Nat} {r : List Nat} (h : form n r = true) : n ≤ 8 ∧ (n = 0 ∨ r[0]? ≠ some 0) := of_decide_eq_true h

/-- the loop's rounds. -/
theorem val_round {w : World} {ad : Addr} {l : List Nat} {a j x : Nat} (hb : Bytes w w.heap.size (some ad) l) (hj : j < x) (hx : x ≤ 8) (hl : x ≤ (l.drop (a + 1)).length) :
    ∃ z : Nat, z < 256 ∧ w.cell? (ad.add (a + (j + 1))) = some (.int .u8 (z : Int)) ∧ val ((l.drop (a + 1)).take (j + 1)) = val ((l.drop (a + 1)).take j) * 256 + z ∧ val ((l.drop (a + 1)).take j) < 72057594037927936 := by
  have hlt : a + (j + 1) < l.length := by rw [List.length_drop] at hl; omega
  obtain ⟨ad', z, e, hz, hlz, hcell⟩ := hb.at_ hlt
  obtain rfl := Option.some.inj e
  refine ⟨z, hz, hcell, ?_, ?_⟩
  · rw [← val_snoc, ← take_snoc]
    rw [List.getElem?_drop]
    rw [show a + 1 + j = a + (j + 1) by omega]
    exact hlz
  · have h1 := val_lt (small_take (small_drop hb.1 (a + 1)) j)
    have h2 : 256 ^ ((l.drop (a + 1)).take j).length ≤ 256 ^ 7 := Nat.pow_le_pow_right (by decide) (by rw [List.length_take]; omega)
    exact Nat.lt_of_lt_of_le h1 h2

set_option maxHeartbeats 1600000 in
theorem rread_some (w : World) (ad : Addr) (l : List Nat) (n c a x v y f : Nat) (hn : l.length = n) (hnm : n ≤ 9223372036854775807) (hb : Bytes w w.heap.size (some ad) l) (ha : a < n) (hx : l[a]? = some x)
    (hw : What x (l.drop (a + 1)) a v y f) : Calls Try.prog 36 #[.slice (some ad) n c, .int .i64 (a : Int)] w (Says w v y f) := by
  obtain ⟨ad', x', e, hx8, hlx, hcell⟩ := hb.at_ (k := a) (by omega)
  obtain rfl := Option.some.inj e
  obtain rfl : x = x' := Option.some.inj (hx.symm.trans hlx)
  have HB := Lib.hid hb
  have HN := Lib.hid hn
  obtain ⟨m, hm⟩ : ∃ m : Nat, n = a + 1 + m := ⟨n - (a + 1), by omega⟩
  have hlen : (l.drop (a + 1)).length = m := by rw [List.length_drop]; omega
  have hleft : (n : Int) - (a : Int) - 1 = (m : Int) := by omega
  have h0 : (l.drop (a + 1))[0]? = l[a + 1]? := by rw [List.getElem?_drop]
  have HM := Lib.hid hm
  clear hx hlx hn hm
  have d0 : decide ((a : Int) < 0) = false := decide_eq_false (by omega)
  have d1 : decide ((n : Int) < (a : Int)) = false := decide_eq_false (by omega)
  have d2 : ((a : Int) == (n : Int)) = false := by rw [beq_eq_false_iff_ne]; omega
  have d3 : (0 : Int) ≤ (a : Int) := by omega
  have d4 : (a : Int) < (n : Int) := by omega
  cases hw with
  | form h =>
    clear hb
    rcases form_false h with h8 | ⟨hp, hz⟩
    · have g8 : decide ((8 : Int) < (x : Int)) = true := decide_eq_true (by omega)
      clear h h0 hlen
      go_enter Try.func36, Try.ntmps36
      go_wp2
      go_ret3
      exact ⟨rfl, 0, rfl⟩
    · by_cases h8 : 8 < x
      · have g8 : decide ((8 : Int) < (x : Int)) = true := decide_eq_true (by omega)
        clear h h0 hlen hz
        go_enter Try.func36, Try.ntmps36
        go_wp2
        go_ret3
        exact ⟨rfl, 0, rfl⟩
      · have g8 : decide ((8 : Int) < (x : Int)) = false := decide_eq_false (by omega)
        rw [h0] at hz
        have hlt : a + 1 < l.length := (List.getElem?_eq_some_iff.1 hz).1
        obtain ⟨ad', z, e, _, hlz, hcell1⟩ := HB.out.at_ hlt
        obtain rfl := Option.some.inj e
        obtain rfl : 0 = z := Option.some.inj (hz.symm.trans hlz)
        rw [add_lit] at hcell1
        have gp : decide ((0 : Int) < (x : Int)) = true := decide_eq_true (by omega)
        have gm : decide ((0 : Int) < (m : Int)) = true := decide_eq_true (by have := HN.out; omega)
        have b1 : (0 : Int) ≤ (a : Int) + 1 := by omega
        have b2 : (a : Int) + 1 < (n : Int) := by have := HN.out; omega
        clear h h0 hlen hz hlz hlt
        go_enter Try.func36, Try.ntmps36
        go_wp2
        go_ret3
        exact ⟨rfl, 0, rfl⟩
  | short h hl =>
    obtain ⟨h8, hor⟩ := form_true h
    have gs : decide ((m : Int) < (x : Int)) = true := decide_eq_true (by rw [hlen] at hl; omega)
    have gs2 : decide (m < x) = true := decide_eq_true (by rw [hlen] at hl; omega)
    have g8 : decide ((8 : Int) < (x : Int)) = false := decide_eq_false (by omega)
    clear h hb
    have hx0 : ¬ x = 0 := by rw [hlen] at hl; omega
    · have gp : decide ((0 : Int) < (x : Int)) = true := decide_eq_true (by omega)
      by_cases hm0 : m = 0
      · have gm : decide ((0 : Int) < (m : Int)) = false := decide_eq_false (by omega)
        clear hor h0
        clear hlen
        go_enter Try.func36, Try.ntmps36
        go_wp2
        go_ret3
        exact ⟨rfl, 0, rfl⟩
      · have gm : decide ((0 : Int) < (m : Int)) = true := decide_eq_true (by omega)
        have hlt : a + 1 < l.length := by have := HN.out; omega
        obtain ⟨ad', z, e, hz, hlz, hcell1⟩ := HB.out.at_ hlt
        obtain rfl := Option.some.inj e
        rw [add_lit] at hcell1
        have hz0 : z ≠ 0 := by
          rcases hor with h1 | h1
          · exact absurd h1 hx0
          · intro h2; rw [h0, hlz, h2] at h1; exact h1 rfl
        have gz : ((z : Int) == 0) = false := by rw [beq_eq_false_iff_ne]; omega
        have b1 : (0 : Int) ≤ (a : Int) + 1 := by omega
        have b2 : (a : Int) + 1 < (n : Int) := by have := HN.out; omega
        clear hor h0 hlz hlt hz0
        clear hlen
        go_enter Try.func36, Try.ntmps36
        go_wp2
        go_ret3
        exact ⟨rfl, 0, rfl⟩
  | ok h hl =>
    obtain ⟨h8, hor⟩ := form_true h
    have hl' : x ≤ m := by rw [hlen] at hl; exact hl
    clear hl
    have gs : decide ((m : Int) < (x : Int)) = false := decide_eq_false (by omega)
    have gs2 : decide (m < x) = false := decide_eq_false (by omega)
    have g8 : decide ((8 : Int) < (x : Int)) = false := decide_eq_false (by omega)
    clear h hb
    by_cases hx0 : x = 0
    · have gp : decide ((0 : Int) < (x : Int)) = false := decide_eq_false (by omega)
      clear hor h0
      have hrd := Lib.hid (show ∀ j, j < x → _ from fun j hj => val_round (a := a) HB.out hj h8 (by rw [hlen]; exact hl'))
      have HLT := Lib.hid (show x ≤ m from hl')
      have hbnd : a + 1 + x ≤ 9223372036854775807 := by omega
      clear hlen
      go_enter Try.func36, Try.ntmps36
      go_wp2
      go_loop [9, 10] (fun u i => ∃ j : Nat, j ≤ x ∧ i = .int .i64 ((j : Int) + 1) ∧ u = .int .u64 ((val ((l.drop (a + 1)).take j) : Nat) : Int)) (fun _ i => x + 1 - (intOf i).toNat)
      case atStart => exact ⟨0, Nat.zero_le _, rfl, by rw [List.take_zero]; rfl⟩
      case round =>
        obtain ⟨j, hj, rfl, rfl⟩ := hrel
        by_cases hlt : j < x
        · omega
        · obtain rfl : j = x := by omega
          have c3 : decide ((j : Int) + 1 ≤ (j : Int)) = false := decide_eq_false (by omega)
          have hv : val ((l.drop (a + 1)).take j) < 18446744073709551616 := by
            have h1 := val_lt (small_take (small_drop HB.out.1 (a + 1)) j)
            have h2 : 256 ^ ((l.drop (a + 1)).take j).length ≤ 256 ^ 8 := Nat.pow_le_pow_right (by decide) (by rw [List.length_take]; omega)
            exact Nat.lt_of_lt_of_le h1 h2
          generalize val ((l.drop (a + 1)).take j) = u at *
          go_wp2
          go_ret3
          exact ⟨rfl, 0, rfl⟩
    · have gp : decide ((0 : Int) < (x : Int)) = true := decide_eq_true (by omega)
      have hm0 : ¬ m = 0 := by omega
      · have gm : decide ((0 : Int) < (m : Int)) = true := decide_eq_true (by omega)
        have hlt : a + 1 < l.length := by have := HN.out; omega
        obtain ⟨ad', z, e, hz, hlz, hcell1⟩ := HB.out.at_ hlt
        obtain rfl := Option.some.inj e
        rw [add_lit] at hcell1
        have hz0 : z ≠ 0 := by
          rcases hor with h1 | h1
          · exact absurd h1 hx0
          · intro h2; rw [h0, hlz, h2] at h1; exact h1 rfl
        have gz : ((z : Int) == 0) = false := by rw [beq_eq_false_iff_ne]; omega
        have b1 : (0 : Int) ≤ (a : Int) + 1 := by omega
        have b2 : (a : Int) + 1 < (n : Int) := by have := HN.out; omega
        clear hor h0 hlz hlt hz0
        have hrd := Lib.hid (show ∀ j, j < x → _ from fun j hj => val_round (a := a) HB.out hj h8 (by rw [hlen]; exact hl'))
        have HLT := Lib.hid (show x ≤ m from hl')
        have hbnd : a + 1 + x ≤ 9223372036854775807 := by omega
        clear hlen
        go_enter Try.func36, Try.ntmps36
        go_wp2
        go_loop [9, 10] (fun u i => ∃ j : Nat, j ≤ x ∧ i = .int .i64 ((j : Int) + 1) ∧ u = .int .u64 ((val ((l.drop (a + 1)).take j) : Nat) : Int)) (fun _ i => x + 1 - (intOf i).toNat)
        case atStart => exact ⟨0, Nat.zero_le _, rfl, by rw [List.take_zero]; rfl⟩
        case round =>
          obtain ⟨j, hj, rfl, rfl⟩ := hrel
          by_cases hlt : j < x
          · obtain ⟨z, hz, hcz, hval, hv⟩ := hrd.out j hlt
            have hcz1 : w.cell? ⟨ad.block, ad.off + (a + (j + 1)), none⟩ = some (.int .u8 (z : Int)) := by
              rw [← hcz, show a + (j + 1) = (a + j) + 1 by omega, add_lit]
            have hcz2 : w.cell? ⟨ad.block, ad.off + (a + j + 1), none⟩ = some (.int .u8 (z : Int)) := by
              rw [← hcz, show a + (j + 1) = (a + j) + 1 by omega, add_lit]
            have HV := Lib.hid hval
            clear hval
            generalize val ((l.drop (a + 1)).take j) = u at *
            have c1 : (0 : Int) ≤ (a : Int) + ((j : Int) + 1) := by omega
            have c2 : (a : Int) + ((j : Int) + 1) < (n : Int) := by have := HLT.out; omega
            have c3 : decide ((j : Int) + 1 ≤ (x : Int)) = true := decide_eq_true (by omega)
            go_wp2
            go_round
            case rel => exact ⟨j + 1, by omega, by go_num, by rw [HV.out, Int.natCast_add, Int.natCast_mul]; rfl⟩
            case measure => simp [intOf]; omega
          · obtain rfl : j = x := by omega
            have c3 : decide ((j : Int) + 1 ≤ (j : Int)) = false := decide_eq_false (by omega)
            have hv : val ((l.drop (a + 1)).take j) < 18446744073709551616 := by
              have h1 := val_lt (small_take (small_drop HB.out.1 (a + 1)) j)
              have h2 : 256 ^ ((l.drop (a + 1)).take j).length ≤ 256 ^ 8 := Nat.pow_le_pow_right (by decide) (by rw [List.length_take]; omega)
              exact Nat.lt_of_lt_of_le h1 h2
            generalize val ((l.drop (a + 1)).take j) = u at *
            go_wp2
            go_ret3
            exact ⟨rfl, 0, rfl⟩
end Go.Proofs.Ytpleafcjacbkkaa.Nu
