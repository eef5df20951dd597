/- The walk of the law NumOrders: it returns true, for every two numbers; nothing that was there has changed. -/
import Derived.Test.YthlfjjhejckpiaaWorks
import Derived.Deep.RegionHeld3
namespace Go.Proofs.Ythlfjjhejckpiaa.Nu
open Go.ChangeShapes Go.WideShapes Go.ChangeAt Go.RowKit
set_option linter.unusedVariables false

theorem bel_drew {B : Nat} {a w : World} (h : Below B a w) : Below B a w.drew := h.drew

/-- Append(nil, v) in any later world: its bytes read as one string in every world behind it. -/
theorem nil_later (w W : World) (v : Nat) (hv : v < 18446744073709551616) (hb : Below w.heap.size w W) :
    Calls Try.prog 9 #[.slice none 0 0, .int .u64 (v : Int)] W fun e w' => ∃ g cap n, e = .returned (.slice (some ⟨g, 0, none⟩) n cap) ∧ Below w.heap.size w w' ∧ Below W.heap.size W w' ∧ Below w'.heap.size w' w' ∧
      ∀ W', Below w'.heap.size w' W' → (convert 22 9 (.slice (some ⟨g, 0, none⟩) n cap)).run Try.prog W' = .ok (.string (str (enc v))) W' := by
  refine (append_nil W v hv).mono ?_
  rintro e w1 ⟨g, cap, n, rfl, hn, hgw, hown, hbel⟩
  have hy := bytes_own hown (enc_small v)
  exact ⟨g, cap, n, rfl, hb.trans (hbel.mono hb.size), hbel, Below.refl _ _, fun W' h => conv (hy.below h) n cap hn⟩

set_option maxHeartbeats 4000000 in
theorem orders_walk (w : World) (v u : Nat) (hv : v < 18446744073709551616) (hu : u < 18446744073709551616) :
    Calls Try.prog 6 #[.int .u64 (v : Int), .int .u64 (u : Int)] w fun e w' => e = .returned (.bool true) ∧ Below w.heap.size w w' := by
  go_enter Try.func6, Try.ntmps6
  go_wp2_with fail
  have hb0 := Below.refl w.heap.size w
  go_region_with (first
    | (go_at_call 9; (with_reducible refine (nil_later w _ v hv ?_).mono ?_); (repeat (first | assumption | apply bel_drew)); rintro e w1 ⟨g1, cap1, n1, rfl, b1, c1, d1, k1⟩)
    | (go_at_call 9; (with_reducible refine (nil_later w _ u hu ?_).mono ?_); (repeat (first | assumption | apply bel_drew)); rintro e w2 ⟨g2, cap2, n2, rfl, b2, c2, d2, k2⟩))
  all_goals (
    rcases Nat.lt_trichotomy v u with h | h | h
    · have e1 : Op.bytesLess (str (enc v)).toList (str (enc u)).toList = true := by rw [str_less (enc_small v) (enc_small u), less_enc hv hu]; exact decide_eq_true (by omega)
      have e2 : ((str (enc v)).toList == (str (enc u)).toList) = false := by rw [str_eql (enc_small v) (enc_small u)]; exact decide_eq_false (by rw [enc_inj hv hu]; omega)
      have e3 : decide ((v : Int) < (u : Int)) = true := decide_eq_true (by omega)
      have e5 : decide (v < u) = true := decide_eq_true (by omega)
      have e4 : ((v : Int) == (u : Int)) = false := by rw [beq_eq_false_iff_ne]; omega
      clear h c1 d1 k1 c2 d2 k2
      go_wp2_with fail
      refine (works_any _).mono ?_
      rintro e w4 ⟨rfl, hb4⟩
      go_wp2
      go_ret
      exact ⟨rfl, b2.trans (hb4.mono b2.size)⟩
    · have e1 : Op.bytesLess (str (enc v)).toList (str (enc u)).toList = false := by rw [str_less (enc_small v) (enc_small u), less_enc hv hu]; exact decide_eq_false (by omega)
      have e2 : ((str (enc v)).toList == (str (enc u)).toList) = true := by rw [str_eql (enc_small v) (enc_small u)]; exact decide_eq_true (by rw [enc_inj hv hu]; omega)
      have e3 : decide ((v : Int) < (u : Int)) = false := decide_eq_false (by omega)
      have e5 : decide (v < u) = false := decide_eq_false (by omega)
      have e4 : ((v : Int) == (u : Int)) = true := by rw [beq_iff_eq]; omega
      clear h c1 d1 k1 c2 d2 k2
      go_wp2_with fail
      refine (works_any _).mono ?_
      rintro e w4 ⟨rfl, hb4⟩
      go_wp2
      go_ret
      exact ⟨rfl, b2.trans (hb4.mono b2.size)⟩
    · have e1 : Op.bytesLess (str (enc v)).toList (str (enc u)).toList = false := by rw [str_less (enc_small v) (enc_small u), less_enc hv hu]; exact decide_eq_false (by omega)
      have e2 : ((str (enc v)).toList == (str (enc u)).toList) = false := by rw [str_eql (enc_small v) (enc_small u)]; exact decide_eq_false (by rw [enc_inj hv hu]; omega)
      have e3 : decide ((v : Int) < (u : Int)) = false := decide_eq_false (by omega)
      have e5 : decide (v < u) = false := decide_eq_false (by omega)
      have e4 : ((v : Int) == (u : Int)) = false := by rw [beq_eq_false_iff_ne]; omega
      clear h c1 d1 k1 c2 d2 k2
      go_wp2_with fail
      refine (works_any _).mono ?_
      rintro e w4 ⟨rfl, hb4⟩
      go_wp2
      go_ret
      exact ⟨rfl, b2.trans (hb4.mono b2.size)⟩)
end Go.Proofs.Ythlfjjhejckpiaa.Nu
