/- DotOrders: the law's walk, whole. -/
import Derived.Test.YtoojlalpcmlanaaDoorDOrd0
import Derived.Test.YtoojlalpcmlanaaDoorDOrdMa
import Derived.Test.YtoojlalpcmlanaaDoorDOrdMb
import Derived.Test.YtoojlalpcmlanaaDoorDOrdCa
import Derived.Test.YtoojlalpcmlanaaDoorDOrdCb
import Derived.Test.YtoojlalpcmlanaaDoorDOrdLa
import Derived.Test.YtoojlalpcmlanaaDoorDOrdLb
namespace Go.Proofs.YtoojlalpcmlanaaDoor.Dt
open Go.ChangeShapes Go.WideShapes Go.ChangeAt Go.RowKit
set_option linter.unusedVariables false

theorem unlike {a b : Dot} (h : a ≠ b) : ((a.1 : Int) == (b.1 : Int)) = false ∨ (((a.1 : Int) == (b.1 : Int)) = true ∧ ((a.2 : Int) == (b.2 : Int)) = false) := by
  by_cases e : a.1 = b.1
  · refine .inr ⟨by rw [beq_iff_eq]; omega, ?_⟩
    rw [beq_eq_false_iff_ne]
    intro e2
    exact h (Prod.ext e (by omega))
  · refine .inl ?_
    rw [beq_eq_false_iff_ne]
    omega
theorem orders_walk (P : PDot) (w : World) (hP : Pow w) (a b c : Dot) (ha : FitD a) (hb : FitD b) (hc : FitD c) :
    Calls Tryd.prog 7 #[.agg #[.int .u16 (a.1 : Int), .int .u64 (a.2 : Int)], .agg #[.int .u16 (b.1 : Int), .int .u64 (b.2 : Int)], .agg #[.int .u16 (c.1 : Int), .int .u64 (c.2 : Int)]] w fun e w' => e = .returned (.bool true) ∧ Below w.heap.size w w' := by
  have ht := cmp_turned a b
  have hr := cmp_range a b
  have hs := cmp_range b c
  have hz := cmp_range a c
  by_cases h0 : cmpD a b = 0
  · obtain rfl : a = b := by
      have := cmp_nought a b
      rw [decide_eq_true h0] at this
      exact of_decide_eq_true this.symm
    exact orders_same P w hP a a c ha hb hc (by simp) (by simp) h0 h0
  · have hne : a ≠ b := by
      rintro rfl
      exact h0 (cmp_same a)
    by_cases h1 : cmpD a b = 1
    · rcases unlike hne with q | ⟨q1, q2⟩
      · exact orders_more_a P w hP a b c ha hb hc q h1 (by omega)
      · exact orders_more_b P w hP a b c ha hb hc q1 q2 h1 (by omega)
    · have h2 : cmpD a b = -1 := by omega
      by_cases h3 : cmpD b c < 0
      · have h4 := cmp_chain (a := a) (b := b) (c := c) (by omega) h3
        rcases unlike hne with q | ⟨q1, q2⟩
        · exact orders_chain_a P w hP a b c ha hb hc q h2 (by omega) (by omega) (by omega)
        · exact orders_chain_b P w hP a b c ha hb hc q1 q2 h2 (by omega) (by omega) (by omega)
      · rcases unlike hne with q | ⟨q1, q2⟩
        · exact orders_less_a P w hP a b c ha hb hc q _ h2 (by omega) rfl (decide_eq_false h3)
        · exact orders_less_b P w hP a b c ha hb hc q1 q2 _ h2 (by omega) rfl (decide_eq_false h3)
end Go.Proofs.YtoojlalpcmlanaaDoor.Dt
