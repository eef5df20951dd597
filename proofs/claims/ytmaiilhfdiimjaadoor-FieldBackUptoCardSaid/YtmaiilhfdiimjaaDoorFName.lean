/- The contracts of field's Good, Name and Of and of the document's. Condition on the program's Name and Of: its table of names holds what the program's text lays there. -/
import Derived.Test.YtmaiilhfdiimjaaDoorFWorks
namespace Go.Proofs.YtmaiilhfdiimjaaDoor.Fd
open Go.ChangeShapes Go.WideShapes Go.ChangeAt Go.RowKit
set_option linter.unusedVariables false

/-- the table of names lies as it is laid. -/
def Names (w : World) : Prop := 0 < w.heap.size ∧ ∀ i : Nat, i < 6 → w.cell? ⟨0, i, none⟩ = some (.string (ba (nameB i)))
theorem Names.below {w W : World} (h : Names w) (hb : Below w.heap.size w W) : Names W :=
  ⟨Nat.lt_of_lt_of_le h.1 hb.size, fun i hi => (hb.cell h.1).trans (h.2 i hi)⟩
theorem name_none {f : Nat} (h : ¬ (1 ≤ f ∧ f ≤ 5)) : nameB f = [] := by
  unfold nameB
  rw [if_neg (by omega), if_neg (by omega), if_neg (by omega), if_neg (by omega), if_neg (by omega)]

theorem rgood_any (w : World) (f : Nat) (hf : f < 256) : Calls Tryd.prog 8 #[.int .u8 (f : Int)] w fun e w' => e = .returned (.bool (goodB f)) ∧ w = w' := by
  by_cases h1 : 1 ≤ f
  · have d1 : decide (1 ≤ (f : Int)) = true := decide_eq_true (by omega)
    have HR : Hid (goodB f = decide ((f : Int) ≤ 5)) := Lib.hid (by unfold goodB; rw [Bool.eq_iff_iff]; simp; omega)
    go_enter Tryd.func8, Tryd.ntmps8
    go_wp2
    all_goals
      go_ret
      exact ⟨ret_bool HR.out.symm, rfl⟩
  · have d1 : decide (1 ≤ (f : Int)) = false := decide_eq_false (by omega)
    have HR : Hid (goodB f = false) := Lib.hid (decide_eq_false (by omega))
    go_enter Tryd.func8, Tryd.ntmps8
    go_wp2
    all_goals
      go_ret
      exact ⟨ret_bool HR.out.symm, rfl⟩
theorem pgood_any (w : World) (f : Nat) (hf : f < 256) : Calls Tryd.prog 7 #[.int .u8 (f : Int)] w fun e w' => e = .returned (.bool (goodB f)) ∧ w = w' := by
  by_cases h1 : 1 ≤ f
  · have d1 : decide (1 ≤ (f : Int)) = true := decide_eq_true (by omega)
    have HR : Hid (goodB f = decide ((f : Int) ≤ 5)) := Lib.hid (by unfold goodB; rw [Bool.eq_iff_iff]; simp; omega)
    go_enter Tryd.func7, Tryd.ntmps7
    go_wp2
    all_goals
      go_ret
      exact ⟨ret_bool HR.out.symm, rfl⟩
  · have d1 : decide (1 ≤ (f : Int)) = false := decide_eq_false (by omega)
    have HR : Hid (goodB f = false) := Lib.hid (decide_eq_false (by omega))
    go_enter Tryd.func7, Tryd.ntmps7
    go_wp2
    all_goals
      go_ret
      exact ⟨ret_bool HR.out.symm, rfl⟩

theorem rname_any (w : World) (f : Nat) (hf : f < 256) : Calls Tryd.prog 10 #[.int .u8 (f : Int)] w fun e w' => e = .returned (.string (ba (nameB f))) ∧ w = w' := by
  by_cases h : 1 ≤ f ∧ f ≤ 5
  · have h5 : f = 1 ∨ f = 2 ∨ f = 3 ∨ f = 4 ∨ f = 5 := by omega
    rcases h5 with rfl | rfl | rfl | rfl | rfl
    all_goals
      clear h hf
      go_enter Tryd.func10, Tryd.ntmps10
      go_wp2
      go_ret
      exact ⟨rfl, rfl⟩
  · have HR := Lib.hid (name_none h)
    have d1 : ((f : Int) == 1) = false := by rw [beq_eq_false_iff_ne]; omega
    have d2 : ((f : Int) == 2) = false := by rw [beq_eq_false_iff_ne]; omega
    have d3 : ((f : Int) == 3) = false := by rw [beq_eq_false_iff_ne]; omega
    have d4 : ((f : Int) == 4) = false := by rw [beq_eq_false_iff_ne]; omega
    have d5 : ((f : Int) == 5) = false := by rw [beq_eq_false_iff_ne]; omega
    go_enter Tryd.func10, Tryd.ntmps10
    go_wp2
    go_ret
    exact ⟨ret_str (by rw [HR.out]; rfl), rfl⟩

theorem pname_any (w : World) (f : Nat) (hf : f < 256) (hN : Names w) : Calls Tryd.prog 9 #[.int .u8 (f : Int)] w fun e w' => e = .returned (.string (ba (nameB f))) ∧ w = w' := by
  have CG := fun W => pgood_any W f hf
  cases hg : goodB f with
  | true =>
    have h := of_decide_eq_true hg
    have hc := hN.2 f (by omega)
    rw [hg] at CG
    clear hg hN
    go_enter Tryd.func9, Tryd.ntmps9
    go_wp2_with fail
    refine (CG _).mono ?_
    rintro e w' ⟨rfl, rfl⟩
    go_wp2
    go_ret
    exact ⟨rfl, rfl⟩
  | false =>
    have HR := Lib.hid (name_none (of_decide_eq_false hg))
    rw [hg] at CG
    clear hg hN
    go_enter Tryd.func9, Tryd.ntmps9
    go_wp2_with fail
    refine (CG _).mono ?_
    rintro e w' ⟨rfl, rfl⟩
    go_wp2
    go_ret
    exact ⟨ret_str (by rw [HR.out]; rfl), rfl⟩
end Go.Proofs.YtmaiilhfdiimjaaDoor.Fd
