/- The chapter's examples, and what the laws of layer dot say of the document's own answers. Plain arithmetic. -/
import Derived.Test.YtoojlalpcmlanaaDoorDSort
import Derived.Test.YtoojlalpcmlanaaDoorDTexts
namespace Go.Proofs.YtoojlalpcmlanaaDoor.Dt
set_option linter.unusedVariables false

theorem text_one : textA (3, 17) = ⟨#[51, 46, 49, 55]⟩ := by
  have h3 : decB 3 = [51] := by rw [decB_small (by omega)]; rfl
  have h17 : decB 17 = [49, 55] := by rw [decB_more (by omega), decB_small (by omega)]; rfl
  apply ByteArray.ext
  apply Array.ext'
  rw [textA_list]
  unfold textL
  rw [h3, h17]; rfl
theorem sort_one : sortD [(2, 1), (1, 9), (2, 1)] = [(1, 9), (2, 1)] := by decide
/-- the sign of Cmp turns round with its arguments. -/
theorem cmp_turned (a b : Dot) : cmpD b a = -cmpD a b := by
  by_cases h : a = b
  · subst h; rw [cmp_same]; rfl
  · cases h1 : aheadD a b with
    | true => rw [cmp_less h1, cmp_more h1]; rfl
    | false =>
      have h2 := ahead_all h1 h
      rw [cmp_less h2, cmp_more h2]
theorem cmp_nought (a b : Dot) : decide (cmpD a b = 0) = decide (a = b) := by
  apply decide_eq_decide.2
  constructor
  · intro h
    by_cases e : a = b
    · exact e
    · cases h1 : aheadD a b with
      | true => rw [cmp_less h1] at h; omega
      | false => rw [cmp_more (ahead_all h1 e)] at h; omega
  · rintro rfl; exact cmp_same a
theorem cmp_chain {a b c : Dot} (h1 : cmpD a b < 0) (h2 : cmpD b c < 0) : cmpD a c < 0 := by
  have k1 := cmp_neg a b
  have k2 := cmp_neg b c
  rw [decide_eq_true h1] at k1
  rw [decide_eq_true h2] at k2
  rw [cmp_less (ahead_trans k1.symm k2.symm)]
  omega
theorem cmp_range (a b : Dot) : -1 ≤ cmpD a b ∧ cmpD a b ≤ 1 := by
  unfold cmpD
  split
  · omega
  · split <;> omega
/-- whichever order they come in, they are sorted alike. -/
theorem sort_alike (a b c : Dot) : sortD [a, b, c] = sortD [c, a, b, a] := by
  refine sort_uniq (sort_ord _) fun x => ?_
  rw [sort_mem]
  simp only [List.mem_cons, List.not_mem_nil, or_false]
  constructor
  · rintro (h | h | h)
    · exact .inr (.inl h)
    · exact .inr (.inr (.inl h))
    · exact .inl h
  · rintro (h | h | h | h)
    · exact .inr (.inr h)
    · exact .inl h
    · exact .inr (.inl h)
    · exact .inl h
/-- what Unpack gives, where it gives one, is a dot of that number. -/
theorem unpack_may {v : Nat} (h : (unpackD v).2 = true) : mayD (unpackD v).1 = true ∧ numD (unpackD v).1 = v := by
  unfold unpackD at h ⊢
  by_cases hm : mayD (splitD v) = true
  · rw [if_pos hm]
    exact ⟨hm, by unfold numD splitD; show _ / _ * _ + _ % _ % _ = _; omega⟩
  · rw [if_neg hm] at h; exact absurd h (by simp)
/-- a dot that may not be is not had back from its number. -/
theorem unpack_other {d : Dot} (h : mayD d = false) (h2 : (unpackD (numD d)).2 = true) : (unpackD (numD d)).1 ≠ d := by
  intro e
  have := (unpack_may h2).1
  rw [e, h] at this
  exact absurd this (by simp)
end Go.Proofs.YtoojlalpcmlanaaDoor.Dt
