/- Lemmas that both sides of layer field share: a text's places, what is quoted byte by byte, the form of Unquote's answer. -/
import Derived.Test.YtmaiilhfdiimjaaFText
namespace Go.Proofs.Ytmaiilhfdiimjaa.Fd
open Go.ChangeShapes Go.WideShapes Go.ChangeAt Go.RowKit
set_option linter.unusedVariables false

theorem one_arr (c : UInt8) : (⟨#[c]⟩ : ByteArray) = ba [c] := rfl
theorem one_ext (s : ByteArray) (k : Nat) (h : k < s.size) : s.extract k (k + 1) = ba [s[k]] := ba_of (toList_one s k h)
theorem slice_one (s : ByteArray) (k : Nat) (h : k < s.size) (W : World) : (Instr.slice 9 (.string s) (some (.int .i64 (k : Int))) (some (.int .i64 ((k : Int) + 1))) none).run Try.prog W = .ok (.string (ba [s[k]])) W := by
  rw [run_slice_string W 9 s .i64 .i64 (k : Int) ((k : Int) + 1) Try.underlying9 (by omega) (by omega) (by omega)]
  rw [show ((k : Int)).toNat = k by omega, show ((k : Int) + 1).toNat = k + 1 by omega, one_ext s k h]
theorem esc_step (s : ByteArray) (k : Nat) (h : k < s.size) : escB (s.data.toList.take (k + 1)) = escB (s.data.toList.take k) ++ (if spc s[k] = true then [92, s[k]] else [s[k]]) := by
  rw [take_snoc s k h, esc_snoc]
theorem esc_less (l : List UInt8) (k : Nat) : (escB (l.take k)).length ≤ 2 * k := by
  have h1 := esc_length (l.take k)
  have h2 := List.length_take_le k l
  omega
theorem below_drewN (B : Nat) (w : World) (n : Nat) : Below B w (w.drewN n) := ⟨rfl, rfl, rfl, Nat.le_refl _, fun _ _ => rfl⟩

/-- an answer of Unquote. -/
abbrev unqV (x : Option (List UInt8 × List UInt8)) : Value := .tuple #[.string (ba (tx x)), .string (ba (rs x)), .bool x.isSome]
theorem unqV_none : unqV none = .tuple #[.string ⟨#[]⟩, .string ⟨#[]⟩, .bool false] := rfl
theorem unqV_some (t r : List UInt8) : unqV (some (t, r)) = .tuple #[.string (ba t), .string (ba r), .bool true] := rfl
theorem list_cons (s : ByteArray) (h : 0 < s.size) : s.data.toList = s[0] :: s.data.toList.drop 1 := by
  have := drop_at s 0 h
  simpa using this
theorem is_empty {s : ByteArray} (h : s.size = 0) : s = ⟨#[]⟩ := by
  have h1 : s.data.toList = [] := List.eq_nil_of_length_eq_zero (by simpa using h)
  have := ba_of h1
  exact this
theorem not_empty {s : ByteArray} (h : 0 < s.size) : s.toList.isEmpty = false ∧ ¬ s.toList = [] := by
  have h2 : s.toList.length = s.size := by rw [ByteArray.toList_eq]; simp
  have h1 : ¬ s.toList = [] := by
    intro e
    rw [e] at h2
    simp at h2
    omega
  exact ⟨by simpa using h1, h1⟩
theorem ret_unq {x : Option (List UInt8 × List UInt8)} {v : Value} (h : unqV x = v) : Ending.returned v = .returned (unqV x) := by rw [h]
theorem rest_ext (s : ByteArray) (k : Nat) : s.extract k s.size = ba (s.data.toList.drop k) := ba_of (toList_rest s k)

theorem slice_two (s : ByteArray) (k : Nat) (h : k + 1 < s.size) (W : World) : (Instr.slice 9 (.string s) (some (.int .i64 ((k : Int) + 1))) (some (.int .i64 ((k : Int) + 1 + 1))) none).run Try.prog W = .ok (.string (ba [s[k + 1]])) W := slice_one s (k + 1) h W
end Go.Proofs.Ytmaiilhfdiimjaa.Fd
