/- The contract of the document's Unquote of layer field. For every text of at most 2^60 bytes. -/
import Derived.Test.YtmaiilhfdiimjaaFSide
namespace Go.Proofs.Ytmaiilhfdiimjaa.Fd
open Go.ChangeShapes Go.WideShapes Go.ChangeAt Go.RowKit
set_option linter.unusedVariables false

/-- what holds at each round's head. -/
def UnqRel (s : ByteArray) (v i : Value) : Prop :=
  ∃ (k : Nat) (o : List UInt8), 1 ≤ k ∧ k ≤ s.size ∧ i = .int .i64 (k : Int) ∧ v = .string (ba o) ∧ o.length ≤ k ∧ unqB s.data.toList = keepT (pre o (insB false (s.data.toList.drop k)))
theorem unq_start {s : ByteArray} (h : 0 < s.size) (hu : unqB s.data.toList = keepT (insB false (s.data.toList.drop 1))) : UnqRel s (.string ⟨#[]⟩) (.int .i64 1) :=
  ⟨1, [], by omega, by omega, rfl, rfl, by simp, by rw [hu, pre_nil]⟩

set_option maxHeartbeats 8000000 in
theorem runquote_any (s : ByteArray) (w : World) (hs : s.size ≤ 1152921504606846976) :
    Calls Try.prog 6 #[.string s] w fun e w' => e = .returned (unqV (unqB s.data.toList)) ∧ ∃ m, w' = w.drewN m := by
  by_cases h0 : s.size = 0
  · have e := is_empty h0
    subst e
    go_enter Try.func6, Try.ntmps6
    go_wp2
    go_ret3
    exact ⟨ret_unq rfl, 0, rfl⟩
  have hpos : 0 < s.size := by omega
  have hc := list_cons s hpos
  have hq := ne34 s[0]
  obtain ⟨hne, hne2⟩ := not_empty hpos
  by_cases e0 : s[0] = 34
  · rw [decide_eq_true e0] at hq
    have HR := Lib.hid (unq_start hpos (by
      have h1 := unq_one (s.data.toList.drop 1)
      rw [← h1, ← e0, ← hc]))
    clear hc e0 h0
    go_enter Try.func6, Try.ntmps6
    go_wp2
    go_loop [5, 6] (fun v i => UnqRel s v i) (fun _ i => s.size - (intOf i).toNat)
    case atStart => exact HR.out
    case round =>
      clear HR hq hne hne2
      obtain ⟨k, o, hk1, hk, rfl, rfl, ho, hu⟩ := hrel
      by_cases hlt : k < s.size
      · have h34 := eq34 s[k]
        have h92 := eq92 s[k]
        rw [drop_at s k hlt] at hu
        by_cases e1 : s[k] = 34
        · rw [e1, ins_quote, pre_some, List.append_nil] at hu
          rw [decide_eq_true e1] at h34
          have CT := fun W => rtext_any (ba o) W (by rw [ba_size]; omega)
          rw [list_ba] at CT
          have HX := Lib.hid (rest_ext s (k + 1))
          cases ht : textB o with
          | true =>
            rw [keep_some ht] at hu
            rw [ht] at CT
            have HR : Hid (unqV (unqB s.data.toList) = .tuple #[.string (ba o), .string (s.extract (k + 1) s.size), .bool true]) := Lib.hid (by rw [hu, HX.out]; rfl)
            clear hu h92 e1 ho ht
            go_wp2_with fail
            refine (CT _).mono ?_
            rintro e w' ⟨rfl, rfl⟩
            have hw1 : IntKind.i64.wrap ((k : Int) + 1) = (k : Int) + 1 := IntWalk.i64_in _ (by omega)
            have hw2 : 0 ≤ (k : Int) + 1 := by omega
            have hw3 : ((k : Int) + 1).toNat = k + 1 := by omega
            have hw4 : (k : Int) + 1 ≤ (s.size : Int) := by omega
            go_wp2
            go_quiet (fail)
            go_wp2
            go_ret3
            exact ⟨ret_unq HR.out, _, rfl⟩
          | false =>
            rw [keep_not ht] at hu
            rw [ht] at CT
            have HR : Hid (unqV (unqB s.data.toList) = .tuple #[.string ⟨#[]⟩, .string ⟨#[]⟩, .bool false]) := Lib.hid (by rw [hu]; rfl)
            clear hu h92 e1 ho ht
            go_wp2_with fail
            refine (CT _).mono ?_
            rintro e w' ⟨rfl, rfl⟩
            go_wp2
            go_ret3
            exact ⟨ret_unq HR.out, 0, rfl⟩
        · rw [decide_eq_false e1] at h34
          by_cases e2 : s[k] = 92
          · rw [e2, ins_escape] at hu
            rw [decide_eq_true e2] at h92
            by_cases hlt2 : k + 1 < s.size
            · have d1 : decide ((s.size : Int) ≤ (k : Int) + 1) = false := decide_eq_false (by omega)
              have n34 := ne34 s[k + 1]
              have n92 := ne92 s[k + 1]
              rw [drop_at s (k + 1) hlt2] at hu
              have hsl := slice_two s k hlt2
              by_cases hsp : spc s[k + 1] = true
              · rw [ins_spc hsp, pre_pre] at hu
                have hadd := fun W => run_string_add_sum (P := Try.prog) W (ba o) (ba [s[k + 1]]) (by rw [ba_size, ba_size]; simp; omega)
                have HR : Hid (UnqRel s (.string (ba o ++ ba [s[k + 1]])) (.int .i64 ((k : Int) + 1 + 1))) := Lib.hid ⟨k + 2, o ++ [s[k + 1]], by omega, by omega, by go_num, by rw [ba_add], by simp; omega, hu⟩
                rcases spc_iff.1 hsp with e | e
                · rw [decide_eq_true e] at n34
                  clear e n92 hsp hu e1 e2
                  go_wp2
                  go_round
                  case rel => exact HR.out
                  case measure => simp [intOf]; omega
                · have e3 : ¬ s[k + 1] = 34 := by rw [e]; decide
                  rw [decide_eq_false e3] at n34
                  rw [decide_eq_true e] at n92
                  clear e e3 hsp hu e1 e2
                  go_wp2
                  go_round
                  case rel => exact HR.out
                  case measure => simp [intOf]; omega
              · rw [decide_eq_false (fun e => hsp (spc_of (.inl e)))] at n34
                rw [decide_eq_false (fun e => hsp (spc_of (.inr e)))] at n92
                rw [ins_bad (by simpa using hsp), pre_none] at hu
                have HR : Hid (unqV (unqB s.data.toList) = .tuple #[.string ⟨#[]⟩, .string ⟨#[]⟩, .bool false]) := Lib.hid (by rw [hu]; rfl)
                clear hsp hu e1 e2
                go_wp2
                go_ret3
                exact ⟨ret_unq HR.out, 0, rfl⟩
            · have d1 : decide ((s.size : Int) ≤ (k : Int) + 1) = true := decide_eq_true (by omega)
              rw [show k + 1 = s.size by omega, List.drop_of_length_le (by simp), ins_end, pre_none] at hu
              have HR : Hid (unqV (unqB s.data.toList) = .tuple #[.string ⟨#[]⟩, .string ⟨#[]⟩, .bool false]) := Lib.hid (by rw [hu]; rfl)
              clear hu e1 e2
              go_wp2
              go_ret3
              exact ⟨ret_unq HR.out, 0, rfl⟩
          · rw [decide_eq_false e2] at h92
            rw [ins_plain (spc_not (by rintro (h | h) <;> contradiction)), pre_pre] at hu
            have hsl := slice_one s k hlt
            have hadd := fun W => run_string_add_sum (P := Try.prog) W (ba o) (ba [s[k]]) (by rw [ba_size, ba_size]; simp; omega)
            have HR : Hid (UnqRel s (.string (ba o ++ ba [s[k]])) (.int .i64 ((k : Int) + 1))) := Lib.hid ⟨k + 1, o ++ [s[k]], by omega, by omega, by go_num, by rw [ba_add], by simp; omega, hu⟩
            clear hu e1 e2
            go_wp2
            go_round
            case rel => exact HR.out
            case measure => simp [intOf]; omega
      · obtain rfl : k = s.size := by omega
        rw [List.drop_of_length_le (by simp), ins_end, pre_none] at hu
        have HR : Hid (unqV (unqB s.data.toList) = .tuple #[.string ⟨#[]⟩, .string ⟨#[]⟩, .bool false]) := Lib.hid (by rw [hu]; rfl)
        clear hu
        go_wp2
        go_ret3
        exact ⟨ret_unq HR.out, 0, rfl⟩
  · rw [decide_eq_false e0] at hq
    have HU : Hid (unqV (unqB s.data.toList) = .tuple #[.string ⟨#[]⟩, .string ⟨#[]⟩, .bool false]) := Lib.hid (by rw [hc, unq_other e0]; rfl)
    clear hc e0 h0
    go_enter Try.func6, Try.ntmps6
    go_wp2
    go_ret3
    exact ⟨ret_unq HU.out, 0, rfl⟩
end Go.Proofs.Ytmaiilhfdiimjaa.Fd
