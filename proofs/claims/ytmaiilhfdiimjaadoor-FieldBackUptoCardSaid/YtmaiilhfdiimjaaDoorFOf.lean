/- The contracts of field's Of and of the document's. For every text; condition on the program's: its table of names holds what the program's text lays there. -/
import Derived.Test.YtmaiilhfdiimjaaDoorFName
namespace Go.Proofs.YtmaiilhfdiimjaaDoor.Fd
open Go.ChangeShapes Go.WideShapes Go.ChangeAt Go.RowKit
set_option linter.unusedVariables false

theorem good_of {f : Nat} (h : 1 ≤ f ∧ f ≤ 5) : goodB f = true := decide_eq_true h
theorem of_hit {l : List UInt8} {k : Nat} (h1 : 1 ≤ k) (h2 : k ≤ 5) (h : l = nameB k) : ofB l = (k, true) := by
  rw [h, of_name, if_pos (good_of ⟨h1, h2⟩)]
theorem of_miss {l : List UInt8} (h : ∀ j, 1 ≤ j → j < 6 → ¬ l = nameB j) : ofB l = (0, false) := by
  unfold ofB
  rw [if_neg (h 1 (by omega) (by omega)), if_neg (h 2 (by omega) (by omega)), if_neg (h 3 (by omega) (by omega)), if_neg (h 4 (by omega) (by omega)), if_neg (h 5 (by omega) (by omega))]
/-- an answer of Of. -/
abbrev ofV (x : Nat × Bool) : Value := .tuple #[.int .u8 (x.1 : Int), .bool x.2]
theorem ret_of {x : Nat × Bool} {v : Value} (h : ofV x = v) : Ending.returned v = .returned (ofV x) := by rw [h]

theorem eq_text (l : List UInt8) (s : ByteArray) : ((ba l).toList == s.toList) = decide (s.data.toList = l) := by
  rw [ByteArray.toList_eq, ByteArray.toList_eq, list_ba, Bool.eq_iff_iff, beq_iff_eq, decide_eq_true_iff]
  exact eq_comm

set_option maxHeartbeats 4000000 in
theorem rof_any (s : ByteArray) (w : World) :
    Calls Tryd.prog 6 #[.string s] w fun e w' => e = .returned (ofV (ofB s.data.toList)) ∧ w = w' := by
  go_enter Tryd.func6, Tryd.ntmps6
  go_wp2
  go_loop [4] (fun i => ∃ k : Nat, 1 ≤ k ∧ k ≤ 6 ∧ i = .int .u8 k ∧ ∀ j, 1 ≤ j → j < k → ¬ s.data.toList = nameB j) (fun i => 6 - (intOf i).toNat)
  case atStart => exact ⟨1, by omega, by omega, rfl, fun j h1 h2 => by omega⟩
  case round =>
    obtain ⟨k, hk1, hk, rfl, hn⟩ := hrel
    have HN := Lib.hid hn
    clear hn
    by_cases hlt : k < 6
    · have CN := fun W => rname_any W k (by omega)
      have hd : decide ((k : Int) ≤ 5) = true := decide_eq_true (by omega)
      have hq := eq_text (nameB k) s
      by_cases he : s.data.toList = nameB k
      · rw [decide_eq_true he] at hq
        have HR : Hid (ofV (ofB s.data.toList) = .tuple #[.int .u8 (k : Int), .bool true]) := Lib.hid (by rw [of_hit hk1 (by omega) he])
        clear he
        go_wp2_with fail
        refine (CN _).mono ?_
        rintro e w' ⟨rfl, rfl⟩
        go_wp2
        go_ret2
        exact ⟨ret_of HR.out, rfl⟩
      · rw [decide_eq_false he] at hq
        have HR : Hid (∀ j, 1 ≤ j → j < k + 1 → ¬ s.data.toList = nameB j) := Lib.hid (fun j h1 h2 => by
          rcases Nat.lt_succ_iff_lt_or_eq.1 h2 with h | rfl
          · exact HN.out j h1 h
          · exact he)
        clear he
        go_wp2_with fail
        refine (CN _).mono ?_
        rintro e w' ⟨rfl, rfl⟩
        go_wp2
        go_round
        case rel => exact ⟨k + 1, by omega, by omega, by go_num, HR.out⟩
        case measure => simp [intOf]; omega
    · obtain rfl : k = 6 := by omega
      have HR : Hid (ofV (ofB s.data.toList) = .tuple #[.int .u8 0, .bool false]) := Lib.hid (by rw [of_miss HN.out]; rfl)
      clear HN
      go_wp2
      go_ret2
      exact ⟨ret_of HR.out, rfl⟩

set_option maxHeartbeats 4000000 in
theorem pof_any (s : ByteArray) (w : World) (hN : Names w) :
    Calls Tryd.prog 5 #[.string s] w fun e w' => e = .returned (ofV (ofB s.data.toList)) ∧ w = w' := by
  have HT := Lib.hid hN.2
  clear hN
  go_enter Tryd.func5, Tryd.ntmps5
  go_wp2
  go_loop [5] (fun i => ∃ k : Nat, k ≤ 6 ∧ i = .int .i64 k ∧ ∀ j, 1 ≤ j → j < k → ¬ s.data.toList = nameB j) (fun i => 6 - (intOf i).toNat)
  case atStart => exact ⟨0, by omega, rfl, fun j h1 h2 => by omega⟩
  case round =>
    obtain ⟨k, hk, rfl, hn⟩ := hrel
    have HN := Lib.hid hn
    clear hn
    by_cases hlt : k < 6
    · have hd : decide ((k : Int) < 6) = true := decide_eq_true (by omega)
      by_cases h0 : k = 0
      · subst h0
        go_wp2
        go_round
        case rel => exact ⟨1, by omega, rfl, fun j h1 h2 => by omega⟩
        case measure => simp [intOf]
      · have hd0 : decide ((0 : Int) < (k : Int)) = true := decide_eq_true (by omega)
        have hq := eq_text (nameB k) s
        have hc := HT.out k hlt
        by_cases he : s.data.toList = nameB k
        · rw [decide_eq_true he] at hq
          have HR : Hid (ofV (ofB s.data.toList) = .tuple #[.int .u8 (k : Int), .bool true]) := Lib.hid (by rw [of_hit (by omega) (by omega) he])
          have hw : IntKind.u8.wrap (k : Int) = (k : Int) := IntWalk.u8_in _ (by omega)
          clear he
          go_wp2
          go_ret2
          exact ⟨ret_of HR.out, rfl⟩
        · rw [decide_eq_false he] at hq
          have HR : Hid (∀ j, 1 ≤ j → j < k + 1 → ¬ s.data.toList = nameB j) := Lib.hid (fun j h1 h2 => by
            rcases Nat.lt_succ_iff_lt_or_eq.1 h2 with h | rfl
            · exact HN.out j h1 h
            · exact he)
          clear he
          go_wp2
          go_round
          case rel => exact ⟨k + 1, by omega, by go_num, HR.out⟩
          case measure => simp [intOf]; omega
    · obtain rfl : k = 6 := by omega
      have HR : Hid (ofV (ofB s.data.toList) = .tuple #[.int .u8 0, .bool false]) := Lib.hid (by rw [of_miss HN.out]; rfl)
      clear HN
      go_wp2
      go_ret2
      exact ⟨ret_of HR.out, rfl⟩
end Go.Proofs.YtmaiilhfdiimjaaDoor.Fd
