/- The contract of the document's Quote of layer field. For every text of at most 2^60 bytes. -/
import Derived.Test.YtmaiilhfdiimjaaFSide
namespace Go.Proofs.Ytmaiilhfdiimjaa.Fd
open Go.ChangeShapes Go.WideShapes Go.ChangeAt Go.RowKit
set_option linter.unusedVariables false

set_option maxHeartbeats 4000000 in
theorem rquote_any (s : ByteArray) (w : World) (hs : s.size ≤ 1152921504606846976) :
    Calls Try.prog 8 #[.string s] w fun e w' => e = .returned (.string (ba (quoB s.data.toList))) ∧ w' = w := by
  go_enter Try.func8, Try.ntmps8
  go_wp2
  go_loop [3, 4] (fun v i => ∃ k : Nat, k ≤ s.size ∧ i = .int .i64 k ∧ v = .string (ba (34 :: escB (s.data.toList.take k)))) (fun _ i => s.size - (intOf i).toNat)
  case atStart => exact ⟨0, Nat.zero_le _, rfl, rfl⟩
  case round =>
    obtain ⟨k, hk, rfl, rfl⟩ := hrel
    have hsz : (ba (34 :: escB (s.data.toList.take k))).size ≤ 2 * k + 1 := by rw [ba_size]; simpa using esc_less _ _
    have HQ : Hid (quoB s.data.toList = 34 :: (escB s.data.toList ++ [34])) := Lib.hid rfl
    by_cases hlt : k < s.size
    · have hne : (ba [s[k]]).size = 1 := rfl
      have hsl := slice_one s k hlt
      have h34 := eq34 s[k]
      have h92 := eq92 s[k]
      have HE := Lib.hid (esc_step s k hlt)
      obtain ⟨o, ho⟩ : ∃ o, ba (34 :: escB (s.data.toList.take k)) = o := ⟨_, rfl⟩
      have HO := Lib.hid ho
      rw [ho] at hsz ⊢
      clear ho
      by_cases hsp : spc s[k] = true
      · have hadd1 := fun W => run_string_add_sum (P := Try.prog) W o ⟨#[92]⟩ (by show o.size + 1 ≤ _; omega)
        have hadd2 := fun W => run_string_add_sum (P := Try.prog) W (o ++ ⟨#[92]⟩) (ba [s[k]]) (by rw [ByteArray.size_append, hne]; show o.size + 1 + 1 ≤ _; omega)
        have HR : Hid (o ++ ⟨#[92]⟩ ++ ba [s[k]] = ba (34 :: escB (s.data.toList.take (k + 1)))) := Lib.hid (by
          rw [← HO.out, one_arr, ba_add, ba_add, HE.out, if_pos hsp]; simp)
        rcases spc_iff.1 hsp with e | e
        · rw [decide_eq_true e] at h34
          clear e h92 hsp hsz hne
          go_wp2
          go_round
          case rel => exact ⟨k + 1, by omega, by go_num, by rw [← HR.out]⟩
          case measure => simp [intOf]; omega
        · have e2 : ¬ s[k] = 34 := by rw [e]; decide
          rw [decide_eq_true e] at h92
          rw [decide_eq_false e2] at h34
          clear e e2 hsp hsz hne
          go_wp2
          go_round
          case rel => exact ⟨k + 1, by omega, by go_num, by rw [← HR.out]⟩
          case measure => simp [intOf]; omega
      · have hadd2 := fun W => run_string_add_sum (P := Try.prog) W o (ba [s[k]]) (by rw [hne]; omega)
        have HR : Hid (o ++ ba [s[k]] = ba (34 :: escB (s.data.toList.take (k + 1)))) := Lib.hid (by
          rw [← HO.out, ba_add, HE.out, if_neg hsp]; simp)
        rw [decide_eq_false (fun e => hsp (spc_of (.inl e)))] at h34
        rw [decide_eq_false (fun e => hsp (spc_of (.inr e)))] at h92
        clear hsp hsz hne
        go_wp2
        go_round
        case rel => exact ⟨k + 1, by omega, by go_num, by rw [← HR.out]⟩
        case measure => simp [intOf]; omega
    · obtain rfl : k = s.size := by omega
      have hadd1 := fun W => run_string_add_sum (P := Try.prog) W (ba (34 :: escB (s.data.toList.take s.size))) ⟨#[34]⟩ (by show _ + 1 ≤ _; omega)
      have HR : Hid (ba (34 :: escB (s.data.toList.take s.size)) ++ ⟨#[34]⟩ = ba (quoB s.data.toList)) := Lib.hid (by
        rw [one_arr, ba_add, HQ.out, List.take_of_length_le (by simp)]; simp)
      clear hsz
      go_wp2
      go_ret
      exact ⟨ret_str HR.out, rfl⟩
end Go.Proofs.Ytmaiilhfdiimjaa.Fd
