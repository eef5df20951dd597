/- The contracts of the program's Of and Has. For every vector of at most 2^43 dots. -/
import Derived.Test.YtbpmbjpepjndaaaPTold
namespace Go.Proofs.Ytbpmbjpepjndaaa.Dt
open Go.ChangeShapes Go.WideShapes Go.ChangeAt Go.RowKit
set_option linter.unusedVariables false

theorem step_no {d n : Nat} {x : Dot} (h : ¬ (x.1 = d ∧ mayD x = true)) : stepV d n x = n := by rw [step_max, if_neg h]
theorem step_yes {d n : Nat} {x : Dot} (h : x.1 = d) (h2 : mayD x = true) : stepV d n x = max n x.2 := by rw [step_max, if_pos ⟨h, h2⟩]
set_option maxHeartbeats 1000000 in
theorem pof_any (w : World) (A : Option Addr) (l : List Dot) (n c d : Nat) (h : VecAt w A l n c) (hd : d < 65536) :
    Calls Try.prog 15 #[.slice A n c, .int .u16 (d : Int)] w fun e w' => e = .returned (.int .u64 ((ofV l d : Nat) : Int)) ∧ Below w.heap.size w w' := by
  have HL := Lib.hid h.len
  have HF := Lib.hid h.dots
  have hn := h.few
  clear h
  go_enter Try.func15, Try.ntmps15
  go_wp2_with fail
  go_loopw [5, 10] (fun v i wr => ∃ k : Nat, k ≤ n ∧ i = .int .i64 (k : Int) ∧ v = .int .u64 ((ofV (l.take k) d : Nat) : Int) ∧ Below w.heap.size w wr) (fun _ i _ => n - (intOf i).toNat)
  case atStart => exact ⟨0, Nat.zero_le _, rfl, rfl, Below.refl _ _⟩
  case round =>
    obtain ⟨k, hk, rfl, rfl, hw⟩ := hrel
    have HW := Lib.hid hw
    clear hw
    by_cases hlt : k < n
    · obtain ⟨ad, x, rfl, hB, hlx, hx1, hx2, hcx⟩ := HF.out.cells (k := k) (by rw [HL.out]; exact hlt)
      have HN := Lib.hid (of_next d hlx)
      clear hlx
      obtain ⟨d1, d2⟩ := hcx wr HW.out
      clear hcx
      have HB1 : Hid (Below w.heap.size w (wr.alloc (.cells #[.int .u16 (x.1 : Int), .int .u64 (x.2 : Int)] 27))) := bel_alloc _ HW.out
      have HB2 : Hid (Below w.heap.size w ((wr.alloc (.cells #[.int .u16 (x.1 : Int), .int .u64 (x.2 : Int)] 27)).alloc (.cells #[.int .u16 (x.1 : Int), .int .u64 (x.2 : Int)] 27))) := bel_alloc _ HB1.out
      obtain ⟨x1, x2⟩ := x
      dsimp only at d1 d2 hx1 hx2 HB1 HB2
      obtain ⟨d3, d4⟩ := box_at wr (x1, x2) _ (below_new (wr.alloc (.cells #[.int .u16 (x1 : Int), .int .u64 (x2 : Int)] 27)) (.cells #[.int .u16 (x1 : Int), .int .u64 (x2 : Int)] 27))
      by_cases hxd : x1 = d
      · subst hxd
        have CG := fun W => pgood_x W (x1, x2)
        cases hmx : mayD (x1, x2) with
        | false =>
          rw [step_no (fun h => by rw [hmx] at h; cases h.2)] at HN
          rw [hmx] at CG
          clear hmx
          go_wp2_with fail
          refine (CG _).mono ?_
          rintro e w1 ⟨rfl, rfl⟩
          go_wp2
          go_roundw
          case rel => exact ⟨k + 1, by omega, by go_num, by rw [HN.out], HB2.out⟩
          case measure => simp [intOf]; omega
        | true =>
          rw [step_yes rfl hmx] at HN
          rw [hmx] at CG
          clear hmx
          by_cases hlt2 : ofV (l.take k) x1 < x2
          · rw [Nat.max_eq_right (Nat.le_of_lt hlt2)] at HN
            go_wp2_with fail
            refine (CG _).mono ?_
            rintro e w1 ⟨rfl, rfl⟩
            go_wp2
            go_roundw
            case rel => exact ⟨k + 1, by omega, by go_num, by rw [HN.out], HB2.out⟩
            case measure => simp [intOf]; omega
          · rw [Nat.max_eq_left (Nat.le_of_not_lt hlt2)] at HN
            go_wp2_with fail
            refine (CG _).mono ?_
            rintro e w1 ⟨rfl, rfl⟩
            go_wp2
            go_roundw
            case rel => exact ⟨k + 1, by omega, by go_num, by rw [HN.out], HB2.out⟩
            case measure => simp [intOf]; omega
      · have e1 : ((x1 : Int) == (d : Int)) = false := by rw [beq_eq_false_iff_ne]; omega
        rw [step_no (fun h => hxd h.1)] at HN
        clear d3 d4
        go_wp2
        go_roundw
        case rel => exact ⟨k + 1, by omega, by go_num, by rw [HN.out], HB1.out⟩
        case measure => simp [intOf]; omega
    · obtain rfl : k = n := by omega
      have e : Hid (l.take k = l) := Lib.hid (List.take_of_length_le (by rw [HL.out]; exact Nat.le_refl _))
      go_wp2
      go_ret
      exact ⟨by rw [e.out]; rfl, HW.out⟩
end Go.Proofs.Ytbpmbjpepjndaaa.Dt
