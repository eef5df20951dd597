/- The contract of the program's Rising of layer dot. For every list. -/
import Derived.Test.YtbaiiidkffafmaaPList
namespace Go.Proofs.Ytbaiiidkffafmaa.Dt
open Go.ChangeShapes Go.WideShapes Go.ChangeAt Go.RowKit
set_option linter.unusedVariables false

theorem pahead_later (w W : World) (a b : Dot) (hW : Below w.heap.size w W) :
    Calls Try.prog 58 #[.agg #[.int .u16 (a.1 : Int), .int .u64 (a.2 : Int)], .agg #[.int .u16 (b.1 : Int), .int .u64 (b.2 : Int)]] W fun e V => e = .returned (.bool (aheadD a b)) ∧ Below w.heap.size w V :=
  (pahead_any W a b).mono fun _ _ ⟨h1, h2⟩ => ⟨h1, hW.trans (h2.mono hW.size)⟩
theorem one_dot' (w : World) (d : Dot) : ∀ V, Below (w.alloc (.cells #[.int .u16 (d.1 : Int), .int .u64 (d.2 : Int)] 25)).heap.size (w.alloc (.cells #[.int .u16 (d.1 : Int), .int .u64 (d.2 : Int)] 25)) V → V.cell? ⟨w.heap.size, 0, none⟩ = some (.int .u16 (d.1 : Int)) ∧ V.cell? ⟨w.heap.size, 1, none⟩ = some (.int .u64 (d.2 : Int)) := by
  intro V hV
  have hc1 : (w.alloc (.cells #[.int .u16 (d.1 : Int), .int .u64 (d.2 : Int)] 25)).cell? ⟨w.heap.size, 0, none⟩ = some (.int .u16 (d.1 : Int)) := by simp [go_sem]
  have hc2 : (w.alloc (.cells #[.int .u16 (d.1 : Int), .int .u64 (d.2 : Int)] 25)).cell? ⟨w.heap.size, 1, none⟩ = some (.int .u64 (d.2 : Int)) := by simp [go_sem]
  exact ⟨(hV.cell (World.block_lt_of_cell? _ _ hc1)).trans hc1, (hV.cell (World.block_lt_of_cell? _ _ hc2)).trans hc2⟩
theorem rise_one (l : List Dot) (k : Nat) (h : k ≤ 1) : riseB (l.take k) = true := by
  rcases l with _ | ⟨a, l⟩
  · simp [riseB]
  · obtain rfl | rfl : k = 0 ∨ k = 1 := by omega
    · rfl
    · simp [riseB]

set_option maxHeartbeats 4000000 in
theorem prising_any (w : World) (A : Option Addr) (l : List Dot) (n c : Nat) (e1 : l.length = n) (h1 : Dots w w.heap.size A l) (h63 : n ≤ 9223372036854775806) :
    Calls Try.prog 49 #[.slice A n c] w fun e w' => e = .returned (.bool (riseB l)) ∧ Below w.heap.size w w' := by
  have H1 := Lib.hid h1
  have E1 := Lib.hid e1
  clear h1 e1
  go_enter Try.func49, Try.ntmps49
  go_wp2
  go_loopw [7] (fun i wr => ∃ j : Nat, i = .int .i64 (j : Int) ∧ j ≤ n ∧ riseB (l.take j) = true ∧ Below w.heap.size w wr) (fun i _ => n - (intOf i).toNat)
  case atStart => exact ⟨0, rfl, Nat.zero_le _, by simp [riseB], Below.refl _ _⟩
  case round =>
    obtain ⟨j, rfl, hj, ht, hw⟩ := hrel
    have HT := Lib.hid ht
    have HW := Lib.hid hw
    clear ht hw
    by_cases hlt : j < n
    · obtain ⟨ad, y, rfl, hB, hly, hy1, hy2, hcy⟩ := H1.out.cells (k := j) (by rw [E1.out]; omega)
      obtain ⟨d1, d2⟩ := hcy wr HW.out
      obtain ⟨y1, y2⟩ := y
      have HX := Lib.hid (one_dot' wr (y1, y2))
      have HB4 : Hid (Below w.heap.size w (wr.alloc (.cells #[.int .u16 (y1 : Int), .int .u64 (y2 : Int)] 25))) := HW.out.trans ((below_new _ _).mono HW.out.size)
      obtain rfl | ⟨i, rfl⟩ : j = 0 ∨ ∃ i, j = i + 1 := by
        rcases j with _ | i
        · exact .inl rfl
        · exact .inr ⟨i, rfl⟩
      · have e0 : ad.add (0 * 2) = ad := by unfold Addr.add; simp
        rw [e0] at d1 d2
        clear hcy e0 hy1 hy2 HX
        have hr := Lib.hid (rise_one l 1 (Nat.le_refl _))
        go_wp2_with fail
        go_quiet (fail)
        go_wp2
        go_roundw
        case rel => exact ⟨1, by go_num, by omega, hr.out, bel_drewN HB4.out _⟩
        case measure => simp [intOf]; omega
      · obtain ⟨ad', x, e', _, hlx, hx1, hx2, hcx⟩ := H1.out.cells (k := i) (by rw [E1.out]; omega)
        obtain rfl : ad = ad' := Option.some.inj e'
        obtain ⟨x1, x2⟩ := x
        have R2 := riseB_two hlx hly
        rw [HT.out, Bool.true_and] at R2
        have RR := Lib.hid R2
        clear e' R2 hlx hly hx1 hx2 hy1 hy2
        have HC : Hid (∀ V, Below (wr.alloc (.cells #[.int .u16 (y1 : Int), .int .u64 (y2 : Int)] 25)).heap.size (wr.alloc (.cells #[.int .u16 (y1 : Int), .int .u64 (y2 : Int)] 25)) V → (V.cell? (ad.add (i * 2)) = some (.int .u16 (x1 : Int)) ∧ V.cell? ⟨(ad.add (i * 2)).block, (ad.add (i * 2)).off + 1, none⟩ = some (.int .u64 (x2 : Int))) ∧ V.cell? ⟨wr.heap.size, 0, none⟩ = some (.int .u16 (y1 : Int)) ∧ V.cell? ⟨wr.heap.size, 1, none⟩ = some (.int .u64 (y2 : Int))) := fun V hV =>
          ⟨hcx V (HB4.out.trans (hV.mono HB4.out.size)), HX.out V hV⟩
        clear hcx hcy HX
        have s1 : IntKind.i64.wrap ((i : Int) + 1 - 1) = (i : Int) := by rw [IntWalk.i64_in _ (by omega)]; omega
        have s0 : IntKind.i64.wrap (i : Int) = (i : Int) := IntWalk.i64_in _ (by omega)
        have s2 : (0 : Int) < (i : Int) + 1 := by omega
        have s3 : (0 : Int) ≤ (i : Int) := by omega
        have s4 : ((i : Int) + 1).toNat = i + 1 := by omega
        have s5 : (i : Int) < (n : Int) := by omega
        have s6 : (i : Int) + 1 < (n : Int) := by omega
        have s7 : (0 : Int) ≤ (i : Int) + 1 := by omega
        go_wp2_with fail
        generalize wr.alloc (.cells #[.int .u16 (y1 : Int), .int .u64 (y2 : Int)] 25) = W4 at HC HB4 ⊢
        obtain ⟨⟨f1, f2⟩, f3, f4⟩ := HC.out W4 (Below.refl _ _)
        go_region_held3 (fun V => (V.cell? (ad.add (i * 2)) = some (.int .u16 (x1 : Int)) ∧ V.cell? ⟨(ad.add (i * 2)).block, (ad.add (i * 2)).off + 1, none⟩ = some (.int .u64 (x2 : Int))) ∧ V.cell? ⟨wr.heap.size, 0, none⟩ = some (.int .u16 (y1 : Int)) ∧ V.cell? ⟨wr.heap.size, 1, none⟩ = some (.int .u64 (y2 : Int))) (first | exact ⟨⟨f1, f2⟩, f3, f4⟩ | assumption | exact HC.out _ (by (repeat (first | exact Below.refl _ _ | assumption | apply bel_drew)))) (first
          | (go_at_call 58; (with_reducible refine (pahead_later W4 _ (x1, x2) (y1, y2) ?_).mono ?_); (repeat (first | exact Below.refl _ _ | assumption | apply bel_drew)); rintro e V ⟨rfl, bv⟩; have hcV := HC.out V bv))
        all_goals
          have HV : Hid (Below w.heap.size w V) := HB4.out.trans (bv.mono HB4.out.size)
          clear hcV bv f1 f2 f3 f4 s1 s0
          cases ha : aheadD (x1, x2) (y1, y2) with
          | true =>
            rw [ha] at RR
            clear ha s2 s3 s4 s5 s6
            go_wp2
            go_roundw
            case rel => exact ⟨i + 2, by go_num, by omega, RR.out, HV.out⟩
            case measure => simp [intOf]; omega
          | false =>
            rw [ha] at RR
            have hf : Hid (riseB l = false) := Lib.hid (by
              cases hr : riseB l with
              | false => rfl
              | true =>
                have := riseB_part (l.take (i + 2)) (l.drop (i + 2)) (by rw [List.take_append_drop]; exact hr)
                rw [RR.out] at this
                exact absurd this (by simp))
            clear ha s2 s3 s4 s5 s6
            go_wp2
            go_ret
            exact ⟨ret_bool hf.out.symm, HV.out⟩
    · have hf : Hid (riseB l = true) := Lib.hid (by
        have := HT.out
        rw [List.take_of_length_le (by rw [E1.out]; omega)] at this
        exact this)
      go_wp2
      go_ret
      exact ⟨ret_bool hf.out.symm, HW.out⟩
end Go.Proofs.Ytbaiiidkffafmaa.Dt
