/- The contract of the document's Rising of layer dot. For every list. -/
import Derived.Test.YtbaiiidkffafmaaDTell
import Derived.Laws.IdiomStrings
import Derived.Laws.Concat
import Derived.Deep.RegionHeld3
import Derived.IntWalk
namespace Go.Proofs.Ytbaiiidkffafmaa.Dt
open Go.ChangeShapes Go.WideShapes Go.ChangeAt Go.RowKit
set_option linter.unusedVariables false

theorem bel_drew {w W : World} (h : Below w.heap.size w W) : Below w.heap.size w W.drew := h.drew
theorem rcmp_later (w W : World) (a b : Dot) (hW : Below w.heap.size w W) :
    Calls Try.prog 16 #[.agg #[.int .u16 (a.1 : Int), .int .u64 (a.2 : Int)], .agg #[.int .u16 (b.1 : Int), .int .u64 (b.2 : Int)]] W fun e V => e = .returned (.int .i64 (cmpD a b)) ∧ Below w.heap.size w V :=
  (rcmp_any W a b).mono fun _ _ ⟨h1, h2⟩ => ⟨h1, hW.trans (h2.mono hW.size)⟩
/-- does each one stand ahead of the next one? -/
def riseB : List Dot → Bool
  | a :: b :: l => aheadD a b && riseB (b :: l)
  | _ => true
theorem riseB_snoc (l : List Dot) (x y : Dot) : riseB (l ++ [x] ++ [y]) = (riseB (l ++ [x]) && aheadD x y) := by
  induction l with
  | nil => simp [riseB]
  | cons a l ih =>
    cases l with
    | nil => simp [riseB]
    | cons b l =>
      simp only [List.cons_append, riseB] at ih ⊢
      rw [ih, Bool.and_assoc]
theorem riseB_part (l m : List Dot) (h : riseB (l ++ m) = true) : riseB l = true := by
  induction l with
  | nil => rfl
  | cons a l ih =>
    cases l with
    | nil => rfl
    | cons b l =>
      simp only [List.cons_append, riseB, Bool.and_eq_true] at ih h ⊢
      exact ⟨h.1, ih h.2⟩
theorem riseB_two {l : List Dot} {j : Nat} {x y : Dot} (hx : l[j]? = some x) (hy : l[j + 1]? = some y) : riseB (l.take (j + 2)) = (riseB (l.take (j + 1)) && aheadD x y) := by
  rw [take_next hy, take_next hx, riseB_snoc]
theorem cmp_sign (a b : Dot) : aheadD a b = false → 0 ≤ cmpD a b := by
  intro h
  unfold cmpD
  split
  · omega
  · rw [h]; simp
theorem Dots.cells {w : World} {B : Nat} {A : Option Addr} {l : List Dot} (h : Dots w B A l) {k : Nat} (hk : k < l.length) :
    ∃ (ad : Addr) (x : Dot), A = some ad ∧ ad.block < B ∧ l[k]? = some x ∧ x.1 < 65536 ∧ x.2 < 18446744073709551616 ∧ ∀ V, Below B w V → V.cell? (ad.add (k * 2)) = some (.int .u16 (x.1 : Int)) ∧ V.cell? ⟨(ad.add (k * 2)).block, (ad.add (k * 2)).off + 1, none⟩ = some (.int .u64 (x.2 : Int)) := by
  obtain ⟨ad, e, hB, _⟩ := h.2 (by rw [dv_length]; omega)
  obtain ⟨ad', lo, hi, e', hl, h1, h2, hc1, hc2⟩ := h.at_ hk
  obtain rfl : ad = ad' := by rw [e] at e'; exact Option.some.inj e'
  refine ⟨ad, (lo, hi), e, hB, hl, h1, h2, fun V hV => ⟨(hV.cell (by rw [block_add]; exact hB)).trans hc1, ?_⟩⟩
  rw [add_next]
  exact (hV.cell (by rw [block_add]; exact hB)).trans hc2

set_option maxHeartbeats 4000000 in
theorem rrising_any (w : World) (A : Option Addr) (l : List Dot) (n c : Nat) (e1 : l.length = n) (h1 : Dots w w.heap.size A l) (h63 : n ≤ 9223372036854775806) :
    Calls Try.prog 32 #[.slice A n c] w fun e w' => e = .returned (.bool (riseB l)) ∧ Below w.heap.size w w' := by
  have H1 := Lib.hid h1
  have E1 := Lib.hid e1
  clear h1 e1
  go_enter Try.func32, Try.ntmps32
  go_wp2
  go_loopw [3] (fun i wr => ∃ j : Nat, i = .int .i64 ((j : Int) + 1) ∧ j ≤ n ∧ riseB (l.take (j + 1)) = true ∧ Below w.heap.size w wr) (fun i _ => n + 1 - (intOf i).toNat)
  case atStart => exact ⟨0, rfl, Nat.zero_le _, by cases l <;> rfl, Below.refl _ _⟩
  case round =>
    obtain ⟨j, rfl, hj, ht, hw⟩ := hrel
    have HT := Lib.hid ht
    have HW := Lib.hid hw
    clear ht hw
    by_cases hlt : j + 1 < n
    · obtain ⟨ad, x, rfl, hB, hlx, hx1, hx2, hcx⟩ := H1.out.cells (k := j) (by rw [E1.out]; omega)
      obtain ⟨ad', y, e', _, hly, hy1, hy2, hcy⟩ := H1.out.cells (k := j + 1) (by rw [E1.out]; omega)
      obtain rfl : ad = ad' := Option.some.inj e'
      have R2 := riseB_two hlx hly
      rw [HT.out, Bool.true_and] at R2
      have RR := Lib.hid R2
      clear e' R2 hlx hly
      have HC : Hid (∀ V, Below wr.heap.size wr V → (V.cell? (ad.add (j * 2)) = some (.int .u16 (x.1 : Int)) ∧ V.cell? ⟨(ad.add (j * 2)).block, (ad.add (j * 2)).off + 1, none⟩ = some (.int .u64 (x.2 : Int))) ∧ V.cell? (ad.add ((j + 1) * 2)) = some (.int .u16 (y.1 : Int)) ∧ V.cell? ⟨(ad.add ((j + 1) * 2)).block, (ad.add ((j + 1) * 2)).off + 1, none⟩ = some (.int .u64 (y.2 : Int))) := fun V hV =>
        ⟨hcx V (HW.out.trans (hV.mono HW.out.size)), hcy V (HW.out.trans (hV.mono HW.out.size))⟩
      clear hcx hcy
      obtain ⟨⟨d1, d2⟩, d3, d4⟩ := HC.out wr (Below.refl _ _)
      have s1 : IntKind.i64.wrap ((j : Int) + 1 - 1) = (j : Int) := by rw [IntWalk.i64_in _ (by omega)]; omega
      have s0 : IntKind.i64.wrap (j : Int) = (j : Int) := IntWalk.i64_in _ (by omega)
      have s2 : (0 : Int) ≤ (j : Int) + 1 := by omega
      have s3 : (0 : Int) ≤ (j : Int) := by omega
      have s4 : ((j : Int) + 1).toNat = j + 1 := by omega
      have s5 : (j : Int) < (n : Int) := by omega
      have s6 : (j : Int) + 1 < (n : Int) := by omega
      go_wp2_with fail
      go_region_held3 (fun V => (V.cell? (ad.add (j * 2)) = some (.int .u16 (x.1 : Int)) ∧ V.cell? ⟨(ad.add (j * 2)).block, (ad.add (j * 2)).off + 1, none⟩ = some (.int .u64 (x.2 : Int))) ∧ V.cell? (ad.add ((j + 1) * 2)) = some (.int .u16 (y.1 : Int)) ∧ V.cell? ⟨(ad.add ((j + 1) * 2)).block, (ad.add ((j + 1) * 2)).off + 1, none⟩ = some (.int .u64 (y.2 : Int))) (first | exact ⟨⟨d1, d2⟩, d3, d4⟩ | assumption | exact HC.out _ (by (repeat (first | exact Below.refl _ _ | assumption | apply bel_drew)))) (first
        | (go_at_call 16; (with_reducible refine (rcmp_later wr _ x y ?_).mono ?_); (repeat (first | exact Below.refl _ _ | assumption | apply bel_drew)); rintro e V ⟨rfl, bv⟩; have hcV := HC.out V bv))
      all_goals
        have HV : Hid (Below w.heap.size w V) := HW.out.trans (bv.mono HW.out.size)
        clear hcV bv d1 d2 d3 d4 s1 s0
        cases ha : aheadD x y with
        | true =>
          have hz : decide (0 ≤ cmpD x y) = false := decide_eq_false (by rw [cmp_less ha]; omega)
          rw [ha] at RR
          rw [hz]
          clear hz ha s2 s3 s4 s5 s6
          go_wp2
          go_roundw
          case rel => exact ⟨j + 1, by go_num, by omega, RR.out, HV.out⟩
          case measure => simp [intOf]; omega
        | false =>
          have hz : decide (0 ≤ cmpD x y) = true := decide_eq_true (cmp_sign x y ha)
          rw [ha] at RR
          rw [hz]
          have hf : Hid (riseB l = false) := Lib.hid (by
            cases hr : riseB l with
            | false => rfl
            | true =>
              have := riseB_part (l.take (j + 2)) (l.drop (j + 2)) (by rw [List.take_append_drop]; exact hr)
              rw [RR.out] at this
              exact absurd this (by simp))
          clear hz ha s2 s3 s4 s5 s6
          go_wp2
          go_ret
          exact ⟨ret_bool hf.out.symm, HV.out⟩
    · have hf : Hid (riseB l = true) := Lib.hid (by
        have := HT.out
        rw [List.take_of_length_le (by rw [E1.out]; omega)] at this
        exact this)
      go_wp2
      go_ret
      exact ⟨ret_bool hf.out.symm, HW.out⟩
end Go.Proofs.Ytbaiiidkffafmaa.Dt
