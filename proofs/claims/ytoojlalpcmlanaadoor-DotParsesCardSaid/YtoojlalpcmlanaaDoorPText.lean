/- The contracts of strconv.FormatUint at base 10 and of the program's Text. For every number and dot of their types, where strconv's table of powers lies as it is laid. -/
import Derived.Test.YtoojlalpcmlanaaDoorPOne
import Derived.Test.YtoojlalpcmlanaaDoorShelf
import Derived.Lib.AppendIntMem
import Derived.Lib.SmallJoins
namespace Go.Proofs.YtoojlalpcmlanaaDoor.Dt
open Go.ChangeShapes Go.WideShapes Go.ChangeAt Go.RowKit Go.Sort
set_option linter.unusedVariables false

/-- strconv's table of powers of ten lies as it is laid. -/
def Pow (w : World) : Prop := Lib.TabIs Tryd.prog w "internal/strconv.uint64pow10" .u64 Lib.pow10Tab
theorem gPow : Tryd.prog.globalNamed "internal/strconv.uint64pow10" = some 0 := by kernel_rfl
theorem pow_lt {w : World} (h : Pow w) : 0 < w.heap.size := by
  have h1 := h.cell gPow 0 (by rw [Lib.pow10Tab_length]; omega)
  exact World.block_lt_of_cell? w _ h1
theorem Pow.below {w W : World} (h : Pow w) (hb : Below w.heap.size w W) : Pow W := Go.Joins.tab_stays gPow h hb (Nat.le_refl _)

theorem dec_digits (u : Nat) : Lib.decDigits u = decB u := by
  induction u using Nat.strongRecOn with
  | _ u ih =>
    by_cases h : u < 10
    · rw [Lib.decDigits_one h, decB_small h]
      unfold digB
      rw [show u % 10 = u by omega]
    · rw [Lib.decDigits, dif_neg h, decB_more h, ih (u / 10) (by omega)]
      rfl
theorem dec_arr (u : Nat) : (⟨(Lib.decDigits u).toArray⟩ : ByteArray) = decA u := by unfold decA; rw [dec_digits]

set_option maxHeartbeats 6400000 in
set_option maxRecDepth 100000 in
theorem iformat_any (u : Nat) (hu64 : u < 18446744073709551616) (w : World) (htab : Pow w) :
    Calls Tryd.prog 46 #[.int .u64 (u : Int), .int .i64 10] w fun e w' => e = .returned (.string (decA u)) ∧ ∃ k os, w' = grow (w.drewN k) os := by
  rw [← dec_arr]
  by_cases hs : u < 100
  · have hs' : decide ((u : Int) < 100) = true := decide_eq_true (by omega)
    go_enter Tryd.func46, Tryd.ntmps46
    go_wp2_with (go_at_call 53; refine (Tryd.internal_strconv_small u hs _).mono ?_; rintro e w' ⟨rfl, rfl⟩)
    go_ret
    exact ⟨rfl, 0, #[], by simp [World.drewN_zero, grow]⟩
  · have hu1 : 1 ≤ u := by omega
    have hs' : decide ((u : Int) < 100) = false := decide_eq_false (by omega)
    have hnd20 : Lib.nDigits u ≤ 20 := by have := Lib.numDigits_eq u hu1 hu64; split at this <;> omega
    have hal : Tryd.prog.arrayLen 68 = 24 := by simp [Program.arrayLen, Tryd.underlying68]
    have hsl : ∀ W, (Instr.sliceAt 68 (.pointer (some ⟨w.heap.size, 0, none⟩)) none (some (.int .i64 (Lib.nDigits u : Int))) none).run Tryd.prog W = .ok (.slice (some ⟨w.heap.size, 0, none⟩) (Lib.nDigits u) 24) W := fun W => by
      rw [run_sliceAt_array_h W 68 ⟨w.heap.size, 0, none⟩ (by simp [Program.arrayLen, Program.elem, Tryd.underlying68]) .i64 (Lib.nDigits u : Int) (by omega) (by rw [hal]; omega)]
      go_simp
    have hH0 := Lib.holds_zero0 w 68 (Lib.nDigits u) (by omega)
    have hfmt := Tryd.internal_strconv_formatBase10 w.heap.size 0 24 u (Array.replicate (Lib.nDigits u) 0) (w.alloc (.cells Lib.zeros24 68)) hH0 (by rw [Array.size_replicate]; exact Lib.lt_pow_nDigits u) hu64 (by rw [Array.size_replicate]; omega)
    rw [Array.size_replicate] at hfmt
    have HH0 := Lib.hid hH0
    clear hH0 hal
    go_enter Tryd.func46, Tryd.ntmps46
    go_wp2_with (first
      | (go_at_call 54; refine (Tryd.internal_strconv_numDigits u hu1 hu64 _ (Lib.tabIs_alloc htab _)).mono ?_; rintro e w' ⟨rfl, rfl⟩))
    go_at_call 55
    refine hfmt.mono ?_
    rintro e w' ⟨rfl, k, v', dk, rfl, hF⟩
    have hcv : (convert 62 9 (.slice (some ⟨w.heap.size, 0, none⟩) (Lib.nDigits u) 24)).run Tryd.prog ((putRow (fun (b : UInt8) => Value.int .u8 (b.toNat : Int)) (w.alloc (.cells Lib.zeros24 68)) w.heap.size 0 dk).drewN k) = .ok (.string ⟨(Lib.decDigits u).toArray⟩) ((putRow (fun (b : UInt8) => Value.int .u8 (b.toNat : Int)) (w.alloc (.cells Lib.zeros24 68)) w.heap.size 0 dk).drewN k) := by
      have h := run_convert_bytes_back (P := Tryd.prog) ((putRow (fun (b : UInt8) => Value.int .u8 (b.toNat : Int)) (w.alloc (.cells Lib.zeros24 68)) w.heap.size 0 dk).drewN k) 62 9 5 ⟨w.heap.size, 0, none⟩ 24 (Lib.decDigits u) Tryd.underlying62 Tryd.underlying5 Tryd.underlying9 (fun j hj => by
        rw [Lib.row_is_numeral hF j hj, Lib.add_plain, World.cell?_drewN]
        exact cell?_putRow (fun (b : UInt8) => Value.int .u8 (b.toNat : Int)) _ w.heap.size 0 _ dk HH0.out (by rw [hF.size, Array.size_replicate]) j (by rw [hF.size]; rw [Lib.decDigits_length] at hj; exact hj))
      rw [Lib.decDigits_length] at h
      exact h
    go_wp2
    go_ret
    obtain ⟨os, eo⟩ := Lib.fin_at w (.cells Lib.zeros24 68) dk k 0
    exact ⟨rfl, k, os, eo⟩
theorem format_any (u : Nat) (hu64 : u < 18446744073709551616) (w : World) (htab : Pow w) :
    Calls Tryd.prog 34 #[.int .u64 (u : Int), .int .i64 10] w fun e w' => e = .returned (.string (decA u)) ∧ Below w.heap.size w w' := by
  have CI := fun W hW => iformat_any u hu64 W hW
  generalize ((u : Nat) : Int) = x at CI
  generalize decA u = t at CI ⊢
  have HT := Lib.hid htab
  clear hu64 htab
  go_enter Tryd.func34, Tryd.ntmps34
  go_wp2_with fail
  refine (CI _ HT.out).mono ?_
  rintro e w1 ⟨rfl, k, os, rfl⟩
  have HB := Lib.hid (Lib.below_grow w.heap.size w (Nat.le_refl _) k os)
  go_wp2
  go_ret
  exact ⟨rfl, HB.out⟩
theorem format_later (w W : World) (x : Int) (v : Nat) (hv : v < 18446744073709551616) (hx : x = (v : Int)) (hP : Pow w) (hW : Below w.heap.size w W) :
    Calls Tryd.prog 34 #[.int .u64 x, .int .i64 10] W fun e V => e = .returned (.string (decA v)) ∧ Below w.heap.size w V := by
  subst hx
  refine (format_any v hv W (hP.below hW)).mono ?_
  rintro e V ⟨rfl, hV⟩
  exact ⟨rfl, hW.trans (hV.mono hW.size)⟩
set_option maxHeartbeats 4000000 in
theorem ptext_any (a n : Nat) (ha : a < 65536) (hn : n < 18446744073709551616) (w : World) (hP : Pow w) :
    Calls Tryd.prog 16 #[.agg #[.int .u16 (a : Int), .int .u64 (n : Int)]] w fun e w' => e = .returned (.string (textA (a, n))) ∧ Below w.heap.size w w' := by
  have h1 := decA_long (v := a) (by omega)
  have h2 := decA_long hn
  have h3 : (⟨#[46]⟩ : ByteArray).size = 1 := rfl
  have hadd1 := fun W => run_string_add_sum (P := Tryd.prog) W (decA a) ⟨#[46]⟩ (by omega)
  have hadd2 := fun W => run_string_add_sum (P := Tryd.prog) W (decA a ++ ⟨#[46]⟩) (decA n) (by rw [ByteArray.size_append]; omega)
  have hwa : IntKind.u64.wrap (a : Int) = (a : Int) := IntWalk.u64_in _ (by omega)
  clear h1 h2 h3
  have HB : Hid (Below w.heap.size w (w.alloc (.cells #[.int .u16 (a : Int), .int .u64 (n : Int)] 25))) := below_new w _
  have HP : Hid (Pow (w.alloc (.cells #[.int .u16 (a : Int), .int .u64 (n : Int)] 25))) := hP.below HB.out
  clear hP
  have hc0 : (w.alloc (.cells #[.int .u16 (a : Int), .int .u64 (n : Int)] 25)).cell? ⟨w.heap.size, 0, none⟩ = some (.int .u16 (a : Int)) := by rw [World.cell?_alloc_mark]; rfl
  have hc1 : (w.alloc (.cells #[.int .u16 (a : Int), .int .u64 (n : Int)] 25)).cell? ⟨w.heap.size, 1, none⟩ = some (.int .u64 (n : Int)) := by rw [World.cell?_alloc_mark]; rfl
  go_enter Tryd.func16, Tryd.ntmps16
  go_wp2_with fail
  generalize hwr : w.alloc (.cells #[.int .u16 (a : Int), .int .u64 (n : Int)] 25) = wr at *
  have HC : Hid (∀ V, Below wr.heap.size wr V → V.cell? ⟨w.heap.size, 0, none⟩ = some (.int .u16 (a : Int)) ∧ V.cell? ⟨w.heap.size, 1, none⟩ = some (.int .u64 (n : Int))) := fun V hV => ⟨(hV.cell (World.block_lt_of_cell? wr _ hc0)).trans hc0, (hV.cell (World.block_lt_of_cell? wr _ hc1)).trans hc1⟩
  go_region_held3 (fun V => V.cell? ⟨w.heap.size, 0, none⟩ = some (.int .u16 (a : Int)) ∧ V.cell? ⟨w.heap.size, 1, none⟩ = some (.int .u64 (n : Int))) (first | go_keep | assumption | exact HC.out _ (by (repeat (first | exact Below.refl _ _ | assumption | apply bel_drew)))) (first
    | (go_at_call 34; (with_reducible refine (format_later wr _ _ a (by omega) (by first | rfl | exact hwa) HP.out ?_).mono ?_); (repeat (first | exact Below.refl _ _ | assumption | apply bel_drew)); rintro e V ⟨rfl, bv1⟩; have hcV := HC.out V bv1)
    | (go_at_call 34; (with_reducible refine (format_later wr _ _ n hn rfl HP.out ?_).mono ?_); (repeat (first | exact Below.refl _ _ | assumption | apply bel_drew)); rintro e V ⟨rfl, bv2⟩; have hcV := HC.out V bv2))
  all_goals
    go_wp2
    go_ret
    exact ⟨rfl, HB.out.trans (bv2.mono HB.out.size)⟩
end Go.Proofs.YtoojlalpcmlanaaDoor.Dt
