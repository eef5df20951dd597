/- The contracts of the document's answers for layer dot on texts: Decimal, Text. For every number and dot of their types. -/
import Derived.Test.YtoojlalpcmlanaaDoorDOne
import Derived.Laws.IdiomStrings
import Derived.Laws.Concat
import Derived.Deep.RegionHeld3
import Derived.IntWalk
namespace Go.Proofs.YtoojlalpcmlanaaDoor.Dt
open Go.ChangeShapes Go.WideShapes Go.ChangeAt Go.RowKit
set_option linter.unusedVariables false

/-- a number's digits. -/
def digB (v : Nat) : UInt8 := UInt8.ofNat (48 + v % 10)
def decB (v : Nat) : List UInt8 := if h : v < 10 then [digB v] else decB (v / 10) ++ [digB v]
termination_by v
decreasing_by omega
theorem decB_small {v : Nat} (h : v < 10) : decB v = [digB v] := by rw [decB, dif_pos h]
theorem decB_more {v : Nat} (h : ¬ v < 10) : decB v = decB (v / 10) ++ [digB v] := by rw [decB, dif_neg h]
theorem decB_long (v k : Nat) (h : v < 10 ^ (k + 1)) : (decB v).length ≤ k + 1 := by
  induction k generalizing v with
  | zero => rw [decB_small (by simpa using h)]; simp
  | succ k ih =>
    by_cases h1 : v < 10
    · rw [decB_small h1]; simp
    · rw [decB_more h1, List.length_append]
      have := ih (v / 10) (by rw [Nat.pow_succ] at h; omega)
      simp; omega
def decA (v : Nat) : ByteArray := ⟨(decB v).toArray⟩
theorem decA_long {v : Nat} (h : v < 18446744073709551616) : (decA v).size ≤ 20 := by
  have := decB_long v 19 (by omega)
  simpa [decA, ByteArray.size] using this

theorem rdecimal_any (v : Nat) (hv : v < 18446744073709551616) (w : World) :
    Calls Tryd.prog 35 #[.int .u64 (v : Int)] w fun e w' => e = .returned (.string (decA v)) ∧ Below w.heap.size w w' := by
  induction v using Nat.strongRecOn generalizing w with
  | _ v ih =>
    have hd : (digB v).toNat = 48 + v % 10 := by
      unfold digB
      rw [UInt8.toNat_ofNat_of_lt' (by show 48 + v % 10 < 256; omega)]
    have hcv : (convert 62 9 (.slice (some ⟨w.heap.size, 0, none⟩) 1 1)).run Tryd.prog (w.alloc (.cells #[.int .u8 (48 + (v : Int) % 10)] 5)) = .ok (.string ⟨#[digB v]⟩) (w.alloc (.cells #[.int .u8 (48 + (v : Int) % 10)] 5)) :=
      run_convert_bytes_back (P := Tryd.prog) _ 62 9 5 ⟨w.heap.size, 0, none⟩ 1 [digB v] Tryd.underlying62 Tryd.underlying5 Tryd.underlying9 (fun j hj => by
        obtain rfl : j = 0 := by simp at hj; omega
        rw [zero_add, World.cell?_alloc_mark]
        simp [hd])
    have HB : Hid (Below w.heap.size w (w.alloc (.cells #[.int .u8 (48 + (v : Int) % 10)] 5))) := below_new w _
    clear hd
    by_cases h : v < 10
    · have d1 : decide ((v : Int) < 10) = true := decide_eq_true (by omega)
      have he : decA v = ⟨#[digB v]⟩ := by unfold decA; rw [decB_small h]
      rw [he]
      clear he ih
      go_enter Tryd.func35, Tryd.ntmps35
      go_wp2
      go_ret
      exact ⟨rfl, HB.out⟩
    · have d1 : decide ((v : Int) < 10) = false := decide_eq_false (by omega)
      have CI := ih (v / 10) (by omega) (by omega)
      have hq : ((v / 10 : Nat) : Int) = (v : Int) / 10 := by omega
      rw [hq] at CI
      have hl := decA_long hv
      have he : decA v = decA (v / 10) ++ ⟨#[digB v]⟩ := by
        unfold decA
        rw [decB_more h]
        apply ByteArray.ext
        simp
      have hadd := fun W => run_string_add_sum (P := Tryd.prog) W (decA (v / 10)) ⟨#[digB v]⟩ (by rw [he, ByteArray.size_append] at hl; omega)
      rw [he]
      clear he ih hl hq
      go_enter Tryd.func35, Tryd.ntmps35
      go_wp2_with fail
      refine (CI _).mono ?_
      rintro e w1 ⟨rfl, hB1⟩
      go_wp2
      go_ret
      exact ⟨rfl, HB.out.trans (hB1.mono HB.out.size)⟩

theorem bel_drew {w W : World} (h : Below w.heap.size w W) : Below w.heap.size w W.drew := h.drew
theorem rdecimal_later (w W : World) (x : Int) (v : Nat) (hv : v < 18446744073709551616) (hx : x = (v : Int)) (hW : Below w.heap.size w W) :
    Calls Tryd.prog 35 #[.int .u64 x] W fun e V => e = .returned (.string (decA v)) ∧ Below w.heap.size w V := by
  subst hx
  refine (rdecimal_any v hv W).mono ?_
  rintro e V ⟨rfl, hV⟩
  exact ⟨rfl, hW.trans (hV.mono hW.size)⟩

/-- a dot's text. -/
def textA (d : Dot) : ByteArray := decA d.1 ++ ⟨#[46]⟩ ++ decA d.2
set_option maxHeartbeats 4000000 in
theorem rtext_any (a n : Nat) (ha : a < 65536) (hn : n < 18446744073709551616) (w : World) :
    Calls Tryd.prog 17 #[.agg #[.int .u16 (a : Int), .int .u64 (n : Int)]] w fun e w' => e = .returned (.string (textA (a, n))) ∧ Below w.heap.size w w' := by
  have h1 := decA_long (v := a) (by omega)
  have h2 := decA_long hn
  have h3 : (⟨#[46]⟩ : ByteArray).size = 1 := rfl
  have hadd1 := fun W => run_string_add_sum (P := Tryd.prog) W (decA a) ⟨#[46]⟩ (by omega)
  have hadd2 := fun W => run_string_add_sum (P := Tryd.prog) W (decA a ++ ⟨#[46]⟩) (decA n) (by rw [ByteArray.size_append]; omega)
  have hwa : IntKind.u64.wrap (a : Int) = (a : Int) := IntWalk.u64_in _ (by omega)
  clear h1 h2 h3
  have HB : Hid (Below w.heap.size w (w.alloc (.cells #[.int .u16 (a : Int), .int .u64 (n : Int)] 25))) := below_new w _
  have hc0 : (w.alloc (.cells #[.int .u16 (a : Int), .int .u64 (n : Int)] 25)).cell? ⟨w.heap.size, 0, none⟩ = some (.int .u16 (a : Int)) := by rw [World.cell?_alloc_mark]; rfl
  have hc1 : (w.alloc (.cells #[.int .u16 (a : Int), .int .u64 (n : Int)] 25)).cell? ⟨w.heap.size, 1, none⟩ = some (.int .u64 (n : Int)) := by rw [World.cell?_alloc_mark]; rfl
  go_enter Tryd.func17, Tryd.ntmps17
  go_wp2_with fail
  generalize hwr : w.alloc (.cells #[.int .u16 (a : Int), .int .u64 (n : Int)] 25) = wr at *
  have HC : Hid (∀ V, Below wr.heap.size wr V → V.cell? ⟨w.heap.size, 0, none⟩ = some (.int .u16 (a : Int)) ∧ V.cell? ⟨w.heap.size, 1, none⟩ = some (.int .u64 (n : Int))) := fun V hV => ⟨(hV.cell (World.block_lt_of_cell? wr _ hc0)).trans hc0, (hV.cell (World.block_lt_of_cell? wr _ hc1)).trans hc1⟩
  go_region_held3 (fun V => V.cell? ⟨w.heap.size, 0, none⟩ = some (.int .u16 (a : Int)) ∧ V.cell? ⟨w.heap.size, 1, none⟩ = some (.int .u64 (n : Int))) (first | go_keep | assumption | exact HC.out _ (by (repeat (first | exact Below.refl _ _ | assumption | apply bel_drew)))) (first
    | (go_at_call 35; (with_reducible refine (rdecimal_later wr _ _ a (by omega) (by first | rfl | exact hwa) ?_).mono ?_); (repeat (first | exact Below.refl _ _ | assumption | apply bel_drew)); rintro e V ⟨rfl, bv1⟩; have hcV := HC.out V bv1)
    | (go_at_call 35; (with_reducible refine (rdecimal_later wr _ _ n hn rfl ?_).mono ?_); (repeat (first | exact Below.refl _ _ | assumption | apply bel_drew)); rintro e V ⟨rfl, bv2⟩; have hcV := HC.out V bv2))
  all_goals
    go_wp2
    go_ret
    exact ⟨rfl, HB.out.trans (bv2.mono HB.out.size)⟩
end Go.Proofs.YtoojlalpcmlanaaDoor.Dt
