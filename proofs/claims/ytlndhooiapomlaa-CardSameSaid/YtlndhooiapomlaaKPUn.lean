/- The contracts of the program's functions of layer dot that layer card asks: Good, ifGood, Unpack; and of shift's Split. For every dot and number of their types. -/
import Derived.Test.YtlndhooiapomlaaDOne
import Derived.Laws.BitsAllLaws
import Derived.WalkSmall
namespace Go.Proofs.Ytlndhooiapomlaa.Dt
open Go.ChangeShapes Go.WideShapes Go.ChangeAt Go.RowKit
set_option linter.unusedVariables false

theorem below_new2 (w : World) (o1 o2 : Obj) : Below w.heap.size w ((w.alloc o1).alloc o2) := (below_new w o1).alloc (below_new w o1).size o2
theorem pgood_any (w : World) (a n : Nat) :
    Calls Try.prog 40 #[.agg #[.int .u16 (a : Int), .int .u64 (n : Int)]] w fun e w' => e = .returned (.bool (mayD (a, n))) ∧ Below w.heap.size w w' := by
  have HB : Hid (Below w.heap.size w (w.alloc (.cells #[.int .u16 (a : Int), .int .u64 (n : Int)] 45))) := below_new w _
  by_cases c1 : 1 ≤ a
  · have d1 : ((a : Int) != 0) = true := by rw [bne_iff_ne]; omega
    by_cases c2 : 1 ≤ n
    · have d2 : ((n : Int) != 0) = true := by rw [bne_iff_ne]; omega
      have hd : mayD (a, n) = decide ((n : Int) ≤ 281474976710655) := decide_eq_decide.2 ⟨fun h => by have := h.2.2; simp at this; omega, fun h => ⟨c1, c2, by simp; omega⟩⟩
      rw [hd]
      clear hd
      go_enter Try.func40, Try.ntmps40
      go_wp2
      go_ret
      exact ⟨rfl, HB.out⟩
    · have hd : mayD (a, n) = false := decide_eq_false (fun h => c2 h.2.1)
      have d2 : ((n : Int) != 0) = false := by rw [bne_eq_false_iff_eq]; omega
      rw [hd]
      clear hd
      go_enter Try.func40, Try.ntmps40
      go_wp2
      go_ret
      exact ⟨rfl, HB.out⟩
  · have hd : mayD (a, n) = false := decide_eq_false (fun h => c1 h.1)
    have d1 : ((a : Int) != 0) = false := by rw [bne_eq_false_iff_eq]; omega
    rw [hd]
    clear hd
    go_enter Try.func40, Try.ntmps40
    go_wp2
    go_ret
    exact ⟨rfl, HB.out⟩
theorem low_any (v : Int) (w : World) (h0 : 0 ≤ v) (h1 : v < 18446744073709551616) :
    Calls Try.prog 39 #[.int .u64 v] w fun e w' => e = .returned (.int .u64 (v % 281474976710656)) ∧ w' = w := by
  go_enter Try.func39, Try.ntmps39
  go_wp2
  go_ret
  exact ⟨ret_int (by rw [IntKind.wrap_u64]; omega), rfl⟩
theorem ssplit_any (v : Int) (w : World) (h0 : 0 ≤ v) (h1 : v < 18446744073709551616) :
    Calls Try.prog 32 #[.int .u64 v] w fun e w' => e = .returned (.tuple #[.int .u16 (v / 281474976710656), .int .u64 (v % 281474976710656)]) ∧ w' = w := by
  go_enter Try.func32, Try.ntmps32
  go_wp2_with (go_at_call 39; refine (low_any _ _ (by omega) (by omega)).mono ?_; rintro e w' ⟨rfl, rfl⟩)
  go_ret2
  exact ⟨rfl, rfl⟩
/-- a dot that may be, or none. -/
def keepD (d : Dot) : Dot × Bool := if mayD d = true then (d, true) else ((0, 0), false)
/-- a new block for a dot that comes out: in every later world it may be written. -/
theorem new_cells (w : World) : ∀ V, Below (w.alloc (.cells #[.int .u16 0, .int .u64 0] 45)).heap.size (w.alloc (.cells #[.int .u16 0, .int .u64 0] 45)) V → (V.cell? ⟨w.heap.size, 0, none⟩ = some (.int .u16 0) ∧ V.cell? ⟨w.heap.size, 1, none⟩ = some (.int .u64 0)) ∧ V.frozen? ⟨w.heap.size, 0, none⟩ = false ∧ V.frozen? ⟨w.heap.size, 1, none⟩ = false := by
  intro V hV
  have hc1 : (w.alloc (.cells #[.int .u16 0, .int .u64 0] 45)).cell? ⟨w.heap.size, 0, none⟩ = some (.int .u16 0) := by simp [go_sem]
  have hc2 : (w.alloc (.cells #[.int .u16 0, .int .u64 0] 45)).cell? ⟨w.heap.size, 1, none⟩ = some (.int .u64 0) := by simp [go_sem]
  exact ⟨⟨(hV.cell (World.block_lt_of_cell? _ _ hc1)).trans hc1, (hV.cell (World.block_lt_of_cell? _ _ hc2)).trans hc2⟩, (hV.frozen (World.block_lt_of_cell? _ _ hc1)).trans (World.frozen?_alloc_new _ _ _ _), (hV.frozen (World.block_lt_of_cell? _ _ hc2)).trans (World.frozen?_alloc_new _ _ _ _)⟩
theorem pif_any (w : World) (d : Dot) :
    Calls Try.prog 33 #[.agg #[.int .u16 (d.1 : Int), .int .u64 (d.2 : Int)]] w fun e w' => e = .returned (.tuple #[.agg #[.int .u16 ((keepD d).1.1 : Int), .int .u64 ((keepD d).1.2 : Int)], .bool (keepD d).2]) ∧ Below w.heap.size w w' := by
  obtain ⟨a, n⟩ := d
  have CG := fun W => pgood_any W a n
  have HB : Hid (Below w.heap.size w ((w.alloc (.cells #[.int .u16 (a : Int), .int .u64 (n : Int)] 45)).alloc (.cells #[.int .u16 0, .int .u64 0] 45))) := below_new2 w _ _
  have hd0 : ∀ V, Below ((w.alloc (.cells #[.int .u16 (a : Int), .int .u64 (n : Int)] 45)).alloc (.cells #[.int .u16 0, .int .u64 0] 45)).heap.size ((w.alloc (.cells #[.int .u16 (a : Int), .int .u64 (n : Int)] 45)).alloc (.cells #[.int .u16 0, .int .u64 0] 45)) V → V.cell? ⟨w.heap.size, 0, none⟩ = some (.int .u16 (a : Int)) ∧ V.cell? ⟨w.heap.size, 1, none⟩ = some (.int .u64 (n : Int)) := fun V hV => by
    have hc1 : ((w.alloc (.cells #[.int .u16 (a : Int), .int .u64 (n : Int)] 45)).alloc (.cells #[.int .u16 0, .int .u64 0] 45)).cell? ⟨w.heap.size, 0, none⟩ = some (.int .u16 (a : Int)) := by simp [go_sem]
    have hc2 : ((w.alloc (.cells #[.int .u16 (a : Int), .int .u64 (n : Int)] 45)).alloc (.cells #[.int .u16 0, .int .u64 0] 45)).cell? ⟨w.heap.size, 1, none⟩ = some (.int .u64 (n : Int)) := by simp [go_sem]
    exact ⟨(hV.cell (World.block_lt_of_cell? _ _ hc1)).trans hc1, (hV.cell (World.block_lt_of_cell? _ _ hc2)).trans hc2⟩
  have HC := Lib.hid hd0
  have HN := Lib.hid (new_cells (w.alloc (.cells #[.int .u16 (a : Int), .int .u64 (n : Int)] 45)))
  have hs : (w.alloc (.cells #[.int .u16 (a : Int), .int .u64 (n : Int)] 45)).heap.size = w.heap.size + 1 := by simp
  rw [hs] at HN
  clear hd0 hs
  unfold keepD
  cases hm : mayD (a, n) with
  | true =>
    rw [hm] at CG
    rw [if_pos rfl]
    clear hm
    go_enter Try.func33, Try.ntmps33
    go_wp2_with fail
    refine (CG _).mono ?_
    rintro e w1 ⟨rfl, hb1⟩
    obtain ⟨x1, x2⟩ := HC.out _ hb1
    obtain ⟨⟨y1, y2⟩, z1, z2⟩ := HN.out _ hb1
    have HB1 : Hid (Below w.heap.size w w1) := HB.out.trans (hb1.mono HB.out.size)
    clear hb1 CG HC HN
    go_wp2
    refine bodyPost_ret (v := .tuple #[.agg #[.int .u16 (a : Int), .int .u64 (n : Int)], .bool true]) ?_ rfl ?_
    · simp [results, Try.f33, go_sem, y1, y2]
    · exact ⟨rfl, (HB1.out.setCell (by simp) _).setCell (by simp) _⟩
  | false =>
    rw [hm] at CG
    rw [if_neg (by simp)]
    clear hm
    go_enter Try.func33, Try.ntmps33
    go_wp2_with fail
    refine (CG _).mono ?_
    rintro e w1 ⟨rfl, hb1⟩
    obtain ⟨⟨y1, y2⟩, z1, z2⟩ := HN.out _ hb1
    have HB1 : Hid (Below w.heap.size w w1) := HB.out.trans (hb1.mono HB.out.size)
    clear hb1 CG HC HN
    go_wp2
    refine bodyPost_ret (v := .tuple #[.agg #[.int .u16 0, .int .u64 0], .bool false]) ?_ rfl ?_
    · simp [results, Try.f33, go_sem, y1, y2]
    · exact ⟨rfl, (HB1.out.setCell (by simp) _).setCell (by simp) _⟩
theorem punpack_any (w : World) (v : Nat) (h1 : v < 18446744073709551616) :
    Calls Try.prog 22 #[.int .u64 (v : Int)] w fun e w' => e = .returned (.tuple #[.agg #[.int .u16 ((unpackD v).1.1 : Int), .int .u64 ((unpackD v).1.2 : Int)], .bool (unpackD v).2]) ∧ Below w.heap.size w w' := by
  have hk : unpackD v = keepD (splitD v) := rfl
  rw [hk]
  have CS := fun W => ssplit_any (v : Int) W (by omega) (by omega)
  have e1 : (v : Int) / 281474976710656 = ((splitD v).1 : Int) := by unfold splitD; simp only; omega
  have e2 : (v : Int) % 281474976710656 = ((splitD v).2 : Int) := by unfold splitD; simp only; omega
  have CI := fun W => pif_any W (splitD v)
  rw [e1, e2] at CS
  clear hk e1 e2 h1
  generalize keepD (splitD v) = u at CI ⊢
  generalize ((splitD v).1 : Int) = x at CS CI
  generalize ((splitD v).2 : Int) = y at CS CI
  go_enter Try.func22, Try.ntmps22
  go_wp2_with fail
  refine (CS _).mono ?_
  rintro e w1 ⟨rfl, rfl⟩
  go_wp2_with fail
  refine (CI _).mono ?_
  rintro e w2 ⟨rfl, hb2⟩
  have HB2 : Hid (Below w.heap.size w w2) := (below_new w _).trans (hb2.mono (below_new w _).size)
  obtain ⟨⟨y1, y2⟩, z1, z2⟩ := new_cells w _ hb2
  clear hb2
  go_wp2
  refine bodyPost_ret (v := .tuple #[.agg #[.int .u16 (u.1.1 : Int), .int .u64 (u.1.2 : Int)], .bool u.2]) ?_ rfl ?_
  · simp [results, Try.f22, go_sem, y1, y2]
  · exact ⟨rfl, (HB2.out.setCell (by simp) _).setCell (by simp) _⟩
end Go.Proofs.Ytlndhooiapomlaa.Dt
