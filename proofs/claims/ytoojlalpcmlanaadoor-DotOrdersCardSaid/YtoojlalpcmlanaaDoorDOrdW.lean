/- DotOrders: what its walk stands on. -/
import Derived.Test.YtoojlalpcmlanaaDoorDListsW
import Derived.Shelf.SlSortCmp.QuietGrown
namespace Go.Proofs.YtoojlalpcmlanaaDoor.Dt
open Go.ChangeShapes Go.WideShapes Go.ChangeAt Go.RowKit
set_option linter.unusedVariables false

/-- the world with three dots more. -/
def tri (w : World) (a b c : Dot) : World := (((w.alloc (.cells #[.int .u16 (a.1 : Int), .int .u64 (a.2 : Int)] 25)).alloc (.cells #[.int .u16 (b.1 : Int), .int .u64 (b.2 : Int)] 25)).alloc (.cells #[.int .u16 (c.1 : Int), .int .u64 (c.2 : Int)] 25))
/-- what lies in the three boxes. -/
def Boxed (V : World) (n : Nat) (a b c : Dot) : Prop := ((V.cell? ⟨n, 0, none⟩ = some (.int .u16 (a.1 : Int)) ∧ V.cell? ⟨n, 1, none⟩ = some (.int .u64 (a.2 : Int))) ∧ V.cell? ⟨n + 1, 0, none⟩ = some (.int .u16 (b.1 : Int)) ∧ V.cell? ⟨n + 1, 1, none⟩ = some (.int .u64 (b.2 : Int))) ∧ V.cell? ⟨n + 2, 0, none⟩ = some (.int .u16 (c.1 : Int)) ∧ V.cell? ⟨n + 2, 1, none⟩ = some (.int .u64 (c.2 : Int))
theorem boxed (w : World) (a b c : Dot) : ∀ V, Below (tri w a b c).heap.size (tri w a b c) V → Boxed V w.heap.size a b c := by
  intro V hV
  have hc1 : (tri w a b c).cell? ⟨w.heap.size, 0, none⟩ = some (.int .u16 (a.1 : Int)) := by simp [tri, go_sem]
  have hc2 : (tri w a b c).cell? ⟨w.heap.size, 1, none⟩ = some (.int .u64 (a.2 : Int)) := by simp [tri, go_sem]
  have hc3 : (tri w a b c).cell? ⟨w.heap.size + 1, 0, none⟩ = some (.int .u16 (b.1 : Int)) := by simp [tri, go_sem]
  have hc4 : (tri w a b c).cell? ⟨w.heap.size + 1, 1, none⟩ = some (.int .u64 (b.2 : Int)) := by simp [tri, go_sem]
  have hc5 : (tri w a b c).cell? ⟨w.heap.size + 2, 0, none⟩ = some (.int .u16 (c.1 : Int)) := by simp [tri, go_sem]
  have hc6 : (tri w a b c).cell? ⟨w.heap.size + 2, 1, none⟩ = some (.int .u64 (c.2 : Int)) := by simp [tri, go_sem]
  exact ⟨⟨⟨(hV.cell (World.block_lt_of_cell? _ _ hc1)).trans hc1, (hV.cell (World.block_lt_of_cell? _ _ hc2)).trans hc2⟩, (hV.cell (World.block_lt_of_cell? _ _ hc3)).trans hc3, (hV.cell (World.block_lt_of_cell? _ _ hc4)).trans hc4⟩, (hV.cell (World.block_lt_of_cell? _ _ hc5)).trans hc5, (hV.cell (World.block_lt_of_cell? _ _ hc6)).trans hc6⟩
theorem tri_below (w : World) (a b c : Dot) : Below w.heap.size w (tri w a b c) := below_new3 _ _ _ _
/-- a new slice of three dots. -/
theorem new_three (V : World) (a b c : Dot) (ha : FitD a) (hb : FitD b) (hc : FitD c) : ∀ U, Below (V.alloc (.cells #[.int .u16 (a.1 : Int), .int .u64 (a.2 : Int), .int .u16 (b.1 : Int), .int .u64 (b.2 : Int), .int .u16 (c.1 : Int), .int .u64 (c.2 : Int)] 25)).heap.size (V.alloc (.cells #[.int .u16 (a.1 : Int), .int .u64 (a.2 : Int), .int .u16 (b.1 : Int), .int .u64 (b.2 : Int), .int .u16 (c.1 : Int), .int .u64 (c.2 : Int)] 25)) U →
    Dots U U.heap.size (some ⟨V.heap.size, 0, none⟩) [a, b, c] ∧ (U.cell? ⟨V.heap.size, 0, none⟩ = some (.int .u16 (a.1 : Int)) ∧ U.cell? ⟨V.heap.size, 1, none⟩ = some (.int .u64 (a.2 : Int))) ∧ U.cell? ⟨V.heap.size, 4, none⟩ = some (.int .u16 (c.1 : Int)) ∧ U.cell? ⟨V.heap.size, 5, none⟩ = some (.int .u64 (c.2 : Int)) := by
  intro U hU
  have hc : ∀ (j : Nat) (u : Value), (dv [a, b, c])[j]? = some u → U.cell? ⟨V.heap.size, j, none⟩ = some u := fun j u hu => by
    have h1 : (V.alloc (.cells #[.int .u16 (a.1 : Int), .int .u64 (a.2 : Int), .int .u16 (b.1 : Int), .int .u64 (b.2 : Int), .int .u16 (c.1 : Int), .int .u64 (c.2 : Int)] 25)).cell? ⟨V.heap.size, j, none⟩ = some u := by
      rw [World.cell?_alloc_new]
      simpa [dv] using hu
    exact (hU.cell (World.block_lt_of_cell? _ _ h1)).trans h1
  refine ⟨⟨fun r hr => ?_, fun _ => ⟨_, rfl, ?_, fun j u hu => by rw [zero_add]; exact hc j u hu⟩⟩, ⟨hc 0 _ rfl, hc 1 _ rfl⟩, hc 4 _ rfl, hc 5 _ rfl⟩
  · simp only [List.mem_cons, List.not_mem_nil, or_false] at hr
    rcases hr with rfl | rfl | rfl
    · exact ha
    · exact hb
    · assumption
  · exact World.block_lt_of_cell? _ _ (hc 0 _ rfl)
theorem new_four (V : World) (bl : Nat) (h : bl = V.heap.size) (a b c : Dot) (ha : FitD a) (hb : FitD b) (hc : FitD c) : Dots (V.alloc (.cells #[.int .u16 (c.1 : Int), .int .u64 (c.2 : Int), .int .u16 (a.1 : Int), .int .u64 (a.2 : Int), .int .u16 (b.1 : Int), .int .u64 (b.2 : Int), .int .u16 (a.1 : Int), .int .u64 (a.2 : Int)] 25)) (V.heap.size + 1) (some ⟨bl, 0, none⟩) [c, a, b, a] := by
  subst h
  refine ⟨fun r hr => ?_, fun _ => ⟨_, rfl, Nat.lt_succ_self _, fun j u hu => ?_⟩⟩
  · simp only [List.mem_cons, List.not_mem_nil, or_false] at hr
    rcases hr with rfl | rfl | rfl | rfl <;> assumption
  · rw [zero_add, World.cell?_alloc_new]
    simpa [dv] using hu
theorem sort4_later (P : PDot) (w W : World) (bl : Nat) (a b c : Dot) (hW : Below w.heap.size w W) (h : Dots W W.heap.size (some ⟨bl, 0, none⟩) [c, a, b, a]) :
    Calls Tryd.prog 20 #[.slice (some ⟨bl, 0, none⟩) 4 4] W fun e V => ∃ A k, e = .returned (.slice A (sortD [a, b, c]).length k) ∧ Dots V V.heap.size A (sortD [a, b, c]) ∧ Below w.heap.size w V ∧ Below W.heap.size W V := by
  refine (P.sort W _ _ 4 4 rfl (fun h => by cases h) (Nat.le_refl _) h (by decide)).mono ?_
  rw [← sort_alike]
  intro e V hp
  obtain ⟨A, k, c', rfl, hk, _, _, _, hD, _, hb⟩ := post_dots hp (by rw [sort_alike]; exact sortD_fit _ h.1)
  exact ⟨A, c', by rw [hk], hD, hW.trans (hb.mono hW.size), hb⟩
theorem cmp_g (W : World) (x y : Dot) (z : Int) (hz : cmpD x y = z) : Calls Tryd.prog 12 #[.agg #[.int .u16 (x.1 : Int), .int .u64 (x.2 : Int)], .agg #[.int .u16 (y.1 : Int), .int .u64 (y.2 : Int)]] W fun e w' => e = .returned (.int .i64 z) ∧ ∃ q os', w' = Sort.grow (W.drewN q) os' := by
  rw [← hz]; exact closure_any x y W
end Go.Proofs.YtoojlalpcmlanaaDoor.Dt
