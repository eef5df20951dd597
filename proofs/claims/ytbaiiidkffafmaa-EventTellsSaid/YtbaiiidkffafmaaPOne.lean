/- The contracts of the program's functions of layer dot on single dots: Good, ahead, Cmp, ifGood, Unpack; and of shift's Split. For every dot and number of their types. -/
import Derived.Test.YtbaiiidkffafmaaDTell
import Derived.Laws.BitsAllLaws
import Derived.WalkSmall
namespace Go.Proofs.Ytbaiiidkffafmaa.Dt
open Go.ChangeShapes Go.WideShapes Go.ChangeAt Go.RowKit
set_option linter.unusedVariables false

theorem below_new2 (w : World) (o1 o2 : Obj) : Below w.heap.size w ((w.alloc o1).alloc o2) := (below_new w o1).alloc (below_new w o1).size o2
/-- a dot of its types. -/
def FitD (d : Dot) : Prop := d.1 < 65536 ∧ d.2 < 18446744073709551616
theorem pgood_any (w : World) (a n : Nat) :
    Calls Try.prog 25 #[.agg #[.int .u16 (a : Int), .int .u64 (n : Int)]] w fun e w' => e = .returned (.bool (mayD (a, n))) ∧ Below w.heap.size w w' := by
  have HB : Hid (Below w.heap.size w (w.alloc (.cells #[.int .u16 (a : Int), .int .u64 (n : Int)] 25))) := below_new w _
  by_cases c1 : 1 ≤ a
  · have d1 : ((a : Int) != 0) = true := by rw [bne_iff_ne]; omega
    by_cases c2 : 1 ≤ n
    · have d2 : ((n : Int) != 0) = true := by rw [bne_iff_ne]; omega
      have hd : mayD (a, n) = decide ((n : Int) ≤ 281474976710655) := decide_eq_decide.2 ⟨fun h => by have := h.2.2; simp at this; omega, fun h => ⟨c1, c2, by simp; omega⟩⟩
      rw [hd]
      clear hd
      go_enter Try.func25, Try.ntmps25
      go_wp2
      go_ret
      exact ⟨rfl, HB.out⟩
    · have hd : mayD (a, n) = false := decide_eq_false (fun h => c2 h.2.1)
      have d2 : ((n : Int) != 0) = false := by rw [bne_eq_false_iff_eq]; omega
      rw [hd]
      clear hd
      go_enter Try.func25, Try.ntmps25
      go_wp2
      go_ret
      exact ⟨rfl, HB.out⟩
  · have hd : mayD (a, n) = false := decide_eq_false (fun h => c1 h.1)
    have d1 : ((a : Int) != 0) = false := by rw [bne_eq_false_iff_eq]; omega
    rw [hd]
    clear hd
    go_enter Try.func25, Try.ntmps25
    go_wp2
    go_ret
    exact ⟨rfl, HB.out⟩
/-- the world with two dots more. -/
def two (w : World) (a b : Dot) : World := (w.alloc (.cells #[.int .u16 (a.1 : Int), .int .u64 (a.2 : Int)] 25)).alloc (.cells #[.int .u16 (b.1 : Int), .int .u64 (b.2 : Int)] 25)
theorem pahead_two (w : World) (a b : Dot) :
    Calls Try.prog 58 #[.agg #[.int .u16 (a.1 : Int), .int .u64 (a.2 : Int)], .agg #[.int .u16 (b.1 : Int), .int .u64 (b.2 : Int)]] w fun e w' => e = .returned (.bool (aheadD a b)) ∧ w' = two w a b := by
  obtain ⟨a1, a2⟩ := a
  obtain ⟨b1, b2⟩ := b
  by_cases h1 : a1 = b1
  · subst h1
    have hd : aheadD (a1, a2) (a1, b2) = decide (a2 < b2) := decide_eq_decide.2 ⟨fun h => by simp at h; omega, fun h => .inr ⟨rfl, by simp; omega⟩⟩
    rw [hd]
    clear hd
    go_enter Try.func58, Try.ntmps58
    go_wp2
    go_ret
    exact ⟨rfl, rfl⟩
  · have e1 : ((a1 : Int) != (b1 : Int)) = true := by rw [bne_iff_ne]; omega
    have hd : aheadD (a1, a2) (b1, b2) = decide (a1 < b1) := decide_eq_decide.2 ⟨fun h => by simp at h; omega, fun h => .inl (by simp; omega)⟩
    rw [hd]
    clear hd
    go_enter Try.func58, Try.ntmps58
    go_wp2
    go_ret
    exact ⟨rfl, rfl⟩
theorem pahead_any (w : World) (a b : Dot) :
    Calls Try.prog 58 #[.agg #[.int .u16 (a.1 : Int), .int .u64 (a.2 : Int)], .agg #[.int .u16 (b.1 : Int), .int .u64 (b.2 : Int)]] w fun e w' => e = .returned (.bool (aheadD a b)) ∧ Below w.heap.size w w' :=
  (pahead_two w a b).mono fun _ _ ⟨h1, h2⟩ => ⟨h1, by rw [h2]; exact below_new2 w _ _⟩
/-- what Cmp leaves: the two dots, laid once or twice. -/
def Left (w : World) (a b : Dot) (w' : World) : Prop := w' = two w a b ∨ w' = two (two w a b) a b
theorem pcmp_left (w : World) (a b : Dot) :
    Calls Try.prog 54 #[.agg #[.int .u16 (a.1 : Int), .int .u64 (a.2 : Int)], .agg #[.int .u16 (b.1 : Int), .int .u64 (b.2 : Int)]] w fun e w' => e = .returned (.int .i64 (cmpD a b)) ∧ Left w a b w' := by
  have CA := fun W => pahead_two W a b
  obtain ⟨a1, a2⟩ := a
  obtain ⟨b1, b2⟩ := b
  by_cases h : a1 = b1 ∧ a2 = b2
  · obtain ⟨rfl, rfl⟩ := h
    clear CA
    rw [cmp_same]
    go_enter Try.func54, Try.ntmps54
    go_wp2
    go_ret
    exact ⟨rfl, .inl rfl⟩
  · have hc : cmpD (a1, a2) (b1, b2) = if aheadD (a1, a2) (b1, b2) = true then -1 else 1 := if_neg (fun e => h (by cases e; exact ⟨rfl, rfl⟩))
    rw [hc]
    clear hc
    have hne : ((a1 : Int) == (b1 : Int)) = false ∨ (a1 = b1 ∧ ((a2 : Int) == (b2 : Int)) = false) := by
      by_cases e : a1 = b1
      · refine .inr ⟨by omega, ?_⟩; rw [beq_eq_false_iff_ne]; omega
      · refine .inl ?_; rw [beq_eq_false_iff_ne]; omega
    clear h
    rcases hne with q | ⟨rfl, q⟩
    all_goals
      generalize aheadD _ _ = ah at CA ⊢
      cases ah
      all_goals
        go_enter Try.func54, Try.ntmps54
        go_wp2_with fail
        refine (CA _).mono ?_
        rintro e w1 ⟨rfl, rfl⟩
        go_wp2
        go_ret
        exact ⟨rfl, .inr rfl⟩
theorem pcmp_any (w : World) (a b : Dot) :
    Calls Try.prog 54 #[.agg #[.int .u16 (a.1 : Int), .int .u64 (a.2 : Int)], .agg #[.int .u16 (b.1 : Int), .int .u64 (b.2 : Int)]] w fun e w' => e = .returned (.int .i64 (cmpD a b)) ∧ Below w.heap.size w w' :=
  (pcmp_left w a b).mono fun _ _ ⟨h1, h2⟩ => ⟨h1, by
    have h3 : Below w.heap.size w (two w a b) := below_new2 w _ _
    rcases h2 with rfl | rfl
    · exact h3
    · exact h3.trans (Below.mono (below_new2 (two w a b) _ _) h3.size)⟩
theorem wraps_u64 (n : Int) (h₀ : 0 ≤ n) (h₁ : n < 2 ^ 64) : IntKind.u64.wrap n = n := by rw [IntKind.wrap_u64]; omega
theorem low_any (v : Int) (w : World) (h0 : 0 ≤ v) (h1 : v < 18446744073709551616) :
    Calls Try.prog 57 #[.int .u64 v] w fun e w' => e = .returned (.int .u64 (v % 281474976710656)) ∧ w' = w := by
  go_enter Try.func57, Try.ntmps57
  go_wp2
  go_ret
  exact ⟨ret_int (by rw [IntKind.wrap_u64]; omega), rfl⟩
theorem ssplit_any (v : Int) (w : World) (h0 : 0 ≤ v) (h1 : v < 18446744073709551616) :
    Calls Try.prog 45 #[.int .u64 v] w fun e w' => e = .returned (.tuple #[.int .u16 (v / 281474976710656), .int .u64 (v % 281474976710656)]) ∧ w' = w := by
  go_enter Try.func45, Try.ntmps45
  go_wp2_with (go_at_call 57; refine (low_any _ _ (by omega) (by omega)).mono ?_; rintro e w' ⟨rfl, rfl⟩)
  go_ret2
  exact ⟨rfl, rfl⟩
/-- a dot that may be, or none. -/
def keepD (d : Dot) : Dot × Bool := if mayD d = true then (d, true) else ((0, 0), false)
/-- a new block for a dot that comes out: in every later world it may be written. -/
theorem new_cells (w : World) : ∀ V, Below (w.alloc (.cells #[.int .u16 0, .int .u64 0] 25)).heap.size (w.alloc (.cells #[.int .u16 0, .int .u64 0] 25)) V → (V.cell? ⟨w.heap.size, 0, none⟩ = some (.int .u16 0) ∧ V.cell? ⟨w.heap.size, 1, none⟩ = some (.int .u64 0)) ∧ V.frozen? ⟨w.heap.size, 0, none⟩ = false ∧ V.frozen? ⟨w.heap.size, 1, none⟩ = false := by
  intro V hV
  have hc1 : (w.alloc (.cells #[.int .u16 0, .int .u64 0] 25)).cell? ⟨w.heap.size, 0, none⟩ = some (.int .u16 0) := by simp [go_sem]
  have hc2 : (w.alloc (.cells #[.int .u16 0, .int .u64 0] 25)).cell? ⟨w.heap.size, 1, none⟩ = some (.int .u64 0) := by simp [go_sem]
  exact ⟨⟨(hV.cell (World.block_lt_of_cell? _ _ hc1)).trans hc1, (hV.cell (World.block_lt_of_cell? _ _ hc2)).trans hc2⟩, (hV.frozen (World.block_lt_of_cell? _ _ hc1)).trans (World.frozen?_alloc_new _ _ _ _), (hV.frozen (World.block_lt_of_cell? _ _ hc2)).trans (World.frozen?_alloc_new _ _ _ _)⟩
theorem pif_any (w : World) (d : Dot) :
    Calls Try.prog 46 #[.agg #[.int .u16 (d.1 : Int), .int .u64 (d.2 : Int)]] w fun e w' => e = .returned (.tuple #[.agg #[.int .u16 ((keepD d).1.1 : Int), .int .u64 ((keepD d).1.2 : Int)], .bool (keepD d).2]) ∧ Below w.heap.size w w' := by
  obtain ⟨a, n⟩ := d
  have CG := fun W => pgood_any W a n
  have HB : Hid (Below w.heap.size w ((w.alloc (.cells #[.int .u16 (a : Int), .int .u64 (n : Int)] 25)).alloc (.cells #[.int .u16 0, .int .u64 0] 25))) := below_new2 w _ _
  have hd0 : ∀ V, Below ((w.alloc (.cells #[.int .u16 (a : Int), .int .u64 (n : Int)] 25)).alloc (.cells #[.int .u16 0, .int .u64 0] 25)).heap.size ((w.alloc (.cells #[.int .u16 (a : Int), .int .u64 (n : Int)] 25)).alloc (.cells #[.int .u16 0, .int .u64 0] 25)) V → V.cell? ⟨w.heap.size, 0, none⟩ = some (.int .u16 (a : Int)) ∧ V.cell? ⟨w.heap.size, 1, none⟩ = some (.int .u64 (n : Int)) := fun V hV => by
    have hc1 : ((w.alloc (.cells #[.int .u16 (a : Int), .int .u64 (n : Int)] 25)).alloc (.cells #[.int .u16 0, .int .u64 0] 25)).cell? ⟨w.heap.size, 0, none⟩ = some (.int .u16 (a : Int)) := by simp [go_sem]
    have hc2 : ((w.alloc (.cells #[.int .u16 (a : Int), .int .u64 (n : Int)] 25)).alloc (.cells #[.int .u16 0, .int .u64 0] 25)).cell? ⟨w.heap.size, 1, none⟩ = some (.int .u64 (n : Int)) := by simp [go_sem]
    exact ⟨(hV.cell (World.block_lt_of_cell? _ _ hc1)).trans hc1, (hV.cell (World.block_lt_of_cell? _ _ hc2)).trans hc2⟩
  have HC := Lib.hid hd0
  have HN := Lib.hid (new_cells (w.alloc (.cells #[.int .u16 (a : Int), .int .u64 (n : Int)] 25)))
  have hs : (w.alloc (.cells #[.int .u16 (a : Int), .int .u64 (n : Int)] 25)).heap.size = w.heap.size + 1 := by simp
  rw [hs] at HN
  clear hd0 hs
  unfold keepD
  cases hm : mayD (a, n) with
  | true =>
    rw [hm] at CG
    rw [if_pos rfl]
    clear hm
    go_enter Try.func46, Try.ntmps46
    go_wp2_with fail
    refine (CG _).mono ?_
    rintro e w1 ⟨rfl, hb1⟩
    obtain ⟨x1, x2⟩ := HC.out _ hb1
    obtain ⟨⟨y1, y2⟩, z1, z2⟩ := HN.out _ hb1
    have HB1 : Hid (Below w.heap.size w w1) := HB.out.trans (hb1.mono HB.out.size)
    clear hb1 CG HC HN
    go_wp2
    refine bodyPost_ret (v := .tuple #[.agg #[.int .u16 (a : Int), .int .u64 (n : Int)], .bool true]) ?_ rfl ?_
    · simp [results, Try.f46, go_sem, y1, y2]
    · exact ⟨rfl, (HB1.out.setCell (by simp) _).setCell (by simp) _⟩
  | false =>
    rw [hm] at CG
    rw [if_neg (by simp)]
    clear hm
    go_enter Try.func46, Try.ntmps46
    go_wp2_with fail
    refine (CG _).mono ?_
    rintro e w1 ⟨rfl, hb1⟩
    obtain ⟨⟨y1, y2⟩, z1, z2⟩ := HN.out _ hb1
    have HB1 : Hid (Below w.heap.size w w1) := HB.out.trans (hb1.mono HB.out.size)
    clear hb1 CG HC HN
    go_wp2
    refine bodyPost_ret (v := .tuple #[.agg #[.int .u16 0, .int .u64 0], .bool false]) ?_ rfl ?_
    · simp [results, Try.f46, go_sem, y1, y2]
    · exact ⟨rfl, (HB1.out.setCell (by simp) _).setCell (by simp) _⟩
theorem punpack_any (w : World) (v : Nat) (h1 : v < 18446744073709551616) :
    Calls Try.prog 24 #[.int .u64 (v : Int)] w fun e w' => e = .returned (.tuple #[.agg #[.int .u16 ((unpackD v).1.1 : Int), .int .u64 ((unpackD v).1.2 : Int)], .bool (unpackD v).2]) ∧ Below w.heap.size w w' := by
  have hk : unpackD v = keepD (splitD v) := rfl
  rw [hk]
  have CS := fun W => ssplit_any (v : Int) W (by omega) (by omega)
  have e1 : (v : Int) / 281474976710656 = ((splitD v).1 : Int) := by unfold splitD; simp only; omega
  have e2 : (v : Int) % 281474976710656 = ((splitD v).2 : Int) := by unfold splitD; simp only; omega
  have CI := fun W => pif_any W (splitD v)
  rw [e1, e2] at CS
  clear hk e1 e2 h1
  generalize keepD (splitD v) = u at CI ⊢
  generalize ((splitD v).1 : Int) = x at CS CI
  generalize ((splitD v).2 : Int) = y at CS CI
  go_enter Try.func24, Try.ntmps24
  go_wp2_with fail
  refine (CS _).mono ?_
  rintro e w1 ⟨rfl, rfl⟩
  go_wp2_with fail
  refine (CI _).mono ?_
  rintro e w2 ⟨rfl, hb2⟩
  have HB2 : Hid (Below w.heap.size w w2) := (below_new w _).trans (hb2.mono (below_new w _).size)
  obtain ⟨⟨y1, y2⟩, z1, z2⟩ := new_cells w _ hb2
  clear hb2
  go_wp2
  refine bodyPost_ret (v := .tuple #[.agg #[.int .u16 (u.1.1 : Int), .int .u64 (u.1.2 : Int)], .bool u.2]) ?_ rfl ?_
  · simp [results, Try.f24, go_sem, y1, y2]
  · exact ⟨rfl, (HB2.out.setCell (by simp) _).setCell (by simp) _⟩
end Go.Proofs.Ytbaiiidkffafmaa.Dt
