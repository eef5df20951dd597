/- Words and contracts that the proofs of this seat stand on, part 7 of 22. -/
import Derived.Test.YtmebokpgiehgmaaGreatMgA
import Derived.Laws.BitsAllLaws
import Derived.WalkSmall
import Derived.Test.YtmebokpgiehgmaaGreatMgB
import Derived.Lib.SlicesCompact
import Derived.Lib.SliceRun
import Derived.Test.YtmebokpgiehgmaaGreatMgF
import Derived.Maps.OwnOps
import Derived.Maps.Ext
import Derived.DeepKeys4

/- The contracts of the program's functions of layer dot on single dots: Good, ahead, Cmp, ifGood, Unpack; and of shift's Split. For every dot and number of their types. -/
namespace Go.Proofs.YtmebokpgiehgmaaGreat.Dt
open Go.ChangeShapes Go.WideShapes Go.ChangeAt Go.RowKit
set_option linter.unusedVariables false

theorem below_new2 (w : World) (o1 o2 : Obj) : Below w.heap.size w ((w.alloc o1).alloc o2) := (below_new w o1).alloc (below_new w o1).size o2
/-- a dot of its types. -/
def FitD (d : Dot) : Prop := d.1 < 65536 ∧ d.2 < 18446744073709551616
theorem pgood_any (w : World) (a n : Nat) :
    Calls Tryz.prog 44 #[.agg #[.int .u16 (a : Int), .int .u64 (n : Int)]] w fun e w' => e = .returned (.bool (mayD (a, n))) ∧ Below w.heap.size w w' := by
  have HB : Hid (Below w.heap.size w (w.alloc (.cells #[.int .u16 (a : Int), .int .u64 (n : Int)] 28))) := below_new w _
  by_cases c1 : 1 ≤ a
  · have d1 : ((a : Int) != 0) = true := by rw [bne_iff_ne]; omega
    by_cases c2 : 1 ≤ n
    · have d2 : ((n : Int) != 0) = true := by rw [bne_iff_ne]; omega
      have hd : mayD (a, n) = decide ((n : Int) ≤ 281474976710655) := decide_eq_decide.2 ⟨fun h => by have := h.2.2; simp at this; omega, fun h => ⟨c1, c2, by simp; omega⟩⟩
      rw [hd]
      clear hd
      go_enter Tryz.func44, Tryz.ntmps44
      go_wp2
      go_ret
      exact ⟨rfl, HB.out⟩
    · have hd : mayD (a, n) = false := decide_eq_false (fun h => c2 h.2.1)
      have d2 : ((n : Int) != 0) = false := by rw [bne_eq_false_iff_eq]; omega
      rw [hd]
      clear hd
      go_enter Tryz.func44, Tryz.ntmps44
      go_wp2
      go_ret
      exact ⟨rfl, HB.out⟩
  · have hd : mayD (a, n) = false := decide_eq_false (fun h => c1 h.1)
    have d1 : ((a : Int) != 0) = false := by rw [bne_eq_false_iff_eq]; omega
    rw [hd]
    clear hd
    go_enter Tryz.func44, Tryz.ntmps44
    go_wp2
    go_ret
    exact ⟨rfl, HB.out⟩
/-- the world with two dots more. -/
def two (w : World) (a b : Dot) : World := (w.alloc (.cells #[.int .u16 (a.1 : Int), .int .u64 (a.2 : Int)] 28)).alloc (.cells #[.int .u16 (b.1 : Int), .int .u64 (b.2 : Int)] 28)
theorem pahead_two (w : World) (a b : Dot) :
    Calls Tryz.prog 58 #[.agg #[.int .u16 (a.1 : Int), .int .u64 (a.2 : Int)], .agg #[.int .u16 (b.1 : Int), .int .u64 (b.2 : Int)]] w fun e w' => e = .returned (.bool (aheadD a b)) ∧ w' = two w a b := by
  obtain ⟨a1, a2⟩ := a
  obtain ⟨b1, b2⟩ := b
  by_cases h1 : a1 = b1
  · subst h1
    have hd : aheadD (a1, a2) (a1, b2) = decide (a2 < b2) := decide_eq_decide.2 ⟨fun h => by simp at h; omega, fun h => .inr ⟨rfl, by simp; omega⟩⟩
    rw [hd]
    clear hd
    go_enter Tryz.func58, Tryz.ntmps58
    go_wp2
    go_ret
    exact ⟨rfl, rfl⟩
  · have e1 : ((a1 : Int) != (b1 : Int)) = true := by rw [bne_iff_ne]; omega
    have hd : aheadD (a1, a2) (b1, b2) = decide (a1 < b1) := decide_eq_decide.2 ⟨fun h => by simp at h; omega, fun h => .inl (by simp; omega)⟩
    rw [hd]
    clear hd
    go_enter Tryz.func58, Tryz.ntmps58
    go_wp2
    go_ret
    exact ⟨rfl, rfl⟩
theorem pahead_any (w : World) (a b : Dot) :
    Calls Tryz.prog 58 #[.agg #[.int .u16 (a.1 : Int), .int .u64 (a.2 : Int)], .agg #[.int .u16 (b.1 : Int), .int .u64 (b.2 : Int)]] w fun e w' => e = .returned (.bool (aheadD a b)) ∧ Below w.heap.size w w' :=
  (pahead_two w a b).mono fun _ _ ⟨h1, h2⟩ => ⟨h1, by rw [h2]; exact below_new2 w _ _⟩
/-- what Cmp leaves: the two dots, laid once or twice. -/
def Left (w : World) (a b : Dot) (w' : World) : Prop := w' = two w a b ∨ w' = two (two w a b) a b
theorem pcmp_left (w : World) (a b : Dot) :
    Calls Tryz.prog 38 #[.agg #[.int .u16 (a.1 : Int), .int .u64 (a.2 : Int)], .agg #[.int .u16 (b.1 : Int), .int .u64 (b.2 : Int)]] w fun e w' => e = .returned (.int .i64 (cmpD a b)) ∧ Left w a b w' := by
  have CA := fun W => pahead_two W a b
  obtain ⟨a1, a2⟩ := a
  obtain ⟨b1, b2⟩ := b
  by_cases h : a1 = b1 ∧ a2 = b2
  · obtain ⟨rfl, rfl⟩ := h
    clear CA
    rw [cmp_same]
    go_enter Tryz.func38, Tryz.ntmps38
    go_wp2
    go_ret
    exact ⟨rfl, .inl rfl⟩
  · have hc : cmpD (a1, a2) (b1, b2) = if aheadD (a1, a2) (b1, b2) = true then -1 else 1 := if_neg (fun e => h (by cases e; exact ⟨rfl, rfl⟩))
    rw [hc]
    clear hc
    have hne : ((a1 : Int) == (b1 : Int)) = false ∨ (a1 = b1 ∧ ((a2 : Int) == (b2 : Int)) = false) := by
      by_cases e : a1 = b1
      · refine .inr ⟨by omega, ?_⟩; rw [beq_eq_false_iff_ne]; omega
      · refine .inl ?_; rw [beq_eq_false_iff_ne]; omega
    clear h
    rcases hne with q | ⟨rfl, q⟩
    all_goals
      generalize aheadD _ _ = ah at CA ⊢
      cases ah
      all_goals
        go_enter Tryz.func38, Tryz.ntmps38
        go_wp2_with fail
        refine (CA _).mono ?_
        rintro e w1 ⟨rfl, rfl⟩
        go_wp2
        go_ret
        exact ⟨rfl, .inr rfl⟩
theorem pcmp_any (w : World) (a b : Dot) :
    Calls Tryz.prog 38 #[.agg #[.int .u16 (a.1 : Int), .int .u64 (a.2 : Int)], .agg #[.int .u16 (b.1 : Int), .int .u64 (b.2 : Int)]] w fun e w' => e = .returned (.int .i64 (cmpD a b)) ∧ Below w.heap.size w w' :=
  (pcmp_left w a b).mono fun _ _ ⟨h1, h2⟩ => ⟨h1, by
    have h3 : Below w.heap.size w (two w a b) := below_new2 w _ _
    rcases h2 with rfl | rfl
    · exact h3
    · exact h3.trans (Below.mono (below_new2 (two w a b) _ _) h3.size)⟩
theorem wraps_u64 (n : Int) (h₀ : 0 ≤ n) (h₁ : n < 2 ^ 64) : IntKind.u64.wrap n = n := by rw [IntKind.wrap_u64]; omega
/-- a dot that may be, or none. -/
def keepD (d : Dot) : Dot × Bool := if mayD d = true then (d, true) else ((0, 0), false)
/-- a new block for a dot that comes out: in every later world it may be written. -/
theorem new_cells (w : World) : ∀ V, Below (w.alloc (.cells #[.int .u16 0, .int .u64 0] 28)).heap.size (w.alloc (.cells #[.int .u16 0, .int .u64 0] 28)) V → (V.cell? ⟨w.heap.size, 0, none⟩ = some (.int .u16 0) ∧ V.cell? ⟨w.heap.size, 1, none⟩ = some (.int .u64 0)) ∧ V.frozen? ⟨w.heap.size, 0, none⟩ = false ∧ V.frozen? ⟨w.heap.size, 1, none⟩ = false := by
  intro V hV
  have hc1 : (w.alloc (.cells #[.int .u16 0, .int .u64 0] 28)).cell? ⟨w.heap.size, 0, none⟩ = some (.int .u16 0) := by simp [go_sem]
  have hc2 : (w.alloc (.cells #[.int .u16 0, .int .u64 0] 28)).cell? ⟨w.heap.size, 1, none⟩ = some (.int .u64 0) := by simp [go_sem]
  exact ⟨⟨(hV.cell (World.block_lt_of_cell? _ _ hc1)).trans hc1, (hV.cell (World.block_lt_of_cell? _ _ hc2)).trans hc2⟩, (hV.frozen (World.block_lt_of_cell? _ _ hc1)).trans (World.frozen?_alloc_new _ _ _ _), (hV.frozen (World.block_lt_of_cell? _ _ hc2)).trans (World.frozen?_alloc_new _ _ _ _)⟩
end Go.Proofs.YtmebokpgiehgmaaGreat.Dt

/- The contracts of the program's Same and Has of layer dot. For every list. -/
namespace Go.Proofs.YtmebokpgiehgmaaGreat.Dt
open Go.ChangeShapes Go.WideShapes Go.ChangeAt Go.RowKit
set_option linter.unusedVariables false

end Go.Proofs.YtmebokpgiehgmaaGreat.Dt

/- The contract of the program's Rising of layer dot. For every list. -/
namespace Go.Proofs.YtmebokpgiehgmaaGreat.Dt
open Go.ChangeShapes Go.WideShapes Go.ChangeAt Go.RowKit
set_option linter.unusedVariables false

theorem pahead_later (w W : World) (a b : Dot) (hW : Below w.heap.size w W) :
    Calls Tryz.prog 58 #[.agg #[.int .u16 (a.1 : Int), .int .u64 (a.2 : Int)], .agg #[.int .u16 (b.1 : Int), .int .u64 (b.2 : Int)]] W fun e V => e = .returned (.bool (aheadD a b)) ∧ Below w.heap.size w V :=
  (pahead_any W a b).mono fun _ _ ⟨h1, h2⟩ => ⟨h1, hW.trans (h2.mono hW.size)⟩
theorem one_dot' (w : World) (d : Dot) : ∀ V, Below (w.alloc (.cells #[.int .u16 (d.1 : Int), .int .u64 (d.2 : Int)] 28)).heap.size (w.alloc (.cells #[.int .u16 (d.1 : Int), .int .u64 (d.2 : Int)] 28)) V → V.cell? ⟨w.heap.size, 0, none⟩ = some (.int .u16 (d.1 : Int)) ∧ V.cell? ⟨w.heap.size, 1, none⟩ = some (.int .u64 (d.2 : Int)) := by
  intro V hV
  have hc1 : (w.alloc (.cells #[.int .u16 (d.1 : Int), .int .u64 (d.2 : Int)] 28)).cell? ⟨w.heap.size, 0, none⟩ = some (.int .u16 (d.1 : Int)) := by simp [go_sem]
  have hc2 : (w.alloc (.cells #[.int .u16 (d.1 : Int), .int .u64 (d.2 : Int)] 28)).cell? ⟨w.heap.size, 1, none⟩ = some (.int .u64 (d.2 : Int)) := by simp [go_sem]
  exact ⟨(hV.cell (World.block_lt_of_cell? _ _ hc1)).trans hc1, (hV.cell (World.block_lt_of_cell? _ _ hc2)).trans hc2⟩
theorem rise_one (l : List Dot) (k : Nat) (h : k ≤ 1) : riseB (l.take k) = true := by
  rcases l with _ | ⟨a, l⟩
  · simp [riseB]
  · obtain rfl | rfl : k = 0 ∨ k = 1 := by omega
    · rfl
    · simp [riseB]

end Go.Proofs.YtmebokpgiehgmaaGreat.Dt

/- The contract of slices.Compact at dots. For every list of one's own. -/
namespace Go.Proofs.YtmebokpgiehgmaaGreat.Dt
open Go.ChangeShapes Go.WideShapes Go.ChangeAt Go.RowKit Go.Lib
set_option linter.unusedVariables false

theorem dv_set {l : List Dot} {k : Nat} (r : Dot) : dv (l.set k r) = ((dv l).set (k * 2) (.int .u16 (r.1 : Int))).set (k * 2 + 1) (.int .u64 (r.2 : Int)) := by
  induction l generalizing k with
  | nil => simp [dv]
  | cons x l ih =>
    cases k with
    | zero => rfl
    | succ k =>
      have e : ∀ (y : Dot) (m : List Dot), dv (y :: m) = .int .u16 (y.1 : Int) :: .int .u64 (y.2 : Int) :: dv m := fun _ _ => rfl
      have e1 : (k + 1) * 2 = k * 2 + 2 := by omega
      rw [List.set_cons_succ, e, e, ih, e1]
      rfl
theorem dv_at {l : List Dot} {k : Nat} (hk : k < l.length) : (dv l)[k * 2]? = some (.int .u16 ((l.toArray[k]!).1 : Int)) ∧ (dv l)[k * 2 + 1]? = some (.int .u64 ((l.toArray[k]!).2 : Int)) := by
  have e : l.toArray[k]! = l[k] := by rw [getElem!_pos _ _ (by simpa using hk)]; simp
  rw [e]
  exact dv_get (List.getElem?_eq_getElem hk)
/-- the cells of a row of dots, and that they may be written. -/
theorem row_at {w : World} {B g n cap : Nat} {d : List Dot} (h : w.ownsRow B 28 2 (.slice (some ⟨g, 0, none⟩) n cap) n (dv d)) (hd : d.length = n) {k : Nat} (hk : k < n) :
    (w.cell? ⟨g, k * 2, none⟩ = some (.int .u16 ((d.toArray[k]!).1 : Int)) ∧ w.cell? ⟨g, k * 2 + 1, none⟩ = some (.int .u64 ((d.toArray[k]!).2 : Int))) ∧ w.frozen? ⟨g, k * 2, none⟩ = false ∧ w.frozen? ⟨g, k * 2 + 1, none⟩ = false := by
  obtain ⟨h1, h2⟩ := dv_at (l := d) (k := k) (by omega)
  exact ⟨⟨(h.cellAt _ (by omega)).trans h1, (h.cellAt _ (by omega)).trans h2⟩, h.frozenAt _, h.frozenAt _⟩

theorem dv_cons (y : Dot) (m : List Dot) : dv (y :: m) = .int .u16 (y.1 : Int) :: .int .u64 (y.2 : Int) :: dv m := rfl
theorem dv_take (l : List Dot) (k : Nat) : (dv l).take (k * 2) = dv (l.take k) := by
  induction l generalizing k with
  | nil => simp [dv]
  | cons x l ih =>
    cases k with
    | zero => simp [dv]
    | succ k =>
      have e1 : (k + 1) * 2 = k * 2 + 2 := by omega
      rw [List.take_succ_cons, dv_cons, dv_cons, e1, List.take_succ_cons, List.take_succ_cons, ih]
/-- a row of one's own, cut. -/
theorem own_take {w : World} {B g n cap k : Nat} {xs : List Value} (h : w.ownsRow B 28 2 (.slice (some ⟨g, 0, none⟩) n cap) n xs) (hk : k ≤ n) : w.ownsRow B 28 2 (.slice (some ⟨g, 0, none⟩) k cap) k (xs.take (k * 2)) := by
  refine ⟨by rw [List.length_take, h.1]; omega, ?_⟩
  rcases h.2 with ⟨h', _⟩ | ⟨g', cap', cur, h', hb, hg, hnc, hcm, hcs, htake⟩
  · simp at h'
  · simp only [Value.slice.injEq, Option.some.injEq, Addr.mk.injEq, and_true, true_and] at h'
    obtain ⟨rfl, rfl⟩ := h'
    exact .inr ⟨g, cap, cur, rfl, hb, hg, by omega, hcm, hcs, by rw [← htake, List.take_take]; congr 1; omega⟩
/-- cells written into a row from a place on: what lies ahead of it stays. -/
theorem own_cells {w : World} {B g n cap : Nat} {xs : List Value} (o : Nat) (vs : List Value) (h : w.ownsRow B 28 2 (.slice (some ⟨g, 0, none⟩) n cap) n xs) : ∃ ys : List Value, (w.setCells g o vs).ownsRow B 28 2 (.slice (some ⟨g, 0, none⟩) n cap) n ys ∧ ys.take o = xs.take o ∧ w.grownBy (w.setCells g o vs) (some g) := by
  induction vs generalizing w xs o with
  | nil => exact ⟨xs, h, rfl, turn_refl _ _⟩
  | cons v vs ih =>
    obtain ⟨h1, h2⟩ := h.stored o v
    obtain ⟨ys, h3, h4, h5⟩ := ih (o + 1) h1
    refine ⟨ys, h3, ?_, h2.trans h5⟩
    have h6 := congrArg (List.take o) h4
    rw [List.take_take, List.take_take, show min o (o + 1) = o by omega] at h6
    rw [h6, List.take_set_of_le (Nat.le_refl _)]
theorem zeros_len (m : Nat) : (Builtin.zeroCells #[.int .u16 0, .int .u64 0] m).size = m * 2 := by simp [Builtin.zeroCells]
theorem zeros_one (m : Nat) : ∀ v ∈ (Builtin.zeroCells #[.int .u16 0, .int .u64 0] m).toList, v.oneCell' = true := by
  intro v hv
  simp [Builtin.zeroCells] at hv
  obtain ⟨i, _, rfl⟩ := hv
  rcases Nat.mod_two_eq_zero_or_one i with h | h <;> simp [h] <;> rfl
/-- clear of the end of a row of one's own. -/
theorem run_clear {w : World} {B g n cap k : Nat} {xs : List Value} (h : w.ownsRow B 28 2 (.slice (some ⟨g, 0, none⟩) n cap) n xs) (hk : k < n) (c' : Nat) (ty : TypeId) :
    (Builtin.clear_ #[22] ty #[.slice (some ⟨g, k * 2, none⟩) (n - k) c']).run Tryz.prog w = .ok (.tuple #[]) (w.setCells g (k * 2) (Builtin.zeroCells #[.int .u16 0, .int .u64 0] (n - k)).toList) := by
  have hl : (Builtin.zeroCells #[.int .u16 0, .int .u64 0] (n - k)).toList.length = (n - k) * 2 := by rw [Array.length_toList, zeros_len]
  have hst := run_storeCells_cells (P := Tryz.prog) g (k * 2) (Builtin.zeroCells #[.int .u16 0, .int .u64 0] (n - k)).toList 0 w
    (fun j hj => by
      rw [hl] at hj
      have h1 := h.1
      rw [h.cellAt _ (by omega), List.getElem?_eq_getElem (by omega)]; rfl)
    (fun j hj => h.frozenAt _) (zeros_one _)
  simp only [Nat.add_zero] at hst
  obtain ⟨m, hm⟩ : ∃ m, n - k = m + 1 := ⟨n - k - 1, by omega⟩
  rw [hm] at hst ⊢
  simp [Builtin.clear_, run_underlying Tryz.underlying22, Value.cells, hst]

theorem comp_take {d : Array Dot} {n kk : Nat} {dk : List Dot} (h : CompInv d n kk dk.toArray) (hk : kk ≤ dk.length) : dk.take kk = compactUpTo d n := by
  apply List.ext_getElem?
  intro j
  rw [List.getElem?_take]
  by_cases hj : j < kk
  · rw [if_pos hj, h.low j hj, getElem!_pos dk.toArray j (by simpa using Nat.lt_of_lt_of_le hj hk), List.getElem?_eq_getElem (by omega)]
    simp
  · rw [if_neg hj, List.getElem?_eq_none (by rw [h.len]; omega)]
theorem grown_drew {w wr : World} {r : Option Nat} (h : w.grownBy wr r) (q : Nat) : w.grownBy (wr.drewN q) r := h.trans ⟨rfl, rfl, rfl, Nat.le_refl _, fun _ _ _ => rfl⟩
set_option maxHeartbeats 4000000 in
theorem pcompact_any (w : World) (B g cap n : Nat) (d : List Dot) (hn : d.length = n) (h62 : n < 4611686018427387904) (h : w.ownsRow B 28 2 (.slice (some ⟨g, 0, none⟩) n cap) n (dv d)) :
    Calls Tryz.prog 39 #[.slice (some ⟨g, 0, none⟩) n cap] w fun e w' => ∃ k, e = .returned (.slice (some ⟨g, 0, none⟩) k cap) ∧ k = (compactUpTo d.toArray n).length ∧ w'.ownsRow B 28 2 (.slice (some ⟨g, 0, none⟩) k cap) k (dv (compactUpTo d.toArray n)) ∧ w.grownBy w' (some g) := by
  have H := Lib.hid h
  have HN := Lib.hid hn
  have hcap := (own_len h).1
  clear h hn
  by_cases h2 : n < 2
  · have d2 : decide ((n : Int) < 2) = true := decide_eq_true (by omega)
    have e : compactUpTo d.toArray n = d := by
      rw [compactUpTo_all d.toArray n (fun j hj => keeps_lt_one _ j (by omega))]
      have := range_map_get d.toArray
      simp only [List.size_toArray, HN.out] at this
      rw [this]
    rw [e]
    go_enter Tryz.func39, Tryz.ntmps39
    go_wp2
    go_ret
    exact ⟨n, rfl, HN.out.symm, H.out, turn_refl _ _⟩
  · have d2 : decide ((n : Int) < 2) = false := decide_eq_false (by omega)
    go_enter Tryz.func39, Tryz.ntmps39
    go_wp2
    go_loopw [3] (fun i wr => ∃ k q : Nat, i = .int .i64 (k : Int) ∧ 1 ≤ k ∧ k ≤ n ∧ wr = w.drewN q ∧ ∀ j, j < k → keeps d.toArray j = true) (fun i _ => n - (intOf i).toNat)
    case atStart => exact ⟨1, 0, rfl, Nat.le_refl _, by omega, rfl, keeps_lt_one _⟩
    case round =>
      obtain ⟨k, q, rfl, hk1, hk, rfl, hall⟩ := hrel
      have A := Lib.hid hall
      clear hall
      by_cases hlt : k < n
      · obtain ⟨⟨c1, c2⟩, _, _⟩ := row_at H.out HN.out hlt
        obtain ⟨⟨c3, c4⟩, _, _⟩ := row_at H.out HN.out (k := k - 1) (by omega)
        generalize hx : d.toArray[k]! = x at c1 c2
        generalize hy : d.toArray[k - 1]! = y at c3 c4
        obtain ⟨x1, x2⟩ := x
        obtain ⟨y1, y2⟩ := y
        have BB := Lib.hid (And.intro hx hy)
        clear hx hy
        obtain ⟨i, rfl⟩ : ∃ i, k = i + 1 := ⟨k - 1, by omega⟩
        have ei : i + 1 - 1 = i := by omega
        rw [ei] at c3 c4
        clear ei
        by_cases hxy : x1 = y1 ∧ x2 = y2
        · obtain ⟨rfl, rfl⟩ := hxy
          have HS := Lib.hid (CompInv.start A.out (keeps_neg (d := d.toArray) (m := i + 1) (by omega) (by rw [BB.out.1, BB.out.2])))
          have hcap1 : i + 1 < cap := by omega
          have HCap := Lib.hid hcap
          clear hk1 hk hcap
          go_wp2_with fail
          go_quiet (fail)
          clear c1 c2 c3 c4
          go_wp2
          go_loopw [3, 5] (fun s3 s5 wr => ∃ (kk j : Nat) (dk : List Dot), s3 = .int .i64 (kk : Int) ∧ s5 = .int .i64 ((j : Int) + 1) ∧ i + 1 + (j + 1) ≤ n ∧ wr.ownsRow B 28 2 (.slice (some ⟨g, 0, none⟩) n cap) n (dv dk) ∧ dk.length = n ∧ CompInv d.toArray (i + 1 + (j + 1)) kk dk.toArray ∧ w.grownBy wr (some g)) (fun _ s5 _ => n - (intOf s5).toNat)
          case atStart => exact ⟨i + 1, 0, d, rfl, rfl, by omega, H.out, HN.out, HS.out, ⟨rfl, rfl, rfl, Nat.le_refl _, fun _ _ _ => rfl⟩⟩
          case round =>
            obtain ⟨kk, j, dk, rfl, rfl, hle, hw, hl, hI, hg⟩ := hrel
            have hkk := hI.lt
            have W := Lib.hid hw
            have L := Lib.hid hl
            have I := Lib.hid hI
            have G := Lib.hid hg
            clear hw hl hI hg
            by_cases hlt2 : i + 1 + (j + 1) < n
            · obtain ⟨⟨a1, a2⟩, _, _⟩ := row_at W.out L.out hlt2
              obtain ⟨⟨a3, a4⟩, _, _⟩ := row_at W.out L.out (k := i + 1 + j) (by omega)
              obtain ⟨⟨a5, a6⟩, f5, f6⟩ := row_at W.out L.out (k := kk) (by omega)
              rw [I.out.high (i + 1 + (j + 1)) (by omega), show (i + 1 + (j + 1)) * 2 = (i + 1) * 2 + (j + 1) * 2 by omega] at a1 a2
              rw [I.out.high (i + 1 + j) (by omega), show (i + 1 + j) * 2 = (i + 1) * 2 + j * 2 by omega] at a3 a4
              generalize hu : d.toArray[i + 1 + (j + 1)]! = u at a1 a2
              generalize hv : d.toArray[i + 1 + j]! = v at a3 a4
              generalize dk.toArray[kk]! = old at a5 a6
              have C := Lib.hid (And.intro hu hv)
              clear hu hv
              obtain ⟨u1, u2⟩ := u
              obtain ⟨v1, v2⟩ := v
              by_cases huv : u1 = v1 ∧ u2 = v2
              · obtain ⟨rfl, rfl⟩ := huv
                go_wp2_with fail
                go_quiet (fail)
                go_wp2
                go_roundw
                case rel => exact ⟨kk, j + 1, dk, rfl, by go_num, by omega, W.out, L.out, I.out.skip (keeps_neg (by omega) (by rw [C.out.1]; exact C.out.2.symm)), grown_drew G.out _⟩
                case measure => simp [intOf]; omega
              · have HK : Hid (CompInv d.toArray (i + 1 + (j + 1 + 1)) (kk + 1) (dk.set kk (u1, u2)).toArray) := by
                  have h1 := I.out.keep (by simp only [List.size_toArray]; rw [HN.out]; exact hlt2) (keeps_pos (by
                    rw [C.out.1]
                    intro e
                    have h2 := C.out.2
                    rw [show i + 1 + (j + 1) - 1 = i + 1 + j by omega] at e
                    rw [h2] at e
                    cases e
                    exact huv ⟨rfl, rfl⟩))
                  rw [C.out.1] at h1
                  have h3 : (dk.set kk (u1, u2)).toArray = dk.toArray.setIfInBounds kk (u1, u2) := by simp
                  rw [h3]
                  exact h1
                have HW : Hid (∀ q, ∃ V, V = ((wr.drewN q).setCell ⟨g, kk * 2, none⟩ (.int .u16 (u1 : Int))).setCell ⟨g, kk * 2 + 1, none⟩ (.int .u64 (u2 : Int)) ∧ V.ownsRow B 28 2 (.slice (some ⟨g, 0, none⟩) n cap) n (dv (dk.set kk (u1, u2))) ∧ w.grownBy V (some g)) := fun q => by
                  have h0 : (wr.drewN q).ownsRow B 28 2 (.slice (some ⟨g, 0, none⟩) n cap) n (dv dk) := W.out
                  obtain ⟨h1, g1⟩ := h0.stored (kk * 2) (.int .u16 (u1 : Int))
                  obtain ⟨h2, g2⟩ := h1.stored (kk * 2 + 1) (.int .u64 (u2 : Int))
                  exact ⟨_, rfl, by rw [dv_set]; exact h2, ((grown_drew G.out q).trans g1).trans g2⟩
                have hkn : kk < n := by omega
                have key : ((u1 : Int) == (v1 : Int)) = false ∨ (u1 = v1 ∧ ((u2 : Int) == (v2 : Int)) = false) := by
                  by_cases e : u1 = v1
                  · refine .inr ⟨e, ?_⟩; rw [beq_eq_false_iff_ne]; intro e2; exact huv ⟨e, by omega⟩
                  · refine .inl ?_; rw [beq_eq_false_iff_ne]; omega
                clear huv C hkk
                rcases key with k1 | ⟨rfl, k1⟩
                all_goals
                  go_wp2_with fail
                  go_quiet (fail)
                  go_wp2
                  go_roundw
                  case rel =>
                    obtain ⟨V, rfl, h1, h2⟩ := HW.out nq
                    exact ⟨kk + 1, j + 1, dk.set kk (u1, u2), by go_num, by go_num, by omega, h1, by rw [List.length_set]; exact L.out, HK.out, h2⟩
                  case measure => simp [intOf]; omega
            · have hend : i + 1 + (j + 1) = n := by omega
              have hkn : kk < n := by omega
              have hkc : kk < cap := Nat.lt_of_lt_of_le hkn HCap.out
              have hI := I.out
              rw [hend] at hI
              have HT := Lib.hid (comp_take hI (by rw [L.out]; omega))
              have HL := Lib.hid hI.len
              have hcl := fun ty => run_clear W.out hkn (cap - kk) ty
              obtain ⟨ys, hy1, hy2, hy3⟩ := own_cells (kk * 2) (Builtin.zeroCells #[.int .u16 0, .int .u64 0] (n - kk)).toList W.out
              have HY : Hid ((wr.setCells g (kk * 2) (Builtin.zeroCells #[.int .u16 0, .int .u64 0] (n - kk)).toList).ownsRow B 28 2 (.slice (some ⟨g, 0, none⟩) kk cap) kk (dv (compactUpTo d.toArray n))) := by
                have h1 := own_take hy1 (k := kk) (by omega)
                rw [hy2, dv_take, HT.out] at h1
                exact h1
              have HG := Lib.hid (G.out.trans hy3)
              clear hI hy1 hy2 hy3 hkk
              generalize wr.setCells g (kk * 2) (Builtin.zeroCells #[.int .u16 0, .int .u64 0] (n - kk)).toList = wz at hcl HY HG
              go_wp2
              go_ret
              exact ⟨kk, rfl, HL.out.symm, HY.out, HG.out⟩
        · have key : ((x1 : Int) == (y1 : Int)) = false ∨ (x1 = y1 ∧ ((x2 : Int) == (y2 : Int)) = false) := by
            by_cases e : x1 = y1
            · refine .inr ⟨e, ?_⟩; rw [beq_eq_false_iff_ne]; intro e2; exact hxy ⟨e, by omega⟩
            · refine .inl ?_; rw [beq_eq_false_iff_ne]; omega
          have HK : Hid (∀ j, j < i + 1 + 1 → keeps d.toArray j = true) := fun j hj => by
            by_cases e : j = i + 1
            · subst e
              refine keeps_pos ?_
              rw [BB.out.1, BB.out.2]
              intro e
              cases e
              exact hxy ⟨rfl, rfl⟩
            · exact A.out j (by omega)
          clear hxy hcap
          rcases key with k1 | ⟨rfl, k1⟩
          all_goals
            go_wp2_with fail
            go_quiet (fail)
            go_wp2
            go_roundw
            case rel => exact ⟨i + 1 + 1, _, by go_num, by omega, by omega, rfl, HK.out⟩
            case measure => simp [intOf]; omega
      · have e : compactUpTo d.toArray n = d := by
          obtain rfl : k = n := by omega
          rw [compactUpTo_all d.toArray k A.out]
          have := range_map_get d.toArray
          simp only [List.size_toArray, HN.out] at this
          rw [this]
        have E := Lib.hid e
        clear e
        go_wp2
        go_ret
        rw [E.out]
        exact ⟨n, rfl, HN.out.symm, H.out, ⟨rfl, rfl, rfl, Nat.le_refl _, fun _ _ _ => rfl⟩⟩
end Go.Proofs.YtmebokpgiehgmaaGreat.Dt

/- What the walk of layer event's law EventOwn stands on: stores into a list of one's own, and what lies apart of it. -/
namespace Go.Proofs.YtmebokpgiehgmaaGreat.Ev
open Go.ChangeShapes Go.WideShapes Go.ChangeAt Go.RowKit
set_option linter.unusedVariables false
set_option maxRecDepth 4000

/-- all but block g is as it was. -/
structure Apart (g : Nat) (w W : World) : Prop where
  os : W.os = w.os
  tape : W.tape = w.tape
  output : W.output = w.output
  size : W.heap.size = w.heap.size
  block : ∀ k, k ≠ g → W.heap[k]? = w.heap[k]?
theorem Apart.refl (g : Nat) (w : World) : Apart g w w := ⟨rfl, rfl, rfl, rfl, fun _ _ => rfl⟩
theorem Apart.drewN {g : Nat} {w W : World} (h : Apart g w W) (m : Nat) : Apart g w (W.drewN m) := ⟨h.os, h.tape, h.output, h.size, h.block⟩
theorem Apart.setCell {g : Nat} {w W : World} (h : Apart g w W) {a : Addr} (ha : a.block = g) (v : Value) : Apart g w (W.setCell a v) :=
  ⟨h.os, h.tape, h.output, (World.size_setCell _ _ _).trans h.size, fun k hk => (Below.heap_setCell W a v k (by rw [ha]; exact hk)).trans (h.block k hk)⟩
theorem Apart.below {g B : Nat} {w W : World} (h : Apart g w W) (hB : B ≤ g) : Below B w W := ⟨h.os, h.tape, h.output, by rw [h.size]; exact Nat.le_refl _, fun k hk => h.block k (by omega)⟩
theorem Apart.cell {g : Nat} {w W : World} (h : Apart g w W) {a : Addr} (ha : a.block ≠ g) : W.cell? a = w.cell? a := World.cell?_of_block (w := w) (h.block _ ha)
theorem Apart.frozen {g : Nat} {w W : World} (h : Apart g w W) {a : Addr} (ha : a.block ≠ g) : W.frozen? a = w.frozen? a := World.frozen?_of_block (w := w) (h.block _ ha)
theorem CellsAt.apart {g : Nat} {w W : World} {a : Addr} {p : EV} (h : CellsAt w a p) (hb : Apart g w W) (ha : a.block ≠ g) : CellsAt W a p :=
  ⟨(hb.cell ha).trans h.c0, (hb.cell (a := ⟨a.block, a.off + 1, none⟩) ha).trans h.c1, (hb.cell (a := ⟨a.block, a.off + 2, none⟩) ha).trans h.c2, (hb.cell (a := ⟨a.block, a.off + 3, none⟩) ha).trans h.c3, (hb.cell (a := ⟨a.block, a.off + 4, none⟩) ha).trans h.c4, (hb.cell (a := ⟨a.block, a.off + 5, none⟩) ha).trans h.c5, (hb.cell (a := ⟨a.block, a.off + 6, none⟩) ha).trans h.c6⟩
/-- a list's block is not g. -/
def Off (g : Nat) (A : Option Addr) (n : Nat) : Prop := ∀ ad : Addr, A = some ad → 0 < n → ad.block ≠ g
theorem DotsAt.apart {g B : Nat} {w W : World} {A : Option Addr} {l : List Dt.Dot} {n c : Nat} (h : DotsAt w B A l n c) (hb : Apart g w W) (ha : Off g A n) : DotsAt W B A l n c := by
  refine ⟨h.len, h.nil, h.cap, h.max, h.wide, h.dots.1, fun hl => ?_⟩
  obtain ⟨ad, e, hB, hc⟩ := h.dots.2 hl
  have h0 : 0 < n := by rw [Dt.dv_length, h.len] at hl; omega
  exact ⟨ad, e, hB, fun j u hu => (hb.cell (by rw [block_add]; exact ha ad e h0)).trans (hc j u hu)⟩
theorem Free.apart {g B : Nat} {w W : World} {A : Option Addr} {n : Nat} (h : Free w B A n) (hb : Apart g w W) (ha : Off g A n) : Free W B A n := fun j hj => by
  obtain ⟨ad, e, h1, h2, h3⟩ := h j hj
  exact ⟨ad, e, h1, (hb.frozen (by rw [block_add]; exact ha ad e (by omega))).trans h2, (hb.frozen (by rw [block_add]; exact ha ad e (by omega))).trans h3⟩
theorem Free.kept {B : Nat} {w W : World} {A : Option Addr} {l : List Dt.Dot} {n c : Nat} (h : Free w B A n) (hd : DotsAt w w.heap.size A l n c) (hb : Below w.heap.size w W) : Free W B A n := fun j hj => by
  obtain ⟨ad, e, h1, h2, h3⟩ := h j hj
  obtain ⟨ad', e', hB, _⟩ := hd.dots.2 (by rw [Dt.dv_length, hd.len]; omega)
  obtain rfl : ad = ad' := by rw [e] at e'; exact Option.some.inj e'
  exact ⟨ad, e, h1, (hb.frozen (by rw [block_add]; exact hB)).trans h2, (hb.frozen (by rw [block_add]; exact hB)).trans h3⟩

theorem lies_cells {W : World} {B : Nat} {ad : Addr} {m : List Dt.Dot} (hb : ad.block < B) (h : ∀ (k : Nat) (x : Dt.Dot), m[k]? = some x → W.cell? (ad.add (k * 2)) = some (.int .u16 (x.1 : Int)) ∧ W.cell? (ad.add (k * 2 + 1)) = some (.int .u64 (x.2 : Int))) : Dt.Lies W B (some ad) (Dt.dv m) := fun _ => by
  refine ⟨ad, rfl, hb, fun j u hu => ?_⟩
  have hj := (List.getElem?_eq_some_iff.1 hu).1
  rw [Dt.dv_length] at hj
  have hd : j / 2 < m.length := by omega
  have hg := List.getElem?_eq_getElem hd
  obtain ⟨g1, g2⟩ := Dt.dv_get hg
  obtain ⟨c1, c2⟩ := h _ _ hg
  rcases Nat.mod_two_eq_zero_or_one j with h0 | h0
  · have e : j = j / 2 * 2 := by omega
    rw [← e] at g1 c1
    rw [g1] at hu
    cases hu
    exact c1
  · have e : j = j / 2 * 2 + 1 := by omega
    rw [← e] at g2 c2
    rw [g2] at hu
    cases hu
    exact c2
theorem DotsAt.get {w : World} {B n c : Nat} {ad : Addr} {m : List Dt.Dot} (h : DotsAt w B (some ad) m n c) {k : Nat} {x : Dt.Dot} (hx : m[k]? = some x) :
    ad.block < B ∧ x.1 < 65536 ∧ x.2 < 18446744073709551616 ∧ w.cell? (ad.add (k * 2)) = some (.int .u16 (x.1 : Int)) ∧ w.cell? (ad.add (k * 2 + 1)) = some (.int .u64 (x.2 : Int)) := by
  have hk := (List.getElem?_eq_some_iff.1 hx).1
  obtain ⟨ad1, e1, hB, _⟩ := h.dots.2 (by rw [Dt.dv_length]; omega)
  obtain ⟨ad2, lo, hi, e2, hl, h1, h2, c1, c2⟩ := h.dots.at_ hk
  cases e1
  cases e2
  rw [hx] at hl
  cases hl
  exact ⟨hB, h1, h2, c1, c2⟩
theorem add_off (a : Addr) (n : Nat) : (a.add n).off = a.off + n := by
  unfold Addr.add
  split
  · subst_vars; rfl
  · rfl
theorem add_ne {a : Addr} {m n : Nat} (h : m ≠ n) : a.add m ≠ a.add n := fun e => by
  have := congrArg Addr.off e
  rw [add_off, add_off] at this
  omega
/-- a dot's number is another. -/
theorem DotsAt.num {w : World} {B n c k : Nat} {ad : Addr} {m : List Dt.Dot} {x : Dt.Dot} {z : Nat} (h : DotsAt w B (some ad) m n c) (hx : m[k]? = some x) (hz : z < 18446744073709551616) :
    DotsAt (w.setCell (ad.add (k * 2 + 1)) (.int .u64 (z : Int))) B (some ad) (m.set k (x.1, z)) n c := by
  obtain ⟨hB, h1, h2, d1, d2⟩ := h.get hx
  have hk := (List.getElem?_eq_some_iff.1 hx).1
  refine ⟨by rw [List.length_set]; exact h.len, h.nil, h.cap, h.max, h.wide, fun y hy => ?_, lies_cells hB fun i y hi => ?_⟩
  · rcases List.mem_or_eq_of_mem_set hy with hy | rfl
    · exact h.dots.1 y hy
    · exact ⟨h1, hz⟩
  · rw [List.getElem?_set] at hi
    by_cases e : k = i
    · subst e
      rw [if_pos rfl, if_pos hk] at hi
      cases hi
      exact ⟨(World.cell?_setCell_other _ _ _ _ (add_ne (by omega))).trans d1, World.cell?_setCell_same _ _ _ d2⟩
    · rw [if_neg e] at hi
      obtain ⟨_, _, _, e1, e2⟩ := h.get hi
      exact ⟨(World.cell?_setCell_other _ _ _ _ (add_ne (by omega))).trans e1, (World.cell?_setCell_other _ _ _ _ (add_ne (by omega))).trans e2⟩
/-- a dot's device is another. -/
theorem DotsAt.dev {w : World} {B n c k : Nat} {ad : Addr} {m : List Dt.Dot} {x : Dt.Dot} {z : Nat} (h : DotsAt w B (some ad) m n c) (hx : m[k]? = some x) (hz : z < 65536) :
    DotsAt (w.setCell (ad.add (k * 2)) (.int .u16 (z : Int))) B (some ad) (m.set k (z, x.2)) n c := by
  obtain ⟨hB, h1, h2, d1, d2⟩ := h.get hx
  have hk := (List.getElem?_eq_some_iff.1 hx).1
  refine ⟨by rw [List.length_set]; exact h.len, h.nil, h.cap, h.max, h.wide, fun y hy => ?_, lies_cells hB fun i y hi => ?_⟩
  · rcases List.mem_or_eq_of_mem_set hy with hy | rfl
    · exact h.dots.1 y hy
    · exact ⟨hz, h2⟩
  · rw [List.getElem?_set] at hi
    by_cases e : k = i
    · subst e
      rw [if_pos rfl, if_pos hk] at hi
      cases hi
      exact ⟨World.cell?_setCell_same _ _ _ d1, (World.cell?_setCell_other _ _ _ _ (add_ne (by omega))).trans d2⟩
    · rw [if_neg e] at hi
      obtain ⟨_, _, _, e1, e2⟩ := h.get hi
      exact ⟨(World.cell?_setCell_other _ _ _ _ (add_ne (by omega))).trans e1, (World.cell?_setCell_other _ _ _ _ (add_ne (by omega))).trans e2⟩
theorem Free.set {w : World} {B n : Nat} {A : Option Addr} (h : Free w B A n) (a : Addr) (v : Value) : Free (w.setCell a v) B A n := fun j hj => by
  obtain ⟨ad, e, h1, h2, h3⟩ := h j hj
  exact ⟨ad, e, h1, by rw [World.frozen?_setCell]; exact h2, by rw [World.frozen?_setCell]; exact h3⟩
theorem sort_one (x : Evt) : sortE [x] = [x] := by
  unfold sortE
  simp [putE, stE]
theorem out_new (w : World) : (w.alloc (.cells #[] 28)).ownsRow w.heap.size 28 2 (.slice (some ⟨w.heap.size, 0, none⟩) 0 0) 0 (Dt.dv []) := World.ownsRow_lit w #[] 0 (Nat.le_refl _) (by simp [maxLen]) rfl
/-- a copy of a list of dots, by an append to a new one. -/
theorem wpList_out {ops : Array Oper} {rest : List Oper} {o : Oper} {a : Act} {Q : Exit → Act → World → Prop} (hgd : o.guard = none) (s x : Operand) (ho : o.op = .call { callee := .builtin .append, args := #[s, x], argTypes := #[22, 22] }) (hty : o.type = 22)
    (w : World) (B g : Nat) (A : Option Addr) (m : List Dt.Dot) (n c : Nat) (hs : a.eval s = .slice (some ⟨g, 0, none⟩) 0 0) (hx : a.eval x = .slice A n c) (hw : w.ownsRow B 28 2 (.slice (some ⟨g, 0, none⟩) 0 0) 0 (Dt.dv [])) (hd : DotsAt w w.heap.size A m n c) (hB : B ≤ w.heap.size)
    (hK : ∀ A' c' w', w'.ownsRow B 28 2 (.slice A' n c') n (Dt.dv m) → w.grownBy w' (some g) → wpList Tryz.prog ops Q rest (a.put o.dst (.slice A' n c')) w') : wpList Tryz.prog ops Q (o :: rest) a w := by
  refine Dt.wpList_any hgd s x ho hty w B 0 _ [] A m n c hs hx hw hd.nil hd.dots.2 hd.len (by have := hd.wide; omega) hB fun A' c' w' h1 h2 => ?_
  rw [Nat.zero_add] at h1 ⊢
  exact hK A' c' w' h1 h2
/-- the copy that the law keeps. -/
theorem own_was {w w1 : World} {p : EV} {x : Evt} {A1 : Option Addr} {c1 : Nat} (hp : EventIs w w.heap.size p x)
    (ho : w1.ownsRow (w.heap.size + 1 + 1) 28 2 (.slice A1 p.len c1) p.len (Dt.dv x.kills)) (hg : (((w.alloc p.box).alloc p.box).alloc (.cells #[] 28)).grownBy w1 (some (w.heap.size + 1 + 1))) :
    w1.frozen? ⟨w.heap.size + 1, 6, none⟩ = false ∧ w1.cell? ⟨w.heap.size + 1, 6, none⟩ = some (.slice p.adr p.len p.cap) ∧ CellsAt (w1.setCell ⟨w.heap.size + 1, 6, none⟩ (.slice A1 p.len c1)) ⟨w.heap.size, 0, none⟩ p ∧
      CellsAt (w1.setCell ⟨w.heap.size + 1, 6, none⟩ (.slice A1 p.len c1)) ⟨w.heap.size + 1, 0, none⟩ ⟨p.dev, p.num, p.kind, p.cid, p.fld, p.txt, A1, p.len, c1⟩ ∧ EventIs (w1.setCell ⟨w.heap.size + 1, 6, none⟩ (.slice A1 p.len c1)) (w1.setCell ⟨w.heap.size + 1, 6, none⟩ (.slice A1 p.len c1)).heap.size ⟨p.dev, p.num, p.kind, p.cid, p.fld, p.txt, A1, p.len, c1⟩ x ∧
      Below w.heap.size w (w1.setCell ⟨w.heap.size + 1, 6, none⟩ (.slice A1 p.len c1)) := by
  have hb : Below (w.heap.size + 1 + 1) (((w.alloc p.box).alloc p.box).alloc (.cells #[] 28)) w1 := (Below.refl _ _).grown hg (by simp) (fun k e => by cases e; exact Nat.le_refl _)
  have h1 : Below (w.heap.size + 1) (w.alloc p.box) w1 := (by have h := below_new2 (w.alloc p.box) p.box (.cells #[] 28); rw [alloc_size] at h; exact h.trans (hb.mono (by omega)))
  have h2 : Below (w.heap.size + 1 + 1) ((w.alloc p.box).alloc p.box) w1 := (by have h := below_new ((w.alloc p.box).alloc p.box) (.cells #[] 28); rw [alloc_size, alloc_size] at h; exact h.trans hb)
  have e1 := box_new w p w1 h1
  have e2 := box_new (w.alloc p.box) p w1 (by rw [alloc_size]; exact h2)
  rw [alloc_size] at e2
  have h3 : Below w.heap.size w w1 := (below_new w p.box).trans (h1.mono (by omega))
  have h4 : Below w.heap.size w (w1.setCell ⟨w.heap.size + 1, 6, none⟩ (.slice A1 p.len c1)) := h3.setCell (by show _ ≤ w.heap.size + 1; omega) _
  have h5 := ownsRow_setCell_below ho (a := ⟨w.heap.size + 1, 6, none⟩) (by show w.heap.size + 1 < _; omega) (.slice A1 p.len c1)
  obtain ⟨k1, k2, k3⟩ := Dt.own_len h5
  obtain ⟨a0, a1, a2, a3, a4, a5, a6⟩ := e2.all
  have ot : ∀ {k : Nat} {v : Value}, k ≠ 6 → w1.cell? ⟨w.heap.size + 1, k, none⟩ = some v → (w1.setCell ⟨w.heap.size + 1, 6, none⟩ (.slice A1 p.len c1)).cell? ⟨w.heap.size + 1, k, none⟩ = some v := fun {k v} hk h => (World.cell?_setCell_other _ _ _ _ (fun e => hk (by cases e; rfl))).trans h
  refine ⟨?_, a6, e1.apart ((Apart.refl (w.heap.size + 1) w1).setCell rfl _) (by show w.heap.size ≠ _; omega), ⟨ot (k := 0) (by decide) a0, ?_, ?_, ?_, ?_, ?_, ?_⟩, ⟨hp.dev, hp.num, hp.kind, hp.cid, hp.fld, hp.txt, hp.fits, ⟨hp.kills.len, k3, k1, k2, hp.kills.wide, Dt.dots_own h5 hp.kills.dots.1⟩⟩, h4⟩
  · rw [h2.frozen (by show w.heap.size + 1 < _; omega)]
    first | (simp [go_sem]; done) | (simp [World.frozen?, World.alloc_eq]; done) | (rw [frozen?_alloc_cells, frozen?_alloc_cells]; simp [World.frozen?])
  · exact ot (k := 1) (by decide) a1
  · exact ot (k := 2) (by decide) a2
  · exact ot (k := 3) (by decide) a3
  · exact ot (k := 4) (by decide) a4
  · exact ot (k := 5) (by decide) a5
  · exact World.cell?_setCell_same _ _ _ a6
/-- a list of one's own lies in one block. -/
theorem own_block {w : World} {B n c V : Nat} {A : Option Addr} {l : List Dt.Dot} (hd : DotsAt w w.heap.size A l n c) (hf : Free w B A n) (hV : w.heap.size ≤ V) (hB : B ≤ V) :
    ∃ g, (∀ ad : Addr, A = some ad → 0 < n → ad.block = g) ∧ B ≤ g ∧ ((g < w.heap.size ∧ 0 < n) ∨ g = V) := by
  by_cases h0 : 0 < n
  · obtain ⟨ad, e, h1, _, _⟩ := hf 0 h0
    obtain ⟨ad', e', hB', _⟩ := hd.dots.2 (by rw [Dt.dv_length, hd.len]; omega)
    rw [e] at e'
    cases e'
    exact ⟨ad.block, fun b hb _ => by rw [e] at hb; cases hb; rfl, h1, .inl ⟨hB', h0⟩⟩
  · exact ⟨V, fun _ _ h => absurd h h0, hB, .inr rfl⟩
theorem off_below {w : World} {g B n c : Nat} {A : Option Addr} {l : List Dt.Dot} (hd : DotsAt w B A l n c) (hB : B ≤ g) : Off g A n := fun ad e h0 => by
  obtain ⟨ad', e', hB', _⟩ := hd.dots.2 (by rw [Dt.dv_length, hd.len]; omega)
  rw [e] at e'
  cases e'
  omega
theorem off_above {w : World} {g B n : Nat} {A : Option Addr} (hf : Free w B A n) (hB : g < B) : Off g A n := fun ad e h0 => by
  obtain ⟨ad', e', h1, _, _⟩ := hf 0 h0
  rw [e] at e'
  cases e'
  omega
theorem Free.less {w : World} {B B' n : Nat} {A : Option Addr} (h : Free w B A n) (hB : B' ≤ B) : Free w B' A n := fun j hj => by
  obtain ⟨ad, e, h1, h2, h3⟩ := h j hj
  exact ⟨ad, e, Nat.le_trans hB h1, h2, h3⟩
/-- what holds at each round's head of a loop that turns a list of dots of one's own. -/
def TurnL (g : Nat) (w0 : World) (A : Option Addr) (n c : Nat) (i : Value) (W : World) : Prop :=
  ∃ (k : Nat) (m : List Dt.Dot), k ≤ n ∧ i = .int .i64 (k : Int) ∧ Apart g w0 W ∧ DotsAt W w0.heap.size A m n c ∧ Free W 0 A n
theorem turn_start {g n c B : Nat} {w0 : World} {A : Option Addr} {m : List Dt.Dot} (hd : DotsAt w0 w0.heap.size A m n c) (hf : Free w0 B A n) : TurnL g w0 A n c (.int .i64 0) w0 :=
  ⟨0, m, Nat.zero_le _, rfl, Apart.refl _ _, hd, hf.less (Nat.zero_le _)⟩
theorem turn_num {g n c k z : Nat} {w0 wr : World} {ad : Addr} {m : List Dt.Dot} {y : Dt.Dot} (hk : k < n) (hg : ad.block = g) (h : Apart g w0 wr) (hd : DotsAt wr w0.heap.size (some ad) m n c) (hf : Free wr 0 (some ad) n) (hy : m[k]? = some y) (hz : z < 18446744073709551616) :
    TurnL g w0 (some ad) n c (.int .i64 ((k : Int) + 1)) (wr.setCell ⟨(ad.add (k * 2)).block, (ad.add (k * 2)).off + 1, none⟩ (.int .u64 (z : Int))) :=
  ⟨k + 1, m.set k (y.1, z), hk, by go_num, h.setCell (a := ⟨(ad.add (k * 2)).block, (ad.add (k * 2)).off + 1, none⟩) ((block_add ad (k * 2)).trans hg) _, by rw [add_eq _ _ _ (by decide)]; exact hd.num hy hz, hf.set _ _⟩
theorem turn_dev {g n c k z : Nat} {w0 wr : World} {ad : Addr} {m : List Dt.Dot} {y : Dt.Dot} (hk : k < n) (hg : ad.block = g) (h : Apart g w0 wr) (hd : DotsAt wr w0.heap.size (some ad) m n c) (hf : Free wr 0 (some ad) n) (hy : m[k]? = some y) (hz : z < 65536) :
    TurnL g w0 (some ad) n c (.int .i64 ((k : Int) + 1)) (wr.setCell (ad.add (k * 2)) (.int .u16 (z : Int))) :=
  ⟨k + 1, m.set k (z, y.2), hk, by go_num, h.setCell ((block_add _ _).trans hg) _, hd.dev hy hz, hf.set _ _⟩
/-- what a round reads and where it stores. -/
theorem turn_at {n c k : Nat} {B : Nat} {wr : World} {A : Option Addr} {m : List Dt.Dot} (hk : k < n) (hd : DotsAt wr B A m n c) (hf : Free wr 0 A n) :
    ∃ (ad : Addr) (y1 y2 : Nat), A = some ad ∧ m[k]? = some (y1, y2) ∧ y1 < 65536 ∧ y2 < 18446744073709551616 ∧ wr.cell? (ad.add (k * 2)) = some (.int .u16 (y1 : Int)) ∧ wr.cell? ⟨(ad.add (k * 2)).block, (ad.add (k * 2)).off + 1, none⟩ = some (.int .u64 (y2 : Int)) ∧
      wr.frozen? (ad.add (k * 2)) = false ∧ wr.frozen? ⟨(ad.add (k * 2)).block, (ad.add (k * 2)).off + 1, none⟩ = false := by
  obtain ⟨ad, rfl, _, f1, f2⟩ := hf k hk
  have hkm : k < m.length := by rw [hd.len]; exact hk
  have hy := List.getElem?_eq_getElem hkm
  obtain ⟨_, h1, h2, c1, c2⟩ := hd.get hy
  refine ⟨ad, m[k].1, m[k].2, rfl, hy, h1, h2, c1, ?_, f1, ?_⟩
  · rw [add_eq _ _ _ (by decide)]; exact c2
  · rw [add_eq _ _ _ (by decide)]; exact f2
end Go.Proofs.YtmebokpgiehgmaaGreat.Ev

/- Maps from dots to bools: which dots such a map holds. -/
namespace Go.Proofs.YtmebokpgiehgmaaGreat.Kl
open Go.ChangeShapes Go.WideShapes Go.ChangeAt Go.RowKit Go.Maps
set_option linter.unusedVariables false
set_option maxRecDepth 4000

theorem laidOutP : laidOutB Tryz.prog = true := by kernel_rfl
theorem rowDot : (28 : TypeId) < Tryz.prog.types.size := of_decide_eq_true (by kernel_rfl)
theorem keyTypeDot : Tryz.prog.keyType 28 = true := by kernel_rfl
theorem lawD : Keyed Tryz.prog 28 := Keyed.of_law (deep_law_laid laidOutP (m := 2) (by omega) rowDot (by kernel_rfl) (by kernel_rfl))
/-- a dot as a value, and as a key. -/
def dval (d : Dt.Dot) : Value := .agg #[.int .u16 (d.1 : Int), .int .u64 (d.2 : Int)]
def keyD (d : Dt.Dot) : Lit := .string (keyBytes [.int .u16 (d.1 : Int), .int .u64 (d.2 : Int)])
theorem wf16' {d : Nat} (h : d < 65536) : (Lit.int .u16 (d : Int)).wf = true := by
  simp [Lit.wf, IntKind.min, IntKind.max, IntKind.bits, IntKind.signed]; omega
theorem wf64' {n : Nat} (h : n < 18446744073709551616) : (Lit.int .u64 (n : Int)).wf = true := by
  simp [Lit.wf, IntKind.min, IntKind.max, IntKind.bits, IntKind.signed]; omega
theorem sizeTypes : ∃ m, Tryz.prog.types.size = m + 1 := ⟨_, (by kernel_rfl : Tryz.prog.types.size = (Tryz.prog.types.size - 1) + 1)⟩
theorem lits16 (m : Nat) {d : Nat} (h : d < 65536) : Tryz.prog.keyLits (m + 1) 25 [.int .u16 (d : Int)] = some [.int .u16 (d : Int)] := by
  unfold Program.keyLits
  simp only [Tryz.underlying25, wf16' h, and_self, if_true]
theorem lits64 (m : Nat) {d : Nat} (h : d < 18446744073709551616) : Tryz.prog.keyLits (m + 1) 26 [.int .u64 (d : Int)] = some [.int .u64 (d : Int)] := by
  unfold Program.keyLits
  simp only [Tryz.underlying26, wf64' h, and_self, if_true]
theorem cellsDot : Tryz.prog.cellsOf 28 = 2 := by kernel_rfl
theorem cells16 : Tryz.prog.cellsOf 25 = 1 := by kernel_rfl
theorem cells64 : Tryz.prog.cellsOf 26 = 1 := by kernel_rfl
theorem litsDot (m : Nat) {d : Dt.Dot} (h : d.1 < 65536 ∧ d.2 < 18446744073709551616) : Tryz.prog.keyLits (m + 1 + 1) 28 [.int .u16 (d.1 : Int), .int .u64 (d.2 : Int)] = some [.int .u16 (d.1 : Int), .int .u64 (d.2 : Int)] := by
  have h1 := lits16 m h.1
  have h2 := lits64 m h.2
  unfold Program.keyLits
  simp only [Tryz.underlying28, cellsDot]
  simp [cells16, cells64, h1, h2]
theorem formedDot (d : Dt.Dot) : (dval d).formed Tryz.prog 28 = true := by
  unfold dval Value.formed
  simp only [Tryz.underlying28, cellsDot]
  rfl
theorem keyD_is {d : Dt.Dot} (h : d.1 < 65536 ∧ d.2 < 18446744073709551616) : keyOf Tryz.prog 28 (dval d) = some (keyD d) := by
  obtain ⟨m, hm⟩ := sizeTypes
  have h1 := litsDot m h
  rw [← hm] at h1
  unfold keyOf
  simp only [Tryz.underlying28]
  rw [if_pos (by rw [keyTypeDot, formedDot]; rfl), show (dval d).cells.toList = [.int .u16 (d.1 : Int), .int .u64 (d.2 : Int)] from rfl, h1]
  rfl
theorem keyD_lit (d : Dt.Dot) : WideAt.IsKeyLit (keyD d) := trivial
theorem keyD_inj {d e : Dt.Dot} (hd : d.1 < 65536 ∧ d.2 < 18446744073709551616) (he : e.1 < 65536 ∧ e.2 < 18446744073709551616) (h : keyD d = keyD e) : d = e := by
  have h1 := lawD.inj (keyD_is hd) (by rw [h]; exact keyD_is he)
  obtain ⟨a, b⟩ := d
  obtain ⟨a', b'⟩ := e
  simp only [dval, Value.agg.injEq] at h1
  injection h1 with h1
  simp only [List.cons.injEq, Value.int.injEq, true_and, and_true] at h1
  obtain ⟨h2, h3⟩ := h1
  have : a = a' := by omega
  have : b = b' := by omega
  subst_vars
  rfl
abbrev boolL (b : Bool) : DataW Unit := .lit (.bool b)
theorem zeroB (w : World) : (zeroValue 4).run Tryz.prog w = .ok (.bool false) w := by kernel_rfl
theorem elem_inv {v : Value} {z : DataW Unit × List MemPlace} (h : plainElem Tryz.prog 4 v = some z) : ∃ b, v = .bool b ∧ z = (boolL b, []) := by
  unfold plainElem at h
  rw [Tryz.underlying4] at h
  cases v <;> simp at h
  exact ⟨_, rfl, h.symm⟩
/-- the map says of each dot what s says. -/
def HoldsD (D : DataW Unit) (s : Dt.Dot → Bool) : Prop := ∀ d : Dt.Dot, d.1 < 65536 ∧ d.2 < 18446744073709551616 → D.atKey (keyD d) (boolL false) = boolL (s d)
/-- block b is a map of at most n entries that says of each dot what s says. -/
def MapD (w : World) (b n : Nat) (s : Dt.Dot → Bool) : Prop := ∃ D : DataW Unit, w.ownsMap Tryz.prog 28 (plainElem Tryz.prog 4) b n D ∧ HoldsD D s
theorem MapD.lt {w : World} {b n : Nat} {s : Dt.Dot → Bool} (h : MapD w b n s) : b < w.heap.size := by
  obtain ⟨D, h1, _⟩ := h
  exact h1.lt
theorem MapD.up {w W : World} {b n : Nat} {s : Dt.Dot → Bool} (h : MapD w b n s) (hW : Below w.heap.size w W) : MapD W b n s := by
  have hlt := h.lt
  obtain ⟨D, ⟨es, clock, h1, h2⟩, h3⟩ := h
  exact ⟨D, ⟨es, clock, (hW.block b hlt).trans h1, h2⟩, h3⟩
theorem MapD.kept {w W : World} {b n : Nat} {s : Dt.Dot → Bool} {row : Option Nat} (h : MapD w b n s) (hg : w.grownBy W row) (hne : some b ≠ row) : MapD W b n s := by
  obtain ⟨D, h1, h2⟩ := h
  exact ⟨D, h1.kept hg hne, h2⟩
theorem mapD_new (w : World) : MapD (w.alloc (.map #[] 0)) w.heap.size 0 (fun _ => false) := ⟨.map [], World.ownsMap_made _ _ _ _, fun _ _ => rfl⟩
/-- a look-up. -/
theorem MapD.look {w : World} {b n : Nat} {s : Dt.Dot → Bool} (h : MapD w b n s) {d : Dt.Dot} (hd : d.1 < 65536 ∧ d.2 < 18446744073709551616) : (Instr.lookup 54 (.map (some b)) (.agg #[.int .u16 (d.1 : Int), .int .u64 (d.2 : Int)]) false).run Tryz.prog w = .ok (.bool (s d)) w := by
  obtain ⟨D, h1, h2⟩ := h
  obtain ⟨v, ps, hrun, hv⟩ := h1.lookup lawD Tryz.underlying54 (zeroB _) (plainElem_bool Tryz.underlying4 false) (keyD_is hd)
  rw [h2 d hd] at hv
  obtain ⟨c, rfl, hc⟩ := elem_inv hv
  have e : boolL (s d) = boolL c := congrArg Prod.fst hc
  injection e with e
  injection e with e
  rw [e]
  exact hrun
/-- a store of true. -/
theorem wpList_putD {ops : Array Oper} {rest : List Oper} {o : Oper} {a : Act} {w : World} {Q : Exit → Act → World → Prop} (hg : o.guard = none) (m x v : Operand) (hop : o.op = Op.mapUpdate 54 m x v)
    (b n : Nat) (s : Dt.Dot → Bool) (d : Dt.Dot) (hm : a.eval m = .map (some b)) (h : MapD w b n s) (hn : n ≤ 8796093022208) (hd : d.1 < 65536 ∧ d.2 < 18446744073709551616) (hx : a.eval x = .agg #[.int .u16 (d.1 : Int), .int .u64 (d.2 : Int)]) (hv : a.eval v = .bool true)
    (hK : ∀ w', MapD w' b (n + 1) (fun e => decide (e = d) || s e) → w.grownBy w' (some b) → wpList Tryz.prog ops Q rest (a.put o.dst undef) w') : wpList Tryz.prog ops Q (o :: rest) a w := by
  obtain ⟨D, h1, h2⟩ := h
  exact wpList_mapUpdate_own w hg m x v 54 hop 28 4 lawD Tryz.underlying54 _ b n D hm h1 (by unfold maxLen; omega) _ _ _ hx hv (keyD_is hd) (boolL true) [] (plainElem_bool Tryz.underlying4 true) fun w' h4 h5 =>
    hK w' ⟨_, h4, fun e he => by
      by_cases hed : e = d
      · subst hed
        rw [Maps.atKey_put_same h1.isMap (keyD_lit _)]
        simp
      · rw [Maps.atKey_put_other (fun h => hed (keyD_inj he hd h)), h2 e he]
        simp [hed]⟩ h5
end Go.Proofs.YtmebokpgiehgmaaGreat.Kl

/- dot.Good with the world that it leaves, and a dot's box. For every dot. -/
namespace Go.Proofs.YtmebokpgiehgmaaGreat.Dt
open Go.ChangeShapes Go.WideShapes Go.ChangeAt Go.RowKit
set_option linter.unusedVariables false
set_option maxRecDepth 4000

theorem pgood_x (w : World) (d : Dot) :
    Calls Tryz.prog 44 #[.agg #[.int .u16 (d.1 : Int), .int .u64 (d.2 : Int)]] w fun e w' => e = .returned (.bool (mayD d)) ∧ w' = w.alloc (.cells #[.int .u16 (d.1 : Int), .int .u64 (d.2 : Int)] 28) := by
  obtain ⟨a, n⟩ := d
  by_cases c1 : 1 ≤ a
  · have d1 : ((a : Int) != 0) = true := by rw [bne_iff_ne]; omega
    by_cases c2 : 1 ≤ n
    · have d2 : ((n : Int) != 0) = true := by rw [bne_iff_ne]; omega
      have hd : mayD (a, n) = decide ((n : Int) ≤ 281474976710655) := decide_eq_decide.2 ⟨fun h => by have := h.2.2; simp at this; omega, fun h => ⟨c1, c2, by simp; omega⟩⟩
      rw [hd]
      clear hd
      go_enter Tryz.func44, Tryz.ntmps44
      go_wp2
      go_ret
      exact ⟨rfl, rfl⟩
    · have hd : mayD (a, n) = false := decide_eq_false (fun h => c2 h.2.1)
      have d2 : ((n : Int) != 0) = false := by rw [bne_eq_false_iff_eq]; omega
      rw [hd]
      clear hd
      go_enter Tryz.func44, Tryz.ntmps44
      go_wp2
      go_ret
      exact ⟨rfl, rfl⟩
  · have hd : mayD (a, n) = false := decide_eq_false (fun h => c1 h.1)
    have d1 : ((a : Int) != 0) = false := by rw [bne_eq_false_iff_eq]; omega
    rw [hd]
    clear hd
    go_enter Tryz.func44, Tryz.ntmps44
    go_wp2
    go_ret
    exact ⟨rfl, rfl⟩
theorem box_at (w : World) (d : Dot) : ∀ V, Below (w.alloc (.cells #[.int .u16 (d.1 : Int), .int .u64 (d.2 : Int)] 28)).heap.size (w.alloc (.cells #[.int .u16 (d.1 : Int), .int .u64 (d.2 : Int)] 28)) V → V.cell? ⟨w.heap.size, 0, none⟩ = some (.int .u16 (d.1 : Int)) ∧ V.cell? ⟨w.heap.size, 1, none⟩ = some (.int .u64 (d.2 : Int)) := by
  intro V hV
  have h1 : (w.alloc (.cells #[.int .u16 (d.1 : Int), .int .u64 (d.2 : Int)] 28)).cell? ⟨w.heap.size, 0, none⟩ = some (.int .u16 (d.1 : Int)) := by simp [go_sem]
  have h2 : (w.alloc (.cells #[.int .u16 (d.1 : Int), .int .u64 (d.2 : Int)] 28)).cell? ⟨w.heap.size, 1, none⟩ = some (.int .u64 (d.2 : Int)) := by simp [go_sem]
  exact ⟨(hV.cell (World.block_lt_of_cell? _ _ h1)).trans h1, (hV.cell (World.block_lt_of_cell? _ _ h2)).trans h2⟩
end Go.Proofs.YtmebokpgiehgmaaGreat.Dt
