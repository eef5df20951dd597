/- The contracts of the program's 'Has' and 'Last', which go over the runs that tell something. For every list of runs. -/
import Derived.Test.YtaoojiacdkabbaaTell
namespace Go.Proofs.Ytaoojiacdkabbaa.Ru
open Go.ChangeShapes Go.WideShapes Go.ChangeAt Go.RowKit Go.Shelf
set_option linter.unusedVariables false

attribute [local go_sem] Oper.semAt_some

theorem keepsFrom_below {W W' : World} (B : Nat) (h : Below W.heap.size W W') : KeepsFrom B W W' := ⟨h.size, fun k o _ hk _ => (h.block k (Array.getElem?_eq_some_iff.1 hk).1).trans hk⟩

/-- a block that is a run. -/
def Pair (W : World) (B : Nat) (r : Run) : Prop := W.heap[B]? = some (.cells #[.int .u64 (r.1 : Int), .int .u64 (r.2 : Int)] 31 (0, 0))
theorem Pair.lt {W : World} {B : Nat} {r : Run} (h : Pair W B r) : B < W.heap.size := (Array.getElem?_eq_some_iff.1 h).1
theorem Pair.new (W : World) (r : Run) : Pair (W.alloc (.cells #[.int .u64 (r.1 : Int), .int .u64 (r.2 : Int)] 31)) W.heap.size r := World.alloc_heap_new W _
theorem Pair.cell1 {W : World} {B : Nat} {r : Run} (h : Pair W B r) : W.cell? ⟨B, 0, none⟩ = some (.int .u64 (r.1 : Int)) := by simp [World.cell?, show W.heap[B]? = _ from h]
theorem Pair.cell2 {W : World} {B : Nat} {r : Run} (h : Pair W B r) : W.cell? ⟨B, 1, none⟩ = some (.int .u64 (r.2 : Int)) := by simp [World.cell?, show W.heap[B]? = _ from h]
theorem Pair.kept {W W' : World} {row : Option Nat} {B : Nat} {r : Run} (h : Pair W B r) (hg : W.grownBy W' row) (hne : some B ≠ row) : Pair W' B r := (hg.block B h.lt hne).trans h
theorem Pair.below {W W' : World} {B : Nat} {r : Run} (h : Pair W B r) (hb : Below W.heap.size W W') : Pair W' B r := (hb.block B h.lt).trans h
theorem Boxed.later {W W' : World} {B : Nat} {t : TypeId} {v : Value} (h : Boxed W B t v) (hb : Below W.heap.size W W') : Boxed W' B t v := (hb.block B h.lt).trans h
theorem pair_own (r : Run) (B B0 : Nat) : OwnFrom B0 (fun (_ : Unit) W => Pair W B r) := fun s X Y row hs hg hrow =>
  hs.kept hg (fun e' => by obtain ⟨_, o, ho, hc⟩ := hrow B e'.symm; rw [show X.heap[B]? = _ from hs] at ho; cases ho; cases hc)

/-- is a number within one of these runs, whether they tell something or not? -/
def inAny (l : List Run) (n : Nat) : Bool := l.any fun r => decide (r.1 ≤ n) && decide (n ≤ r.2)
theorem inAny_snoc (l : List Run) (r : Run) (n : Nat) : inAny (l ++ [r]) n = (inAny l n || (decide (r.1 ≤ n) && decide (n ≤ r.2))) := by unfold inAny; simp
theorem inAny_part {l m : List Run} (h : l <+: m) {n : Nat} (hl : inAny l n = true) : inAny m n = true := by
  obtain ⟨k, rfl⟩ := h
  unfold inAny at *
  rw [List.any_append, hl]; rfl
theorem inAny_tells (l : List Run) (n : Nat) : inAny (tells l) n = has l n := by
  rw [← has_tells l n]
  unfold inAny has
  rw [Bool.eq_iff_iff, List.any_eq_true, List.any_eq_true]
  constructor
  · rintro ⟨r, h1, h2⟩
    exact ⟨r, h1, by rw [(List.mem_filter.1 h1).2, h2]; rfl⟩
  · rintro ⟨r, h1, h2⟩
    refine ⟨r, h1, ?_⟩
    rw [Bool.and_eq_true] at h2
    exact h2.2

set_option maxRecDepth 100000 in
set_option maxHeartbeats 4000000 in
theorem phas_any (w : World) (A : Option Addr) (l : List Run) (len c n : Nat) (hl : l.length = len) (hb : Runs w w.heap.size A l) (h63 : len ≤ 9223372036854775807) :
    Calls Try.prog 23 #[.slice A len c, .int .u64 (n : Int)] w fun e w' => e = .returned (.bool (has l n)) ∧ Below w.heap.size w w' := by
  have HB := Lib.hid hb
  have HL := Lib.hid hl
  clear hb hl
  refine (callsIn_wide (n := 6)).1 ?_
  refine callsIn_of_wp_marks Try.func23 rfl trivial ?_ rfl
  simp only [Try.ntmps23, List.size_toArray, List.length_cons, List.length_nil, Nat.reduceAdd, Nat.reduceSub, Array.replicate_succ, Array.replicate_zero, List.push_toArray, List.append_toArray, List.nil_append, List.cons_append]
  gi_wp2_with fail
  refine ⟨trivial, callsIn_wide.2 ((telling_any _ A len c).mono ?_)⟩
  rintro e w' ⟨rfl, rfl⟩
  gi_wp2
  have b0 := ((Boxed.new w 28 (.int .u64 (n : Int))).alloc (.cells #[.bool false] 4)).alloc (.cells #[.slice A len c] 22)
  have b1 := (Boxed.new (w.alloc (.cells #[.int .u64 (n : Int)] 28)) 4 (.bool false)).alloc (.cells #[.slice A len c] 22)
  have b2 := Boxed.new ((w.alloc (.cells #[.int .u64 (n : Int)] 28)).alloc (.cells #[.bool false] 4)) 22 (.slice A len c)
  simp only [World.size_alloc] at b1 b2
  have hB0 : Below w.heap.size w (((w.alloc (.cells #[.int .u64 (n : Int)] 28)).alloc (.cells #[.bool false] 4)).alloc (.cells #[.slice A len c] 22)) := (((Below.refl _ w).alloc (Nat.le_refl _) _).alloc (by simp) _).alloc (by simp; omega) _
  have hsz : (((w.alloc (.cells #[.int .u64 (n : Int)] 28)).alloc (.cells #[.bool false] 4)).alloc (.cells #[.slice A len c] 22)).heap.size = w.heap.size + 3 := by simp
  obtain ⟨W0, hW0⟩ : ∃ W0, ((w.alloc (.cells #[.int .u64 (n : Int)] 28)).alloc (.cells #[.bool false] 4)).alloc (.cells #[.slice A len c] 22) = W0 := ⟨_, rfl⟩
  rw [hW0] at b0 b1 b2 hB0 hsz ⊢
  clear hW0
  refine wpIn_rangeFunc_ownH rfl (by omega) (gf := 53) (lb := #[.pointer (some ⟨w.heap.size + 1 + 1, 0, none⟩)]) rfl trivial (enters_of Try.func53 (by kernel_rfl) rfl)
    (telling_stops (6 - 1) (by omega) (w.heap.size + 1 + 1) w.heap.size A len c l HL.out h63 W0 (by omega) (by omega) b2.cell (HB.out.below hB0)) belowK_t (belowK_b (by omega)) (Below.refl _ _) (fun _ => rfl)
    (fun pre W => ((Boxed W w.heap.size 28 (.int .u64 (n : Int)) ∧ Boxed W (w.heap.size + 1) 4 (.bool false)) ∧ Below w.heap.size w W) ∧ inAny pre n = false)
    (fun k pre W => (Boxed W (w.heap.size + 1) 4 (.bool true) ∧ Below w.heap.size w W) ∧ (k = .ret ∧ inAny pre n = true))
    (OwnFrom.and (OwnFrom.and (OwnFrom.and (Own.from (boxed_own _ _ (fun _ => _)) _) (Own.from (boxed_own _ _ (fun _ => _)) _)) (ownFrom_below (Nat.le_refl _) (by omega))) (ownFrom_pure _ (fun pre => inAny pre n = false)))
    (fun k => OwnFrom.and (OwnFrom.and (Own.from (boxed_own _ _ (fun _ => _)) _) (ownFrom_below (Nat.le_refl _) (by omega))) (ownFrom_pure _ (fun pre => k = .ret ∧ inAny pre n = true)))
    ⟨⟨⟨b0, b1⟩, hB0⟩, rfl⟩
    (fun x a' W => ∃ Bx, w.heap.size + 1 < Bx ∧ Pair W Bx x ∧ a' = { tmps := #[.slice A len c, .int .u64 (n : Int), undef, .pointer (some ⟨w.heap.size, 0, none⟩), .pointer (some ⟨w.heap.size + 1, 0, none⟩), .pointer (some ⟨Bx, 0, none⟩), .slice A len c, .func (.func 53) #[] #[.pointer (some ⟨w.heap.size + 1 + 1, 0, none⟩)], .agg #[.int .u64 (x.1 : Int), .int .u64 (x.2 : Int)], undef, undef, undef, undef, undef, undef, undef, undef, undef, undef], defers := [] })
    (fun x a' _ X Y row hs hg hr => by obtain ⟨Bx, h1, h2, h3⟩ := hs; exact ⟨Bx, h1, pair_own x Bx _ () X Y row h2 hg hr, h3⟩)
    ?assign ?body ?done ?stop
  case assign =>
    rintro l2 pre x W K ⟨⟨⟨c0, c1⟩, hB1⟩, hp⟩ hK
    simp only [encR]
    gi_wp2
    exact hK _ _ ((KeepsOthers.alloc _ _).from _) ((Below.refl _ W).alloc hB1.size _) ⟨⟨⟨c0.alloc _, c1.alloc _⟩, hB1.alloc hB1.size _⟩, hp⟩ ⟨W.heap.size, c1.lt, Pair.new W x, rfl⟩
  case body =>
    rintro l2 pre x a' W hl2 ⟨r, hr⟩ ⟨⟨⟨c0, c1⟩, hB1⟩, hp⟩ ⟨Bx, hBx, bX, rfl⟩ hlt
    have d0 := c0.cell
    have d1 := c1.cell
    have f1 := c1.frozen
    have e1 := bX.cell1
    have e2 := bX.cell2
    have HP := Lib.hid hp
    clear hp hlt
    have hs := inAny_snoc pre x n
    rw [HP.out, Bool.false_or] at hs
    have HS := Lib.hid hs
    clear hs
    by_cases k1 : x.1 ≤ n
    · by_cases k2 : n ≤ x.2
      · have t1 : decide ((x.1 : Int) ≤ (n : Int)) = true := decide_eq_true (by omega)
        have t2 : decide ((n : Int) ≤ (x.2 : Int)) = true := decide_eq_true (by omega)
        gi_wp2
        exact ⟨(KeepsOthers.setCell _ _ _).from _, ⟨c1.set _, hB1.setCell (p := ⟨w.heap.size + 1, 0, none⟩) (by simp) _⟩, rfl, by rw [HS.out]; simp [k1, k2]⟩
      · have t1 : decide ((x.1 : Int) ≤ (n : Int)) = true := decide_eq_true (by omega)
        have t2 : decide ((n : Int) ≤ (x.2 : Int)) = false := decide_eq_false (by omega)
        gi_wp2
        exact ⟨KeepsFrom.refl _ _, Below.refl _ _, ⟨⟨c0, c1⟩, hB1⟩, by rw [HS.out]; simp [k2]⟩
    · have t1 : decide ((x.1 : Int) ≤ (n : Int)) = false := decide_eq_false (by omega)
      gi_wp2
      exact ⟨KeepsFrom.refl _ _, Below.refl _ _, ⟨⟨c0, c1⟩, hB1⟩, by rw [HS.out]; simp [k1]⟩
  case done =>
    rintro D ys W hD rfl ⟨⟨⟨c0, c1⟩, hB1⟩, hp⟩ hK
    have d1 := c1.cell
    have f1 := c1.frozen
    gi_wp2
    have hK' := (KeepsOthers.setCell W ⟨w.heap.size + 1, 0, none⟩ (.bool false)).same D _ hK rfl
    refine ⟨by simp, .inl ⟨_, _, rfl, run_takeDeferred hK', ?_⟩⟩
    have hc5 := cell_kept (c1.set (.bool false)).cell (grownBy_putObj' _ D (.deferred none)) (fun r e => by cases e; exact ⟨_, hK', rfl⟩)
    refine ⟨.bool false, ?_, by rw [← inAny_tells, hp], (hB1.setCell (p := ⟨w.heap.size + 1, 0, none⟩) (by simp) _).trans (belowK_b (w := w) (Nat.le_refl _) _ D _ _ (by omega) hK' rfl rfl)⟩
    simp [results, Try.f23, go_sem, hc5]
  case stop =>
    rintro D k pre W hD hpre ⟨⟨c1, hB1⟩, rfl, hp⟩ hK
    gi_wp2
    refine ⟨by simp, .inl ⟨_, _, rfl, run_takeDeferred hK, ?_⟩⟩
    have hc5 := cell_kept c1.cell (grownBy_putObj' _ D (.deferred none)) (fun r e => by cases e; exact ⟨_, hK, rfl⟩)
    refine ⟨.bool true, ?_, by rw [← inAny_tells, inAny_part hpre hp], hB1.trans (belowK_b (w := w) (Nat.le_refl _) W D _ _ (by omega) hK rfl rfl)⟩
    simp [results, Try.f23, go_sem, hc5]
end Go.Proofs.Ytaoojiacdkabbaa.Ru
