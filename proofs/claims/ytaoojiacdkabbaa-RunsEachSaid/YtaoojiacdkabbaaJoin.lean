/- The contracts of slices.Concat of two lists of runs, and of the program's 'Join', 'Of' and 'Add'. Condition: at most 2^41 runs a side. -/
import Derived.Test.YtaoojiacdkabbaaMinus
import Derived.Lib.AppendZeros
namespace Go.Proofs.Ytaoojiacdkabbaa.Ru
open Go.ChangeShapes Go.WideShapes Go.ChangeAt Go.RowKit Go.Shelf
set_option linter.unusedVariables false

theorem grow_zero (w : World) : Calls Try.prog 50 #[.slice none 0 0, .int .i64 0] w fun e w' => e = .returned (.slice none 0 0) ∧ w' = w := by
  go_enter Try.func50, Try.ntmps50
  go_wp2
  go_ret
  exact ⟨rfl, rfl⟩
theorem grow_some (w : World) (n : Nat) (h0 : 0 < n) (hn : n ≤ 8796093022208) :
    Calls Try.prog 50 #[.slice none 0 0, .int .i64 (n : Int)] w fun e w' => ∃ g cap, e = .returned (.slice (some ⟨g, 0, none⟩) 0 cap) ∧ w'.ownsRow w.heap.size 31 2 (.slice (some ⟨g, 0, none⟩) 0 cap) 0 (rv []) ∧ Below w.heap.size w w' := by
  obtain ⟨i0, hi0, hz0, hz1, hz2⟩ := info_parts run_info
  have hr := Lib.run_append_nil_zeros (P := Try.prog) w 22 3 22 31 i0 (.agg #[.int .u64 0, .int .u64 0]) .i64 .i64 Try.underlying22 Try.underlying3 hi0 hz0 n h0 (by omega) (by omega) (by rw [hz2]; omega)
  have hge := grownCap_ge w n 0 31
  have hmx := grownCap_le_maxLen w n 0 31 (by simp only [maxLen]; omega)
  generalize grownCap w n 0 31 = cap at *
  have hsz : (Builtin.zeroCells (Value.agg #[.int .u64 0, .int .u64 0]).cells n ++ Builtin.zeroCells (Value.agg #[.int .u64 0, .int .u64 0]).cells (cap - n)).size = cap * 2 := by
    simp only [Array.size_append, size_zeroCells]
    show n * 2 + (cap - n) * 2 = cap * 2
    omega
  have HO : Hid ((w.drew.alloc (.cells (Builtin.zeroCells (Value.agg #[.int .u64 0, .int .u64 0]).cells n ++ Builtin.zeroCells (Value.agg #[.int .u64 0, .int .u64 0]).cells (cap - n)) 31)).ownsRow w.heap.size 31 2 (.slice (some ⟨w.heap.size, 0, none⟩) 0 cap) 0 (rv [])) :=
    World.ownsRow_made w.drew _ cap (Nat.le_refl _) hmx hsz
  have HB : Hid (Below w.heap.size w (w.drew.alloc (.cells (Builtin.zeroCells (Value.agg #[.int .u64 0, .int .u64 0]).cells n ++ Builtin.zeroCells (Value.agg #[.int .u64 0, .int .u64 0]).cells (cap - n)) 31))) := (Below.refl _ _).drew.alloc (Nat.le_refl _) _
  clear hsz
  generalize Builtin.zeroCells (Value.agg #[.int .u64 0, .int .u64 0]).cells n ++ Builtin.zeroCells (Value.agg #[.int .u64 0, .int .u64 0]).cells (cap - n) = cs at *
  go_enter Try.func50, Try.ntmps50
  go_wp2_with (at_builtin; refine Lib.wpList_append_run _ rfl _ _ _ _ rfl _ _ rfl rfl _ _ hr ?_)
  clear hr
  go_wp2
  go_ret
  exact ⟨w.heap.size, cap, rfl, HO.out, HB.out⟩
theorem grow_any (w : World) (n : Nat) (hn : n ≤ 8796093022208) :
    Calls Try.prog 50 #[.slice none 0 0, .int .i64 (n : Int)] w fun e w' => ∃ A cap, e = .returned (.slice A 0 cap) ∧ w'.ownsRow w.heap.size 31 2 (.slice A 0 cap) 0 (rv []) ∧ Below w.heap.size w w' := by
  rcases Nat.eq_zero_or_pos n with rfl | h0
  · refine (grow_zero w).mono ?_
    rintro e w' ⟨rfl, rfl⟩
    exact ⟨none, 0, rfl, World.ownsRow_nil _ _ _ _, Below.refl _ _⟩
  · refine (grow_some w n h0 hn).mono ?_
    rintro e w' ⟨g, cap, rfl, ho, hb⟩
    exact ⟨_, cap, rfl, ho, hb⟩

set_option maxHeartbeats 1600000 in
/-- slices.Concat of two lists. -/
theorem concat_any (w : World) (g : Nat) (A1 A2 : Option Addr) (l1 l2 : List Run) (n1 n2 c1 c2 : Nat) (hl1 : l1.length = n1) (hl2 : l2.length = n2) (hA1 : A1 = none → n1 = 0 ∧ c1 = 0) (hA2 : A2 = none → n2 = 0 ∧ c2 = 0) (hb1 : Runs w w.heap.size A1 l1) (hb2 : Runs w w.heap.size A2 l2) (h1 : n1 ≤ 4398046511104) (h2 : n2 ≤ 4398046511104)
    (hg : w.cell? ⟨g, 0, none⟩ = some (.slice A1 n1 c1) ∧ w.cell? ⟨g, 1, none⟩ = some (.slice A2 n2 c2)) :
    Calls Try.prog 35 #[.slice (some ⟨g, 0, none⟩) 2 2] w (RunPost w (l1 ++ l2)) := by
  have HL1 := Lib.hid hl1
  have HL2 := Lib.hid hl2
  have HA1 := Lib.hid hA1
  have HA2 := Lib.hid hA2
  have HB1 := Lib.hid hb1
  have HB2 := Lib.hid hb2
  have HG := Lib.hid hg
  have hlt : g < w.heap.size := World.block_lt_of_cell? w _ hg.1
  clear hl1 hl2 hA1 hA2 hb1 hb2
  obtain ⟨q1, q2⟩ := hg
  have e2 : IntKind.i64.wrap ((n1 : Int) + (n2 : Int)) = ((n1 + n2 : Nat) : Int) := by simp [IntKind.wrap, IntKind.bits, IntKind.signed]; omega
  have e3 : decide (((n1 + n2 : Nat) : Int) < 0) = false := decide_eq_false (by omega)
  have hgr := fun V => grow_any V (n1 + n2) (by omega)
  generalize hz : ((n1 + n2 : Nat) : Int) = z at *
  go_enter Try.func35, Try.ntmps35
  go_wp2
  refine wp_loop_rounds 3 ?_
  rw [rounds_succ]
  go_wp2_with fail
  rw [rounds_succ]
  go_wp2_with fail
  rw [rounds_succ]
  go_wp2_with fail
  refine (hgr _).mono ?_
  rintro e w1 ⟨A3, cap, rfl, ho, hb⟩
  have HO1 := Lib.hid ho
  have HW1 := Lib.hid hb
  have HQ : Hid (∀ V, Below w.heap.size w V → V.cell? ⟨g, 0, none⟩ = some (.slice A1 n1 c1) ∧ V.cell? ⟨g, 1, none⟩ = some (.slice A2 n2 c2)) := fun V hV => ⟨(hV.cell (p := ⟨g, 0, none⟩) hlt).trans HG.out.1, (hV.cell (p := ⟨g, 1, none⟩) hlt).trans HG.out.2⟩
  clear ho hb q1 q2 hgr
  obtain ⟨q1, q2⟩ := HQ.out w1 HW1.out
  have LA := Lib.hid (HB1.out.up HW1.out).2
  go_wp2
  refine wp_loop_rounds 3 ?_
  rw [rounds_succ]
  go_wp2_with (at_builtin; refine wpList_any rfl (.tmp 31) (.tmp 32) rfl rfl _ w.heap.size 0 (.slice A3 0 cap) [] A1 l1 n1 c1 rfl rfl HO1.out HA1.out LA.out HL1.out (by omega) HW1.out.size ?_; intro A4 c4 w2 ho2 hg2; have HW2 := Lib.hid (any_grown HO1.out HW1.out hg2); rw [List.nil_append, Nat.zero_add] at ho2; rw [Nat.zero_add]; have HO2 := Lib.hid ho2; clear ho2 hg2)
  clear q1 q2
  obtain ⟨q1, q2⟩ := HQ.out w2 HW2.out
  have LB := Lib.hid (HB2.out.up HW2.out).2
  rw [rounds_succ]
  go_wp2_with (at_builtin; refine wpList_any rfl (.tmp 31) (.tmp 32) rfl rfl _ w.heap.size n1 (.slice A4 n1 c4) l1 A2 l2 n2 c2 rfl rfl HO2.out HA2.out LB.out HL2.out (by omega) HW2.out.size ?_; intro A5 c5 w3 ho3 hg3; have HW3 := Lib.hid (any_grown HO2.out HW2.out hg3); have HO3 := Lib.hid ho3; clear ho3 hg3)
  rw [rounds_succ]
  go_wp2
  go_ret
  exact ⟨A5, n1 + n2, c5, rfl, by rw [List.length_append, HL1.out, HL2.out], HO3.out, HW3.out⟩

theorem pjoin_any (w : World) (A1 A2 : Option Addr) (l1 l2 : List Run) (n1 n2 c1 c2 : Nat) (hl1 : l1.length = n1) (hl2 : l2.length = n2) (hA1 : A1 = none → n1 = 0 ∧ c1 = 0) (hA2 : A2 = none → n2 = 0 ∧ c2 = 0) (hb1 : Runs w w.heap.size A1 l1) (hb2 : Runs w w.heap.size A2 l2) (h1 : n1 ≤ 2199023255552) (h2 : n2 ≤ 2199023255552) :
    Calls Try.prog 11 #[.slice A1 n1 c1, .slice A2 n2 c2] w (RunPost w (setL l1 l2 0)) := by
  have HF : Hid (Fit (l1 ++ l2)) := fun r hr => (List.mem_append.1 hr).elim (hb1.1 r) (hb2.1 r)
  have L0 : Hid (Below w.heap.size w (w.alloc (.cells #[.slice A1 n1 c1, .slice A2 n2 c2] 22))) := below_new _ _
  have HC : Hid (Calls Try.prog 35 #[.slice (some ⟨w.heap.size, 0, none⟩) 2 2] (w.alloc (.cells #[.slice A1 n1 c1, .slice A2 n2 c2] 22)) (RunPost (w.alloc (.cells #[.slice A1 n1 c1, .slice A2 n2 c2] 22)) (l1 ++ l2))) :=
    concat_any _ w.heap.size A1 A2 l1 l2 n1 n2 c1 c2 hl1 hl2 hA1 hA2 (hb1.up L0.out) (hb2.up L0.out) (by omega) (by omega) ⟨World.cell?_alloc_new _ _ _ _, World.cell?_alloc_new _ _ _ _⟩
  have HN : Hid ((l1 ++ l2).length = n1 + n2) := by show _ = _; rw [List.length_append, hl1, hl2]
  clear hl1 hl2 hA1 hA2 hb1 hb2
  go_enter Try.func11, Try.ntmps11
  go_wp2_with fail
  refine HC.out.mono ?_
  rintro e w1 p1
  obtain ⟨B1, m1, d1, rfl, e1, _, f1, f1', r1, o1, b1⟩ := post_runs p1 HF.out
  have W1 : Hid (Below w.heap.size w w1) := L0.out.trans (b1.mono L0.out.size)
  have hm : m1 = n1 + n2 := by rw [← e1]; exact HN.out
  have H2 := Lib.hid (pnorm_any w1 B1 (l1 ++ l2) m1 d1 e1 r1 (by omega))
  clear p1 r1 o1 b1 e1 hm
  go_wp2_with fail
  refine H2.out.mono ?_
  rintro e w2 p2
  rw [join_comes] at p2
  obtain ⟨A, n, c, rfl, h⟩ := p2.back W1.out
  have HH := Lib.hid h
  clear p2 h
  go_wp2
  go_ret
  exact ⟨A, n, c, rfl, HH.out⟩
end Go.Proofs.Ytaoojiacdkabbaa.Ru
