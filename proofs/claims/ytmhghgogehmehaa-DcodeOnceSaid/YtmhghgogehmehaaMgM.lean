/- Words and contracts that the proofs of this seat stand on, part 13 of 14. -/
import Derived.Shelf.SlSortCmp.WholeK
import Derived.Test.YtmhghgogehmehaaProg
import Derived.Test.YtmhghgogehmehaaMgK
import Derived.Test.YtmhghgogehmehaaMgL
import Derived.Test.YtmhghgogehmehaaMgG
import Derived.WalkSmall
import Derived.Test.YtmhghgogehmehaaMgJ

/- The laying of slices.SortFunc at a slice of runs: which functions and types of this program stand for those of the library's contract. -/
namespace Go.Proofs
open Go.Shelf
def Try.sortR_ren : Go.Shelf.Ren := ⟨fun | 6 => 47 | 15 => 52 | 14 => 58 | 28 => 68 | 29 => 69 | 20 => 70 | 21 => 71 | 22 => 72 | 23 => 73 | 24 => 74 | 25 => 75 | 26 => 76 | 27 => 77 | 46 => 83 | 47 => 79 | 48 => 80 | 49 => 84 | 50 => 85 | 57 => 87 | n => n, fun | 22 => 36 | 24 => 35 | 25 => 89 | 3 => 3 | 39 => 92 | 0 => 0 | 53 => 108 | 55 => 33 | 4 => 4 | 46 => 101 | 45 => 100 | 50 => 105 | 5 => 5 | 9 => 9 | 66 => 114 | 70 => 116 | 76 => 120 | 77 => 121 | n => n, fun | n => n⟩
theorem Try.sortR : Go.Proofs.SlLaysF0.n6 Try.prog Try.sortR_ren := {
  mixed := by kernel_rfl
  f6 := ⟨Try.f47.name, by decide, Try.func47.trans (congrArg some (by kernel_rfl))⟩
  f14 := ⟨Try.f58.name, by decide, Try.func58.trans (congrArg some (by kernel_rfl))⟩
  f15 := Try.func52.trans (congrArg some (by kernel_rfl))
  f20 := ⟨Try.f70.name, by decide, Try.func70.trans (congrArg some (by kernel_rfl))⟩
  f21 := ⟨Try.f71.name, by decide, Try.func71.trans (congrArg some (by kernel_rfl))⟩
  f22 := ⟨Try.f72.name, by decide, Try.func72.trans (congrArg some (by kernel_rfl))⟩
  f23 := ⟨Try.f73.name, by decide, Try.func73.trans (congrArg some (by kernel_rfl))⟩
  f24 := ⟨Try.f74.name, by decide, Try.func74.trans (congrArg some (by kernel_rfl))⟩
  f25 := ⟨Try.f75.name, by decide, Try.func75.trans (congrArg some (by kernel_rfl))⟩
  f26 := ⟨Try.f76.name, by decide, Try.func76.trans (congrArg some (by kernel_rfl))⟩
  f27 := ⟨Try.f77.name, by decide, Try.func77.trans (congrArg some (by kernel_rfl))⟩
  f28 := Try.func68.trans (congrArg some (by kernel_rfl))
  f29 := Try.func69.trans (congrArg some (by kernel_rfl))
  f46 := ⟨Try.f83.name, by decide, Try.func83.trans (congrArg some (by kernel_rfl))⟩
  f47 := Try.func79.trans (congrArg some (by kernel_rfl))
  f48 := Try.func80.trans (congrArg some (by kernel_rfl))
  f49 := ⟨Try.f84.name, by decide, Try.func84.trans (congrArg some (by kernel_rfl))⟩
  f50 := ⟨Try.f85.name, by decide, Try.func85.trans (congrArg some (by kernel_rfl))⟩
  f57 := ⟨Try.f87.name, by decide, Try.func87.trans (congrArg some (by kernel_rfl))⟩
  t0 := Try.underlying0
  a0 := Try.isAgg0
  z0 := Try.sizeOf0
  v0 := Try.zeroValue0
  t3 := Try.underlying3
  a3 := Try.isAgg3
  z3 := Try.sizeOf3
  v3 := Try.zeroValue3
  t4 := Try.underlying4
  a4 := Try.isAgg4
  z4 := Try.sizeOf4
  v4 := Try.zeroValue4
  t5 := Try.underlying5
  a5 := Try.isAgg5
  z5 := Try.sizeOf5
  v5 := Try.zeroValue5
  t9 := Try.underlying9
  a9 := Try.isAgg9
  z9 := Try.sizeOf9
  v9 := Try.zeroValue9
  t22 := Try.underlying36
  a22 := Try.isAgg36
  z22 := Try.sizeOf36
  v22 := Try.zeroValue36
  t25 := Try.underlying89
  a25 := Try.isAgg89
  z25 := Try.sizeOf89
  v25 := Try.zeroValue89
  t39 := Try.underlying92
  a39 := Try.isAgg92
  z39 := Try.sizeOf92
  v39 := Try.zeroValue92
  t45 := Try.underlying100
  a45 := Try.isAgg100
  z45 := Try.sizeOf100
  v45 := Try.zeroValue100
  t46 := Try.underlying101
  a46 := Try.isAgg101
  z46 := Try.sizeOf101
  v46 := Try.zeroValue101
  t50 := Try.underlying105
  a50 := Try.isAgg105
  z50 := Try.sizeOf105
  v50 := Try.zeroValue105
  t53 := Try.underlying108
  a53 := Try.isAgg108
  z53 := Try.sizeOf108
  v53 := Try.zeroValue108
  t55 := Try.underlying33
  a55 := Try.isAgg33
  z55 := Try.sizeOf33
  v55 := Try.zeroValue33
  t66 := Try.underlying114
  a66 := Try.isAgg114
  z66 := Try.sizeOf114
  v66 := Try.zeroValue114
  t70 := Try.underlying116
  a70 := Try.isAgg116
  z70 := Try.sizeOf116
  v70 := Try.zeroValue116
  t76 := Try.underlying120
  a76 := Try.isAgg120
  z76 := Try.sizeOf120
  v76 := Try.zeroValue120
  t77 := Try.underlying121
  a77 := Try.isAgg121
  z77 := Try.sizeOf121
  v77 := Try.zeroValue121 }
end Go.Proofs

/- The contract of slices.SortFunc as 'Norm' calls it: the same runs, in the order of their Lo. Condition: fewer than 2^62 runs. -/
namespace Go.Proofs.Ytmhghgogehmehaa.Ru
open Go.ChangeShapes Go.WideShapes Go.ChangeAt Go.RowKit Go.Shelf
set_option linter.unusedVariables false
set_option maxRecDepth 4000

theorem nan_any (w : World) (x : Nat) : Calls Try.prog 59 #[.int .u64 (x : Int)] w fun e w' => e = .returned (.bool false) ∧ w' = w := by
  have h : ((x : Int) != (x : Int)) = false := by rw [bne_eq_false_iff_eq]
  generalize ((x : Nat) : Int) = y at *
  go_enter Try.func59, Try.ntmps59
  go_wp2
  go_ret
  exact ⟨rfl, rfl⟩
def cfR (x y : Run) : Int := Lib.compareInt x.1 y.1
theorem compare_any (w : World) (x y : Nat) : Calls Try.prog 49 #[.int .u64 (x : Int), .int .u64 (y : Int)] w fun e w' => e = .returned (.int .i64 (Lib.compareInt x y)) ∧ w' = w := by
  have hx := fun W => nan_any W x
  have hy := fun W => nan_any W y
  unfold Lib.compareInt
  by_cases h1 : (x : Int) < y
  · rw [if_pos h1]
    generalize ((x : Nat) : Int) = x at *
    generalize ((y : Nat) : Int) = y at *
    go_enter Try.func49, Try.ntmps49
    go_wp2_with fail
    refine (hx _).mono ?_
    rintro e w1 ⟨rfl, rfl⟩
    go_wp2_with fail
    refine (hy _).mono ?_
    rintro e w1 ⟨rfl, rfl⟩
    go_wp2
    go_ret
    exact ⟨rfl, rfl⟩
  · rw [if_neg h1]
    have d1 : decide ((x : Int) < y) = false := decide_eq_false h1
    by_cases h2 : (x : Int) > y
    · rw [if_pos h2]
      have d2 : decide ((y : Int) < x) = true := decide_eq_true h2
      clear h1
      generalize ((x : Nat) : Int) = x at *
      generalize ((y : Nat) : Int) = y at *
      go_enter Try.func49, Try.ntmps49
      go_wp2_with fail
      refine (hx _).mono ?_
      rintro e w1 ⟨rfl, rfl⟩
      go_wp2_with fail
      refine (hy _).mono ?_
      rintro e w1 ⟨rfl, rfl⟩
      go_wp2
      go_ret
      exact ⟨rfl, rfl⟩
    · rw [if_neg h2]
      have d2 : decide ((y : Int) < x) = false := decide_eq_false h2
      clear h1 h2
      generalize ((x : Nat) : Int) = x at *
      generalize ((y : Nat) : Int) = y at *
      go_enter Try.func49, Try.ntmps49
      go_wp2_with fail
      refine (hx _).mono ?_
      rintro e w1 ⟨rfl, rfl⟩
      go_wp2_with fail
      refine (hy _).mono ?_
      rintro e w1 ⟨rfl, rfl⟩
      go_wp2
      go_ret
      exact ⟨rfl, rfl⟩

/-- a run's two cells. -/
def encC (r : Run) : List Value := [.int .u64 (r.1 : Int), .int .u64 (r.2 : Int)]
theorem closure_any (x y : Run) (W : World) : Calls Try.prog 48 #[.agg #[.int .u64 (x.1 : Int), .int .u64 (x.2 : Int)], .agg #[.int .u64 (y.1 : Int), .int .u64 (y.2 : Int)]] W fun e w' => e = .returned (.int .i64 (cfR x y)) ∧ ∃ q os', w' = Sort.grow (W.drewN q) os' := by
  have hcon : ∀ W', Calls Try.prog 49 #[.int .u64 (x.1 : Int), .int .u64 (y.1 : Int)] W' fun e w' => e = .returned (.int .i64 (cfR x y)) ∧ w' = W' := fun W' => compare_any W' x.1 y.1
  generalize cfR x y = r at hcon ⊢
  go_enter Try.func48, Try.ntmps48
  go_wp2_with (go_at_call 49; refine (hcon _).mono ?_; rintro e w' ⟨rfl, rfl⟩)
  go_ret
  exact ⟨rfl, 0, _, by rw [Sort.alloc_eq_grow, Sort.alloc_eq_grow, Sort.grow_grow]; rfl⟩
theorem ltR (x y : Run) : ltOf cfR x y = decide (x.1 < y.1) := by
  unfold ltOf cfR Lib.compareInt
  by_cases h1 : (x.1 : Int) < y.1
  · have : x.1 < y.1 := by omega
    simp [this]
  · by_cases h2 : (y.1 : Int) < x.1
    · have h3 : ¬ x.1 < y.1 := by omega
      have h4 : y.1 < x.1 := by omega
      simp [h3, h4]
    · have h3 : ¬ x.1 < y.1 := by omega
      have h4 : ¬ y.1 < x.1 := by omega
      simp [h3, h4]
theorem swoR : Sort.SWO (ltOf cfR) where
  irrefl x := by rw [ltR]; simp
  trans x y z h1 h2 := by rw [ltR] at *; simp at *; omega
  ntrans x y z h1 h2 := by rw [ltR] at *; simp at *; omega

theorem flat_rv (l : List Run) (j : Nat) (hj : j < l.length * 2) : (rv l)[j]? = some (Sort.flatK encC 2 l.toArray)[j]! := by
  rw [Sort.get_flatK _ _ _ _ (by simpa using hj)]
  have hk : j / 2 < l.length := by omega
  have hg : l[j / 2]? = some l[j / 2] := List.getElem?_eq_getElem hk
  obtain ⟨g1, g2⟩ := rv_get hg
  have e : l.toArray[j / 2]! = l[j / 2] := by rw [getElem!_pos _ _ (by simpa using hk)]; simp
  rw [e]
  rcases Nat.mod_two_eq_zero_or_one j with h | h
  · rw [h]
    have : j / 2 * 2 = j := by omega
    rw [this] at g1
    simpa [encC] using g1
  · rw [h]
    have : j / 2 * 2 + 1 = j := by omega
    rw [this] at g2
    simpa [encC] using g2

theorem sort_any (w : World) (B g cap n : Nat) (d : List Run) (hn : d.length = n) (h62 : n < 4611686018427387904) (h : w.ownsRow B 35 2 (.slice (some ⟨g, 0, none⟩) n cap) n (rv d)) :
    Calls Try.prog 47 #[.slice (some ⟨g, 0, none⟩) n cap, .func (.func 48) #[] #[]] w fun e w' => e = .returned (.tuple #[]) ∧ ∃ m : List Run, m.Perm d ∧ Rise m ∧ w'.ownsRow B 35 2 (.slice (some ⟨g, 0, none⟩) n cap) n (rv m) ∧ w.grownBy w' (some g) := by
  subst hn
  obtain ⟨hlen, ⟨hz, _⟩ | ⟨g', cap', cur, e, hB, hheap, hle, hmx, hsz, htk⟩⟩ := h
  · cases hz
  · cases e
    have hlt : g < w.heap.size := (Array.getElem?_eq_some_iff.1 hheap).1
    have hcell : ∀ j, j < d.length * 2 → cur[j]? = (rv d)[j]? := fun j hj => by
      rw [← htk, List.getElem?_take, if_pos hj]
      simp
    have hH : Sort.HoldsK encC 2 w g 0 d.toArray := fun j hj => by
      have hj' : j < d.length * 2 := by simpa using hj
      refine ⟨?_, by simp [World.frozen?, hheap]⟩
      rw [Nat.zero_add, show id (Sort.flatK encC 2 d.toArray)[j]! = (Sort.flatK encC 2 d.toArray)[j]! from rfl, ← flat_rv d j hj', ← hcell j hj']
      simp [World.cell?, hheap]
    have eg : ∀ args w, (callFunc 48 args).run Try.prog w = .ok (.enter 48 args) w := enters_of Try.func48 (by kernel_rfl) rfl
    have hcon := AnyQ.slices_SortFunc Try.sortR 2 Try.isAgg35 Try.sizeOf35 encC (fun _ => rfl) (fun x v hv => by simp [encC] at hv; rcases hv with rfl | rfl <;> rfl) cfR swoR 48 #[] g 0 cap d.toArray w eg (fun m os dk _ x y => closure_any x y _) hH hlt (by simpa using h62)
    change Calls Try.prog 47 _ _ _ at hcon
    rw [List.size_toArray] at hcon
    refine hcon.mono ?_
    rintro e w' ⟨rfl, d', q, os, hp, hs, rfl⟩
    have h1 : d'.size = d.length := by simpa using hp.1
    refine ⟨rfl, d'.toList, ?_, ?_, ?_, ?_⟩
    · have h3 := hp.2.2
      have e1 : d'.extract 0 d.length = d' := by rw [← h1]; simp
      have e2 : d.toArray.extract 0 d.length = d.toArray := by simp
      rw [e1, e2] at h3
      exact h3
    · refine List.pairwise_iff_getElem.2 fun i j hi hj hij => ?_
      rw [Array.length_toList] at hi hj
      have := hs i j (Nat.zero_le _) hij (by omega)
      rw [ltR, getElem!_pos d' j hj, getElem!_pos d' i hi] at this
      simpa using this
    · refine ⟨by rw [rv_length, Array.length_toList, h1], .inr ⟨g, cap, Sort.putCells id 0 (Sort.flatK encC 2 d') cur, rfl, hB, ?_, hle, hmx, by simp [Sort.putCells, hsz], ?_⟩⟩
      · show ((w.heap.modify g (Sort.onCells (Sort.putCells id 0 (Sort.flatK encC 2 d')))) ++ os)[g]? = _
        rw [Array.getElem?_append_left (by simpa using hlt), Array.getElem?_modify, if_pos rfl, hheap]
        rfl
      · apply List.ext_getElem?
        intro j
        rw [List.getElem?_take]
        by_cases hj : j < d.length * 2
        · rw [if_pos hj]
          have hf := flat_rv d'.toList j (by rw [Array.length_toList, h1]; exact hj)
          rw [Array.toArray_toList] at hf
          rw [hf]
          have hc : cur[j]? = some cur[j] := Array.getElem?_eq_getElem (by omega)
          simp [Sort.putCells, hc, h1, hj]
        · rw [if_neg hj]
          exact (List.getElem?_eq_none (by rw [rv_length, Array.length_toList, h1]; omega)).symm
    · refine ⟨rfl, rfl, rfl, ?_, fun k hk hne => ?_⟩
      · show w.heap.size ≤ ((w.heap.modify g _) ++ os).size
        simp
      · show ((w.heap.modify g _) ++ os)[k]? = _
        rw [Array.getElem?_append_left (by simpa using hk), Array.getElem?_modify, if_neg (fun e => hne (by rw [e]))]
theorem ins_nil (w : World) (fv : Value) : Calls Try.prog 70 #[.slice none 0 0, .int .i64 0, .int .i64 0, fv] w fun e w' => e = .returned (.tuple #[]) ∧ w' = w := by
  go_enter Try.func70, Try.ntmps70
  go_wp2
  refine wp_loop_rounds 1 ?_
  rw [rounds_succ]
  go_wp2
  go_end0
  exact ⟨rfl, rfl⟩
theorem pdq_nil (w : World) (lim : Int) (fv : Value) : Calls Try.prog 58 #[.slice none 0 0, .int .i64 0, .int .i64 0, .int .i64 lim, fv] w fun e w' => e = .returned (.tuple #[]) ∧ w' = w := by
  have hi := fun W => ins_nil W fv
  go_enter Try.func58, Try.ntmps58
  go_wp2
  refine wp_loop_rounds 1 ?_
  rw [rounds_succ]
  go_wp2_with (go_at_call 70; refine (hi _).mono ?_; rintro e w' ⟨rfl, rfl⟩)
  (try simp only [Exit.inBlock, Exit.then]); refine bodyPost_ret (results_none rfl _ _ _) rfl ?_
  exact ⟨rfl, rfl⟩
theorem len_nil (w : World) : Calls Try.prog 52 #[.int .u64 0] w fun e w' => e = .returned (.int .i64 (Lib.bitLen 0 : Nat)) ∧ w' = w := by
  have h := Any.bits_Len (SlLaysF0.n15.bits (P := Try.prog) (ρ := Try.sortR_ren) { Try.sortR with }) 0 w (by omega) (by omega)
  change Calls Try.prog 52 _ _ _ at h
  exact h
theorem sort_nil (w : World) : Calls Try.prog 47 #[.slice none 0 0, .func (.func 48) #[] #[]] w fun e w' => e = .returned (.tuple #[]) ∧ w' = w := by
  have hl := fun W => len_nil W
  have hp := fun lim W => pdq_nil W lim (.func (.func 48) #[] #[])
  go_enter Try.func47, Try.ntmps47
  go_wp2_with (first | (go_at_call 52; refine (hl _).mono ?_; rintro e w' ⟨rfl, rfl⟩) | (go_at_call 58; refine (hp _ _).mono ?_; rintro e w' ⟨rfl, rfl⟩))
  go_end0
  exact ⟨rfl, rfl⟩
end Go.Proofs.Ytmhghgogehmehaa.Ru

/- The contract of the program's 'Norm': the list in order of the same numbers. Condition: at most 2^42 runs. -/
namespace Go.Proofs.Ytmhghgogehmehaa.Ru
open Go.ChangeShapes Go.WideShapes Go.ChangeAt Go.RowKit Go.Shelf
set_option linter.unusedVariables false
set_option maxRecDepth 4000

theorem joined_nil (w : World) : Calls Try.prog 50 #[.slice none 0 0] w fun e w' => e = .returned (.slice none 0 0) ∧ w' = w := by
  go_enter Try.func50, Try.ntmps50
  go_wp2
  refine wp_loop_rounds 1 ?_
  rw [rounds_succ]
  go_wp2
  go_ret
  exact ⟨rfl, rfl⟩

theorem perm_length {l m : List Run} (h : m.Perm l) {n : Nat} (hl : l.length = n) : m.length = n := by rw [h.length_eq, hl]
theorem pnorm_any (w : World) (A : Option Addr) (l : List Run) (n c : Nat) (hl : l.length = n) (hb : Runs w w.heap.size A l) (h42 : n ≤ 4398046511104) :
    Calls Try.prog 36 #[.slice A n c] w (RunPost w (nrm l)) := by
  have HL := Lib.hid hl
  have HB := Lib.hid hb
  have L0 : Hid (Below w.heap.size w (w.alloc (.cells #[.slice A n c] 36))) := below_new _ _
  have HC : Hid (Calls Try.prog 45 #[.func (.func 57) #[] #[.pointer (some ⟨w.heap.size, 0, none⟩)]] (w.alloc (.cells #[.slice A n c] 36)) (RunPost (w.alloc (.cells #[.slice A n c] 36)) (tells l))) :=
    collect_any _ w.heap.size A l n c hl (by simp) (Boxed.new w 36 (.slice A n c)).cell (hb.up L0.out) h42
  clear hl hb
  go_enter Try.func36, Try.ntmps36
  go_wp2_with fail
  refine (telling_any w A n c).mono ?_
  rintro e w1 ⟨rfl, rfl⟩
  go_wp2_with fail
  refine HC.out.mono ?_
  rintro e w2 ⟨A2, n2, c2, rfl, hn2, ho2, hb2⟩
  have hn3 : n2 ≤ 4398046511104 := by
    rw [← hn2]
    refine Nat.le_trans (List.length_filter_le _ _) ?_
    rw [HL.out]; exact h42
  have HO := Lib.hid (own_less ho2 L0.out.size)
  have HW : Hid (Below w.heap.size w w2) := L0.out.trans (hb2.mono L0.out.size)
  have HN := Lib.hid hn2
  clear ho2 hb2 hn2 HC L0
  rcases A2 with _ | ad
  · obtain ⟨rfl, rfl⟩ := (own_len HO.out).2.2 rfl
    have hz : Hid (nrm l = []) := by
      show _ = _
      rw [← joined_norm (l := l) (m := []) (by rw [List.eq_nil_of_length_eq_zero HN.out]) List.Pairwise.nil]
      rfl
    go_wp2_with fail
    refine (sort_nil _).mono ?_
    rintro e w3 ⟨rfl, rfl⟩
    go_wp2_with fail
    refine (joined_nil _).mono ?_
    rintro e w3 ⟨rfl, rfl⟩
    go_wp2
    go_ret
    rw [hz.out]
    exact ⟨none, 0, 0, rfl, rfl, World.ownsRow_nil _ _ _ _, HW.out⟩
  · obtain ⟨g, cap, e, hBg⟩ : ∃ g cap, Value.slice (some ad) n2 c2 = .slice (some ⟨g, 0, none⟩) n2 cap ∧ w.heap.size ≤ g := own_shape (w := w) HO.out (.inr (fun h => by cases h))
    cases e
    go_wp2_with fail
    refine (sort_any w2 w.heap.size g c2 n2 (tells l) HN.out (by omega) HO.out).mono ?_
    rintro e w3 ⟨rfl, m, hp, hr, ho3, hg3⟩
    have HJ := Lib.hid (joined_norm hp hr)
    have HC : Hid (Calls Try.prog 50 #[.slice (some ⟨g, 0, none⟩) n2 c2] w3 fun e w' => ∃ k, e = .returned (.slice (some ⟨g, 0, none⟩) k c2) ∧ (joinL m).length = k ∧ w'.ownsRow w.heap.size 35 2 (.slice (some ⟨g, 0, none⟩) k c2) k (rv (joinL m)) ∧ w3.grownBy w' (some g)) :=
      joined_any w3 w.heap.size g c2 n2 m (perm_length hp HN.out) ho3 (fun r h => (List.mem_filter.1 (hp.mem_iff.1 h)).2) hr hn3
    have HG := Lib.hid hg3
    clear hp hr ho3 hg3
    go_wp2_with fail
    refine HC.out.mono ?_
    rintro e w4 ⟨k, rfl, hk, ho4, hg4⟩
    rw [HJ.out] at hk ho4
    have HO4 := Lib.hid ho4
    have HK := Lib.hid hk
    have HW4 : Hid (Below w.heap.size w w4) := HW.out.grown (grown_trans HG.out hg4) HW.out.size (fun j e => by cases e; exact hBg)
    clear ho4 hg4 hk
    go_wp2
    go_ret
    exact ⟨_, k, c2, rfl, HK.out, HO4.out, HW4.out⟩
end Go.Proofs.Ytmhghgogehmehaa.Ru

/- The contract of the program's 'inOrder' of layer ctx: the context, in order, of the runs that a map of lists holds. Condition: at most 2^30 devices, each with at most 2^41 runs. -/
namespace Go.Proofs.Ytmhghgogehmehaa.Cx
open Go.ChangeShapes Go.WideShapes Go.ChangeAt Go.RowKit Go.Maps
set_option linter.unusedVariables false
set_option maxRecDepth 4000

/-- a row of cells is no iterator. -/
theorem neS_iter {w : World} {b r n k c size e : Nat} {B : Nat} {D : DataW Value} {left : Lit → Bool} {cnt : Nat} {A : Option Addr} {xs : List Value} (h : w.ranges Try.prog 32 valS b r n D left cnt) (ho : w.ownsRow B e size (.slice A k c) k xs) :
    (Value.slice A k c).ownBlock = none ∨ (Value.slice A k c).ownBlock ≠ some r := by
  rcases ho.2 with ⟨h1, _⟩ | ⟨g, cap, cur, h1, _, h2, _⟩
  · cases h1; exact .inl rfl
  · cases h1
    right
    intro e
    have e2 : g = r := by simpa [Value.ownBlock] using e
    obtain ⟨es, clock, since, seen, c0, _, _, _, _, h3, _⟩ := h
    rw [← e2, h2] at h3
    cases h3
theorem ownS_from {w : World} {B k c size e : Nat} {A : Option Addr} {xs : List Value} (ho : w.ownsRow B e size (.slice A k c) k xs) : ∀ j, (Value.slice A k c).ownBlock = some j → B ≤ j := by
  intro j hj
  exact (ho.lt j hj).1
/-- parts whose runs lie behind block r, and apart from this row. -/
def ApartR (w : World) (r : Nat) (ps : List PV) (row : Option Nat) : Prop := ∀ p ∈ ps, ∃ ad, p.adr = some ad ∧ r < ad.block ∧ ad.block < w.heap.size ∧ some ad.block ≠ row
theorem ApartR.apart {w : World} {r : Nat} {ps : List PV} {row : Option Nat} (h : ApartR w r ps row) : Apart w ps row := fun p hp => by
  obtain ⟨ad, e, _, h2, h3⟩ := h p hp
  exact ⟨ad, e, h2, h3⟩
theorem ApartR.iter {w : World} {r : Nat} {ps : List PV} {row : Option Nat} (h : ApartR w r ps row) : Apart w ps (some r) := fun p hp => by
  obtain ⟨ad, e, h1, h2, _⟩ := h p hp
  exact ⟨ad, e, h2, fun e2 => by injection e2 with e2; omega⟩
theorem ApartR.up {w w' : World} {r : Nat} {ps : List PV} {row : Option Nat} (h : ApartR w r ps row) (hs : w.heap.size ≤ w'.heap.size) : ApartR w' r ps row := fun p hp => by
  obtain ⟨ad, e, h1, h2, h3⟩ := h p hp
  exact ⟨ad, e, h1, Nat.lt_of_lt_of_le h2 hs, h3⟩
theorem ApartR.snoc {w : World} {r : Nat} {ps : List PV} {row : Option Nat} {p : PV} {ad : Addr} (h : ApartR w r ps row) (e : p.adr = some ad) (h1 : r < ad.block) (h2 : ad.block < w.heap.size) (hne : some ad.block ≠ row) : ApartR w r (ps ++ [p]) row := fun q hq => by
  rcases List.mem_append.1 hq with hq | hq
  · exact h q hq
  · obtain rfl := List.mem_singleton.1 hq
    exact ⟨ad, e, h1, h2, hne⟩
/-- the row has grown, where it lay or in a new block. -/
theorem ApartR.grown {w w' : World} {r : Nat} {ps : List PV} {row row' : Option Nat} (h : ApartR w r ps row) (hs : w.heap.size ≤ w'.heap.size) (hr : row' = row ∨ row' = some w.heap.size) : ApartR w' r ps row' := fun p hp => by
  obtain ⟨ad, e, h1, h2, h3⟩ := h p hp
  refine ⟨ad, e, h1, Nat.lt_of_lt_of_le h2 hs, ?_⟩
  rcases hr with rfl | rfl
  · exact h3
  · intro e2; injection e2 with e2; omega
theorem Apart.perm {w : World} {ps s : List PV} {row : Option Nat} (h : Apart w ps row) (hp : s.Perm ps) : Apart w s row := fun p hm => h p (hp.mem_iff.1 hm)
set_option maxHeartbeats 4000000 in
theorem pinord_any (hsort : SortsP) (w : World) (B b n : Nat) (f : Nat → List Run) (h : MapS w B b n f) (hf : Tells (fun d => Ru.nrm (f d))) (hl : ∀ d, (f d).length ≤ 2199023255552) (hn : n ≤ 1073741824) :
    Calls Try.prog 29 #[.map (some b)] w (CtxPost w (listC (fun d => Ru.nrm (f d)))) := by
  obtain ⟨hbB, D, g, hown, hh, hs⟩ := h
  obtain ⟨i0, hi0, hz0, hz1, hz2⟩ := info_parts part_info
  have HH := Lib.hid hh
  have HF := Lib.hid hf
  have HSL := Lib.hid hs
  have HWN := Lib.hid hown
  have HLN := Lib.hid hl
  have HNZ : Hid (∀ d, f d = [] → Ru.nrm (f d) = []) := Lib.hid (fun d hd => by rw [hd]; exact nrm_nil)
  have HNO : Hid (∀ d, Ru.InOrder (Ru.nrm (f d))) := Lib.hid (fun d => (Ru.nrm_spec _).1)
  have HNM : Hid (∀ W A d k c, RunsAt W A (f d) k c → Calls Try.prog 36 #[.slice A k c] W (Ru.RunPost W (Ru.nrm (f d)))) := Lib.hid (fun W A d k c hr => Ru.pnorm_any W A (f d) k c hr.len hr.runs (by rw [← hr.len]; have := hl d; omega))
  have hbl := hown.lt
  have hlen := hown.len (t := 67) (e := 36) Try.underlying67 3
  have hkn := hown.size_le
  obtain ⟨kn, hknD⟩ : ∃ kn, Maps.size D = kn := ⟨_, rfl⟩
  have HKN := Lib.hid hknD
  rw [hknD] at hlen hkn
  clear hh hf hs hown hknD hl
  generalize hN : (fun d => Ru.nrm (f d)) = N at *
  have HNF : Hid (∀ d, Ru.nrm (f d) = N d) := Lib.hid (fun d => by rw [← hN])
  clear hN
  go_enter Try.func29, Try.ntmps29
  go_wp2_with (first
    | (at_make
       refine wpList_make_own _ rfl _ _ 25 rfl w.heap.size 38 i0 (.agg #[.int .u16 0, .slice none 0 0]) 2 Try.underlying25 hi0 hz0 hz1 _ _ _ kn rfl rfl rfl (by rw [hz2]; omega) (by simp only [maxLen]; omega) (Nat.le_refl _) ?_
       intro w1 ho1 hg1
       have HO1 := Lib.hid ho1
       have HG1 := Lib.hid hg1
       have HWN1 := Lib.hid (HWN.out.kept hg1 (fun e => by cases e))
       clear ho1 hg1)
    | (at_range; refine wpList_range_own _ rfl _ 67 rfl 32 36 law16 Try.underlying67 _ b n _ rfl HWN1.out ?_; intro w0 hrg0 hg0 hs0)
    | go_in)
  have HR0 := Lib.hid hrg0
  have HB0 : Hid (Below w.heap.size w w0) := Lib.hid (((Below.refl _ w).grown HG1.out (Nat.le_refl _) (fun j hj => by cases hj)).grown hg0 HG1.out.size (fun j hj => by cases hj))
  have HS0 := Lib.hid hs0
  have HO2 : Hid (w0.ownsRow w.heap.size 38 2 (.slice (some ⟨w.heap.size, 0, none⟩) 0 kn) 0 (cv [])) := Lib.hid (HO1.out.kept hg0 (.inr (fun e => by cases e)))
  have hw1 := HG1.out.size
  have HGS : Hid (GatherS N g (Maps.has D) []) := Lib.hid (gatherN_start HH.out HSL.out (fun d hd => by rw [← HNF.out]; exact HNZ.out d hd))
  clear hrg0 hg0 hs0 hlen
  go_frame
  go_loopw [3] (fun v wr => ∃ (left : Lit → Bool) (cnt : Nat) (ps : List PV) (m : List Part) (A : Option Addr) (k c : Nat), v = .slice A k c ∧ m.length = k ∧ k + cnt ≤ kn ∧ wr.ranges Try.prog 32 valS b w1.heap.size n D left cnt ∧ GatherS N g left m ∧ Match wr ps m ∧
      ApartR wr w1.heap.size ps (Value.slice A k c).ownBlock ∧ wr.ownsRow w.heap.size 38 2 (.slice A k c) k (cv ps) ∧ Below w.heap.size w wr ∧ w1.heap.size < wr.heap.size) (fun _ wr => wr.rangeLeft b w1.heap.size)
  case atStart => exact ⟨_, _, [], [], _, 0, kn, rfl, rfl, by rw [HKN.out]; omega, HR0.out, HGS.out, Match.nil_ _, (fun p hp => by cases hp), HO2.out, HB0.out, by rw [HS0.out]; exact Nat.lt_succ_self _⟩
  case round =>
    obtain ⟨left, cnt, ps, m, A, k, c, rfl, hm, hkn2, hrg, hga, hma, hap, ho, hw, hws⟩ := hrel
    have HM := Lib.hid hm
    have HG := Lib.hid hga
    have HMA := Lib.hid hma
    have HAP := Lib.hid hap
    have HO := Lib.hid ho
    have HW := Lib.hid hw
    have HRL := Lib.hid hrg.left_eq
    have HNE := Lib.hid (neS_iter hrg ho)
    have HOF := Lib.hid (ownS_from ho)
    clear hm hga hma hap ho hw
    go_wp2_with (first
      | (at_next; refine wpList_nextS rfl _ rfl b w1.heap.size n _ _ _ rfl hrg ?_ ?_)
      | go_in)
    · intro hc0 hl0
      have HE := Lib.hid hl0
      clear hrg
      go_wp2_with fail
      refine (hsort wr w.heap.size A k c ps (HMA.out.1.trans HM.out) (by omega) HO.out).mono ?_
      rintro e w2 ⟨rfl, s, hp, hs, ho2, hg2⟩
      have HS := Lib.hid ((made_end HG.out HF.out HE.out HMA.out hp hs).grown hg2 (HAP.out.apart.perm hp))
      have HL : Hid ((listC N).length = k) := Lib.hid (by rw [← HS.out.1, hp.length_eq, HMA.out.1]; exact HM.out)
      have HO2 := Lib.hid ho2
      have HW2 : Hid (Below w.heap.size w w2) := Lib.hid (HW.out.grown hg2 HW.out.size HOF.out)
      clear hp hs ho2 hg2
      go_wp2
      go_ret
      exact ⟨A, k, c, s, rfl, HL.out, HO2.out, HS.out, HW2.out⟩
    · intro x sl wn cnt1 hwx hlx hat hrg1 hlt hg1 hs1 hen
      obtain ⟨d, rfl, hd, hR, hRB⟩ := entryS HH.out HSL.out hwx hat
      have HW1 : Hid (Below w.heap.size w wn) := Lib.hid (HW.out.grown hg1 HW.out.size (fun j hj => by cases hj; exact hw1))
      have HO1 := Lib.hid (HO.out.kept hg1 HNE.out)
      have HMA1 := Lib.hid (HMA.out.grown hg1 HAP.out.iter)
      have HAP1 := Lib.hid (HAP.out.up hg1.size)
      have CN := HNM.out wn sl.adr d sl.len sl.cap (hR.up HW1.out)
      have HLX := Lib.hid hlx
      have HR1 := Lib.hid hrg1
      have hsn : w1.heap.size < wn.heap.size := by rw [hs1]; exact hws
      clear hrg hrg1 hat hg1 hwx hR hRB hs1 hlx hws
      go_wp2_with fail
      refine CN.mono ?_
      intro e w2 hp
      obtain ⟨A3, n3, c3, rfl, hR3, hb3, hnew⟩ := runs_post hp (HNO.out d)
      rw [HNF.out d] at hR3
      have HR3 := Lib.hid hR3
      have HLN3 := Lib.hid hR3.len
      have HNW := Lib.hid hnew
      have HW2 := Lib.hid (HW1.out.trans (hb3.mono HW1.out.size))
      have HO2 := Lib.hid (Dt.own_kept HO1.out hb3)
      have HMA2 := Lib.hid (HMA1.out.up hb3)
      have HAP2 := Lib.hid (HAP1.out.up hb3.size)
      have HR2 := Lib.hid (HR1.out.kept (bel_grown hb3 none) (fun e => by cases e) (fun e => by cases e))
      have hs2 : w1.heap.size < w2.heap.size := Nat.lt_of_lt_of_le hsn hb3.size
      have HOB := Lib.hid (fun j hj => (HO1.out.lt j hj).2)
      clear hp hR3 hnew hb3 CN
      by_cases h0 : n3 = 0
      · have HG1 := Lib.hid (HG.out.skip (d := d) (List.eq_nil_of_length_eq_zero (by rw [HLN3.out]; exact h0)))
        have dz : decide ((0 : Int) < (n3 : Int)) = false := decide_eq_false (by omega)
        clear hen
        go_wp2
        refine ⟨⟨_, cnt1, ps, m, A, k, c, rfl, HM.out, by omega, HR2.out, HG1.out, HMA2.out, HAP2.out, HO2.out, HW2.out, hs2⟩, ?_⟩
        rw [HR2.out.left_eq, HRL.out]
        exact hlt
      · have hfd : N d ≠ [] := fun e => h0 (by rw [← HLN3.out, e]; rfl)
        have HG1 := Lib.hid (HG.out.step hd hfd HLX.out)
        have dz : decide ((0 : Int) < (n3 : Int)) = true := decide_eq_true (by omega)
        obtain ⟨ad3, had3⟩ : ∃ ad3, A3 = some ad3 := by
          cases A3 with
          | none => exact absurd (HR3.out.nil rfl).1 h0
          | some ad3 => exact ⟨ad3, rfl⟩
        have HAD := Lib.hid had3
        have hblk : wn.heap.size ≤ ad3.block ∧ ad3.block < w2.heap.size := by
          refine ⟨HNW.out ad3 had3, ?_⟩
          obtain ⟨ad', e, hB, _⟩ := HR3.out.runs.2 (by rw [Ru.rv_length, HLN3.out]; omega)
          rw [had3] at e
          obtain rfl := Option.some.inj e
          exact hB
        have HBA : Hid (Below w2.heap.size w2 (w2.alloc (.cells #[.int .u16 (d : Int), .slice A3 n3 c3] 38))) := Lib.hid (Dt.below_new _ _)
        have HMA3 : Hid (Match (w2.alloc (.cells #[.int .u16 (d : Int), .slice A3 n3 c3] 38)) (ps ++ [⟨d, A3, n3, c3⟩]) (m ++ [(d, N d)])) := Lib.hid ((HMA2.out.up HBA.out).snoc (by
          have q := HR3.out.up HBA.out
          exact ⟨rfl, hd, q.len, q.nil, q.cap, q.max, q.runs⟩))
        have HAP3 : Hid (ApartR (w2.alloc (.cells #[.int .u16 (d : Int), .slice A3 n3 c3] 38)) w1.heap.size (ps ++ [⟨d, A3, n3, c3⟩]) (Value.slice A k c).ownBlock) := Lib.hid ((HAP2.out.up HBA.out.size).snoc had3 (by omega) (Nat.lt_of_lt_of_le hblk.2 HBA.out.size) (fun e => by
          have := HOB.out ad3.block e.symm
          omega))
        have HOA := Lib.hid (HO2.out.alloc (.cells #[.int .u16 (d : Int), .slice A3 n3 c3] 38))
        have HWA : Hid (Below w.heap.size w (w2.alloc (.cells #[.int .u16 (d : Int), .slice A3 n3 c3] 38))) := Lib.hid (bel_alloc _ HW2.out)
        have HRA := Lib.hid (HR2.out.alloc (.cells #[.int .u16 (d : Int), .slice A3 n3 c3] 38))
        clear hen had3
        go_wp2_with (first
          | (at_builtin; refine wpList_part rfl (.tmp 21) (.tmp 25) rfl rfl _ w.heap.size k (.slice A k c) ps ⟨w2.heap.size, 0, none⟩ ⟨d, A3, n3, c3⟩ rfl rfl HOA.out (part_at w2 ⟨d, A3, n3, c3⟩) (by omega) HWA.out.size ?_; intro A4 c4 w3 ho3 hg3 hl3)
          | go_in)
        have HR4 := Lib.hid (HRA.out.kept hg3 (fun e => by have := HOF.out b e.symm; omega) (fun e => by rcases HNE.out with h | h; rw [h] at e; cases e; exact h e.symm))
        have HW3 : Hid (Below w.heap.size w w3) := Lib.hid (HWA.out.grown hg3 HWA.out.size HOF.out)
        have hlen : (m ++ [(d, N d)]).length = k + 1 := by rw [List.length_append, HM.out]; rfl
        have hs3 : w1.heap.size < w3.heap.size := Nat.lt_of_lt_of_le hs2 (Nat.le_trans HBA.out.size hg3.size)
        refine ⟨⟨_, cnt1, ps ++ [⟨d, A3, n3, c3⟩], m ++ [(d, N d)], A4, k + 1, c4, rfl, hlen, by omega, HR4.out, HG1.out, HMA3.out.grown hg3 HAP3.out.apart, HAP3.out.grown hg3.size hl3, ho3, HW3.out, hs3⟩, ?_⟩
        rw [HR4.out.left_eq, HRL.out]
        exact hlt
end Go.Proofs.Ytmhghgogehmehaa.Cx

/- The laying of the sorting of parts: which functions and types of this program stand for those of the library's contract. -/
namespace Go.Proofs
open Go.Shelf
def Try.sortP_ren : Go.Shelf.Ren := ⟨fun | 15 => 52 | 14 => 51 | 28 => 68 | 29 => 69 | 20 => 60 | 21 => 61 | 22 => 62 | 23 => 63 | 24 => 64 | 25 => 65 | 26 => 66 | 27 => 67 | 46 => 78 | 47 => 79 | 48 => 80 | 49 => 81 | 50 => 82 | 57 => 86 | n => n, fun | 22 => 24 | 24 => 38 | 25 => 78 | 3 => 3 | 39 => 92 | 0 => 0 | 53 => 108 | 55 => 33 | 4 => 4 | 46 => 101 | 45 => 100 | 50 => 105 | 5 => 5 | 9 => 9 | 66 => 114 | 70 => 116 | 76 => 120 | 77 => 121 | n => n, fun | n => n⟩
theorem Try.sortP : Go.Proofs.SlLaysF0.n14 Try.prog Try.sortP_ren := {
  mixed := by kernel_rfl
  f14 := ⟨Try.f51.name, by decide, Try.func51.trans (congrArg some (by kernel_rfl))⟩
  f15 := Try.func52.trans (congrArg some (by kernel_rfl))
  f20 := ⟨Try.f60.name, by decide, Try.func60.trans (congrArg some (by kernel_rfl))⟩
  f21 := ⟨Try.f61.name, by decide, Try.func61.trans (congrArg some (by kernel_rfl))⟩
  f22 := ⟨Try.f62.name, by decide, Try.func62.trans (congrArg some (by kernel_rfl))⟩
  f23 := ⟨Try.f63.name, by decide, Try.func63.trans (congrArg some (by kernel_rfl))⟩
  f24 := ⟨Try.f64.name, by decide, Try.func64.trans (congrArg some (by kernel_rfl))⟩
  f25 := ⟨Try.f65.name, by decide, Try.func65.trans (congrArg some (by kernel_rfl))⟩
  f26 := ⟨Try.f66.name, by decide, Try.func66.trans (congrArg some (by kernel_rfl))⟩
  f27 := ⟨Try.f67.name, by decide, Try.func67.trans (congrArg some (by kernel_rfl))⟩
  f28 := Try.func68.trans (congrArg some (by kernel_rfl))
  f29 := Try.func69.trans (congrArg some (by kernel_rfl))
  f46 := ⟨Try.f78.name, by decide, Try.func78.trans (congrArg some (by kernel_rfl))⟩
  f47 := Try.func79.trans (congrArg some (by kernel_rfl))
  f48 := Try.func80.trans (congrArg some (by kernel_rfl))
  f49 := ⟨Try.f81.name, by decide, Try.func81.trans (congrArg some (by kernel_rfl))⟩
  f50 := ⟨Try.f82.name, by decide, Try.func82.trans (congrArg some (by kernel_rfl))⟩
  f57 := ⟨Try.f86.name, by decide, Try.func86.trans (congrArg some (by kernel_rfl))⟩
  t0 := Try.underlying0
  a0 := Try.isAgg0
  z0 := Try.sizeOf0
  v0 := Try.zeroValue0
  t3 := Try.underlying3
  a3 := Try.isAgg3
  z3 := Try.sizeOf3
  v3 := Try.zeroValue3
  t4 := Try.underlying4
  a4 := Try.isAgg4
  z4 := Try.sizeOf4
  v4 := Try.zeroValue4
  t5 := Try.underlying5
  a5 := Try.isAgg5
  z5 := Try.sizeOf5
  v5 := Try.zeroValue5
  t9 := Try.underlying9
  a9 := Try.isAgg9
  z9 := Try.sizeOf9
  v9 := Try.zeroValue9
  t22 := Try.underlying24
  a22 := Try.isAgg24
  z22 := Try.sizeOf24
  v22 := Try.zeroValue24
  t25 := Try.underlying78
  a25 := Try.isAgg78
  z25 := Try.sizeOf78
  v25 := Try.zeroValue78
  t39 := Try.underlying92
  a39 := Try.isAgg92
  z39 := Try.sizeOf92
  v39 := Try.zeroValue92
  t45 := Try.underlying100
  a45 := Try.isAgg100
  z45 := Try.sizeOf100
  v45 := Try.zeroValue100
  t46 := Try.underlying101
  a46 := Try.isAgg101
  z46 := Try.sizeOf101
  v46 := Try.zeroValue101
  t50 := Try.underlying105
  a50 := Try.isAgg105
  z50 := Try.sizeOf105
  v50 := Try.zeroValue105
  t53 := Try.underlying108
  a53 := Try.isAgg108
  z53 := Try.sizeOf108
  v53 := Try.zeroValue108
  t55 := Try.underlying33
  a55 := Try.isAgg33
  z55 := Try.sizeOf33
  v55 := Try.zeroValue33
  t66 := Try.underlying114
  a66 := Try.isAgg114
  z66 := Try.sizeOf114
  v66 := Try.zeroValue114
  t70 := Try.underlying116
  a70 := Try.isAgg116
  z70 := Try.sizeOf116
  v70 := Try.zeroValue116
  t76 := Try.underlying120
  a76 := Try.isAgg120
  z76 := Try.sizeOf120
  v76 := Try.zeroValue120
  t77 := Try.underlying121
  a77 := Try.isAgg121
  z77 := Try.sizeOf121
  v77 := Try.zeroValue121 }
end Go.Proofs

/- The contract of slices.SortFunc as 'inOrder' calls it: the same parts, in the order of their devices. Condition: fewer than 2^62 parts. -/
namespace Go.Proofs.Ytmhghgogehmehaa.Cx
open Go.ChangeShapes Go.WideShapes Go.ChangeAt Go.RowKit Go.Shelf
set_option linter.unusedVariables false
set_option maxRecDepth 4000

theorem nanP_any (w : World) (x : Nat) : Calls Try.prog 53 #[.int .u16 (x : Int)] w fun e w' => e = .returned (.bool false) ∧ w' = w := by
  have h : ((x : Int) != (x : Int)) = false := by rw [bne_eq_false_iff_eq]
  generalize ((x : Nat) : Int) = y at *
  go_enter Try.func53, Try.ntmps53
  go_wp2
  go_ret
  exact ⟨rfl, rfl⟩
def cfP (x y : PV) : Int := Lib.compareInt x.dev y.dev
theorem compareP_any (w : World) (x y : Nat) : Calls Try.prog 39 #[.int .u16 (x : Int), .int .u16 (y : Int)] w fun e w' => e = .returned (.int .i64 (Lib.compareInt x y)) ∧ w' = w := by
  have hx := fun W => nanP_any W x
  have hy := fun W => nanP_any W y
  unfold Lib.compareInt
  by_cases h1 : (x : Int) < y
  · rw [if_pos h1]
    generalize ((x : Nat) : Int) = x at *
    generalize ((y : Nat) : Int) = y at *
    go_enter Try.func39, Try.ntmps39
    go_wp2_with fail
    refine (hx _).mono ?_
    rintro e w1 ⟨rfl, rfl⟩
    go_wp2_with fail
    refine (hy _).mono ?_
    rintro e w1 ⟨rfl, rfl⟩
    go_wp2
    go_ret
    exact ⟨rfl, rfl⟩
  · rw [if_neg h1]
    have d1 : decide ((x : Int) < y) = false := decide_eq_false h1
    by_cases h2 : (x : Int) > y
    · rw [if_pos h2]
      have d2 : decide ((y : Int) < x) = true := decide_eq_true h2
      clear h1
      generalize ((x : Nat) : Int) = x at *
      generalize ((y : Nat) : Int) = y at *
      go_enter Try.func39, Try.ntmps39
      go_wp2_with fail
      refine (hx _).mono ?_
      rintro e w1 ⟨rfl, rfl⟩
      go_wp2_with fail
      refine (hy _).mono ?_
      rintro e w1 ⟨rfl, rfl⟩
      go_wp2
      go_ret
      exact ⟨rfl, rfl⟩
    · rw [if_neg h2]
      have d2 : decide ((y : Int) < x) = false := decide_eq_false h2
      clear h1 h2
      generalize ((x : Nat) : Int) = x at *
      generalize ((y : Nat) : Int) = y at *
      go_enter Try.func39, Try.ntmps39
      go_wp2_with fail
      refine (hx _).mono ?_
      rintro e w1 ⟨rfl, rfl⟩
      go_wp2_with fail
      refine (hy _).mono ?_
      rintro e w1 ⟨rfl, rfl⟩
      go_wp2
      go_ret
      exact ⟨rfl, rfl⟩

/-- a part's two cells. -/
def encP (p : PV) : List Value := [.int .u16 (p.dev : Int), .slice p.adr p.len p.cap]
instance : Inhabited PV := ⟨⟨0, none, 0, 0⟩⟩
theorem closureP_any (x y : PV) (W : World) : Calls Try.prog 38 #[.agg #[.int .u16 (x.dev : Int), .slice x.adr x.len x.cap], .agg #[.int .u16 (y.dev : Int), .slice y.adr y.len y.cap]] W fun e w' => e = .returned (.int .i64 (cfP x y)) ∧ ∃ q os', w' = Sort.grow (W.drewN q) os' := by
  have hcon : ∀ W', Calls Try.prog 39 #[.int .u16 (x.dev : Int), .int .u16 (y.dev : Int)] W' fun e w' => e = .returned (.int .i64 (cfP x y)) ∧ w' = W' := fun W' => compareP_any W' x.dev y.dev
  generalize cfP x y = r at hcon ⊢
  go_enter Try.func38, Try.ntmps38
  go_wp2_with (go_at_call 39; refine (hcon _).mono ?_; rintro e w' ⟨rfl, rfl⟩)
  go_ret
  exact ⟨rfl, 0, _, by rw [Sort.alloc_eq_grow, Sort.alloc_eq_grow, Sort.grow_grow]; rfl⟩
theorem ltP (x y : PV) : ltOf cfP x y = decide (x.dev < y.dev) := by
  unfold ltOf cfP Lib.compareInt
  by_cases h1 : (x.dev : Int) < y.dev
  · have : x.dev < y.dev := by omega
    simp [this]
  · by_cases h2 : (y.dev : Int) < x.dev
    · have h3 : ¬ x.dev < y.dev := by omega
      have h4 : y.dev < x.dev := by omega
      simp [h3, h4]
    · have h3 : ¬ x.dev < y.dev := by omega
      have h4 : ¬ y.dev < x.dev := by omega
      simp [h3, h4]
theorem swoP : Sort.SWO (ltOf cfP) where
  irrefl x := by rw [ltP]; simp
  trans x y z h1 h2 := by rw [ltP] at *; simp at *; omega
  ntrans x y z h1 h2 := by rw [ltP] at *; simp at *; omega

theorem flat_cv (l : List PV) (j : Nat) (hj : j < l.length * 2) : (cv l)[j]? = some (Sort.flatK encP 2 l.toArray)[j]! := by
  rw [Sort.get_flatK _ _ _ _ (by simpa using hj)]
  have hk : j / 2 < l.length := by omega
  have hg : l[j / 2]? = some l[j / 2] := List.getElem?_eq_getElem hk
  obtain ⟨g1, g2⟩ := cv_get hg
  have e : l.toArray[j / 2]! = l[j / 2] := by rw [getElem!_pos _ _ (by simpa using hk)]; simp
  rw [e]
  rcases Nat.mod_two_eq_zero_or_one j with h | h
  · rw [h]
    have : j / 2 * 2 = j := by omega
    rw [this] at g1
    simpa [encP] using g1
  · rw [h]
    have : j / 2 * 2 + 1 = j := by omega
    rw [this] at g2
    simpa [encP] using g2
theorem lenP (n : Nat) (hn : n < 4611686018427387904) (w : World) : Calls Try.prog 52 #[.int .u64 (n : Int)] w fun e w' => e = .returned (.int .i64 (Lib.bitLen n : Nat)) ∧ w' = w := by
  have h := Any.bits_Len (SlLaysF0.n15.bits (P := Try.prog) (ρ := Try.sortP_ren) { Try.sortP with }) (n : Int) w (by omega) (by omega)
  change Calls Try.prog 52 _ _ _ at h
  rwa [Int.toNat_natCast] at h
/-- the sorting itself, to the element. -/
theorem sortfP (g cap : Nat) (d : Array PV) (w : World) (hH : Sort.HoldsK encP 2 w g 0 d) (hlt : g < w.heap.size) (hsz : d.size < 4611686018427387904) :
    Calls Try.prog 37 #[.slice (some ⟨g, 0, none⟩) d.size cap, .func (.func 38) #[] #[]] w fun e w' =>
      e = .returned (.tuple #[]) ∧ ∃ d' n os, Sort.PermIn 0 d.size d d' ∧ Sort.SortedIn (ltOf cfP) 0 d.size d' ∧ w' = sortWorldK encP 2 w g 0 n d' os := by
  have eg : ∀ args w, (callFunc 38 args).run Try.prog w = .ok (.enter 38 args) w := enters_of Try.func38 (by kernel_rfl) rfl
  have hlim : Lib.bitLen d.size < 4611686018427387904 := Nat.lt_of_le_of_lt (Lib.bitLen_le d.size 62 (by omega) (by omega)) (by omega)
  have hp := AnyQ.pdqsortCmpFunc_all Try.sortP 2 Try.isAgg38 Try.sizeOf38 encP cfP 38 #[] swoP g 0 cap d w eg (fun m os dk _ x y => closureP_any x y _) ⟨fun _ => rfl, fun x v hv => by simp [encP] at hv; rcases hv with rfl | rfl <;> rfl, hH, hlt⟩ (d.size + 1) 0 d.size (Lib.bitLen d.size) d w (by omega) rfl (SWK.start hH) (Nat.zero_le _) (Nat.le_refl _) hsz hlim (Or.inl rfl)
  change Calls Try.prog 51 _ _ _ at hp
  have hl := lenP d.size hsz w
  have wr : IntKind.u64.wrap (d.size : Int) = d.size := by simp [IntKind.wrap, IntKind.bits, IntKind.signed]; omega
  have hfin := Sort.pdq_sorts (ltOf cfP) swoP d 0 d.size (Lib.bitLen d.size) true true (Nat.zero_le _) (Nat.le_refl _) (Or.inl rfl)
  clear hH
  go_enter Try.func37, Try.ntmps37
  go_wp2_with (first | (go_at_call 52; refine hl.mono ?_; rintro e w' ⟨rfl, rfl⟩) | (go_at_call 51; refine hp.mono ?_; rintro e w' ⟨rfl, n, os, rfl⟩))
  go_end0
  exact ⟨rfl, _, n, os, hfin.1, hfin.2, rfl⟩
theorem sortP_some (w : World) (B g cap n : Nat) (d : List PV) (hn : d.length = n) (h62 : n < 4611686018427387904) (h : w.ownsRow B 38 2 (.slice (some ⟨g, 0, none⟩) n cap) n (cv d)) :
    Calls Try.prog 37 #[.slice (some ⟨g, 0, none⟩) n cap, .func (.func 38) #[] #[]] w fun e w' => e = .returned (.tuple #[]) ∧ ∃ m : List PV, m.Perm d ∧ m.Pairwise (fun p q => p.dev ≤ q.dev) ∧ w'.ownsRow B 38 2 (.slice (some ⟨g, 0, none⟩) n cap) n (cv m) ∧ w.grownBy w' (some g) := by
  subst hn
  obtain ⟨hlen, ⟨hz, _⟩ | ⟨g', cap', cur, e, hB, hheap, hle, hmx, hsz, htk⟩⟩ := h
  · cases hz
  · cases e
    have hlt : g < w.heap.size := (Array.getElem?_eq_some_iff.1 hheap).1
    have hcell : ∀ j, j < d.length * 2 → cur[j]? = (cv d)[j]? := fun j hj => by
      rw [← htk, List.getElem?_take, if_pos hj]
      simp
    have hH : Sort.HoldsK encP 2 w g 0 d.toArray := fun j hj => by
      have hj' : j < d.length * 2 := by simpa using hj
      refine ⟨?_, by simp [World.frozen?, hheap]⟩
      rw [Nat.zero_add, show id (Sort.flatK encP 2 d.toArray)[j]! = (Sort.flatK encP 2 d.toArray)[j]! from rfl, ← flat_cv d j hj', ← hcell j hj']
      simp [World.cell?, hheap]
    have hcon := sortfP g cap d.toArray w hH hlt (by simpa using h62)
    rw [List.size_toArray] at hcon
    refine hcon.mono ?_
    rintro e w' ⟨rfl, d', q, os, hp, hs, rfl⟩
    have h1 : d'.size = d.length := by simpa using hp.1
    refine ⟨rfl, d'.toList, ?_, ?_, ?_, ?_⟩
    · have h3 := hp.2.2
      have e1 : d'.extract 0 d.length = d' := by rw [← h1]; simp
      have e2 : d.toArray.extract 0 d.length = d.toArray := by simp
      rw [e1, e2] at h3
      exact h3
    · refine List.pairwise_iff_getElem.2 fun i j hi hj hij => ?_
      rw [Array.length_toList] at hi hj
      have := hs i j (Nat.zero_le _) hij (by omega)
      rw [ltP, getElem!_pos d' j hj, getElem!_pos d' i hi] at this
      simpa using this
    · refine ⟨by rw [cv_length, Array.length_toList, h1], .inr ⟨g, cap, Sort.putCells id 0 (Sort.flatK encP 2 d') cur, rfl, hB, ?_, hle, hmx, by simp [Sort.putCells, hsz], ?_⟩⟩
      · show ((w.heap.modify g (Sort.onCells (Sort.putCells id 0 (Sort.flatK encP 2 d')))) ++ os)[g]? = _
        rw [Array.getElem?_append_left (by simpa using hlt), Array.getElem?_modify, if_pos rfl, hheap]
        rfl
      · apply List.ext_getElem?
        intro j
        rw [List.getElem?_take]
        by_cases hj : j < d.length * 2
        · rw [if_pos hj]
          have hf := flat_cv d'.toList j (by rw [Array.length_toList, h1]; exact hj)
          rw [Array.toArray_toList] at hf
          rw [hf]
          have hc : cur[j]? = some cur[j] := Array.getElem?_eq_getElem (by omega)
          simp [Sort.putCells, hc, h1, hj]
        · rw [if_neg hj]
          exact (List.getElem?_eq_none (by rw [cv_length, Array.length_toList, h1]; omega)).symm
    · refine ⟨rfl, rfl, rfl, ?_, fun k hk hne => ?_⟩
      · show w.heap.size ≤ ((w.heap.modify g _) ++ os).size
        simp
      · show ((w.heap.modify g _) ++ os)[k]? = _
        rw [Array.getElem?_append_left (by simpa using hk), Array.getElem?_modify, if_neg (fun e => hne (by rw [e]))]
theorem insP_nil (w : World) (fv : Value) : Calls Try.prog 60 #[.slice none 0 0, .int .i64 0, .int .i64 0, fv] w fun e w' => e = .returned (.tuple #[]) ∧ w' = w := by
  go_enter Try.func60, Try.ntmps60
  go_wp2
  refine wp_loop_rounds 1 ?_
  rw [rounds_succ]
  go_wp2
  go_end0
  exact ⟨rfl, rfl⟩
theorem pdqP_nil (w : World) (lim : Int) (fv : Value) : Calls Try.prog 51 #[.slice none 0 0, .int .i64 0, .int .i64 0, .int .i64 lim, fv] w fun e w' => e = .returned (.tuple #[]) ∧ w' = w := by
  have hi := fun W => insP_nil W fv
  go_enter Try.func51, Try.ntmps51
  go_wp2
  refine wp_loop_rounds 1 ?_
  rw [rounds_succ]
  go_wp2_with (go_at_call 60; refine (hi _).mono ?_; rintro e w' ⟨rfl, rfl⟩)
  (try simp only [Exit.inBlock, Exit.then]); refine bodyPost_ret (results_none rfl _ _ _) rfl ?_
  exact ⟨rfl, rfl⟩
theorem sortP_nil (w : World) : Calls Try.prog 37 #[.slice none 0 0, .func (.func 38) #[] #[]] w fun e w' => e = .returned (.tuple #[]) ∧ w' = w := by
  have hl := fun W => lenP 0 (by decide) W
  have hp := fun lim W => pdqP_nil W lim (.func (.func 38) #[] #[])
  go_enter Try.func37, Try.ntmps37
  go_wp2_with (first | (go_at_call 52; refine (hl _).mono ?_; rintro e w' ⟨rfl, rfl⟩) | (go_at_call 51; refine (hp _ _).mono ?_; rintro e w' ⟨rfl, rfl⟩))
  go_end0
  exact ⟨rfl, rfl⟩
theorem psorts : SortsP := by
  intro W B A k c ps hk h62 ho
  cases A with
  | none =>
    obtain ⟨_, _, h3⟩ := Dt.own_len ho
    obtain ⟨rfl, rfl⟩ := h3 rfl
    refine (sortP_nil W).mono ?_
    rintro e w' ⟨rfl, rfl⟩
    obtain rfl := List.eq_nil_of_length_eq_zero hk
    exact ⟨rfl, [], List.Perm.refl _, List.Pairwise.nil, ho, Ru.turn_refl _ _⟩
  | some ad =>
    have hsh : ∃ g, ad = ⟨g, 0, none⟩ := by
      rcases ho.2 with ⟨h, _⟩ | ⟨g, cap, cur, h, _⟩
      · cases h
      · cases h; exact ⟨g, rfl⟩
    obtain ⟨g, rfl⟩ := hsh
    exact sortP_some W B g c k ps hk h62 ho
end Go.Proofs.Ytmhghgogehmehaa.Cx

/- The contracts of the program's functions of layer dot on single dots: Good, ahead, Cmp. For every dot of its types. -/
namespace Go.Proofs.Ytmhghgogehmehaa.Dt
open Go.ChangeShapes Go.WideShapes Go.ChangeAt Go.RowKit
set_option linter.unusedVariables false
set_option maxRecDepth 4000

theorem below_new2 (w : World) (o1 o2 : Obj) : Below w.heap.size w ((w.alloc o1).alloc o2) := (below_new w o1).alloc (below_new w o1).size o2

end Go.Proofs.Ytmhghgogehmehaa.Dt

/- The contract of the program's 'told': the map of what a vector tells. For every list of at most 2^62 dots. -/
namespace Go.Proofs.Ytmhghgogehmehaa.Dt
open Go.ChangeShapes Go.WideShapes Go.ChangeAt Go.RowKit Go.Maps
set_option linter.unusedVariables false
set_option maxRecDepth 4000

/-- what a map says behind a dot more. -/
def stepM (f : Nat → Nat) (d : Dot) : Nat → Nat := fun e => stepV e (f e) d
theorem stepM_not {f : Nat → Nat} {d : Dot} (h : mayD d = false) : stepM f d = f := by
  funext e
  refine if_neg ?_
  rintro ⟨rfl, h2, h3⟩
  rw [h] at h2; cases h2
theorem stepM_put {f : Nat → Nat} {d : Dot} (h1 : mayD d = true) : (fun e => if e = d.1 then max (f d.1) d.2 else f e) = stepM f d := by
  funext e
  unfold stepM
  rw [step_max]
  by_cases he : e = d.1
  · subst he; rw [if_pos rfl, if_pos ⟨rfl, h1⟩]
  · rw [if_neg he, if_neg (fun h => he h.1.symm)]
theorem grown_two (w : World) (o1 o2 : Obj) (row : Option Nat) : w.grownBy ((w.alloc o1).alloc o2) row := (World.grownBy_alloc w o1 row).trans (World.grownBy_alloc _ o2 row)
theorem map_new (w : World) : MapAt (w.alloc (.map #[] 0)) w.heap.size 0 (fun _ => 0) := ⟨.map [], World.ownsMap_made _ _ _ _, holds_none⟩
theorem told_next {l : List Dot} {k : Nat} {x : Dot} (h : l[k]? = some x) : ofV (l.take (k + 1)) = stepM (ofV (l.take k)) x := funext fun e => of_next e h
end Go.Proofs.Ytmhghgogehmehaa.Dt

/- The contracts of the program's Norm, Runs, Add and Of of layer ctx. Condition: at most 2^28 parts, of at most 2^28 runs together; at most 2^28 dots. -/
namespace Go.Proofs.Ytmhghgogehmehaa.Cx
open Go.ChangeShapes Go.WideShapes Go.ChangeAt Go.RowKit Go.Maps
set_option linter.unusedVariables false
set_option maxRecDepth 4000

theorem cpost_up {w W V : World} {m : List Part} {e : Ending} (hb : Below w.heap.size w W) (h : CtxPost W m e V) : CtxPost w m e V := by
  obtain ⟨A, n, c, ps, h1, h2, h3, h4, h5⟩ := h
  exact ⟨A, n, c, ps, h1, h2, Dt.own_less h3 hb.size, h4, hb.trans (h5.mono hb.size)⟩
theorem raw_short {a : List Part} {k : Nat} (h : Wide k a) (d : Nat) : (rawC a d).length ≤ k := by
  have q := raw_whole (fun _ => []) a d
  have q2 := h.2
  simp only [List.length_nil] at q
  show (rawF (fun _ => []) a d).length ≤ k
  omega
set_option maxHeartbeats 4000000 in
theorem pnorm_any (w : World) (A1 : Option Addr) (a : List Part) (n1 c1 : Nat) (h1 : CtxAt w A1 a n1 c1) (ha : Wide 268435456 a) :
    Calls Try.prog 20 #[.slice A1 n1 c1] w (CtxPost w (normC a)) := by
  have CB := pbydev_any w A1 a n1 c1 h1 ha
  have HT : Hid (Tells (fun d => Ru.nrm (rawC a d))) := Lib.hid (by rw [nrm_rawC]; exact tells_runs h1.fit)
  have HL := Lib.hid (fun d => raw_short ha d)
  have hn1 : n1 ≤ 268435456 := by rw [← h1.len]; exact ha.1
  rw [← norm_raw]
  clear h1 ha
  go_enter Try.func20, Try.ntmps20
  go_wp2_with fail
  refine CB.mono ?_
  rintro e w1 ⟨rfl, hM, hb⟩
  have CI := pinord_any psorts w1 _ _ _ _ hM.mapS HT.out (fun d => by have := HL.out d; omega) (by omega)
  have HB := Lib.hid hb
  clear CB hM hb
  go_wp2_with fail
  refine CI.mono ?_
  intro e w2 hp
  obtain ⟨A2, n2, c2, ps, rfl, h2⟩ := cpost_up HB.out hp
  have HP := Lib.hid h2
  clear hp h2 CI
  go_wp2
  go_ret
  exact ⟨A2, n2, c2, ps, rfl, HP.out⟩
theorem rawF_d (c : List Part) (k d : Nat) {x : Part} (h : c[k]? = some x) : rawC (c.take (k + 1)) d = stepR d (rawC (c.take k) d) x := congrFun (raw_next (f := fun _ => []) h) d
end Go.Proofs.Ytmhghgogehmehaa.Cx
