/- Words and contracts that the proofs of this seat stand on, part 17 of 20. -/
import Derived.Shelf.SlSortCmp.WholeK
import Derived.Test.YtmhghgogehmehaaGreatProg
import Derived.Test.YtmhghgogehmehaaGreatMgO
import Derived.Test.YtmhghgogehmehaaGreatMgP
import Derived.Test.YtmhghgogehmehaaGreatMgI
import Derived.WalkSmall
import Derived.Test.YtmhghgogehmehaaGreatMgN

/- The laying of slices.SortFunc at a slice of runs: which functions and types of this program stand for those of the library's contract. -/
namespace Go.Proofs
open Go.Shelf
def Tryz.sortR_ren : Go.Shelf.Ren := ⟨fun | 6 => 108 | 15 => 85 | 14 => 125 | 28 => 104 | 29 => 105 | 20 => 138 | 21 => 139 | 22 => 140 | 23 => 141 | 24 => 142 | 25 => 143 | 26 => 144 | 27 => 145 | 46 => 149 | 47 => 119 | 48 => 120 | 49 => 150 | 50 => 151 | 57 => 153 | n => n, fun | 22 => 69 | 24 => 73 | 25 => 141 | 3 => 3 | 39 => 113 | 0 => 0 | 53 => 134 | 55 => 23 | 4 => 4 | 46 => 127 | 45 => 126 | 50 => 131 | 5 => 5 | 9 => 9 | 66 => 149 | 70 => 151 | 76 => 162 | 77 => 163 | n => n, fun | n => n⟩
theorem Tryz.sortR : Go.Proofs.SlLaysF0.n6 Tryz.prog Tryz.sortR_ren := {
  mixed := by kernel_rfl
  f6 := ⟨Tryz.f108.name, by decide, Tryz.func108.trans (congrArg some (by kernel_rfl))⟩
  f14 := ⟨Tryz.f125.name, by decide, Tryz.func125.trans (congrArg some (by kernel_rfl))⟩
  f15 := Tryz.func85.trans (congrArg some (by kernel_rfl))
  f20 := ⟨Tryz.f138.name, by decide, Tryz.func138.trans (congrArg some (by kernel_rfl))⟩
  f21 := ⟨Tryz.f139.name, by decide, Tryz.func139.trans (congrArg some (by kernel_rfl))⟩
  f22 := ⟨Tryz.f140.name, by decide, Tryz.func140.trans (congrArg some (by kernel_rfl))⟩
  f23 := ⟨Tryz.f141.name, by decide, Tryz.func141.trans (congrArg some (by kernel_rfl))⟩
  f24 := ⟨Tryz.f142.name, by decide, Tryz.func142.trans (congrArg some (by kernel_rfl))⟩
  f25 := ⟨Tryz.f143.name, by decide, Tryz.func143.trans (congrArg some (by kernel_rfl))⟩
  f26 := ⟨Tryz.f144.name, by decide, Tryz.func144.trans (congrArg some (by kernel_rfl))⟩
  f27 := ⟨Tryz.f145.name, by decide, Tryz.func145.trans (congrArg some (by kernel_rfl))⟩
  f28 := Tryz.func104.trans (congrArg some (by kernel_rfl))
  f29 := Tryz.func105.trans (congrArg some (by kernel_rfl))
  f46 := ⟨Tryz.f149.name, by decide, Tryz.func149.trans (congrArg some (by kernel_rfl))⟩
  f47 := Tryz.func119.trans (congrArg some (by kernel_rfl))
  f48 := Tryz.func120.trans (congrArg some (by kernel_rfl))
  f49 := ⟨Tryz.f150.name, by decide, Tryz.func150.trans (congrArg some (by kernel_rfl))⟩
  f50 := ⟨Tryz.f151.name, by decide, Tryz.func151.trans (congrArg some (by kernel_rfl))⟩
  f57 := ⟨Tryz.f153.name, by decide, Tryz.func153.trans (congrArg some (by kernel_rfl))⟩
  t0 := Tryz.underlying0
  a0 := Tryz.isAgg0
  z0 := Tryz.sizeOf0
  v0 := Tryz.zeroValue0
  t3 := Tryz.underlying3
  a3 := Tryz.isAgg3
  z3 := Tryz.sizeOf3
  v3 := Tryz.zeroValue3
  t4 := Tryz.underlying4
  a4 := Tryz.isAgg4
  z4 := Tryz.sizeOf4
  v4 := Tryz.zeroValue4
  t5 := Tryz.underlying5
  a5 := Tryz.isAgg5
  z5 := Tryz.sizeOf5
  v5 := Tryz.zeroValue5
  t9 := Tryz.underlying9
  a9 := Tryz.isAgg9
  z9 := Tryz.sizeOf9
  v9 := Tryz.zeroValue9
  t22 := Tryz.underlying69
  a22 := Tryz.isAgg69
  z22 := Tryz.sizeOf69
  v22 := Tryz.zeroValue69
  t25 := Tryz.underlying141
  a25 := Tryz.isAgg141
  z25 := Tryz.sizeOf141
  v25 := Tryz.zeroValue141
  t39 := Tryz.underlying113
  a39 := Tryz.isAgg113
  z39 := Tryz.sizeOf113
  v39 := Tryz.zeroValue113
  t45 := Tryz.underlying126
  a45 := Tryz.isAgg126
  z45 := Tryz.sizeOf126
  v45 := Tryz.zeroValue126
  t46 := Tryz.underlying127
  a46 := Tryz.isAgg127
  z46 := Tryz.sizeOf127
  v46 := Tryz.zeroValue127
  t50 := Tryz.underlying131
  a50 := Tryz.isAgg131
  z50 := Tryz.sizeOf131
  v50 := Tryz.zeroValue131
  t53 := Tryz.underlying134
  a53 := Tryz.isAgg134
  z53 := Tryz.sizeOf134
  v53 := Tryz.zeroValue134
  t55 := Tryz.underlying23
  a55 := Tryz.isAgg23
  z55 := Tryz.sizeOf23
  v55 := Tryz.zeroValue23
  t66 := Tryz.underlying149
  a66 := Tryz.isAgg149
  z66 := Tryz.sizeOf149
  v66 := Tryz.zeroValue149
  t70 := Tryz.underlying151
  a70 := Tryz.isAgg151
  z70 := Tryz.sizeOf151
  v70 := Tryz.zeroValue151
  t76 := Tryz.underlying162
  a76 := Tryz.isAgg162
  z76 := Tryz.sizeOf162
  v76 := Tryz.zeroValue162
  t77 := Tryz.underlying163
  a77 := Tryz.isAgg163
  z77 := Tryz.sizeOf163
  v77 := Tryz.zeroValue163 }
end Go.Proofs

/- The contract of slices.SortFunc as 'Norm' calls it: the same runs, in the order of their Lo. Condition: fewer than 2^62 runs. -/
namespace Go.Proofs.YtmhghgogehmehaaGreat.Ru
open Go.ChangeShapes Go.WideShapes Go.ChangeAt Go.RowKit Go.Shelf
set_option linter.unusedVariables false
set_option maxRecDepth 4000

theorem nan_any (w : World) (x : Nat) : Calls Tryz.prog 126 #[.int .u64 (x : Int)] w fun e w' => e = .returned (.bool false) ∧ w' = w := by
  have h : ((x : Int) != (x : Int)) = false := by rw [bne_eq_false_iff_eq]
  generalize ((x : Nat) : Int) = y at *
  go_enter Tryz.func126, Tryz.ntmps126
  go_wp2
  go_ret
  exact ⟨rfl, rfl⟩
def cfR (x y : Run) : Int := Lib.compareInt x.1 y.1
theorem compare_any (w : World) (x y : Nat) : Calls Tryz.prog 110 #[.int .u64 (x : Int), .int .u64 (y : Int)] w fun e w' => e = .returned (.int .i64 (Lib.compareInt x y)) ∧ w' = w := by
  have hx := fun W => nan_any W x
  have hy := fun W => nan_any W y
  unfold Lib.compareInt
  by_cases h1 : (x : Int) < y
  · rw [if_pos h1]
    generalize ((x : Nat) : Int) = x at *
    generalize ((y : Nat) : Int) = y at *
    go_enter Tryz.func110, Tryz.ntmps110
    go_wp2_with fail
    refine (hx _).mono ?_
    rintro e w1 ⟨rfl, rfl⟩
    go_wp2_with fail
    refine (hy _).mono ?_
    rintro e w1 ⟨rfl, rfl⟩
    go_wp2
    go_ret
    exact ⟨rfl, rfl⟩
  · rw [if_neg h1]
    have d1 : decide ((x : Int) < y) = false := decide_eq_false h1
    by_cases h2 : (x : Int) > y
    · rw [if_pos h2]
      have d2 : decide ((y : Int) < x) = true := decide_eq_true h2
      clear h1
      generalize ((x : Nat) : Int) = x at *
      generalize ((y : Nat) : Int) = y at *
      go_enter Tryz.func110, Tryz.ntmps110
      go_wp2_with fail
      refine (hx _).mono ?_
      rintro e w1 ⟨rfl, rfl⟩
      go_wp2_with fail
      refine (hy _).mono ?_
      rintro e w1 ⟨rfl, rfl⟩
      go_wp2
      go_ret
      exact ⟨rfl, rfl⟩
    · rw [if_neg h2]
      have d2 : decide ((y : Int) < x) = false := decide_eq_false h2
      clear h1 h2
      generalize ((x : Nat) : Int) = x at *
      generalize ((y : Nat) : Int) = y at *
      go_enter Tryz.func110, Tryz.ntmps110
      go_wp2_with fail
      refine (hx _).mono ?_
      rintro e w1 ⟨rfl, rfl⟩
      go_wp2_with fail
      refine (hy _).mono ?_
      rintro e w1 ⟨rfl, rfl⟩
      go_wp2
      go_ret
      exact ⟨rfl, rfl⟩

/-- a run's two cells. -/
def encC (r : Run) : List Value := [.int .u64 (r.1 : Int), .int .u64 (r.2 : Int)]
theorem closure_any (x y : Run) (W : World) : Calls Tryz.prog 109 #[.agg #[.int .u64 (x.1 : Int), .int .u64 (x.2 : Int)], .agg #[.int .u64 (y.1 : Int), .int .u64 (y.2 : Int)]] W fun e w' => e = .returned (.int .i64 (cfR x y)) ∧ ∃ q os', w' = Sort.grow (W.drewN q) os' := by
  have hcon : ∀ W', Calls Tryz.prog 110 #[.int .u64 (x.1 : Int), .int .u64 (y.1 : Int)] W' fun e w' => e = .returned (.int .i64 (cfR x y)) ∧ w' = W' := fun W' => compare_any W' x.1 y.1
  generalize cfR x y = r at hcon ⊢
  go_enter Tryz.func109, Tryz.ntmps109
  go_wp2_with (go_at_call 110; refine (hcon _).mono ?_; rintro e w' ⟨rfl, rfl⟩)
  go_ret
  exact ⟨rfl, 0, _, by rw [Sort.alloc_eq_grow, Sort.alloc_eq_grow, Sort.grow_grow]; rfl⟩
theorem ltR (x y : Run) : ltOf cfR x y = decide (x.1 < y.1) := by
  unfold ltOf cfR Lib.compareInt
  by_cases h1 : (x.1 : Int) < y.1
  · have : x.1 < y.1 := by omega
    simp [this]
  · by_cases h2 : (y.1 : Int) < x.1
    · have h3 : ¬ x.1 < y.1 := by omega
      have h4 : y.1 < x.1 := by omega
      simp [h3, h4]
    · have h3 : ¬ x.1 < y.1 := by omega
      have h4 : ¬ y.1 < x.1 := by omega
      simp [h3, h4]
theorem swoR : Sort.SWO (ltOf cfR) where
  irrefl x := by rw [ltR]; simp
  trans x y z h1 h2 := by rw [ltR] at *; simp at *; omega
  ntrans x y z h1 h2 := by rw [ltR] at *; simp at *; omega

theorem flat_rv (l : List Run) (j : Nat) (hj : j < l.length * 2) : (rv l)[j]? = some (Sort.flatK encC 2 l.toArray)[j]! := by
  rw [Sort.get_flatK _ _ _ _ (by simpa using hj)]
  have hk : j / 2 < l.length := by omega
  have hg : l[j / 2]? = some l[j / 2] := List.getElem?_eq_getElem hk
  obtain ⟨g1, g2⟩ := rv_get hg
  have e : l.toArray[j / 2]! = l[j / 2] := by rw [getElem!_pos _ _ (by simpa using hk)]; simp
  rw [e]
  rcases Nat.mod_two_eq_zero_or_one j with h | h
  · rw [h]
    have : j / 2 * 2 = j := by omega
    rw [this] at g1
    simpa [encC] using g1
  · rw [h]
    have : j / 2 * 2 + 1 = j := by omega
    rw [this] at g2
    simpa [encC] using g2

theorem sort_any (w : World) (B g cap n : Nat) (d : List Run) (hn : d.length = n) (h62 : n < 4611686018427387904) (h : w.ownsRow B 73 2 (.slice (some ⟨g, 0, none⟩) n cap) n (rv d)) :
    Calls Tryz.prog 108 #[.slice (some ⟨g, 0, none⟩) n cap, .func (.func 109) #[] #[]] w fun e w' => e = .returned (.tuple #[]) ∧ ∃ m : List Run, m.Perm d ∧ Rise m ∧ w'.ownsRow B 73 2 (.slice (some ⟨g, 0, none⟩) n cap) n (rv m) ∧ w.grownBy w' (some g) := by
  subst hn
  obtain ⟨hlen, ⟨hz, _⟩ | ⟨g', cap', cur, e, hB, hheap, hle, hmx, hsz, htk⟩⟩ := h
  · cases hz
  · cases e
    have hlt : g < w.heap.size := (Array.getElem?_eq_some_iff.1 hheap).1
    have hcell : ∀ j, j < d.length * 2 → cur[j]? = (rv d)[j]? := fun j hj => by
      rw [← htk, List.getElem?_take, if_pos hj]
      simp
    have hH : Sort.HoldsK encC 2 w g 0 d.toArray := fun j hj => by
      have hj' : j < d.length * 2 := by simpa using hj
      refine ⟨?_, by simp [World.frozen?, hheap]⟩
      rw [Nat.zero_add, show id (Sort.flatK encC 2 d.toArray)[j]! = (Sort.flatK encC 2 d.toArray)[j]! from rfl, ← flat_rv d j hj', ← hcell j hj']
      simp [World.cell?, hheap]
    have eg : ∀ args w, (callFunc 109 args).run Tryz.prog w = .ok (.enter 109 args) w := enters_of Tryz.func109 (by kernel_rfl) rfl
    have hcon := AnyQ.slices_SortFunc Tryz.sortR 2 Tryz.isAgg73 Tryz.sizeOf73 encC (fun _ => rfl) (fun x v hv => by simp [encC] at hv; rcases hv with rfl | rfl <;> rfl) cfR swoR 109 #[] g 0 cap d.toArray w eg (fun m os dk _ x y => closure_any x y _) hH hlt (by simpa using h62)
    change Calls Tryz.prog 108 _ _ _ at hcon
    rw [List.size_toArray] at hcon
    refine hcon.mono ?_
    rintro e w' ⟨rfl, d', q, os, hp, hs, rfl⟩
    have h1 : d'.size = d.length := by simpa using hp.1
    refine ⟨rfl, d'.toList, ?_, ?_, ?_, ?_⟩
    · have h3 := hp.2.2
      have e1 : d'.extract 0 d.length = d' := by rw [← h1]; simp
      have e2 : d.toArray.extract 0 d.length = d.toArray := by simp
      rw [e1, e2] at h3
      exact h3
    · refine List.pairwise_iff_getElem.2 fun i j hi hj hij => ?_
      rw [Array.length_toList] at hi hj
      have := hs i j (Nat.zero_le _) hij (by omega)
      rw [ltR, getElem!_pos d' j hj, getElem!_pos d' i hi] at this
      simpa using this
    · refine ⟨by rw [rv_length, Array.length_toList, h1], .inr ⟨g, cap, Sort.putCells id 0 (Sort.flatK encC 2 d') cur, rfl, hB, ?_, hle, hmx, by simp [Sort.putCells, hsz], ?_⟩⟩
      · show ((w.heap.modify g (Sort.onCells (Sort.putCells id 0 (Sort.flatK encC 2 d')))) ++ os)[g]? = _
        rw [Array.getElem?_append_left (by simpa using hlt), Array.getElem?_modify, if_pos rfl, hheap]
        rfl
      · apply List.ext_getElem?
        intro j
        rw [List.getElem?_take]
        by_cases hj : j < d.length * 2
        · rw [if_pos hj]
          have hf := flat_rv d'.toList j (by rw [Array.length_toList, h1]; exact hj)
          rw [Array.toArray_toList] at hf
          rw [hf]
          have hc : cur[j]? = some cur[j] := Array.getElem?_eq_getElem (by omega)
          simp [Sort.putCells, hc, h1, hj]
        · rw [if_neg hj]
          exact (List.getElem?_eq_none (by rw [rv_length, Array.length_toList, h1]; omega)).symm
    · refine ⟨rfl, rfl, rfl, ?_, fun k hk hne => ?_⟩
      · show w.heap.size ≤ ((w.heap.modify g _) ++ os).size
        simp
      · show ((w.heap.modify g _) ++ os)[k]? = _
        rw [Array.getElem?_append_left (by simpa using hk), Array.getElem?_modify, if_neg (fun e => hne (by rw [e]))]
theorem ins_nil (w : World) (fv : Value) : Calls Tryz.prog 138 #[.slice none 0 0, .int .i64 0, .int .i64 0, fv] w fun e w' => e = .returned (.tuple #[]) ∧ w' = w := by
  go_enter Tryz.func138, Tryz.ntmps138
  go_wp2
  refine wp_loop_rounds 1 ?_
  rw [rounds_succ]
  go_wp2
  go_end0
  exact ⟨rfl, rfl⟩
theorem pdq_nil (w : World) (lim : Int) (fv : Value) : Calls Tryz.prog 125 #[.slice none 0 0, .int .i64 0, .int .i64 0, .int .i64 lim, fv] w fun e w' => e = .returned (.tuple #[]) ∧ w' = w := by
  have hi := fun W => ins_nil W fv
  go_enter Tryz.func125, Tryz.ntmps125
  go_wp2
  refine wp_loop_rounds 1 ?_
  rw [rounds_succ]
  go_wp2_with (go_at_call 138; refine (hi _).mono ?_; rintro e w' ⟨rfl, rfl⟩)
  (try simp only [Exit.inBlock, Exit.then]); refine bodyPost_ret (results_none rfl _ _ _) rfl ?_
  exact ⟨rfl, rfl⟩
theorem len_nil (w : World) : Calls Tryz.prog 85 #[.int .u64 0] w fun e w' => e = .returned (.int .i64 (Lib.bitLen 0 : Nat)) ∧ w' = w := by
  have h := Any.bits_Len (SlLaysF0.n15.bits (P := Tryz.prog) (ρ := Tryz.sortR_ren) { Tryz.sortR with }) 0 w (by omega) (by omega)
  change Calls Tryz.prog 85 _ _ _ at h
  exact h
theorem sort_nil (w : World) : Calls Tryz.prog 108 #[.slice none 0 0, .func (.func 109) #[] #[]] w fun e w' => e = .returned (.tuple #[]) ∧ w' = w := by
  have hl := fun W => len_nil W
  have hp := fun lim W => pdq_nil W lim (.func (.func 109) #[] #[])
  go_enter Tryz.func108, Tryz.ntmps108
  go_wp2_with (first | (go_at_call 85; refine (hl _).mono ?_; rintro e w' ⟨rfl, rfl⟩) | (go_at_call 125; refine (hp _ _).mono ?_; rintro e w' ⟨rfl, rfl⟩))
  go_end0
  exact ⟨rfl, rfl⟩
end Go.Proofs.YtmhghgogehmehaaGreat.Ru

/- The contract of the program's 'Norm': the list in order of the same numbers. Condition: at most 2^42 runs. -/
namespace Go.Proofs.YtmhghgogehmehaaGreat.Ru
open Go.ChangeShapes Go.WideShapes Go.ChangeAt Go.RowKit Go.Shelf
set_option linter.unusedVariables false
set_option maxRecDepth 4000

theorem joined_nil (w : World) : Calls Tryz.prog 111 #[.slice none 0 0] w fun e w' => e = .returned (.slice none 0 0) ∧ w' = w := by
  go_enter Tryz.func111, Tryz.ntmps111
  go_wp2
  refine wp_loop_rounds 1 ?_
  rw [rounds_succ]
  go_wp2
  go_ret
  exact ⟨rfl, rfl⟩

theorem perm_length {l m : List Run} (h : m.Perm l) {n : Nat} (hl : l.length = n) : m.length = n := by rw [h.length_eq, hl]
theorem pnorm_any (w : World) (A : Option Addr) (l : List Run) (n c : Nat) (hl : l.length = n) (hb : Runs w w.heap.size A l) (h42 : n ≤ 4398046511104) :
    Calls Tryz.prog 86 #[.slice A n c] w (RunPost w (nrm l)) := by
  have HL := Lib.hid hl
  have HB := Lib.hid hb
  have L0 : Hid (Below w.heap.size w (w.alloc (.cells #[.slice A n c] 69))) := below_new _ _
  have HC : Hid (Calls Tryz.prog 106 #[.func (.func 124) #[] #[.pointer (some ⟨w.heap.size, 0, none⟩)]] (w.alloc (.cells #[.slice A n c] 69)) (RunPost (w.alloc (.cells #[.slice A n c] 69)) (tells l))) :=
    collect_any _ w.heap.size A l n c hl (by simp) (Boxed.new w 69 (.slice A n c)).cell (hb.up L0.out) h42
  clear hl hb
  go_enter Tryz.func86, Tryz.ntmps86
  go_wp2_with fail
  refine (telling_any w A n c).mono ?_
  rintro e w1 ⟨rfl, rfl⟩
  go_wp2_with fail
  refine HC.out.mono ?_
  rintro e w2 ⟨A2, n2, c2, rfl, hn2, ho2, hb2⟩
  have hn3 : n2 ≤ 4398046511104 := by
    rw [← hn2]
    refine Nat.le_trans (List.length_filter_le _ _) ?_
    rw [HL.out]; exact h42
  have HO := Lib.hid (own_less ho2 L0.out.size)
  have HW : Hid (Below w.heap.size w w2) := L0.out.trans (hb2.mono L0.out.size)
  have HN := Lib.hid hn2
  clear ho2 hb2 hn2 HC L0
  rcases A2 with _ | ad
  · obtain ⟨rfl, rfl⟩ := (own_len HO.out).2.2 rfl
    have hz : Hid (nrm l = []) := by
      show _ = _
      rw [← joined_norm (l := l) (m := []) (by rw [List.eq_nil_of_length_eq_zero HN.out]) List.Pairwise.nil]
      rfl
    go_wp2_with fail
    refine (sort_nil _).mono ?_
    rintro e w3 ⟨rfl, rfl⟩
    go_wp2_with fail
    refine (joined_nil _).mono ?_
    rintro e w3 ⟨rfl, rfl⟩
    go_wp2
    go_ret
    rw [hz.out]
    exact ⟨none, 0, 0, rfl, rfl, World.ownsRow_nil _ _ _ _, HW.out⟩
  · obtain ⟨g, cap, e, hBg⟩ : ∃ g cap, Value.slice (some ad) n2 c2 = .slice (some ⟨g, 0, none⟩) n2 cap ∧ w.heap.size ≤ g := own_shape (w := w) HO.out (.inr (fun h => by cases h))
    cases e
    go_wp2_with fail
    refine (sort_any w2 w.heap.size g c2 n2 (tells l) HN.out (by omega) HO.out).mono ?_
    rintro e w3 ⟨rfl, m, hp, hr, ho3, hg3⟩
    have HJ := Lib.hid (joined_norm hp hr)
    have HC : Hid (Calls Tryz.prog 111 #[.slice (some ⟨g, 0, none⟩) n2 c2] w3 fun e w' => ∃ k, e = .returned (.slice (some ⟨g, 0, none⟩) k c2) ∧ (joinL m).length = k ∧ w'.ownsRow w.heap.size 73 2 (.slice (some ⟨g, 0, none⟩) k c2) k (rv (joinL m)) ∧ w3.grownBy w' (some g)) :=
      joined_any w3 w.heap.size g c2 n2 m (perm_length hp HN.out) ho3 (fun r h => (List.mem_filter.1 (hp.mem_iff.1 h)).2) hr hn3
    have HG := Lib.hid hg3
    clear hp hr ho3 hg3
    go_wp2_with fail
    refine HC.out.mono ?_
    rintro e w4 ⟨k, rfl, hk, ho4, hg4⟩
    rw [HJ.out] at hk ho4
    have HO4 := Lib.hid ho4
    have HK := Lib.hid hk
    have HW4 : Hid (Below w.heap.size w w4) := HW.out.grown (grown_trans HG.out hg4) HW.out.size (fun j e => by cases e; exact hBg)
    clear ho4 hg4 hk
    go_wp2
    go_ret
    exact ⟨_, k, c2, rfl, HK.out, HO4.out, HW4.out⟩
end Go.Proofs.YtmhghgogehmehaaGreat.Ru

/- The contract of the program's 'inOrder' of layer ctx: the context, in order, of the runs that a map of lists holds. Condition: at most 2^30 devices, each with at most 2^41 runs. -/
namespace Go.Proofs.YtmhghgogehmehaaGreat.Cx
open Go.ChangeShapes Go.WideShapes Go.ChangeAt Go.RowKit Go.Maps
set_option linter.unusedVariables false
set_option maxRecDepth 4000

/-- a row of cells is no iterator. -/
theorem neS_iter {w : World} {b r n k c size e : Nat} {B : Nat} {D : DataW Value} {left : Lit → Bool} {cnt : Nat} {A : Option Addr} {xs : List Value} (h : w.ranges Tryz.prog 22 valS b r n D left cnt) (ho : w.ownsRow B e size (.slice A k c) k xs) :
    (Value.slice A k c).ownBlock = none ∨ (Value.slice A k c).ownBlock ≠ some r := by
  rcases ho.2 with ⟨h1, _⟩ | ⟨g, cap, cur, h1, _, h2, _⟩
  · cases h1; exact .inl rfl
  · cases h1
    right
    intro e
    have e2 : g = r := by simpa [Value.ownBlock] using e
    obtain ⟨es, clock, since, seen, c0, _, _, _, _, h3, _⟩ := h
    rw [← e2, h2] at h3
    cases h3
theorem ownS_from {w : World} {B k c size e : Nat} {A : Option Addr} {xs : List Value} (ho : w.ownsRow B e size (.slice A k c) k xs) : ∀ j, (Value.slice A k c).ownBlock = some j → B ≤ j := by
  intro j hj
  exact (ho.lt j hj).1
/-- parts whose runs lie behind block r, and apart from this row. -/
def ApartR (w : World) (r : Nat) (ps : List PV) (row : Option Nat) : Prop := ∀ p ∈ ps, ∃ ad, p.adr = some ad ∧ r < ad.block ∧ ad.block < w.heap.size ∧ some ad.block ≠ row
theorem ApartR.apart {w : World} {r : Nat} {ps : List PV} {row : Option Nat} (h : ApartR w r ps row) : Apart w ps row := fun p hp => by
  obtain ⟨ad, e, _, h2, h3⟩ := h p hp
  exact ⟨ad, e, h2, h3⟩
theorem ApartR.iter {w : World} {r : Nat} {ps : List PV} {row : Option Nat} (h : ApartR w r ps row) : Apart w ps (some r) := fun p hp => by
  obtain ⟨ad, e, h1, h2, _⟩ := h p hp
  exact ⟨ad, e, h2, fun e2 => by injection e2 with e2; omega⟩
theorem ApartR.up {w w' : World} {r : Nat} {ps : List PV} {row : Option Nat} (h : ApartR w r ps row) (hs : w.heap.size ≤ w'.heap.size) : ApartR w' r ps row := fun p hp => by
  obtain ⟨ad, e, h1, h2, h3⟩ := h p hp
  exact ⟨ad, e, h1, Nat.lt_of_lt_of_le h2 hs, h3⟩
theorem ApartR.snoc {w : World} {r : Nat} {ps : List PV} {row : Option Nat} {p : PV} {ad : Addr} (h : ApartR w r ps row) (e : p.adr = some ad) (h1 : r < ad.block) (h2 : ad.block < w.heap.size) (hne : some ad.block ≠ row) : ApartR w r (ps ++ [p]) row := fun q hq => by
  rcases List.mem_append.1 hq with hq | hq
  · exact h q hq
  · obtain rfl := List.mem_singleton.1 hq
    exact ⟨ad, e, h1, h2, hne⟩
/-- the row has grown, where it lay or in a new block. -/
theorem ApartR.grown {w w' : World} {r : Nat} {ps : List PV} {row row' : Option Nat} (h : ApartR w r ps row) (hs : w.heap.size ≤ w'.heap.size) (hr : row' = row ∨ row' = some w.heap.size) : ApartR w' r ps row' := fun p hp => by
  obtain ⟨ad, e, h1, h2, h3⟩ := h p hp
  refine ⟨ad, e, h1, Nat.lt_of_lt_of_le h2 hs, ?_⟩
  rcases hr with rfl | rfl
  · exact h3
  · intro e2; injection e2 with e2; omega
theorem Apart.perm {w : World} {ps s : List PV} {row : Option Nat} (h : Apart w ps row) (hp : s.Perm ps) : Apart w s row := fun p hm => h p (hp.mem_iff.1 hm)
set_option maxHeartbeats 4000000 in
theorem pinord_any (hsort : SortsP) (w : World) (B b n : Nat) (f : Nat → List Run) (h : MapS w B b n f) (hf : Tells (fun d => Ru.nrm (f d))) (hl : ∀ d, (f d).length ≤ 2199023255552) (hn : n ≤ 1073741824) :
    Calls Tryz.prog 64 #[.map (some b)] w (CtxPost w (listC (fun d => Ru.nrm (f d)))) := by
  obtain ⟨hbB, D, g, hown, hh, hs⟩ := h
  obtain ⟨i0, hi0, hz0, hz1, hz2⟩ := info_parts part_info
  have HH := Lib.hid hh
  have HF := Lib.hid hf
  have HSL := Lib.hid hs
  have HWN := Lib.hid hown
  have HLN := Lib.hid hl
  have HNZ : Hid (∀ d, f d = [] → Ru.nrm (f d) = []) := Lib.hid (fun d hd => by rw [hd]; exact nrm_nil)
  have HNO : Hid (∀ d, Ru.InOrder (Ru.nrm (f d))) := Lib.hid (fun d => (Ru.nrm_spec _).1)
  have HNM : Hid (∀ W A d k c, RunsAt W A (f d) k c → Calls Tryz.prog 86 #[.slice A k c] W (Ru.RunPost W (Ru.nrm (f d)))) := Lib.hid (fun W A d k c hr => Ru.pnorm_any W A (f d) k c hr.len hr.runs (by rw [← hr.len]; have := hl d; omega))
  have hbl := hown.lt
  have hlen := hown.len (t := 97) (e := 69) Tryz.underlying97 3
  have hkn := hown.size_le
  obtain ⟨kn, hknD⟩ : ∃ kn, Maps.size D = kn := ⟨_, rfl⟩
  have HKN := Lib.hid hknD
  rw [hknD] at hlen hkn
  clear hh hf hs hown hknD hl
  generalize hN : (fun d => Ru.nrm (f d)) = N at *
  have HNF : Hid (∀ d, Ru.nrm (f d) = N d) := Lib.hid (fun d => by rw [← hN])
  clear hN
  go_enter Tryz.func64, Tryz.ntmps64
  go_wp2_with (first
    | (at_make
       refine wpList_make_own _ rfl _ _ 28 rfl w.heap.size 71 i0 (.agg #[.int .u16 0, .slice none 0 0]) 2 Tryz.underlying28 hi0 hz0 hz1 _ _ _ kn rfl rfl rfl (by rw [hz2]; omega) (by simp only [maxLen]; omega) (Nat.le_refl _) ?_
       intro w1 ho1 hg1
       have HO1 := Lib.hid ho1
       have HG1 := Lib.hid hg1
       have HWN1 := Lib.hid (HWN.out.kept hg1 (fun e => by cases e))
       clear ho1 hg1)
    | (at_range; refine wpList_range_own _ rfl _ 97 rfl 22 69 law16 Tryz.underlying97 _ b n _ rfl HWN1.out ?_; intro w0 hrg0 hg0 hs0)
    | go_in)
  have HR0 := Lib.hid hrg0
  have HB0 : Hid (Below w.heap.size w w0) := Lib.hid (((Below.refl _ w).grown HG1.out (Nat.le_refl _) (fun j hj => by cases hj)).grown hg0 HG1.out.size (fun j hj => by cases hj))
  have HS0 := Lib.hid hs0
  have HO2 : Hid (w0.ownsRow w.heap.size 71 2 (.slice (some ⟨w.heap.size, 0, none⟩) 0 kn) 0 (cv [])) := Lib.hid (HO1.out.kept hg0 (.inr (fun e => by cases e)))
  have hw1 := HG1.out.size
  have HGS : Hid (GatherS N g (Maps.has D) []) := Lib.hid (gatherN_start HH.out HSL.out (fun d hd => by rw [← HNF.out]; exact HNZ.out d hd))
  clear hrg0 hg0 hs0 hlen
  go_frame
  go_loopw [3] (fun v wr => ∃ (left : Lit → Bool) (cnt : Nat) (ps : List PV) (m : List Part) (A : Option Addr) (k c : Nat), v = .slice A k c ∧ m.length = k ∧ k + cnt ≤ kn ∧ wr.ranges Tryz.prog 22 valS b w1.heap.size n D left cnt ∧ GatherS N g left m ∧ Match wr ps m ∧
      ApartR wr w1.heap.size ps (Value.slice A k c).ownBlock ∧ wr.ownsRow w.heap.size 71 2 (.slice A k c) k (cv ps) ∧ Below w.heap.size w wr ∧ w1.heap.size < wr.heap.size) (fun _ wr => wr.rangeLeft b w1.heap.size)
  case atStart => exact ⟨_, _, [], [], _, 0, kn, rfl, rfl, by rw [HKN.out]; omega, HR0.out, HGS.out, Match.nil_ _, (fun p hp => by cases hp), HO2.out, HB0.out, by rw [HS0.out]; exact Nat.lt_succ_self _⟩
  case round =>
    obtain ⟨left, cnt, ps, m, A, k, c, rfl, hm, hkn2, hrg, hga, hma, hap, ho, hw, hws⟩ := hrel
    have HM := Lib.hid hm
    have HG := Lib.hid hga
    have HMA := Lib.hid hma
    have HAP := Lib.hid hap
    have HO := Lib.hid ho
    have HW := Lib.hid hw
    have HRL := Lib.hid hrg.left_eq
    have HNE := Lib.hid (neS_iter hrg ho)
    have HOF := Lib.hid (ownS_from ho)
    clear hm hga hma hap ho hw
    go_wp2_with (first
      | (at_next; refine wpList_nextS rfl _ rfl b w1.heap.size n _ _ _ rfl hrg ?_ ?_)
      | go_in)
    · intro hc0 hl0
      have HE := Lib.hid hl0
      clear hrg
      go_wp2_with fail
      refine (hsort wr w.heap.size A k c ps (HMA.out.1.trans HM.out) (by omega) HO.out).mono ?_
      rintro e w2 ⟨rfl, s, hp, hs, ho2, hg2⟩
      have HS := Lib.hid ((made_end HG.out HF.out HE.out HMA.out hp hs).grown hg2 (HAP.out.apart.perm hp))
      have HL : Hid ((listC N).length = k) := Lib.hid (by rw [← HS.out.1, hp.length_eq, HMA.out.1]; exact HM.out)
      have HO2 := Lib.hid ho2
      have HW2 : Hid (Below w.heap.size w w2) := Lib.hid (HW.out.grown hg2 HW.out.size HOF.out)
      clear hp hs ho2 hg2
      go_wp2
      go_ret
      exact ⟨A, k, c, s, rfl, HL.out, HO2.out, HS.out, HW2.out⟩
    · intro x sl wn cnt1 hwx hlx hat hrg1 hlt hg1 hs1 hen
      obtain ⟨d, rfl, hd, hR, hRB⟩ := entryS HH.out HSL.out hwx hat
      have HW1 : Hid (Below w.heap.size w wn) := Lib.hid (HW.out.grown hg1 HW.out.size (fun j hj => by cases hj; exact hw1))
      have HO1 := Lib.hid (HO.out.kept hg1 HNE.out)
      have HMA1 := Lib.hid (HMA.out.grown hg1 HAP.out.iter)
      have HAP1 := Lib.hid (HAP.out.up hg1.size)
      have CN := HNM.out wn sl.adr d sl.len sl.cap (hR.up HW1.out)
      have HLX := Lib.hid hlx
      have HR1 := Lib.hid hrg1
      have hsn : w1.heap.size < wn.heap.size := by rw [hs1]; exact hws
      clear hrg hrg1 hat hg1 hwx hR hRB hs1 hlx hws
      go_wp2_with fail
      refine CN.mono ?_
      intro e w2 hp
      obtain ⟨A3, n3, c3, rfl, hR3, hb3, hnew⟩ := runs_post hp (HNO.out d)
      rw [HNF.out d] at hR3
      have HR3 := Lib.hid hR3
      have HLN3 := Lib.hid hR3.len
      have HNW := Lib.hid hnew
      have HW2 := Lib.hid (HW1.out.trans (hb3.mono HW1.out.size))
      have HO2 := Lib.hid (Dt.own_kept HO1.out hb3)
      have HMA2 := Lib.hid (HMA1.out.up hb3)
      have HAP2 := Lib.hid (HAP1.out.up hb3.size)
      have HR2 := Lib.hid (HR1.out.kept (bel_grown hb3 none) (fun e => by cases e) (fun e => by cases e))
      have hs2 : w1.heap.size < w2.heap.size := Nat.lt_of_lt_of_le hsn hb3.size
      have HOB := Lib.hid (fun j hj => (HO1.out.lt j hj).2)
      clear hp hR3 hnew hb3 CN
      by_cases h0 : n3 = 0
      · have HG1 := Lib.hid (HG.out.skip (d := d) (List.eq_nil_of_length_eq_zero (by rw [HLN3.out]; exact h0)))
        have dz : decide ((0 : Int) < (n3 : Int)) = false := decide_eq_false (by omega)
        clear hen
        go_wp2
        refine ⟨⟨_, cnt1, ps, m, A, k, c, rfl, HM.out, by omega, HR2.out, HG1.out, HMA2.out, HAP2.out, HO2.out, HW2.out, hs2⟩, ?_⟩
        rw [HR2.out.left_eq, HRL.out]
        exact hlt
      · have hfd : N d ≠ [] := fun e => h0 (by rw [← HLN3.out, e]; rfl)
        have HG1 := Lib.hid (HG.out.step hd hfd HLX.out)
        have dz : decide ((0 : Int) < (n3 : Int)) = true := decide_eq_true (by omega)
        obtain ⟨ad3, had3⟩ : ∃ ad3, A3 = some ad3 := by
          cases A3 with
          | none => exact absurd (HR3.out.nil rfl).1 h0
          | some ad3 => exact ⟨ad3, rfl⟩
        have HAD := Lib.hid had3
        have hblk : wn.heap.size ≤ ad3.block ∧ ad3.block < w2.heap.size := by
          refine ⟨HNW.out ad3 had3, ?_⟩
          obtain ⟨ad', e, hB, _⟩ := HR3.out.runs.2 (by rw [Ru.rv_length, HLN3.out]; omega)
          rw [had3] at e
          obtain rfl := Option.some.inj e
          exact hB
        have HBA : Hid (Below w2.heap.size w2 (w2.alloc (.cells #[.int .u16 (d : Int), .slice A3 n3 c3] 71))) := Lib.hid (Dt.below_new _ _)
        have HMA3 : Hid (Match (w2.alloc (.cells #[.int .u16 (d : Int), .slice A3 n3 c3] 71)) (ps ++ [⟨d, A3, n3, c3⟩]) (m ++ [(d, N d)])) := Lib.hid ((HMA2.out.up HBA.out).snoc (by
          have q := HR3.out.up HBA.out
          exact ⟨rfl, hd, q.len, q.nil, q.cap, q.max, q.runs⟩))
        have HAP3 : Hid (ApartR (w2.alloc (.cells #[.int .u16 (d : Int), .slice A3 n3 c3] 71)) w1.heap.size (ps ++ [⟨d, A3, n3, c3⟩]) (Value.slice A k c).ownBlock) := Lib.hid ((HAP2.out.up HBA.out.size).snoc had3 (by omega) (Nat.lt_of_lt_of_le hblk.2 HBA.out.size) (fun e => by
          have := HOB.out ad3.block e.symm
          omega))
        have HOA := Lib.hid (HO2.out.alloc (.cells #[.int .u16 (d : Int), .slice A3 n3 c3] 71))
        have HWA : Hid (Below w.heap.size w (w2.alloc (.cells #[.int .u16 (d : Int), .slice A3 n3 c3] 71))) := Lib.hid (bel_alloc _ HW2.out)
        have HRA := Lib.hid (HR2.out.alloc (.cells #[.int .u16 (d : Int), .slice A3 n3 c3] 71))
        clear hen had3
        go_wp2_with (first
          | (at_builtin; refine wpList_part rfl (.tmp 21) (.tmp 25) rfl rfl _ w.heap.size k (.slice A k c) ps ⟨w2.heap.size, 0, none⟩ ⟨d, A3, n3, c3⟩ rfl rfl HOA.out (part_at w2 ⟨d, A3, n3, c3⟩) (by omega) HWA.out.size ?_; intro A4 c4 w3 ho3 hg3 hl3)
          | go_in)
        have HR4 := Lib.hid (HRA.out.kept hg3 (fun e => by have := HOF.out b e.symm; omega) (fun e => by rcases HNE.out with h | h; rw [h] at e; cases e; exact h e.symm))
        have HW3 : Hid (Below w.heap.size w w3) := Lib.hid (HWA.out.grown hg3 HWA.out.size HOF.out)
        have hlen : (m ++ [(d, N d)]).length = k + 1 := by rw [List.length_append, HM.out]; rfl
        have hs3 : w1.heap.size < w3.heap.size := Nat.lt_of_lt_of_le hs2 (Nat.le_trans HBA.out.size hg3.size)
        refine ⟨⟨_, cnt1, ps ++ [⟨d, A3, n3, c3⟩], m ++ [(d, N d)], A4, k + 1, c4, rfl, hlen, by omega, HR4.out, HG1.out, HMA3.out.grown hg3 HAP3.out.apart, HAP3.out.grown hg3.size hl3, ho3, HW3.out, hs3⟩, ?_⟩
        rw [HR4.out.left_eq, HRL.out]
        exact hlt
end Go.Proofs.YtmhghgogehmehaaGreat.Cx

/- The laying of the sorting of parts: which functions and types of this program stand for those of the library's contract. -/
namespace Go.Proofs
open Go.Shelf
def Tryz.sortP_ren : Go.Shelf.Ren := ⟨fun | 15 => 85 | 14 => 112 | 28 => 104 | 29 => 105 | 20 => 127 | 21 => 128 | 22 => 129 | 23 => 130 | 24 => 131 | 25 => 132 | 26 => 133 | 27 => 134 | 46 => 146 | 47 => 119 | 48 => 120 | 49 => 147 | 50 => 148 | 57 => 152 | n => n, fun | 22 => 27 | 24 => 71 | 25 => 117 | 3 => 3 | 39 => 113 | 0 => 0 | 53 => 134 | 55 => 23 | 4 => 4 | 46 => 127 | 45 => 126 | 50 => 131 | 5 => 5 | 9 => 9 | 66 => 149 | 70 => 151 | 76 => 162 | 77 => 163 | n => n, fun | n => n⟩
theorem Tryz.sortP : Go.Proofs.SlLaysF0.n14 Tryz.prog Tryz.sortP_ren := {
  mixed := by kernel_rfl
  f14 := ⟨Tryz.f112.name, by decide, Tryz.func112.trans (congrArg some (by kernel_rfl))⟩
  f15 := Tryz.func85.trans (congrArg some (by kernel_rfl))
  f20 := ⟨Tryz.f127.name, by decide, Tryz.func127.trans (congrArg some (by kernel_rfl))⟩
  f21 := ⟨Tryz.f128.name, by decide, Tryz.func128.trans (congrArg some (by kernel_rfl))⟩
  f22 := ⟨Tryz.f129.name, by decide, Tryz.func129.trans (congrArg some (by kernel_rfl))⟩
  f23 := ⟨Tryz.f130.name, by decide, Tryz.func130.trans (congrArg some (by kernel_rfl))⟩
  f24 := ⟨Tryz.f131.name, by decide, Tryz.func131.trans (congrArg some (by kernel_rfl))⟩
  f25 := ⟨Tryz.f132.name, by decide, Tryz.func132.trans (congrArg some (by kernel_rfl))⟩
  f26 := ⟨Tryz.f133.name, by decide, Tryz.func133.trans (congrArg some (by kernel_rfl))⟩
  f27 := ⟨Tryz.f134.name, by decide, Tryz.func134.trans (congrArg some (by kernel_rfl))⟩
  f28 := Tryz.func104.trans (congrArg some (by kernel_rfl))
  f29 := Tryz.func105.trans (congrArg some (by kernel_rfl))
  f46 := ⟨Tryz.f146.name, by decide, Tryz.func146.trans (congrArg some (by kernel_rfl))⟩
  f47 := Tryz.func119.trans (congrArg some (by kernel_rfl))
  f48 := Tryz.func120.trans (congrArg some (by kernel_rfl))
  f49 := ⟨Tryz.f147.name, by decide, Tryz.func147.trans (congrArg some (by kernel_rfl))⟩
  f50 := ⟨Tryz.f148.name, by decide, Tryz.func148.trans (congrArg some (by kernel_rfl))⟩
  f57 := ⟨Tryz.f152.name, by decide, Tryz.func152.trans (congrArg some (by kernel_rfl))⟩
  t0 := Tryz.underlying0
  a0 := Tryz.isAgg0
  z0 := Tryz.sizeOf0
  v0 := Tryz.zeroValue0
  t3 := Tryz.underlying3
  a3 := Tryz.isAgg3
  z3 := Tryz.sizeOf3
  v3 := Tryz.zeroValue3
  t4 := Tryz.underlying4
  a4 := Tryz.isAgg4
  z4 := Tryz.sizeOf4
  v4 := Tryz.zeroValue4
  t5 := Tryz.underlying5
  a5 := Tryz.isAgg5
  z5 := Tryz.sizeOf5
  v5 := Tryz.zeroValue5
  t9 := Tryz.underlying9
  a9 := Tryz.isAgg9
  z9 := Tryz.sizeOf9
  v9 := Tryz.zeroValue9
  t22 := Tryz.underlying27
  a22 := Tryz.isAgg27
  z22 := Tryz.sizeOf27
  v22 := Tryz.zeroValue27
  t25 := Tryz.underlying117
  a25 := Tryz.isAgg117
  z25 := Tryz.sizeOf117
  v25 := Tryz.zeroValue117
  t39 := Tryz.underlying113
  a39 := Tryz.isAgg113
  z39 := Tryz.sizeOf113
  v39 := Tryz.zeroValue113
  t45 := Tryz.underlying126
  a45 := Tryz.isAgg126
  z45 := Tryz.sizeOf126
  v45 := Tryz.zeroValue126
  t46 := Tryz.underlying127
  a46 := Tryz.isAgg127
  z46 := Tryz.sizeOf127
  v46 := Tryz.zeroValue127
  t50 := Tryz.underlying131
  a50 := Tryz.isAgg131
  z50 := Tryz.sizeOf131
  v50 := Tryz.zeroValue131
  t53 := Tryz.underlying134
  a53 := Tryz.isAgg134
  z53 := Tryz.sizeOf134
  v53 := Tryz.zeroValue134
  t55 := Tryz.underlying23
  a55 := Tryz.isAgg23
  z55 := Tryz.sizeOf23
  v55 := Tryz.zeroValue23
  t66 := Tryz.underlying149
  a66 := Tryz.isAgg149
  z66 := Tryz.sizeOf149
  v66 := Tryz.zeroValue149
  t70 := Tryz.underlying151
  a70 := Tryz.isAgg151
  z70 := Tryz.sizeOf151
  v70 := Tryz.zeroValue151
  t76 := Tryz.underlying162
  a76 := Tryz.isAgg162
  z76 := Tryz.sizeOf162
  v76 := Tryz.zeroValue162
  t77 := Tryz.underlying163
  a77 := Tryz.isAgg163
  z77 := Tryz.sizeOf163
  v77 := Tryz.zeroValue163 }
end Go.Proofs

/- The contract of slices.SortFunc as 'inOrder' calls it: the same parts, in the order of their devices. Condition: fewer than 2^62 parts. -/
namespace Go.Proofs.YtmhghgogehmehaaGreat.Cx
open Go.ChangeShapes Go.WideShapes Go.ChangeAt Go.RowKit Go.Shelf
set_option linter.unusedVariables false
set_option maxRecDepth 4000

theorem nanP_any (w : World) (x : Nat) : Calls Tryz.prog 113 #[.int .u16 (x : Int)] w fun e w' => e = .returned (.bool false) ∧ w' = w := by
  have h : ((x : Int) != (x : Int)) = false := by rw [bne_eq_false_iff_eq]
  generalize ((x : Nat) : Int) = y at *
  go_enter Tryz.func113, Tryz.ntmps113
  go_wp2
  go_ret
  exact ⟨rfl, rfl⟩
def cfP (x y : PV) : Int := Lib.compareInt x.dev y.dev
theorem compareP_any (w : World) (x y : Nat) : Calls Tryz.prog 89 #[.int .u16 (x : Int), .int .u16 (y : Int)] w fun e w' => e = .returned (.int .i64 (Lib.compareInt x y)) ∧ w' = w := by
  have hx := fun W => nanP_any W x
  have hy := fun W => nanP_any W y
  unfold Lib.compareInt
  by_cases h1 : (x : Int) < y
  · rw [if_pos h1]
    generalize ((x : Nat) : Int) = x at *
    generalize ((y : Nat) : Int) = y at *
    go_enter Tryz.func89, Tryz.ntmps89
    go_wp2_with fail
    refine (hx _).mono ?_
    rintro e w1 ⟨rfl, rfl⟩
    go_wp2_with fail
    refine (hy _).mono ?_
    rintro e w1 ⟨rfl, rfl⟩
    go_wp2
    go_ret
    exact ⟨rfl, rfl⟩
  · rw [if_neg h1]
    have d1 : decide ((x : Int) < y) = false := decide_eq_false h1
    by_cases h2 : (x : Int) > y
    · rw [if_pos h2]
      have d2 : decide ((y : Int) < x) = true := decide_eq_true h2
      clear h1
      generalize ((x : Nat) : Int) = x at *
      generalize ((y : Nat) : Int) = y at *
      go_enter Tryz.func89, Tryz.ntmps89
      go_wp2_with fail
      refine (hx _).mono ?_
      rintro e w1 ⟨rfl, rfl⟩
      go_wp2_with fail
      refine (hy _).mono ?_
      rintro e w1 ⟨rfl, rfl⟩
      go_wp2
      go_ret
      exact ⟨rfl, rfl⟩
    · rw [if_neg h2]
      have d2 : decide ((y : Int) < x) = false := decide_eq_false h2
      clear h1 h2
      generalize ((x : Nat) : Int) = x at *
      generalize ((y : Nat) : Int) = y at *
      go_enter Tryz.func89, Tryz.ntmps89
      go_wp2_with fail
      refine (hx _).mono ?_
      rintro e w1 ⟨rfl, rfl⟩
      go_wp2_with fail
      refine (hy _).mono ?_
      rintro e w1 ⟨rfl, rfl⟩
      go_wp2
      go_ret
      exact ⟨rfl, rfl⟩

/-- a part's two cells. -/
def encP (p : PV) : List Value := [.int .u16 (p.dev : Int), .slice p.adr p.len p.cap]
instance : Inhabited PV := ⟨⟨0, none, 0, 0⟩⟩
theorem closureP_any (x y : PV) (W : World) : Calls Tryz.prog 88 #[.agg #[.int .u16 (x.dev : Int), .slice x.adr x.len x.cap], .agg #[.int .u16 (y.dev : Int), .slice y.adr y.len y.cap]] W fun e w' => e = .returned (.int .i64 (cfP x y)) ∧ ∃ q os', w' = Sort.grow (W.drewN q) os' := by
  have hcon : ∀ W', Calls Tryz.prog 89 #[.int .u16 (x.dev : Int), .int .u16 (y.dev : Int)] W' fun e w' => e = .returned (.int .i64 (cfP x y)) ∧ w' = W' := fun W' => compareP_any W' x.dev y.dev
  generalize cfP x y = r at hcon ⊢
  go_enter Tryz.func88, Tryz.ntmps88
  go_wp2_with (go_at_call 89; refine (hcon _).mono ?_; rintro e w' ⟨rfl, rfl⟩)
  go_ret
  exact ⟨rfl, 0, _, by rw [Sort.alloc_eq_grow, Sort.alloc_eq_grow, Sort.grow_grow]; rfl⟩
theorem ltP (x y : PV) : ltOf cfP x y = decide (x.dev < y.dev) := by
  unfold ltOf cfP Lib.compareInt
  by_cases h1 : (x.dev : Int) < y.dev
  · have : x.dev < y.dev := by omega
    simp [this]
  · by_cases h2 : (y.dev : Int) < x.dev
    · have h3 : ¬ x.dev < y.dev := by omega
      have h4 : y.dev < x.dev := by omega
      simp [h3, h4]
    · have h3 : ¬ x.dev < y.dev := by omega
      have h4 : ¬ y.dev < x.dev := by omega
      simp [h3, h4]
theorem swoP : Sort.SWO (ltOf cfP) where
  irrefl x := by rw [ltP]; simp
  trans x y z h1 h2 := by rw [ltP] at *; simp at *; omega
  ntrans x y z h1 h2 := by rw [ltP] at *; simp at *; omega

theorem flat_cv (l : List PV) (j : Nat) (hj : j < l.length * 2) : (cv l)[j]? = some (Sort.flatK encP 2 l.toArray)[j]! := by
  rw [Sort.get_flatK _ _ _ _ (by simpa using hj)]
  have hk : j / 2 < l.length := by omega
  have hg : l[j / 2]? = some l[j / 2] := List.getElem?_eq_getElem hk
  obtain ⟨g1, g2⟩ := cv_get hg
  have e : l.toArray[j / 2]! = l[j / 2] := by rw [getElem!_pos _ _ (by simpa using hk)]; simp
  rw [e]
  rcases Nat.mod_two_eq_zero_or_one j with h | h
  · rw [h]
    have : j / 2 * 2 = j := by omega
    rw [this] at g1
    simpa [encP] using g1
  · rw [h]
    have : j / 2 * 2 + 1 = j := by omega
    rw [this] at g2
    simpa [encP] using g2
theorem lenP (n : Nat) (hn : n < 4611686018427387904) (w : World) : Calls Tryz.prog 85 #[.int .u64 (n : Int)] w fun e w' => e = .returned (.int .i64 (Lib.bitLen n : Nat)) ∧ w' = w := by
  have h := Any.bits_Len (SlLaysF0.n15.bits (P := Tryz.prog) (ρ := Tryz.sortP_ren) { Tryz.sortP with }) (n : Int) w (by omega) (by omega)
  change Calls Tryz.prog 85 _ _ _ at h
  rwa [Int.toNat_natCast] at h
/-- the sorting itself, to the element. -/
theorem sortfP (g cap : Nat) (d : Array PV) (w : World) (hH : Sort.HoldsK encP 2 w g 0 d) (hlt : g < w.heap.size) (hsz : d.size < 4611686018427387904) :
    Calls Tryz.prog 87 #[.slice (some ⟨g, 0, none⟩) d.size cap, .func (.func 88) #[] #[]] w fun e w' =>
      e = .returned (.tuple #[]) ∧ ∃ d' n os, Sort.PermIn 0 d.size d d' ∧ Sort.SortedIn (ltOf cfP) 0 d.size d' ∧ w' = sortWorldK encP 2 w g 0 n d' os := by
  have eg : ∀ args w, (callFunc 88 args).run Tryz.prog w = .ok (.enter 88 args) w := enters_of Tryz.func88 (by kernel_rfl) rfl
  have hlim : Lib.bitLen d.size < 4611686018427387904 := Nat.lt_of_le_of_lt (Lib.bitLen_le d.size 62 (by omega) (by omega)) (by omega)
  have hp := AnyQ.pdqsortCmpFunc_all Tryz.sortP 2 Tryz.isAgg71 Tryz.sizeOf71 encP cfP 88 #[] swoP g 0 cap d w eg (fun m os dk _ x y => closureP_any x y _) ⟨fun _ => rfl, fun x v hv => by simp [encP] at hv; rcases hv with rfl | rfl <;> rfl, hH, hlt⟩ (d.size + 1) 0 d.size (Lib.bitLen d.size) d w (by omega) rfl (SWK.start hH) (Nat.zero_le _) (Nat.le_refl _) hsz hlim (Or.inl rfl)
  change Calls Tryz.prog 112 _ _ _ at hp
  have hl := lenP d.size hsz w
  have wr : IntKind.u64.wrap (d.size : Int) = d.size := by simp [IntKind.wrap, IntKind.bits, IntKind.signed]; omega
  have hfin := Sort.pdq_sorts (ltOf cfP) swoP d 0 d.size (Lib.bitLen d.size) true true (Nat.zero_le _) (Nat.le_refl _) (Or.inl rfl)
  clear hH
  go_enter Tryz.func87, Tryz.ntmps87
  go_wp2_with (first | (go_at_call 85; refine hl.mono ?_; rintro e w' ⟨rfl, rfl⟩) | (go_at_call 112; refine hp.mono ?_; rintro e w' ⟨rfl, n, os, rfl⟩))
  go_end0
  exact ⟨rfl, _, n, os, hfin.1, hfin.2, rfl⟩
theorem sortP_some (w : World) (B g cap n : Nat) (d : List PV) (hn : d.length = n) (h62 : n < 4611686018427387904) (h : w.ownsRow B 71 2 (.slice (some ⟨g, 0, none⟩) n cap) n (cv d)) :
    Calls Tryz.prog 87 #[.slice (some ⟨g, 0, none⟩) n cap, .func (.func 88) #[] #[]] w fun e w' => e = .returned (.tuple #[]) ∧ ∃ m : List PV, m.Perm d ∧ m.Pairwise (fun p q => p.dev ≤ q.dev) ∧ w'.ownsRow B 71 2 (.slice (some ⟨g, 0, none⟩) n cap) n (cv m) ∧ w.grownBy w' (some g) := by
  subst hn
  obtain ⟨hlen, ⟨hz, _⟩ | ⟨g', cap', cur, e, hB, hheap, hle, hmx, hsz, htk⟩⟩ := h
  · cases hz
  · cases e
    have hlt : g < w.heap.size := (Array.getElem?_eq_some_iff.1 hheap).1
    have hcell : ∀ j, j < d.length * 2 → cur[j]? = (cv d)[j]? := fun j hj => by
      rw [← htk, List.getElem?_take, if_pos hj]
      simp
    have hH : Sort.HoldsK encP 2 w g 0 d.toArray := fun j hj => by
      have hj' : j < d.length * 2 := by simpa using hj
      refine ⟨?_, by simp [World.frozen?, hheap]⟩
      rw [Nat.zero_add, show id (Sort.flatK encP 2 d.toArray)[j]! = (Sort.flatK encP 2 d.toArray)[j]! from rfl, ← flat_cv d j hj', ← hcell j hj']
      simp [World.cell?, hheap]
    have hcon := sortfP g cap d.toArray w hH hlt (by simpa using h62)
    rw [List.size_toArray] at hcon
    refine hcon.mono ?_
    rintro e w' ⟨rfl, d', q, os, hp, hs, rfl⟩
    have h1 : d'.size = d.length := by simpa using hp.1
    refine ⟨rfl, d'.toList, ?_, ?_, ?_, ?_⟩
    · have h3 := hp.2.2
      have e1 : d'.extract 0 d.length = d' := by rw [← h1]; simp
      have e2 : d.toArray.extract 0 d.length = d.toArray := by simp
      rw [e1, e2] at h3
      exact h3
    · refine List.pairwise_iff_getElem.2 fun i j hi hj hij => ?_
      rw [Array.length_toList] at hi hj
      have := hs i j (Nat.zero_le _) hij (by omega)
      rw [ltP, getElem!_pos d' j hj, getElem!_pos d' i hi] at this
      simpa using this
    · refine ⟨by rw [cv_length, Array.length_toList, h1], .inr ⟨g, cap, Sort.putCells id 0 (Sort.flatK encP 2 d') cur, rfl, hB, ?_, hle, hmx, by simp [Sort.putCells, hsz], ?_⟩⟩
      · show ((w.heap.modify g (Sort.onCells (Sort.putCells id 0 (Sort.flatK encP 2 d')))) ++ os)[g]? = _
        rw [Array.getElem?_append_left (by simpa using hlt), Array.getElem?_modify, if_pos rfl, hheap]
        rfl
      · apply List.ext_getElem?
        intro j
        rw [List.getElem?_take]
        by_cases hj : j < d.length * 2
        · rw [if_pos hj]
          have hf := flat_cv d'.toList j (by rw [Array.length_toList, h1]; exact hj)
          rw [Array.toArray_toList] at hf
          rw [hf]
          have hc : cur[j]? = some cur[j] := Array.getElem?_eq_getElem (by omega)
          simp [Sort.putCells, hc, h1, hj]
        · rw [if_neg hj]
          exact (List.getElem?_eq_none (by rw [cv_length, Array.length_toList, h1]; omega)).symm
    · refine ⟨rfl, rfl, rfl, ?_, fun k hk hne => ?_⟩
      · show w.heap.size ≤ ((w.heap.modify g _) ++ os).size
        simp
      · show ((w.heap.modify g _) ++ os)[k]? = _
        rw [Array.getElem?_append_left (by simpa using hk), Array.getElem?_modify, if_neg (fun e => hne (by rw [e]))]
theorem insP_nil (w : World) (fv : Value) : Calls Tryz.prog 127 #[.slice none 0 0, .int .i64 0, .int .i64 0, fv] w fun e w' => e = .returned (.tuple #[]) ∧ w' = w := by
  go_enter Tryz.func127, Tryz.ntmps127
  go_wp2
  refine wp_loop_rounds 1 ?_
  rw [rounds_succ]
  go_wp2
  go_end0
  exact ⟨rfl, rfl⟩
theorem pdqP_nil (w : World) (lim : Int) (fv : Value) : Calls Tryz.prog 112 #[.slice none 0 0, .int .i64 0, .int .i64 0, .int .i64 lim, fv] w fun e w' => e = .returned (.tuple #[]) ∧ w' = w := by
  have hi := fun W => insP_nil W fv
  go_enter Tryz.func112, Tryz.ntmps112
  go_wp2
  refine wp_loop_rounds 1 ?_
  rw [rounds_succ]
  go_wp2_with (go_at_call 127; refine (hi _).mono ?_; rintro e w' ⟨rfl, rfl⟩)
  (try simp only [Exit.inBlock, Exit.then]); refine bodyPost_ret (results_none rfl _ _ _) rfl ?_
  exact ⟨rfl, rfl⟩
theorem sortP_nil (w : World) : Calls Tryz.prog 87 #[.slice none 0 0, .func (.func 88) #[] #[]] w fun e w' => e = .returned (.tuple #[]) ∧ w' = w := by
  have hl := fun W => lenP 0 (by decide) W
  have hp := fun lim W => pdqP_nil W lim (.func (.func 88) #[] #[])
  go_enter Tryz.func87, Tryz.ntmps87
  go_wp2_with (first | (go_at_call 85; refine (hl _).mono ?_; rintro e w' ⟨rfl, rfl⟩) | (go_at_call 112; refine (hp _ _).mono ?_; rintro e w' ⟨rfl, rfl⟩))
  go_end0
  exact ⟨rfl, rfl⟩
theorem psorts : SortsP := by
  intro W B A k c ps hk h62 ho
  cases A with
  | none =>
    obtain ⟨_, _, h3⟩ := Dt.own_len ho
    obtain ⟨rfl, rfl⟩ := h3 rfl
    refine (sortP_nil W).mono ?_
    rintro e w' ⟨rfl, rfl⟩
    obtain rfl := List.eq_nil_of_length_eq_zero hk
    exact ⟨rfl, [], List.Perm.refl _, List.Pairwise.nil, ho, Ru.turn_refl _ _⟩
  | some ad =>
    have hsh : ∃ g, ad = ⟨g, 0, none⟩ := by
      rcases ho.2 with ⟨h, _⟩ | ⟨g, cap, cur, h, _⟩
      · cases h
      · cases h; exact ⟨g, rfl⟩
    obtain ⟨g, rfl⟩ := hsh
    exact sortP_some W B g c k ps hk h62 ho
end Go.Proofs.YtmhghgogehmehaaGreat.Cx

/- The contracts of the program's functions of layer dot on single dots: Good, ahead, Cmp. For every dot of its types. -/
namespace Go.Proofs.YtmhghgogehmehaaGreat.Dt
open Go.ChangeShapes Go.WideShapes Go.ChangeAt Go.RowKit
set_option linter.unusedVariables false
set_option maxRecDepth 4000

theorem below_new2 (w : World) (o1 o2 : Obj) : Below w.heap.size w ((w.alloc o1).alloc o2) := (below_new w o1).alloc (below_new w o1).size o2

theorem pgood_any (w : World) (a n : Nat) :
    Calls Tryz.prog 43 #[.agg #[.int .u16 (a : Int), .int .u64 (n : Int)]] w fun e w' => e = .returned (.bool (mayD (a, n))) ∧ Below w.heap.size w w' := by
  have HB : Hid (Below w.heap.size w (w.alloc (.cells #[.int .u16 (a : Int), .int .u64 (n : Int)] 25))) := below_new w _
  by_cases c1 : 1 ≤ a
  · have d1 : ((a : Int) != 0) = true := by rw [bne_iff_ne]; omega
    by_cases c2 : 1 ≤ n
    · have d2 : ((n : Int) != 0) = true := by rw [bne_iff_ne]; omega
      have hd : mayD (a, n) = decide ((n : Int) ≤ 281474976710655) := decide_eq_decide.2 ⟨fun h => by have := h.2.2; simp at this; omega, fun h => ⟨c1, c2, by simp; omega⟩⟩
      rw [hd]
      clear hd
      go_enter Tryz.func43, Tryz.ntmps43
      go_wp2
      go_ret
      exact ⟨rfl, HB.out⟩
    · have hd : mayD (a, n) = false := decide_eq_false (fun h => c2 h.2.1)
      have d2 : ((n : Int) != 0) = false := by rw [bne_eq_false_iff_eq]; omega
      rw [hd]
      clear hd
      go_enter Tryz.func43, Tryz.ntmps43
      go_wp2
      go_ret
      exact ⟨rfl, HB.out⟩
  · have hd : mayD (a, n) = false := decide_eq_false (fun h => c1 h.1)
    have d1 : ((a : Int) != 0) = false := by rw [bne_eq_false_iff_eq]; omega
    rw [hd]
    clear hd
    go_enter Tryz.func43, Tryz.ntmps43
    go_wp2
    go_ret
    exact ⟨rfl, HB.out⟩
/-- the world with two dots more. -/
def two (w : World) (a b : Dot) : World := (w.alloc (.cells #[.int .u16 (a.1 : Int), .int .u64 (a.2 : Int)] 25)).alloc (.cells #[.int .u16 (b.1 : Int), .int .u64 (b.2 : Int)] 25)
theorem pahead_two (w : World) (a b : Dot) :
    Calls Tryz.prog 72 #[.agg #[.int .u16 (a.1 : Int), .int .u64 (a.2 : Int)], .agg #[.int .u16 (b.1 : Int), .int .u64 (b.2 : Int)]] w fun e w' => e = .returned (.bool (aheadD a b)) ∧ w' = two w a b := by
  obtain ⟨a1, a2⟩ := a
  obtain ⟨b1, b2⟩ := b
  by_cases h1 : a1 = b1
  · subst h1
    have hd : aheadD (a1, a2) (a1, b2) = decide (a2 < b2) := decide_eq_decide.2 ⟨fun h => by simp at h; omega, fun h => .inr ⟨rfl, by simp; omega⟩⟩
    rw [hd]
    clear hd
    go_enter Tryz.func72, Tryz.ntmps72
    go_wp2
    go_ret
    exact ⟨rfl, rfl⟩
  · have e1 : ((a1 : Int) != (b1 : Int)) = true := by rw [bne_iff_ne]; omega
    have hd : aheadD (a1, a2) (b1, b2) = decide (a1 < b1) := decide_eq_decide.2 ⟨fun h => by simp at h; omega, fun h => .inl (by simp; omega)⟩
    rw [hd]
    clear hd
    go_enter Tryz.func72, Tryz.ntmps72
    go_wp2
    go_ret
    exact ⟨rfl, rfl⟩
theorem pahead_any (w : World) (a b : Dot) :
    Calls Tryz.prog 72 #[.agg #[.int .u16 (a.1 : Int), .int .u64 (a.2 : Int)], .agg #[.int .u16 (b.1 : Int), .int .u64 (b.2 : Int)]] w fun e w' => e = .returned (.bool (aheadD a b)) ∧ Below w.heap.size w w' :=
  (pahead_two w a b).mono fun _ _ ⟨h1, h2⟩ => ⟨h1, by rw [h2]; exact below_new2 w _ _⟩
/-- what Cmp leaves: the two dots, laid once or twice. -/
def Left (w : World) (a b : Dot) (w' : World) : Prop := w' = two w a b ∨ w' = two (two w a b) a b
theorem pcmp_left (w : World) (a b : Dot) :
    Calls Tryz.prog 50 #[.agg #[.int .u16 (a.1 : Int), .int .u64 (a.2 : Int)], .agg #[.int .u16 (b.1 : Int), .int .u64 (b.2 : Int)]] w fun e w' => e = .returned (.int .i64 (cmpD a b)) ∧ Left w a b w' := by
  have CA := fun W => pahead_two W a b
  obtain ⟨a1, a2⟩ := a
  obtain ⟨b1, b2⟩ := b
  by_cases h : a1 = b1 ∧ a2 = b2
  · obtain ⟨rfl, rfl⟩ := h
    clear CA
    rw [cmp_same]
    go_enter Tryz.func50, Tryz.ntmps50
    go_wp2
    go_ret
    exact ⟨rfl, .inl rfl⟩
  · have hc : cmpD (a1, a2) (b1, b2) = if aheadD (a1, a2) (b1, b2) = true then -1 else 1 := if_neg (fun e => h (by cases e; exact ⟨rfl, rfl⟩))
    rw [hc]
    clear hc
    have hne : ((a1 : Int) == (b1 : Int)) = false ∨ (a1 = b1 ∧ ((a2 : Int) == (b2 : Int)) = false) := by
      by_cases e : a1 = b1
      · refine .inr ⟨by omega, ?_⟩; rw [beq_eq_false_iff_ne]; omega
      · refine .inl ?_; rw [beq_eq_false_iff_ne]; omega
    clear h
    rcases hne with q | ⟨rfl, q⟩
    all_goals
      generalize aheadD _ _ = ah at CA ⊢
      cases ah
      all_goals
        go_enter Tryz.func50, Tryz.ntmps50
        go_wp2_with fail
        refine (CA _).mono ?_
        rintro e w1 ⟨rfl, rfl⟩
        go_wp2
        go_ret
        exact ⟨rfl, .inr rfl⟩
theorem pcmp_any (w : World) (a b : Dot) :
    Calls Tryz.prog 50 #[.agg #[.int .u16 (a.1 : Int), .int .u64 (a.2 : Int)], .agg #[.int .u16 (b.1 : Int), .int .u64 (b.2 : Int)]] w fun e w' => e = .returned (.int .i64 (cmpD a b)) ∧ Below w.heap.size w w' :=
  (pcmp_left w a b).mono fun _ _ ⟨h1, h2⟩ => ⟨h1, by
    have h3 : Below w.heap.size w (two w a b) := below_new2 w _ _
    rcases h2 with rfl | rfl
    · exact h3
    · exact h3.trans (Below.mono (below_new2 (two w a b) _ _) h3.size)⟩
end Go.Proofs.YtmhghgogehmehaaGreat.Dt

/- The contract of the program's 'told': the map of what a vector tells. For every list of at most 2^62 dots. -/
namespace Go.Proofs.YtmhghgogehmehaaGreat.Dt
open Go.ChangeShapes Go.WideShapes Go.ChangeAt Go.RowKit Go.Maps
set_option linter.unusedVariables false
set_option maxRecDepth 4000

theorem pgood_x (w : World) (d : Dot) :
    Calls Tryz.prog 43 #[.agg #[.int .u16 (d.1 : Int), .int .u64 (d.2 : Int)]] w fun e w' => e = .returned (.bool (mayD d)) ∧ w' = w.alloc (.cells #[.int .u16 (d.1 : Int), .int .u64 (d.2 : Int)] 25) := by
  obtain ⟨a, n⟩ := d
  by_cases c1 : 1 ≤ a
  · have d1 : ((a : Int) != 0) = true := by rw [bne_iff_ne]; omega
    by_cases c2 : 1 ≤ n
    · have d2 : ((n : Int) != 0) = true := by rw [bne_iff_ne]; omega
      have hd : mayD (a, n) = decide ((n : Int) ≤ 281474976710655) := decide_eq_decide.2 ⟨fun h => by have := h.2.2; simp at this; omega, fun h => ⟨c1, c2, by simp; omega⟩⟩
      rw [hd]
      clear hd
      go_enter Tryz.func43, Tryz.ntmps43
      go_wp2
      go_ret
      exact ⟨rfl, rfl⟩
    · have hd : mayD (a, n) = false := decide_eq_false (fun h => c2 h.2.1)
      have d2 : ((n : Int) != 0) = false := by rw [bne_eq_false_iff_eq]; omega
      rw [hd]
      clear hd
      go_enter Tryz.func43, Tryz.ntmps43
      go_wp2
      go_ret
      exact ⟨rfl, rfl⟩
  · have hd : mayD (a, n) = false := decide_eq_false (fun h => c1 h.1)
    have d1 : ((a : Int) != 0) = false := by rw [bne_eq_false_iff_eq]; omega
    rw [hd]
    clear hd
    go_enter Tryz.func43, Tryz.ntmps43
    go_wp2
    go_ret
    exact ⟨rfl, rfl⟩
/-- the box of a dot that came in. -/
theorem box_at (w : World) (d : Dot) : ∀ V, Below (w.alloc (.cells #[.int .u16 (d.1 : Int), .int .u64 (d.2 : Int)] 25)).heap.size (w.alloc (.cells #[.int .u16 (d.1 : Int), .int .u64 (d.2 : Int)] 25)) V → V.cell? ⟨w.heap.size, 0, none⟩ = some (.int .u16 (d.1 : Int)) ∧ V.cell? ⟨w.heap.size, 1, none⟩ = some (.int .u64 (d.2 : Int)) := by
  intro V hV
  have h1 : (w.alloc (.cells #[.int .u16 (d.1 : Int), .int .u64 (d.2 : Int)] 25)).cell? ⟨w.heap.size, 0, none⟩ = some (.int .u16 (d.1 : Int)) := by simp [go_sem]
  have h2 : (w.alloc (.cells #[.int .u16 (d.1 : Int), .int .u64 (d.2 : Int)] 25)).cell? ⟨w.heap.size, 1, none⟩ = some (.int .u64 (d.2 : Int)) := by simp [go_sem]
  exact ⟨(hV.cell (World.block_lt_of_cell? _ _ h1)).trans h1, (hV.cell (World.block_lt_of_cell? _ _ h2)).trans h2⟩
/-- what a map says behind a dot more. -/
def stepM (f : Nat → Nat) (d : Dot) : Nat → Nat := fun e => stepV e (f e) d
theorem stepM_not {f : Nat → Nat} {d : Dot} (h : mayD d = false) : stepM f d = f := by
  funext e
  refine if_neg ?_
  rintro ⟨rfl, h2, h3⟩
  rw [h] at h2; cases h2
theorem stepM_put {f : Nat → Nat} {d : Dot} (h1 : mayD d = true) : (fun e => if e = d.1 then max (f d.1) d.2 else f e) = stepM f d := by
  funext e
  unfold stepM
  rw [step_max]
  by_cases he : e = d.1
  · subst he; rw [if_pos rfl, if_pos ⟨rfl, h1⟩]
  · rw [if_neg he, if_neg (fun h => he h.1.symm)]
theorem grown_two (w : World) (o1 o2 : Obj) (row : Option Nat) : w.grownBy ((w.alloc o1).alloc o2) row := (World.grownBy_alloc w o1 row).trans (World.grownBy_alloc _ o2 row)
theorem map_new (w : World) : MapAt (w.alloc (.map #[] 0)) w.heap.size 0 (fun _ => 0) := ⟨.map [], World.ownsMap_made _ _ _ _, holds_none⟩
theorem told_next {l : List Dot} {k : Nat} {x : Dot} (h : l[k]? = some x) : ofV (l.take (k + 1)) = stepM (ofV (l.take k)) x := funext fun e => of_next e h
end Go.Proofs.YtmhghgogehmehaaGreat.Dt

/- The contracts of the program's Norm, Runs, Add and Of of layer ctx. Condition: at most 2^28 parts, of at most 2^28 runs together; at most 2^28 dots. -/
namespace Go.Proofs.YtmhghgogehmehaaGreat.Cx
open Go.ChangeShapes Go.WideShapes Go.ChangeAt Go.RowKit Go.Maps
set_option linter.unusedVariables false
set_option maxRecDepth 4000

theorem cpost_up {w W V : World} {m : List Part} {e : Ending} (hb : Below w.heap.size w W) (h : CtxPost W m e V) : CtxPost w m e V := by
  obtain ⟨A, n, c, ps, h1, h2, h3, h4, h5⟩ := h
  exact ⟨A, n, c, ps, h1, h2, Dt.own_less h3 hb.size, h4, hb.trans (h5.mono hb.size)⟩
theorem raw_short {a : List Part} {k : Nat} (h : Wide k a) (d : Nat) : (rawC a d).length ≤ k := by
  have q := raw_whole (fun _ => []) a d
  have q2 := h.2
  simp only [List.length_nil] at q
  show (rawF (fun _ => []) a d).length ≤ k
  omega
set_option maxHeartbeats 4000000 in
theorem pnorm_any (w : World) (A1 : Option Addr) (a : List Part) (n1 c1 : Nat) (h1 : CtxAt w A1 a n1 c1) (ha : Wide 268435456 a) :
    Calls Tryz.prog 36 #[.slice A1 n1 c1] w (CtxPost w (normC a)) := by
  have CB := pbydev_any w A1 a n1 c1 h1 ha
  have HT : Hid (Tells (fun d => Ru.nrm (rawC a d))) := Lib.hid (by rw [nrm_rawC]; exact tells_runs h1.fit)
  have HL := Lib.hid (fun d => raw_short ha d)
  have hn1 : n1 ≤ 268435456 := by rw [← h1.len]; exact ha.1
  rw [← norm_raw]
  clear h1 ha
  go_enter Tryz.func36, Tryz.ntmps36
  go_wp2_with fail
  refine CB.mono ?_
  rintro e w1 ⟨rfl, hM, hb⟩
  have CI := pinord_any psorts w1 _ _ _ _ hM.mapS HT.out (fun d => by have := HL.out d; omega) (by omega)
  have HB := Lib.hid hb
  clear CB hM hb
  go_wp2_with fail
  refine CI.mono ?_
  intro e w2 hp
  obtain ⟨A2, n2, c2, ps, rfl, h2⟩ := cpost_up HB.out hp
  have HP := Lib.hid h2
  clear hp h2 CI
  go_wp2
  go_ret
  exact ⟨A2, n2, c2, ps, rfl, HP.out⟩
theorem rawF_d (c : List Part) (k d : Nat) {x : Part} (h : c[k]? = some x) : rawC (c.take (k + 1)) d = stepR d (rawC (c.take k) d) x := congrFun (raw_next (f := fun _ => []) h) d
end Go.Proofs.YtmhghgogehmehaaGreat.Cx
