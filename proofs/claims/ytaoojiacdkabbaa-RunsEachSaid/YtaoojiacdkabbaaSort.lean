/- The contract of slices.SortFunc as 'Norm' calls it: the same runs, in the order of their Lo. Condition: fewer than 2^62 runs. -/
import Derived.Test.YtaoojiacdkabbaaShelf
import Derived.Test.YtaoojiacdkabbaaTell
namespace Go.Proofs.Ytaoojiacdkabbaa.Ru
open Go.ChangeShapes Go.WideShapes Go.ChangeAt Go.RowKit Go.Shelf
set_option linter.unusedVariables false

theorem nan_any (w : World) (x : Nat) : Calls Try.prog 56 #[.int .u64 (x : Int)] w fun e w' => e = .returned (.bool false) ∧ w' = w := by
  have h : ((x : Int) != (x : Int)) = false := by rw [bne_eq_false_iff_eq]
  generalize ((x : Nat) : Int) = y at *
  go_enter Try.func56, Try.ntmps56
  go_wp2
  go_ret
  exact ⟨rfl, rfl⟩
def cfR (x y : Run) : Int := Lib.compareInt x.1 y.1
theorem compare_any (w : World) (x y : Nat) : Calls Try.prog 44 #[.int .u64 (x : Int), .int .u64 (y : Int)] w fun e w' => e = .returned (.int .i64 (Lib.compareInt x y)) ∧ w' = w := by
  have hx := fun W => nan_any W x
  have hy := fun W => nan_any W y
  unfold Lib.compareInt
  by_cases h1 : (x : Int) < y
  · rw [if_pos h1]
    generalize ((x : Nat) : Int) = x at *
    generalize ((y : Nat) : Int) = y at *
    go_enter Try.func44, Try.ntmps44
    go_wp2_with fail
    refine (hx _).mono ?_
    rintro e w1 ⟨rfl, rfl⟩
    go_wp2_with fail
    refine (hy _).mono ?_
    rintro e w1 ⟨rfl, rfl⟩
    go_wp2
    go_ret
    exact ⟨rfl, rfl⟩
  · rw [if_neg h1]
    have d1 : decide ((x : Int) < y) = false := decide_eq_false h1
    by_cases h2 : (x : Int) > y
    · rw [if_pos h2]
      have d2 : decide ((y : Int) < x) = true := decide_eq_true h2
      clear h1
      generalize ((x : Nat) : Int) = x at *
      generalize ((y : Nat) : Int) = y at *
      go_enter Try.func44, Try.ntmps44
      go_wp2_with fail
      refine (hx _).mono ?_
      rintro e w1 ⟨rfl, rfl⟩
      go_wp2_with fail
      refine (hy _).mono ?_
      rintro e w1 ⟨rfl, rfl⟩
      go_wp2
      go_ret
      exact ⟨rfl, rfl⟩
    · rw [if_neg h2]
      have d2 : decide ((y : Int) < x) = false := decide_eq_false h2
      clear h1 h2
      generalize ((x : Nat) : Int) = x at *
      generalize ((y : Nat) : Int) = y at *
      go_enter Try.func44, Try.ntmps44
      go_wp2_with fail
      refine (hx _).mono ?_
      rintro e w1 ⟨rfl, rfl⟩
      go_wp2_with fail
      refine (hy _).mono ?_
      rintro e w1 ⟨rfl, rfl⟩
      go_wp2
      go_ret
      exact ⟨rfl, rfl⟩

/-- a run's two cells. -/
def encC (r : Run) : List Value := [.int .u64 (r.1 : Int), .int .u64 (r.2 : Int)]
theorem closure_any (x y : Run) (W : World) : Calls Try.prog 43 #[.agg #[.int .u64 (x.1 : Int), .int .u64 (x.2 : Int)], .agg #[.int .u64 (y.1 : Int), .int .u64 (y.2 : Int)]] W fun e w' => e = .returned (.int .i64 (cfR x y)) ∧ ∃ q os', w' = Sort.grow (W.drewN q) os' := by
  have hcon : ∀ W', Calls Try.prog 44 #[.int .u64 (x.1 : Int), .int .u64 (y.1 : Int)] W' fun e w' => e = .returned (.int .i64 (cfR x y)) ∧ w' = W' := fun W' => compare_any W' x.1 y.1
  generalize cfR x y = r at hcon ⊢
  go_enter Try.func43, Try.ntmps43
  go_wp2_with (go_at_call 44; refine (hcon _).mono ?_; rintro e w' ⟨rfl, rfl⟩)
  go_ret
  exact ⟨rfl, 0, _, by rw [Sort.alloc_eq_grow, Sort.alloc_eq_grow, Sort.grow_grow]; rfl⟩
theorem ltR (x y : Run) : ltOf cfR x y = decide (x.1 < y.1) := by
  unfold ltOf cfR Lib.compareInt
  by_cases h1 : (x.1 : Int) < y.1
  · have : x.1 < y.1 := by omega
    simp [this]
  · by_cases h2 : (y.1 : Int) < x.1
    · have h3 : ¬ x.1 < y.1 := by omega
      have h4 : y.1 < x.1 := by omega
      simp [h3, h4]
    · have h3 : ¬ x.1 < y.1 := by omega
      have h4 : ¬ y.1 < x.1 := by omega
      simp [h3, h4]
theorem swoR : Sort.SWO (ltOf cfR) where
  irrefl x := by rw [ltR]; simp
  trans x y z h1 h2 := by rw [ltR] at *; simp at *; omega
  ntrans x y z h1 h2 := by rw [ltR] at *; simp at *; omega

theorem flat_rv (l : List Run) (j : Nat) (hj : j < l.length * 2) : (rv l)[j]? = some (Sort.flatK encC 2 l.toArray)[j]! := by
  rw [Sort.get_flatK _ _ _ _ (by simpa using hj)]
  have hk : j / 2 < l.length := by omega
  have hg : l[j / 2]? = some l[j / 2] := List.getElem?_eq_getElem hk
  obtain ⟨g1, g2⟩ := rv_get hg
  have e : l.toArray[j / 2]! = l[j / 2] := by rw [getElem!_pos _ _ (by simpa using hk)]; simp
  rw [e]
  rcases Nat.mod_two_eq_zero_or_one j with h | h
  · rw [h]
    have : j / 2 * 2 = j := by omega
    rw [this] at g1
    simpa [encC] using g1
  · rw [h]
    have : j / 2 * 2 + 1 = j := by omega
    rw [this] at g2
    simpa [encC] using g2

theorem sort_any (w : World) (B g cap n : Nat) (d : List Run) (hn : d.length = n) (h62 : n < 4611686018427387904) (h : w.ownsRow B 31 2 (.slice (some ⟨g, 0, none⟩) n cap) n (rv d)) :
    Calls Try.prog 42 #[.slice (some ⟨g, 0, none⟩) n cap, .func (.func 43) #[] #[]] w fun e w' => e = .returned (.tuple #[]) ∧ ∃ m : List Run, m.Perm d ∧ Rise m ∧ w'.ownsRow B 31 2 (.slice (some ⟨g, 0, none⟩) n cap) n (rv m) ∧ w.grownBy w' (some g) := by
  subst hn
  obtain ⟨hlen, ⟨hz, _⟩ | ⟨g', cap', cur, e, hB, hheap, hle, hmx, hsz, htk⟩⟩ := h
  · cases hz
  · cases e
    have hlt : g < w.heap.size := (Array.getElem?_eq_some_iff.1 hheap).1
    have hcell : ∀ j, j < d.length * 2 → cur[j]? = (rv d)[j]? := fun j hj => by
      rw [← htk, List.getElem?_take, if_pos hj]
      simp
    have hH : Sort.HoldsK encC 2 w g 0 d.toArray := fun j hj => by
      have hj' : j < d.length * 2 := by simpa using hj
      refine ⟨?_, by simp [World.frozen?, hheap]⟩
      rw [Nat.zero_add, show id (Sort.flatK encC 2 d.toArray)[j]! = (Sort.flatK encC 2 d.toArray)[j]! from rfl, ← flat_rv d j hj', ← hcell j hj']
      simp [World.cell?, hheap]
    have eg : ∀ args w, (callFunc 43 args).run Try.prog w = .ok (.enter 43 args) w := enters_of Try.func43 (by kernel_rfl) rfl
    have hcon := AnyQ.slices_SortFunc Try.sortR 2 Try.isAgg31 Try.sizeOf31 encC (fun _ => rfl) (fun x v hv => by simp [encC] at hv; rcases hv with rfl | rfl <;> rfl) cfR swoR 43 #[] g 0 cap d.toArray w eg (fun m os dk _ x y => closure_any x y _) hH hlt (by simpa using h62)
    change Calls Try.prog 42 _ _ _ at hcon
    rw [List.size_toArray] at hcon
    refine hcon.mono ?_
    rintro e w' ⟨rfl, d', q, os, hp, hs, rfl⟩
    have h1 : d'.size = d.length := by simpa using hp.1
    refine ⟨rfl, d'.toList, ?_, ?_, ?_, ?_⟩
    · have h3 := hp.2.2
      have e1 : d'.extract 0 d.length = d' := by rw [← h1]; simp
      have e2 : d.toArray.extract 0 d.length = d.toArray := by simp
      rw [e1, e2] at h3
      exact h3
    · refine List.pairwise_iff_getElem.2 fun i j hi hj hij => ?_
      rw [Array.length_toList] at hi hj
      have := hs i j (Nat.zero_le _) hij (by omega)
      rw [ltR, getElem!_pos d' j hj, getElem!_pos d' i hi] at this
      simpa using this
    · refine ⟨by rw [rv_length, Array.length_toList, h1], .inr ⟨g, cap, Sort.putCells id 0 (Sort.flatK encC 2 d') cur, rfl, hB, ?_, hle, hmx, by simp [Sort.putCells, hsz], ?_⟩⟩
      · show ((w.heap.modify g (Sort.onCells (Sort.putCells id 0 (Sort.flatK encC 2 d')))) ++ os)[g]? = _
        rw [Array.getElem?_append_left (by simpa using hlt), Array.getElem?_modify, if_pos rfl, hheap]
        rfl
      · apply List.ext_getElem?
        intro j
        rw [List.getElem?_take]
        by_cases hj : j < d.length * 2
        · rw [if_pos hj]
          have hf := flat_rv d'.toList j (by rw [Array.length_toList, h1]; exact hj)
          rw [Array.toArray_toList] at hf
          rw [hf]
          have hc : cur[j]? = some cur[j] := Array.getElem?_eq_getElem (by omega)
          simp [Sort.putCells, hc, h1, hj]
        · rw [if_neg hj]
          exact (List.getElem?_eq_none (by rw [rv_length, Array.length_toList, h1]; omega)).symm
    · refine ⟨rfl, rfl, rfl, ?_, fun k hk hne => ?_⟩
      · show w.heap.size ≤ ((w.heap.modify g _) ++ os).size
        simp
      · show ((w.heap.modify g _) ++ os)[k]? = _
        rw [Array.getElem?_append_left (by simpa using hk), Array.getElem?_modify, if_neg (fun e => hne (by rw [e]))]
theorem ins_nil (w : World) (fv : Value) : Calls Try.prog 58 #[.slice none 0 0, .int .i64 0, .int .i64 0, fv] w fun e w' => e = .returned (.tuple #[]) ∧ w' = w := by
  go_enter Try.func58, Try.ntmps58
  go_wp2
  refine wp_loop_rounds 1 ?_
  rw [rounds_succ]
  go_wp2
  go_end0
  exact ⟨rfl, rfl⟩
theorem pdq_nil (w : World) (lim : Int) (fv : Value) : Calls Try.prog 54 #[.slice none 0 0, .int .i64 0, .int .i64 0, .int .i64 lim, fv] w fun e w' => e = .returned (.tuple #[]) ∧ w' = w := by
  have hi := fun W => ins_nil W fv
  go_enter Try.func54, Try.ntmps54
  go_wp2
  refine wp_loop_rounds 1 ?_
  rw [rounds_succ]
  go_wp2_with (go_at_call 58; refine (hi _).mono ?_; rintro e w' ⟨rfl, rfl⟩)
  (try simp only [Exit.inBlock, Exit.then]); refine bodyPost_ret (results_none rfl _ _ _) rfl ?_
  exact ⟨rfl, rfl⟩
theorem len_nil (w : World) : Calls Try.prog 55 #[.int .u64 0] w fun e w' => e = .returned (.int .i64 (Lib.bitLen 0 : Nat)) ∧ w' = w := by
  have h := Any.bits_Len (SlLaysF0.n15.bits (P := Try.prog) (ρ := Try.sortR_ren) { Try.sortR with }) 0 w (by omega) (by omega)
  change Calls Try.prog 55 _ _ _ at h
  exact h
theorem sort_nil (w : World) : Calls Try.prog 42 #[.slice none 0 0, .func (.func 43) #[] #[]] w fun e w' => e = .returned (.tuple #[]) ∧ w' = w := by
  have hl := fun W => len_nil W
  have hp := fun lim W => pdq_nil W lim (.func (.func 43) #[] #[])
  go_enter Try.func42, Try.ntmps42
  go_wp2_with (first | (go_at_call 55; refine (hl _).mono ?_; rintro e w' ⟨rfl, rfl⟩) | (go_at_call 54; refine (hp _ _).mono ?_; rintro e w' ⟨rfl, rfl⟩))
  go_end0
  exact ⟨rfl, rfl⟩
end Go.Proofs.Ytaoojiacdkabbaa.Ru
