/- Layer runs, the program's side: Sort, Norm, Meet, Minus, Size, First, Good. -/
import Derived.Test.YtegclhgfibfanaaMPRShelf
import Derived.Test.YtegclhgfibfanaaKT
import Derived.Deep.SlicePairs
import Derived.Test.YtegclhgfibfanaaKS
import Derived.Shelf.SlSortCmp.QuietGrown

/- The contract of slices.SortFunc as 'Norm' calls it: the same runs, in the order of their Lo. Condition: fewer than 2^62 runs. -/
namespace Go.Proofs.Ytegclhgfibfanaa.Ru
open Go.ChangeShapes Go.WideShapes Go.ChangeAt Go.RowKit Go.Shelf
set_option linter.unusedVariables false
set_option maxRecDepth 4000

theorem nan_any (w : World) (x : Nat) : Calls Try.prog 59 #[.int .u64 (x : Int)] w fun e w' => e = .returned (.bool false) ∧ w' = w := by
  have h : ((x : Int) != (x : Int)) = false := by rw [bne_eq_false_iff_eq]
  generalize ((x : Nat) : Int) = y at *
  go_enter Try.func59, Try.ntmps59
  go_wp2
  go_ret
  exact ⟨rfl, rfl⟩
def cfR (x y : Run) : Int := Lib.compareInt x.1 y.1
theorem compare_any (w : World) (x y : Nat) : Calls Try.prog 50 #[.int .u64 (x : Int), .int .u64 (y : Int)] w fun e w' => e = .returned (.int .i64 (Lib.compareInt x y)) ∧ w' = w := by
  have hx := fun W => nan_any W x
  have hy := fun W => nan_any W y
  unfold Lib.compareInt
  by_cases h1 : (x : Int) < y
  · rw [if_pos h1]
    generalize ((x : Nat) : Int) = x at *
    generalize ((y : Nat) : Int) = y at *
    go_enter Try.func50, Try.ntmps50
    go_wp2_with fail
    refine (hx _).mono ?_
    rintro e w1 ⟨rfl, rfl⟩
    go_wp2_with fail
    refine (hy _).mono ?_
    rintro e w1 ⟨rfl, rfl⟩
    go_wp2
    go_ret
    exact ⟨rfl, rfl⟩
  · rw [if_neg h1]
    have d1 : decide ((x : Int) < y) = false := decide_eq_false h1
    by_cases h2 : (x : Int) > y
    · rw [if_pos h2]
      have d2 : decide ((y : Int) < x) = true := decide_eq_true h2
      clear h1
      generalize ((x : Nat) : Int) = x at *
      generalize ((y : Nat) : Int) = y at *
      go_enter Try.func50, Try.ntmps50
      go_wp2_with fail
      refine (hx _).mono ?_
      rintro e w1 ⟨rfl, rfl⟩
      go_wp2_with fail
      refine (hy _).mono ?_
      rintro e w1 ⟨rfl, rfl⟩
      go_wp2
      go_ret
      exact ⟨rfl, rfl⟩
    · rw [if_neg h2]
      have d2 : decide ((y : Int) < x) = false := decide_eq_false h2
      clear h1 h2
      generalize ((x : Nat) : Int) = x at *
      generalize ((y : Nat) : Int) = y at *
      go_enter Try.func50, Try.ntmps50
      go_wp2_with fail
      refine (hx _).mono ?_
      rintro e w1 ⟨rfl, rfl⟩
      go_wp2_with fail
      refine (hy _).mono ?_
      rintro e w1 ⟨rfl, rfl⟩
      go_wp2
      go_ret
      exact ⟨rfl, rfl⟩

/-- a run's two cells. -/
def encC (r : Run) : List Value := [.int .u64 (r.1 : Int), .int .u64 (r.2 : Int)]
theorem closure_any (x y : Run) (W : World) : Calls Try.prog 49 #[.agg #[.int .u64 (x.1 : Int), .int .u64 (x.2 : Int)], .agg #[.int .u64 (y.1 : Int), .int .u64 (y.2 : Int)]] W fun e w' => e = .returned (.int .i64 (cfR x y)) ∧ ∃ q os', w' = Sort.grow (W.drewN q) os' := by
  have hcon : ∀ W', Calls Try.prog 50 #[.int .u64 (x.1 : Int), .int .u64 (y.1 : Int)] W' fun e w' => e = .returned (.int .i64 (cfR x y)) ∧ w' = W' := fun W' => compare_any W' x.1 y.1
  generalize cfR x y = r at hcon ⊢
  go_enter Try.func49, Try.ntmps49
  go_wp2_with (go_at_call 50; refine (hcon _).mono ?_; rintro e w' ⟨rfl, rfl⟩)
  go_ret
  exact ⟨rfl, 0, _, by rw [Sort.alloc_eq_grow, Sort.alloc_eq_grow, Sort.grow_grow]; rfl⟩
theorem ltR (x y : Run) : ltOf cfR x y = decide (x.1 < y.1) := by
  unfold ltOf cfR Lib.compareInt
  by_cases h1 : (x.1 : Int) < y.1
  · have : x.1 < y.1 := by omega
    simp [this]
  · by_cases h2 : (y.1 : Int) < x.1
    · have h3 : ¬ x.1 < y.1 := by omega
      have h4 : y.1 < x.1 := by omega
      simp [h3, h4]
    · have h3 : ¬ x.1 < y.1 := by omega
      have h4 : ¬ y.1 < x.1 := by omega
      simp [h3, h4]
theorem swoR : Sort.SWO (ltOf cfR) where
  irrefl x := by rw [ltR]; simp
  trans x y z h1 h2 := by rw [ltR] at *; simp at *; omega
  ntrans x y z h1 h2 := by rw [ltR] at *; simp at *; omega

theorem flat_rv (l : List Run) (j : Nat) (hj : j < l.length * 2) : (rv l)[j]? = some (Sort.flatK encC 2 l.toArray)[j]! := by
  rw [Sort.get_flatK _ _ _ _ (by simpa using hj)]
  have hk : j / 2 < l.length := by omega
  have hg : l[j / 2]? = some l[j / 2] := List.getElem?_eq_getElem hk
  obtain ⟨g1, g2⟩ := rv_get hg
  have e : l.toArray[j / 2]! = l[j / 2] := by rw [getElem!_pos _ _ (by simpa using hk)]; simp
  rw [e]
  rcases Nat.mod_two_eq_zero_or_one j with h | h
  · rw [h]
    have : j / 2 * 2 = j := by omega
    rw [this] at g1
    simpa [encC] using g1
  · rw [h]
    have : j / 2 * 2 + 1 = j := by omega
    rw [this] at g2
    simpa [encC] using g2

theorem sort_any (w : World) (B g cap n : Nat) (d : List Run) (hn : d.length = n) (h62 : n < 4611686018427387904) (h : w.ownsRow B 59 2 (.slice (some ⟨g, 0, none⟩) n cap) n (rv d)) :
    Calls Try.prog 48 #[.slice (some ⟨g, 0, none⟩) n cap, .func (.func 49) #[] #[]] w fun e w' => e = .returned (.tuple #[]) ∧ ∃ m : List Run, m.Perm d ∧ Rise m ∧ w'.ownsRow B 59 2 (.slice (some ⟨g, 0, none⟩) n cap) n (rv m) ∧ w.grownBy w' (some g) := by
  subst hn
  obtain ⟨hlen, ⟨hz, _⟩ | ⟨g', cap', cur, e, hB, hheap, hle, hmx, hsz, htk⟩⟩ := h
  · cases hz
  · cases e
    have hlt : g < w.heap.size := (Array.getElem?_eq_some_iff.1 hheap).1
    have hcell : ∀ j, j < d.length * 2 → cur[j]? = (rv d)[j]? := fun j hj => by
      rw [← htk, List.getElem?_take, if_pos hj]
      simp
    have hH : Sort.HoldsK encC 2 w g 0 d.toArray := fun j hj => by
      have hj' : j < d.length * 2 := by simpa using hj
      refine ⟨?_, by simp [World.frozen?, hheap]⟩
      rw [Nat.zero_add, show id (Sort.flatK encC 2 d.toArray)[j]! = (Sort.flatK encC 2 d.toArray)[j]! from rfl, ← flat_rv d j hj', ← hcell j hj']
      simp [World.cell?, hheap]
    have eg : ∀ args w, (callFunc 49 args).run Try.prog w = .ok (.enter 49 args) w := enters_of Try.func49 (by kernel_rfl) rfl
    have hcon := AnyQ.slices_SortFunc Try.sortR 2 Try.isAgg59 Try.sizeOf59 encC (fun _ => rfl) (fun x v hv => by simp [encC] at hv; rcases hv with rfl | rfl <;> rfl) cfR swoR 49 #[] g 0 cap d.toArray w eg (fun m os dk _ x y => closure_any x y _) hH hlt (by simpa using h62)
    change Calls Try.prog 48 _ _ _ at hcon
    rw [List.size_toArray] at hcon
    refine hcon.mono ?_
    rintro e w' ⟨rfl, d', q, os, hp, hs, rfl⟩
    have h1 : d'.size = d.length := by simpa using hp.1
    refine ⟨rfl, d'.toList, ?_, ?_, ?_, ?_⟩
    · have h3 := hp.2.2
      have e1 : d'.extract 0 d.length = d' := by rw [← h1]; simp
      have e2 : d.toArray.extract 0 d.length = d.toArray := by simp
      rw [e1, e2] at h3
      exact h3
    · refine List.pairwise_iff_getElem.2 fun i j hi hj hij => ?_
      rw [Array.length_toList] at hi hj
      have := hs i j (Nat.zero_le _) hij (by omega)
      rw [ltR, getElem!_pos d' j hj, getElem!_pos d' i hi] at this
      simpa using this
    · refine ⟨by rw [rv_length, Array.length_toList, h1], .inr ⟨g, cap, Sort.putCells id 0 (Sort.flatK encC 2 d') cur, rfl, hB, ?_, hle, hmx, by simp [Sort.putCells, hsz], ?_⟩⟩
      · show ((w.heap.modify g (Sort.onCells (Sort.putCells id 0 (Sort.flatK encC 2 d')))) ++ os)[g]? = _
        rw [Array.getElem?_append_left (by simpa using hlt), Array.getElem?_modify, if_pos rfl, hheap]
        rfl
      · apply List.ext_getElem?
        intro j
        rw [List.getElem?_take]
        by_cases hj : j < d.length * 2
        · rw [if_pos hj]
          have hf := flat_rv d'.toList j (by rw [Array.length_toList, h1]; exact hj)
          rw [Array.toArray_toList] at hf
          rw [hf]
          have hc : cur[j]? = some cur[j] := Array.getElem?_eq_getElem (by omega)
          simp [Sort.putCells, hc, h1, hj]
        · rw [if_neg hj]
          exact (List.getElem?_eq_none (by rw [rv_length, Array.length_toList, h1]; omega)).symm
    · refine ⟨rfl, rfl, rfl, ?_, fun k hk hne => ?_⟩
      · show w.heap.size ≤ ((w.heap.modify g _) ++ os).size
        simp
      · show ((w.heap.modify g _) ++ os)[k]? = _
        rw [Array.getElem?_append_left (by simpa using hk), Array.getElem?_modify, if_neg (fun e => hne (by rw [e]))]
theorem ins_nil (w : World) (fv : Value) : Calls Try.prog 74 #[.slice none 0 0, .int .i64 0, .int .i64 0, fv] w fun e w' => e = .returned (.tuple #[]) ∧ w' = w := by
  go_enter Try.func74, Try.ntmps74
  go_wp2
  refine wp_loop_rounds 1 ?_
  rw [rounds_succ]
  go_wp2
  go_end0
  exact ⟨rfl, rfl⟩
theorem pdq_nil (w : World) (lim : Int) (fv : Value) : Calls Try.prog 58 #[.slice none 0 0, .int .i64 0, .int .i64 0, .int .i64 lim, fv] w fun e w' => e = .returned (.tuple #[]) ∧ w' = w := by
  have hi := fun W => ins_nil W fv
  go_enter Try.func58, Try.ntmps58
  go_wp2
  refine wp_loop_rounds 1 ?_
  rw [rounds_succ]
  go_wp2_with (go_at_call 74; refine (hi _).mono ?_; rintro e w' ⟨rfl, rfl⟩)
  (try simp only [Exit.inBlock, Exit.then]); refine bodyPost_ret (results_none rfl _ _ _) rfl ?_
  exact ⟨rfl, rfl⟩
theorem len_nil (w : World) : Calls Try.prog 54 #[.int .u64 0] w fun e w' => e = .returned (.int .i64 (Lib.bitLen 0 : Nat)) ∧ w' = w := by
  have h := Any.bits_Len (SlLaysF0.n15.bits (P := Try.prog) (ρ := Try.sortR_ren) { Try.sortR with }) 0 w (by omega) (by omega)
  change Calls Try.prog 54 _ _ _ at h
  exact h
theorem sort_nil (w : World) : Calls Try.prog 48 #[.slice none 0 0, .func (.func 49) #[] #[]] w fun e w' => e = .returned (.tuple #[]) ∧ w' = w := by
  have hl := fun W => len_nil W
  have hp := fun lim W => pdq_nil W lim (.func (.func 49) #[] #[])
  go_enter Try.func48, Try.ntmps48
  go_wp2_with (first | (go_at_call 54; refine (hl _).mono ?_; rintro e w' ⟨rfl, rfl⟩) | (go_at_call 58; refine (hp _ _).mono ?_; rintro e w' ⟨rfl, rfl⟩))
  go_end0
  exact ⟨rfl, rfl⟩
end Go.Proofs.Ytegclhgfibfanaa.Ru

/- The contract of the program's 'Norm': the list in order of the same numbers. Condition: at most 2^42 runs. -/
namespace Go.Proofs.Ytegclhgfibfanaa.Ru
open Go.ChangeShapes Go.WideShapes Go.ChangeAt Go.RowKit Go.Shelf
set_option linter.unusedVariables false
set_option maxRecDepth 4000

theorem joined_nil (w : World) : Calls Try.prog 51 #[.slice none 0 0] w fun e w' => e = .returned (.slice none 0 0) ∧ w' = w := by
  go_enter Try.func51, Try.ntmps51
  go_wp2
  refine wp_loop_rounds 1 ?_
  rw [rounds_succ]
  go_wp2
  go_ret
  exact ⟨rfl, rfl⟩

theorem perm_length {l m : List Run} (h : m.Perm l) {n : Nat} (hl : l.length = n) : m.length = n := by rw [h.length_eq, hl]
theorem pnorm_any (w : World) (A : Option Addr) (l : List Run) (n c : Nat) (hl : l.length = n) (hb : Runs w w.heap.size A l) (h42 : n ≤ 4398046511104) :
    Calls Try.prog 37 #[.slice A n c] w (RunPost w (nrm l)) := by
  have HL := Lib.hid hl
  have HB := Lib.hid hb
  have L0 : Hid (Below w.heap.size w (w.alloc (.cells #[.slice A n c] 45))) := below_new _ _
  have HC : Hid (Calls Try.prog 47 #[.func (.func 52) #[] #[.pointer (some ⟨w.heap.size, 0, none⟩)]] (w.alloc (.cells #[.slice A n c] 45)) (RunPost (w.alloc (.cells #[.slice A n c] 45)) (tells l))) :=
    collect_any _ w.heap.size A l n c hl (by simp) (Boxed.new w 45 (.slice A n c)).cell (hb.up L0.out) h42
  clear hl hb
  go_enter Try.func37, Try.ntmps37
  go_wp2_with fail
  refine (telling_any w A n c).mono ?_
  rintro e w1 ⟨rfl, rfl⟩
  go_wp2_with fail
  refine HC.out.mono ?_
  rintro e w2 ⟨A2, n2, c2, rfl, hn2, ho2, hb2⟩
  have hn3 : n2 ≤ 4398046511104 := by
    rw [← hn2]
    refine Nat.le_trans (List.length_filter_le _ _) ?_
    rw [HL.out]; exact h42
  have HO := Lib.hid (own_less ho2 L0.out.size)
  have HW : Hid (Below w.heap.size w w2) := L0.out.trans (hb2.mono L0.out.size)
  have HN := Lib.hid hn2
  clear ho2 hb2 hn2 HC L0
  rcases A2 with _ | ad
  · obtain ⟨rfl, rfl⟩ := (own_len HO.out).2.2 rfl
    have hz : Hid (nrm l = []) := by
      show _ = _
      rw [← joined_norm (l := l) (m := []) (by rw [List.eq_nil_of_length_eq_zero HN.out]) List.Pairwise.nil]
      rfl
    go_wp2_with fail
    refine (sort_nil _).mono ?_
    rintro e w3 ⟨rfl, rfl⟩
    go_wp2_with fail
    refine (joined_nil _).mono ?_
    rintro e w3 ⟨rfl, rfl⟩
    go_wp2
    go_ret
    rw [hz.out]
    exact ⟨none, 0, 0, rfl, rfl, World.ownsRow_nil _ _ _ _, HW.out⟩
  · obtain ⟨g, cap, e, hBg⟩ : ∃ g cap, Value.slice (some ad) n2 c2 = .slice (some ⟨g, 0, none⟩) n2 cap ∧ w.heap.size ≤ g := own_shape (w := w) HO.out (.inr (fun h => by cases h))
    cases e
    go_wp2_with fail
    refine (sort_any w2 w.heap.size g c2 n2 (tells l) HN.out (by omega) HO.out).mono ?_
    rintro e w3 ⟨rfl, m, hp, hr, ho3, hg3⟩
    have HJ := Lib.hid (joined_norm hp hr)
    have HC : Hid (Calls Try.prog 51 #[.slice (some ⟨g, 0, none⟩) n2 c2] w3 fun e w' => ∃ k, e = .returned (.slice (some ⟨g, 0, none⟩) k c2) ∧ (joinL m).length = k ∧ w'.ownsRow w.heap.size 59 2 (.slice (some ⟨g, 0, none⟩) k c2) k (rv (joinL m)) ∧ w3.grownBy w' (some g)) :=
      joined_any w3 w.heap.size g c2 n2 m (perm_length hp HN.out) ho3 (fun r h => (List.mem_filter.1 (hp.mem_iff.1 h)).2) hr hn3
    have HG := Lib.hid hg3
    clear hp hr ho3 hg3
    go_wp2_with fail
    refine HC.out.mono ?_
    rintro e w4 ⟨k, rfl, hk, ho4, hg4⟩
    rw [HJ.out] at hk ho4
    have HO4 := Lib.hid ho4
    have HK := Lib.hid hk
    have HW4 : Hid (Below w.heap.size w w4) := HW.out.grown (grown_trans HG.out hg4) HW.out.size (fun j e => by cases e; exact hBg)
    clear ho4 hg4 hk
    go_wp2
    go_ret
    exact ⟨_, k, c2, rfl, HK.out, HO4.out, HW4.out⟩
end Go.Proofs.Ytegclhgfibfanaa.Ru

/- Append of any runs to any list of one's own, nil too. Condition: at most 2^43 runs in all. -/
namespace Go.Proofs.Ytegclhgfibfanaa.Ru
open Go.ChangeShapes Go.WideShapes Go.ChangeAt Go.RowKit Go.Shelf
set_option linter.unusedVariables false
set_option maxRecDepth 4000

theorem own_form {w : World} {B n size : Nat} {e : TypeId} {v : Value} {xs : List Value} (h : w.ownsRow B e size v n xs) : ∃ A c, v = .slice A n c := by
  rcases h.2 with ⟨rfl, rfl⟩ | ⟨g, cap, _, rfl, _⟩
  · exact ⟨none, 0, rfl⟩
  · exact ⟨_, cap, rfl⟩
theorem run_any (w : World) (B k : Nat) (v : Value) (xs : List Run) (A : Option Addr) (m : List Run) (n c : Nat) (ho : w.ownsRow B 59 2 v k (rv xs)) (hA : A = none → n = 0 ∧ c = 0) (hb : Lies w w.heap.size A (rv m)) (hl : m.length = n)
    (hn : k + n ≤ 8796093022208) (hB : B ≤ w.heap.size) :
    ∃ A' c' w', (Builtin.append_ #[45, 45] 45 #[v, .slice A n c]).run Try.prog w = .ok (.slice A' (k + n) c') w' ∧
      w'.ownsRow B 59 2 (.slice A' (k + n) c') (k + n) (rv (xs ++ m)) ∧ w.grownBy w' v.ownBlock := by
  obtain ⟨i0, hi0, hz0, hz1, hz2⟩ := info_parts run_info
  cases A with
  | none =>
    obtain ⟨rfl, rfl⟩ := hA rfl
    obtain rfl := List.eq_nil_of_length_eq_zero hl
    obtain ⟨A', c', rfl⟩ := own_form ho
    exact ⟨A', c', w, run_append_owned_none (P := Try.prog) (w := w) B 45 45 59 i0 2 Try.underlying45 hi0 _ k (rv xs) ho, by rw [List.append_nil]; exact ho, turn_refl _ _⟩
  | some ad =>
    have hc : ∀ j u, (rv m)[j]? = some u → w.cell? (ad.add j) = some u := by
      intro j u hu
      have hjl : j < (rv m).length := (List.getElem?_eq_some_iff.1 hu).1
      obtain ⟨ad', e, hadb, hc⟩ := hb (by omega)
      obtain rfl := Option.some.inj e
      exact hc j u hu
    obtain ⟨v', w', hr, h2, h3, hat, h5⟩ := run_append_own_at (P := Try.prog) w B 45 45 59 i0 (.agg #[.int .u64 0, .int .u64 0]) 2 16 Try.underlying45 hi0 hz0 hz1 hz2 rfl (by decide) v k (rv xs) ho ad n c (rv m) (by rw [rv_length, hl]) hc (rv_one m) (by simp only [maxLen]; omega) (by omega) hB
    obtain ⟨A', c', rfl⟩ := own_form h2
    exact ⟨A', c', w', hr, by rw [rv_append]; exact h2, h3⟩
theorem wpList_any {ops : Array Oper} {rest : List Oper} {o : Oper} {a : Act} {Q : Exit → Act → World → Prop} (hgd : o.guard = none) (s x : Operand) (ho : o.op = .call { callee := .builtin .append, args := #[s, x], argTypes := #[45, 45] }) (hty : o.type = 45)
    (w : World) (B k : Nat) (v : Value) (xs : List Run) (A : Option Addr) (m : List Run) (n c : Nat) (hs : a.eval s = v) (hx : a.eval x = .slice A n c) (hw : w.ownsRow B 59 2 v k (rv xs)) (hA : A = none → n = 0 ∧ c = 0) (hb : Lies w w.heap.size A (rv m)) (hl : m.length = n)
    (hn : k + n ≤ 8796093022208) (hB : B ≤ w.heap.size)
    (hK : ∀ A' c' w', w'.ownsRow B 59 2 (.slice A' (k + n) c') (k + n) (rv (xs ++ m)) → w.grownBy w' v.ownBlock → wpList Try.prog ops Q rest (a.put o.dst (.slice A' (k + n) c')) w') : wpList Try.prog ops Q (o :: rest) a w := by
  refine wpList_plain hgd fun K hQ => ?_
  obtain ⟨A', c', w', hr, h2, h3⟩ := run_any w B k v xs A m n c hw hA hb hl hn hB
  rw [← hty] at hr
  unfold Oper.wp execOp
  simp only [ho, resolve, invoke, builtin, Sem.run_bind, Sem.run_pure, Result.andThen_ok, List.map_toArray, List.map_cons, List.map_nil, hs, hx]
  rw [hty] at hr ⊢
  rw [hr]
  exact hQ _ _ (hK _ _ _ h2 h3)
/-- a list of one's own has grown: what lay, lies. -/
theorem any_grown {w wr w2 : World} {v : Value} {m : Nat} {xs : List Value} (ho : wr.ownsRow w.heap.size 59 2 v m xs) (hb : Below w.heap.size w wr) (hg : wr.grownBy w2 v.ownBlock) : Below w.heap.size w w2 :=
  hb.grown hg hb.size (fun k hk => (ho.lt k hk).1)
/-- a new block that is one run. -/
theorem lies_one (V : World) (r : Run) : Lies (V.alloc (.cells #[.int .u64 (r.1 : Int), .int .u64 (r.2 : Int)] 59)) (V.alloc (.cells #[.int .u64 (r.1 : Int), .int .u64 (r.2 : Int)] 59)).heap.size (some ⟨V.heap.size, 0, none⟩) (rv [r]) :=
  fun _ => ⟨_, rfl, by simp, pair_at V r⟩
end Go.Proofs.Ytegclhgfibfanaa.Ru

/- The contracts of the program's 'common' and 'gaps'. Condition: at most 2^42 runs a side. -/
namespace Go.Proofs.Ytegclhgfibfanaa.Ru
open Go.ChangeShapes Go.WideShapes Go.ChangeAt Go.RowKit Go.Shelf
set_option linter.unusedVariables false
set_option maxRecDepth 4000

theorem com_length : ∀ (N : Nat) (a b : List Run), a.length + b.length ≤ N → (com a b).length ≤ a.length + b.length
  | N, [], b, _ => by rw [com_nil]; simp
  | N, x :: a, [], _ => by rw [com_nil']; simp
  | 0, x :: a, y :: b, h => by simp at h
  | N + 1, x :: a, y :: b, h => by
    simp only [List.length_cons] at h
    rw [com_cons, List.length_append]
    have h1 : (if mayR (both x y) = true then [both x y] else []).length ≤ 1 := by split <;> simp
    have h2 : (if x.2 < y.2 then com a (y :: b) else com (x :: a) b).length ≤ a.length + b.length + 1 := by
      split
      · have := com_length N a (y :: b) (by simp only [List.length_cons]; omega)
        simp only [List.length_cons] at this
        omega
      · have := com_length N (x :: a) b (by simp only [List.length_cons]; omega)
        simp only [List.length_cons] at this
        omega
    simp only [List.length_cons]
    omega
theorem fit_both {x y : Run} (hx : x.1 < 18446744073709551616 ∧ x.2 < 18446744073709551616) (hy : y.1 < 18446744073709551616 ∧ y.2 < 18446744073709551616) : (both x y).1 < 18446744073709551616 ∧ (both x y).2 < 18446744073709551616 := by
  show max x.1 y.1 < _ ∧ min x.2 y.2 < _
  omega
theorem Runs.head {w : World} {B : Nat} {A : Option Addr} {r : Run} {l : List Run} (h : Runs w B A (r :: l)) :
    ∃ ad : Addr, A = some ad ∧ ad.block < B ∧ w.cell? ad = some (.int .u64 (r.1 : Int)) ∧ w.cell? ⟨ad.block, ad.off + 1, none⟩ = some (.int .u64 (r.2 : Int)) ∧ Runs w B (some (ad.add 2)) l := by
  obtain ⟨ad, e, hB, hc⟩ := h.2 (by rw [rv_length]; simp)
  refine ⟨ad, e, hB, ?_, hc 1 _ rfl, fun s hs => h.1 s (by simp [hs]), fun hl => ⟨_, rfl, by rw [block_add]; exact hB, fun j u hu => ?_⟩⟩
  · have := hc 0 _ rfl
    rwa [show ad.add 0 = ad from by unfold Addr.add; simp] at this
  · rw [add_add]
    refine hc (2 + j) u ?_
    rw [show rv (r :: l) = [.int .u64 (r.1 : Int), .int .u64 (r.2 : Int)] ++ rv l from rfl, List.getElem?_append_right (by simp)]
    simpa using hu

theorem bel_alloc {w W : World} (o : Obj) (h : Below w.heap.size w W) : Below w.heap.size w (W.alloc o) := h.alloc h.size o
def lenV : Value → Nat
  | .slice _ n _ => n
  | _ => 0
structure CRel (w : World) (l1 l2 : List Run) (A1 A2 A : Option Addr) (m1 m2 m c1 c2 c : Nat) (a b o : List Run) (wr : World) : Prop where
  ha : a.length = m1
  hb : b.length = m2
  ho : o.length = m
  ra : Runs w w.heap.size A1 a
  rb : Runs w w.heap.size A2 b
  h1 : m1 ≤ c1 ∧ c1 ≤ 9223372036854775807
  h2 : m2 ≤ c2 ∧ c2 ≤ 9223372036854775807
  hr : wr.ownsRow w.heap.size 59 2 (.slice A m c) m (rv o)
  bel : Below w.heap.size w wr
  hs : o ++ com a b = com l1 l2

theorem runs_tail {w : World} {B : Nat} {ad : Addr} {l : List Run} {z c : Nat} (h : Runs w B (some (ad.add 2)) l) (hl : l.length = z) (hz : z + 1 ≤ c) : Runs w B (if c = 1 then some ad else some ⟨ad.block, ad.off + 2, none⟩) l := by
  split
  · rename_i hc
    rw [List.eq_nil_of_length_eq_zero (l := l) (by omega)]
    exact Runs.none_ _ _ _
  · have e : ad.add 2 = ⟨ad.block, ad.off + 2, none⟩ := by unfold Addr.add; simp
    rw [← e]; exact h
theorem com_left {w : World} {l1 l2 : List Run} {ad1 : Addr} {A2 A A3 : Option Addr} {z1 m2 m c1 c2 c c3 mt : Nat} {x y : Run} {a b o t : List Run} {wr V : World}
    (h : CRel w l1 l2 (some ad1) A2 A (z1 + 1) m2 m c1 c2 c (x :: a) (y :: b) o wr) (hlt : x.2 < y.2) (ra : Runs w w.heap.size (some (ad1.add 2)) a) (ht : (if mayR (both x y) = true then [both x y] else []) = t) (hm : m + t.length = mt)
    (hr : V.ownsRow w.heap.size 59 2 (.slice A3 mt c3) mt (rv (o ++ t))) (bel : Below w.heap.size w V) : CRel w l1 l2 (if c1 = 1 then some ad1 else some ⟨ad1.block, ad1.off + 2, none⟩) A2 A3 z1 m2 mt (c1 - 1) c2 c3 a (y :: b) (o ++ t) V := by
  have hl : a.length = z1 := by have := h.ha; simpa using this
  have hk := h.h1
  refine ⟨hl, h.hb, by rw [List.length_append, h.ho, hm], runs_tail ra hl hk.1, h.rb, by omega, h.h2, hr, bel, ?_⟩
  have hs := h.hs
  rw [com_cons, ht, if_pos hlt] at hs
  rw [List.append_assoc]; exact hs
theorem com_right {w : World} {l1 l2 : List Run} {ad2 : Addr} {A1 A A3 : Option Addr} {z2 m1 m c1 c2 c c3 mt : Nat} {x y : Run} {a b o t : List Run} {wr V : World}
    (h : CRel w l1 l2 A1 (some ad2) A m1 (z2 + 1) m c1 c2 c (x :: a) (y :: b) o wr) (hlt : ¬ x.2 < y.2) (rb : Runs w w.heap.size (some (ad2.add 2)) b) (ht : (if mayR (both x y) = true then [both x y] else []) = t) (hm : m + t.length = mt)
    (hr : V.ownsRow w.heap.size 59 2 (.slice A3 mt c3) mt (rv (o ++ t))) (bel : Below w.heap.size w V) : CRel w l1 l2 A1 (if c2 = 1 then some ad2 else some ⟨ad2.block, ad2.off + 2, none⟩) A3 m1 z2 mt c1 (c2 - 1) c3 (x :: a) b (o ++ t) V := by
  have hl : b.length = z2 := by have := h.hb; simpa using this
  have hk := h.h2
  refine ⟨h.ha, hl, by rw [List.length_append, h.ho, hm], h.ra, runs_tail rb hl hk.1, h.h1, by omega, hr, bel, ?_⟩
  have hs := h.hs
  rw [com_cons, ht, if_neg hlt] at hs
  rw [List.append_assoc]; exact hs
theorem crel_drewN {w V : World} {l1 l2 a b o : List Run} {A1 A2 A : Option Addr} {m1 m2 m c1 c2 c : Nat} (h : CRel w l1 l2 A1 A2 A m1 m2 m c1 c2 c a b o V) (k : Nat) : CRel w l1 l2 A1 A2 A m1 m2 m c1 c2 c a b o (V.drewN k) :=
  ⟨h.ha, h.hb, h.ho, h.ra, h.rb, h.h1, h.h2, h.hr, h.bel.trans ⟨rfl, rfl, rfl, Nat.le_refl _, fun _ _ => rfl⟩, h.hs⟩

set_option maxHeartbeats 4000000 in
theorem common_any (w : World) (A1 A2 : Option Addr) (l1 l2 : List Run) (n1 n2 c1 c2 : Nat) (hl1 : l1.length = n1) (hl2 : l2.length = n2) (hb1 : Runs w w.heap.size A1 l1) (hb2 : Runs w w.heap.size A2 l2) (h1 : n1 ≤ 4398046511104) (h2 : n2 ≤ 4398046511104)
    (k1 : n1 ≤ c1 ∧ c1 ≤ 9223372036854775807) (k2 : n2 ≤ c2 ∧ c2 ≤ 9223372036854775807) :
    Calls Try.prog 36 #[.slice A1 n1 c1, .slice A2 n2 c2] w (RunPost w (com l1 l2)) := by
  obtain ⟨i0, hi0, hz0, hz1, hz2⟩ := info_parts run_info
  have HN : Hid ((com l1 l2).length ≤ 8796093022208) := Nat.le_trans (com_length _ l1 l2 (Nat.le_refl _)) (by omega)
  have HS : Hid (CRel w l1 l2 A1 A2 none n1 n2 0 c1 c2 0 l1 l2 [] w) := ⟨hl1, hl2, rfl, hb1, hb2, k1, k2, World.ownsRow_nil _ _ _ _, Below.refl _ _, rfl⟩
  clear hl1 hl2 hb1 hb2 k1 k2
  go_enter Try.func36, Try.ntmps36
  go_wp2
  go_loopw [0, 1, 5] (fun va vb vo wr => ∃ (A1 A2 A : Option Addr) (m1 m2 m c1 c2 c : Nat) (a b o : List Run), va = .slice A1 m1 c1 ∧ vb = .slice A2 m2 c2 ∧ vo = .slice A m c ∧ CRel w l1 l2 A1 A2 A m1 m2 m c1 c2 c a b o wr) (fun va vb _ _ => lenV va + lenV vb)
  case atStart => exact ⟨A1, A2, none, n1, n2, 0, c1, c2, 0, l1, l2, [], rfl, rfl, rfl, HS.out⟩
  case round =>
    clear HS A1 A2 n1 n2 c1 c2 h1 h2
    obtain ⟨A1, A2, A, m1, m2, m, c1, c2, c, a, b, o, rfl, rfl, rfl, hR⟩ := hrel
    have HR := Lib.hid hR
    have q1 := hR.h1
    have q2 := hR.h2
    clear hR
    rcases a with _ | ⟨x, a⟩
    · obtain rfl : m1 = 0 := HR.out.ha.symm
      have he : Hid (o = com l1 l2) := by have := HR.out.hs; rwa [com_nil, List.append_nil] at this
      go_wp2
      go_ret
      exact ⟨A, m, c, rfl, by rw [← he.out]; exact HR.out.ho, by rw [← he.out]; exact HR.out.hr, HR.out.bel⟩
    · rcases b with _ | ⟨y, b⟩
      · obtain rfl : m2 = 0 := HR.out.hb.symm
        obtain ⟨z1, rfl⟩ : ∃ z, m1 = z + 1 := ⟨a.length, HR.out.ha.symm⟩
        have he : Hid (o = com l1 l2) := by have := HR.out.hs; rwa [com_nil', List.append_nil] at this
        have hp : (0 : Int) < ((z1 : Nat) : Int) + 1 := by omega
        go_wp2
        go_ret
        exact ⟨A, m, c, rfl, by rw [← he.out]; exact HR.out.ho, by rw [← he.out]; exact HR.out.hr, HR.out.bel⟩
      · obtain ⟨z1, rfl⟩ : ∃ z, m1 = z + 1 := ⟨a.length, HR.out.ha.symm⟩
        obtain ⟨z2, rfl⟩ : ∃ z, m2 = z + 1 := ⟨b.length, HR.out.hb.symm⟩
        obtain ⟨ad1, rfl, hB1, d1, d2, ra'⟩ := HR.out.ra.head
        obtain ⟨ad2, rfl, hB2, e1, e2, rb'⟩ := HR.out.rb.head
        have RA := Lib.hid ra'
        have RB := Lib.hid rb'
        have hx := HR.out.ra.1 x (by simp)
        have hy := HR.out.rb.1 y (by simp)
        have HC : Hid (∀ V, Below w.heap.size w V → (V.cell? ad1 = some (.int .u64 (x.1 : Int)) ∧ V.cell? ⟨ad1.block, ad1.off + 1, none⟩ = some (.int .u64 (x.2 : Int))) ∧ V.cell? ad2 = some (.int .u64 (y.1 : Int)) ∧ V.cell? ⟨ad2.block, ad2.off + 1, none⟩ = some (.int .u64 (y.2 : Int))) := fun V hV =>
          ⟨⟨(hV.cell hB1).trans d1, (hV.cell (p := ⟨ad1.block, ad1.off + 1, none⟩) hB1).trans d2⟩, (hV.cell hB2).trans e1, (hV.cell (p := ⟨ad2.block, ad2.off + 1, none⟩) hB2).trans e2⟩
        clear d1 d2 e1 e2 ra' rb'
        obtain ⟨⟨d1, d2⟩, e1, e2⟩ := HC.out wr HR.out.bel
        have hp1 : (0 : Int) < ((z1 : Nat) : Int) + 1 := by omega
        have hp2 : (0 : Int) < ((z2 : Nat) : Int) + 1 := by omega
        go_wp2_with fail
        obtain ⟨p, hpp⟩ : ∃ p, both x y = p := ⟨_, rfl⟩
        have M1 : max (x.1 : Int) (y.1 : Int) = (p.1 : Int) := by rw [← hpp]; show max (x.1 : Int) (y.1 : Int) = ((max x.1 y.1 : Nat) : Int); omega
        have M2 : min (x.2 : Int) (y.2 : Int) = (p.2 : Int) := by rw [← hpp]; show min (x.2 : Int) (y.2 : Int) = ((min x.2 y.2 : Nat) : Int); omega
        have PP := Lib.hid hpp
        clear hpp
        go_region_held3 (fun V => (V.cell? ad1 = some (.int .u64 (x.1 : Int)) ∧ V.cell? ⟨ad1.block, ad1.off + 1, none⟩ = some (.int .u64 (x.2 : Int))) ∧ V.cell? ad2 = some (.int .u64 (y.1 : Int)) ∧ V.cell? ⟨ad2.block, ad2.off + 1, none⟩ = some (.int .u64 (y.2 : Int))) (first | exact ⟨⟨d1, d2⟩, e1, e2⟩ | exact HC.out _ (by (repeat (first | exact HR.out.bel | apply bel_alloc | apply bel_drew)))) (fail)
        all_goals
          have P0 : Hid (Pair (wr.alloc (.cells #[.int .u64 (p.1 : Int), .int .u64 (p.2 : Int)] 59)).drew wr.heap.size p) := Pair.new wr p
          have HW1 : Hid (Below w.heap.size w (wr.alloc (.cells #[.int .u64 (p.1 : Int), .int .u64 (p.2 : Int)] 59)).drew) := (HR.out.bel.alloc HR.out.bel.size _).drew
          have HO1 : Hid ((wr.alloc (.cells #[.int .u64 (p.1 : Int), .int .u64 (p.2 : Int)] 59)).drew.ownsRow w.heap.size 59 2 (.slice A m c) m (rv o)) := HR.out.hr.alloc _
          clear d1 d2 e1 e2 M1 M2
          generalize (wr.alloc (.cells #[.int .u64 (p.1 : Int), .int .u64 (p.2 : Int)] 59)).drew = W1 at P0 HW1 HO1 ⊢
          have f1 := P0.out.cell1
          have f2 := P0.out.cell2
          go_wp2_with fail
          refine (tells_any W1 p.1 p.2).mono ?_
          rintro e V ⟨rfl, hb2⟩
          have L2 := Lib.hid hb2
          have PV := Lib.hid (P0.out.below hb2)
          clear f1 f2
          have HWV : Hid (Below w.heap.size w V) := HW1.out.trans (L2.out.mono HW1.out.size)
          have HOV := Lib.hid (own_kept HO1.out L2.out)
          clear hb2 L2 HW1 HO1 P0
          by_cases hm : mayR (p.1, p.2) = true
          · rw [hm]
            have p1 := PV.out.cell1
            have p2 := PV.out.cell2
            have HLO : Hid (m + 1 ≤ 8796093022208) := by
              have h := HR.out.hs
              have h2 := HN.out
              rw [← h, com_cons, PP.out, if_pos hm, List.length_append, List.length_append, HR.out.ho] at h2
              simp only [List.length_singleton] at h2
              show m + 1 ≤ _
              omega
            have HWA : Hid (Below w.heap.size w (V.alloc (.cells #[.int .u64 (p.1 : Int), .int .u64 (p.2 : Int)] 59))) := HWV.out.alloc HWV.out.size _
            go_wp2_with (at_builtin; refine wpList_any rfl (.tmp 36) (.tmp 38) rfl rfl _ w.heap.size m (.slice A m c) o (some ⟨V.heap.size, 0, none⟩) [p] 1 1 rfl rfl (HOV.out.alloc _) (fun h => by cases h) (lies_one V p) rfl HLO.out HWA.out.size ?_; intro A3 c3 V3 ho3 hg3; have HW3 := Lib.hid (any_grown (HOV.out.alloc _) HWA.out hg3); have HO3 := Lib.hid ho3; clear ho3 hg3)
            obtain ⟨⟨d1, d2⟩, e1, e2⟩ := HC.out V3 HW3.out
            have ht : Hid ((if mayR (both x y) = true then [both x y] else []) = [p]) := by show _ = _; rw [PP.out, if_pos hm]
            clear hm p1 p2 HWA HLO HOV HWV PV
            by_cases hlt : x.2 < y.2
            · have hld : decide ((x.2 : Int) < (y.2 : Int)) = true := decide_eq_true (by omega)
              have HR2 := Lib.hid (com_left HR.out hlt RA.out ht.out rfl HO3.out HW3.out)
              go_quiet (fail)
              go_wp2
              exact ⟨⟨_, _, _, _, _, _, _, _, _, _, _, _, rfl, rfl, rfl, crel_drewN HR2.out _⟩, by simp [lenV]⟩
            · have hld : decide ((x.2 : Int) < (y.2 : Int)) = false := decide_eq_false (by omega)
              have HR2 := Lib.hid (com_right HR.out hlt RB.out ht.out rfl HO3.out HW3.out)
              go_wp2_with fail
              go_quiet (fail)
              go_wp2
              exact ⟨⟨_, _, _, _, _, _, _, _, _, _, _, _, rfl, rfl, rfl, crel_drewN HR2.out _⟩, by simp [lenV]⟩
          · have hm' : mayR (p.1, p.2) = false := by simpa using hm
            rw [hm']
            obtain ⟨⟨d1, d2⟩, e1, e2⟩ := HC.out V HWV.out
            have ht : Hid ((if mayR (both x y) = true then [both x y] else []) = []) := by show _ = _; rw [PP.out, if_neg hm]
            have HOV2 : Hid (V.ownsRow w.heap.size 59 2 (.slice A m c) m (rv (o ++ []))) := by rw [List.append_nil]; exact HOV.out
            clear hm HOV PV
            by_cases hlt : x.2 < y.2
            · have hld : decide ((x.2 : Int) < (y.2 : Int)) = true := decide_eq_true (by omega)
              have HR2 := Lib.hid (com_left HR.out hlt RA.out ht.out rfl HOV2.out HWV.out)
              go_wp2_with fail
              go_quiet (fail)
              go_wp2
              exact ⟨⟨_, _, _, _, _, _, _, _, _, _, _, _, rfl, rfl, rfl, crel_drewN HR2.out _⟩, by simp [lenV]⟩
            · have hld : decide ((x.2 : Int) < (y.2 : Int)) = false := decide_eq_false (by omega)
              have HR2 := Lib.hid (com_right HR.out hlt RB.out ht.out rfl HOV2.out HWV.out)
              go_wp2_with fail
              go_quiet (fail)
              go_wp2
              exact ⟨⟨_, _, _, _, _, _, _, _, _, _, _, _, rfl, rfl, rfl, crel_drewN HR2.out _⟩, by simp [lenV]⟩
end Go.Proofs.Ytegclhgfibfanaa.Ru

/- The contracts of the program's 'gaps', 'Meet', 'Minus' and 'Within'. Condition: at most 2^41 runs a side. -/
namespace Go.Proofs.Ytegclhgfibfanaa.Ru
open Go.ChangeShapes Go.WideShapes Go.ChangeAt Go.RowKit Go.Shelf
set_option linter.unusedVariables false
set_option maxRecDepth 4000

theorem RunPost.back {w W w' : World} {m : List Run} {e : Ending} (h : RunPost W m e w') (hb : Below w.heap.size w W) : RunPost w m e w' := by
  obtain ⟨A, n, c, rfl, hn, ho, hb'⟩ := h
  exact ⟨A, n, c, rfl, hn, own_less ho hb.size, hb.trans (hb'.mono hb.size)⟩
structure GRel (w : World) (l : List Run) (A : Option Addr) (m c nx k : Nat) (o : List Run) (wr : World) : Prop where
  ho : o.length = m
  hm : m ≤ k
  hr : wr.ownsRow w.heap.size 59 2 (.slice A m c) m (rv o)
  bel : Below w.heap.size w wr
  hs : o ++ gapS nx (l.drop k) = gapS 1 l
  hx : nx ≤ 281474976710656
theorem gap_step {w wr V : World} {l o : List Run} {A A3 : Option Addr} {m c c3 nx k : Nat} {r : Run} (h : GRel w l A m c nx k o wr) (hr : l[k]? = some r) (h2 : r.2 ≤ 281474976710655) (ho : V.ownsRow w.heap.size 59 2 (.slice A3 (m + 1) c3) (m + 1) (rv (o ++ [(nx, r.1 - 1)]))) (bel : Below w.heap.size w V) :
    GRel w l A3 (m + 1) c3 (r.2 + 1) (k + 1) (o ++ [(nx, r.1 - 1)]) V := by
  have hm := h.hm
  refine ⟨by rw [List.length_append, h.ho]; rfl, by omega, ho, bel, ?_, by omega⟩
  have hk : k < l.length := (List.getElem?_eq_some_iff.1 hr).1
  have hd : l.drop k = r :: l.drop (k + 1) := by
    rw [List.drop_eq_getElem_cons hk]
    rw [List.getElem?_eq_getElem hk] at hr
    rw [Option.some.inj hr]
  have hs := h.hs
  rw [hd, gapS] at hs
  rw [List.append_assoc]
  exact hs

set_option maxHeartbeats 1000000 in
theorem gaps_any (w : World) (A1 : Option Addr) (l : List Run) (n c1 : Nat) (hl : l.length = n) (hb : Runs w w.heap.size A1 l) (h42 : n ≤ 4398046511104) (hi : ∀ r ∈ l, mayR r = true) :
    Calls Try.prog 38 #[.slice A1 n c1] w (RunPost w (gapS 1 l)) := by
  have HL := Lib.hid hl
  have HB := Lib.hid hb
  have HI := Lib.hid hi
  have HS : Hid (GRel w l none 0 0 1 0 [] w) := ⟨rfl, Nat.le_refl _, World.ownsRow_nil _ _ _ _, Below.refl _ _, rfl, by omega⟩
  clear hl hb hi
  go_enter Try.func38, Try.ntmps38
  go_wp2
  go_loopw [3, 4, 9] (fun vo vn i wr => ∃ (A : Option Addr) (m c nx k : Nat) (o : List Run), k ≤ n ∧ vo = .slice A m c ∧ vn = .int .u64 (nx : Int) ∧ i = .int .i64 (k : Int) ∧ GRel w l A m c nx k o wr) (fun _ _ i _ => n - (intOf i).toNat)
  case atStart => exact ⟨none, 0, 0, 1, 0, [], Nat.zero_le _, rfl, rfl, rfl, HS.out⟩
  case round =>
    clear HS
    obtain ⟨A, m, c, nx, k, o, hk, rfl, rfl, rfl, hR⟩ := hrel
    have HR := Lib.hid hR
    have hmk := hR.hm
    have hnx := hR.hx
    clear hR
    by_cases hlt : k < n
    · obtain ⟨ad, lo, hi, rfl, hlk, hlo, hhi, q1, q2⟩ := (HB.out.below HR.out.bel).at_ (k := k) (by rw [HL.out]; exact hlt)
      have LK := Lib.hid hlk
      have mr := (may_iff (lo, hi)).1 (HI.out _ (List.mem_of_getElem? hlk))
      have mr1 : 1 ≤ lo := mr.1
      have mr2 : hi ≤ 281474976710655 := mr.2.2
      have q3 : wr.cell? ⟨(ad.add (k * 2)).block, (ad.add (k * 2)).off + 1, none⟩ = some (.int .u64 (hi : Int)) := by rw [add_next]; exact q2
      have P0 := Lib.hid (Pair.new wr (lo, hi))
      have HW0 : Hid (Below w.heap.size w (wr.alloc (.cells #[.int .u64 (lo : Int), .int .u64 (hi : Int)] 59))) := HR.out.bel.alloc HR.out.bel.size _
      have HO0 : Hid ((wr.alloc (.cells #[.int .u64 (lo : Int), .int .u64 (hi : Int)] 59)).ownsRow w.heap.size 59 2 (.slice A m c) m (rv o)) := HR.out.hr.alloc _
      have w1 : IntKind.u64.wrap ((lo : Int) - 1) = ((lo - 1 : Nat) : Int) := by simp [IntKind.wrap, IntKind.bits, IntKind.signed]; omega
      have w2 : IntKind.u64.wrap ((hi : Int) + 1) = ((hi + 1 : Nat) : Int) := by simp [IntKind.wrap, IntKind.bits, IntKind.signed]; omega
      clear hlk q2 mr
      obtain ⟨p2, hp2⟩ : ∃ p, lo - 1 = p := ⟨_, rfl⟩
      obtain ⟨nx2, hn2⟩ : ∃ p, hi + 1 = p := ⟨_, rfl⟩
      rw [hp2] at w1
      rw [hn2] at w2
      have E1 := Lib.hid hp2
      have E2 := Lib.hid hn2
      clear hp2 hn2
      have LI : Hid (Lies ((wr.alloc (.cells #[.int .u64 (lo : Int), .int .u64 (hi : Int)] 59)).alloc (.cells #[.int .u64 (nx : Int), .int .u64 (p2 : Int)] 59)) ((wr.alloc (.cells #[.int .u64 (lo : Int), .int .u64 (hi : Int)] 59)).alloc (.cells #[.int .u64 (nx : Int), .int .u64 (p2 : Int)] 59)).heap.size (some ⟨wr.heap.size + 1, 0, none⟩) (rv [(nx, p2)])) := by
        have h := lies_one (wr.alloc (.cells #[.int .u64 (lo : Int), .int .u64 (hi : Int)] 59)) (nx, p2)
        rw [show (wr.alloc (.cells #[.int .u64 (lo : Int), .int .u64 (hi : Int)] 59)).heap.size = wr.heap.size + 1 by simp] at h
        exact h
      have HW2 : Hid (Below w.heap.size w ((wr.alloc (.cells #[.int .u64 (lo : Int), .int .u64 (hi : Int)] 59)).alloc (.cells #[.int .u64 (nx : Int), .int .u64 (p2 : Int)] 59))) := HW0.out.alloc HW0.out.size _
      have HP0 : Hid (∀ V, (wr.alloc (.cells #[.int .u64 (lo : Int), .int .u64 (hi : Int)] 59)).alloc (.cells #[.int .u64 (nx : Int), .int .u64 (p2 : Int)] 59) |>.grownBy V (Value.slice A m c).ownBlock → V.cell? ⟨wr.heap.size, 1, none⟩ = some (.int .u64 (hi : Int))) := fun V hg => by
        refine ((P0.out.below (below_new _ _)).kept hg (fun e => ?_)).cell2
        have := (HR.out.hr.lt _ e.symm).2
        omega
      go_wp2_with (at_builtin; refine wpList_any rfl (.tmp 13) (.tmp 19) rfl rfl _ w.heap.size m (.slice A m c) o (some ⟨wr.heap.size + 1, 0, none⟩) [(nx, p2)] 1 1 rfl rfl (HO0.out.alloc _) (fun h => by cases h) LI.out rfl (by omega) HW2.out.size ?_; intro A3 c3 V3 ho3 hg3; have HW3 := Lib.hid (any_grown (HO0.out.alloc _) HW2.out hg3); have HO3 := Lib.hid ho3; have r3 := HP0.out V3 hg3; clear ho3 hg3)
      have HR2 : Hid (GRel w l A3 (m + 1) c3 nx2 (k + 1) (o ++ [(nx, p2)]) V3) := by
        have h : GRel w l A3 (m + 1) c3 (hi + 1) (k + 1) (o ++ [(nx, lo - 1)]) V3 := gap_step HR.out LK.out mr2 (by show V3.ownsRow w.heap.size 59 2 (.slice A3 (m + 1) c3) (m + 1) (rv (o ++ [(nx, lo - 1)])); rw [E1.out]; exact HO3.out) HW3.out
        rw [E1.out, E2.out] at h
        exact h
      go_roundw
      case rel => exact ⟨A3, m + 1, c3, nx2, k + 1, _, by omega, rfl, rfl, by go_num, HR2.out⟩
      case measure => simp [intOf]; omega
    · obtain rfl : k = n := by omega
      have he : Hid (o ++ [(nx, 281474976710655)] = gapS 1 l) := by
        have h := HR.out.hs
        rw [List.drop_of_length_le (by rw [HL.out]; exact Nat.le_refl _)] at h
        exact h
      have HWA : Hid (Below w.heap.size w (wr.alloc (.cells #[.int .u64 (nx : Int), .int .u64 281474976710655] 59))) := HR.out.bel.alloc HR.out.bel.size _
      go_wp2_with (at_builtin; refine wpList_any rfl (.tmp 25) (.tmp 28) rfl rfl _ w.heap.size m (.slice A m c) o (some ⟨wr.heap.size, 0, none⟩) [(nx, 281474976710655)] 1 1 rfl rfl (HR.out.hr.alloc _) (fun h => by cases h) (lies_one wr (nx, 281474976710655)) rfl (by omega) HWA.out.size ?_; intro A3 c3 V3 ho3 hg3; have HW3 := Lib.hid (any_grown (HR.out.hr.alloc _) HWA.out hg3); have HO3 := Lib.hid ho3; clear ho3 hg3)
      go_ret
      exact ⟨A3, m + 1, c3, rfl, by rw [← he.out, List.length_append, HR.out.ho]; rfl, by rw [← he.out]; exact HO3.out, HW3.out⟩

theorem fit_sep {l : List Run} (h : ∀ r ∈ l, okR r) (hb : ∀ r ∈ l, r.1 ≤ 281474976710656) : Fit l := fun r hr => by
  have := hb r hr
  rcases h r hr with h | h
  · have := (may_iff r).1 h; omega
  · omega
theorem gap_low : ∀ (l : List Run) (nx : Nat), (∀ r ∈ l, mayR r = true) → nx ≤ 281474976710656 → ∀ r ∈ gapS nx l, r.1 ≤ 281474976710656
  | [], nx, _, h, r, hr => by obtain rfl := List.mem_singleton.1 hr; exact h
  | s :: l, nx, hm, h, r, hr => by
    rw [gapS] at hr
    have := (may_iff s).1 (hm s (by simp))
    rcases List.mem_cons.1 hr with rfl | hr
    · exact h
    · exact gap_low l (s.2 + 1) (fun x hx => hm x (by simp [hx])) (by omega) r hr

theorem pmeet_any (w : World) (A1 A2 : Option Addr) (l1 l2 : List Run) (n1 n2 c1 c2 : Nat) (hl1 : l1.length = n1) (hl2 : l2.length = n2) (hb1 : Runs w w.heap.size A1 l1) (hb2 : Runs w w.heap.size A2 l2) (h1 : n1 ≤ 4398046511104) (h2 : n2 ≤ 4398046511104) :
    Calls Try.prog 23 #[.slice A1 n1 c1, .slice A2 n2 c2] w (RunPost w (setL l1 l2 1)) := by
  have H1 := Lib.hid (pnorm_any w A1 l1 n1 c1 hl1 hb1 h1)
  have HB2 := Lib.hid hb2
  have HL2 := Lib.hid hl2
  have k1 := nrm_length l1
  have k2 := nrm_length l2
  rw [hl1] at k1
  rw [hl2] at k2
  clear hl1 hl2 hb1 hb2
  go_enter Try.func23, Try.ntmps23
  go_wp2_with fail
  refine H1.out.mono ?_
  rintro e w1 p1
  obtain ⟨B1, m1, d1, rfl, e1, _, f1, f1', r1, o1, b1⟩ := post_runs p1 (fit_order (nrm_spec l1).1)
  have R1 := Lib.hid r1
  have E1 := Lib.hid e1
  have W1 := Lib.hid b1
  have H2 := Lib.hid (pnorm_any w1 A2 l2 n2 c2 HL2.out (HB2.out.up b1) h2)
  rw [e1] at k1
  clear p1 r1 o1 b1 e1
  go_wp2_with fail
  refine H2.out.mono ?_
  rintro e w2 p2
  obtain ⟨B2, m2, d2, rfl, e2, _, f2, f2', r2, o2, b2⟩ := post_runs p2 (fit_order (nrm_spec l2).1)
  rw [e2] at k2
  have H3 := Lib.hid (common_any w2 B1 B2 (nrm l1) (nrm l2) m1 m2 d1 d2 E1.out e2 (R1.out.up b2) r2 (by omega) (by omega) ⟨f1, f1'⟩ ⟨f2, f2'⟩)
  have W2 : Hid (Below w.heap.size w w2) := W1.out.trans (b2.mono W1.out.size)
  clear p2 r2 o2 b2 e2
  go_wp2_with fail
  refine H3.out.mono ?_
  rintro e w3 p3
  rw [meet_comes] at p3
  obtain ⟨A, n, c, rfl, h⟩ := p3.back W2.out
  have HH := Lib.hid h
  clear p3 h
  go_wp2
  go_ret
  exact ⟨A, n, c, rfl, HH.out⟩
theorem pminus_any (w : World) (A1 A2 : Option Addr) (l1 l2 : List Run) (n1 n2 c1 c2 : Nat) (hl1 : l1.length = n1) (hl2 : l2.length = n2) (hb1 : Runs w w.heap.size A1 l1) (hb2 : Runs w w.heap.size A2 l2) (h1 : n1 ≤ 2199023255552) (h2 : n2 ≤ 2199023255552) :
    Calls Try.prog 24 #[.slice A1 n1 c1, .slice A2 n2 c2] w (RunPost w (setL l1 l2 2)) := by
  have H1 := Lib.hid (pnorm_any w A1 l1 n1 c1 hl1 hb1 (by omega))
  have HB2 := Lib.hid hb2
  have HL2 := Lib.hid hl2
  have k1 := nrm_length l1
  have k2 := nrm_length l2
  rw [hl1] at k1
  rw [hl2] at k2
  clear hl1 hl2 hb1 hb2
  go_enter Try.func24, Try.ntmps24
  go_wp2_with fail
  refine H1.out.mono ?_
  rintro e w1 p1
  obtain ⟨B1, m1, d1, rfl, e1, _, f1, f1', r1, o1, b1⟩ := post_runs p1 (fit_order (nrm_spec l1).1)
  have R1 := Lib.hid r1
  have E1 := Lib.hid e1
  have W1 := Lib.hid b1
  have H2 := Lib.hid (pnorm_any w1 A2 l2 n2 c2 HL2.out (HB2.out.up b1) (by omega))
  rw [e1] at k1
  clear p1 r1 o1 b1 e1
  go_wp2_with fail
  refine H2.out.mono ?_
  rintro e w2 p2
  obtain ⟨B2, m2, d2, rfl, e2, _, f2, f2', r2, o2, b2⟩ := post_runs p2 (fit_order (nrm_spec l2).1)
  rw [e2] at k2
  have HG := Lib.hid (gaps_any w2 B2 (nrm l2) m2 d2 e2 r2 (by omega) (nrm_spec l2).1.1)
  have E2 := Lib.hid e2
  have R2 := Lib.hid (R1.out.up b2)
  have W2 : Hid (Below w.heap.size w w2) := W1.out.trans (b2.mono W1.out.size)
  clear p2 r2 o2 b2 e2
  go_wp2_with fail
  refine HG.out.mono ?_
  rintro e w3 p3
  obtain ⟨g1, g2, _, g4⟩ := gap_nrm l2
  obtain ⟨B3, m3, d3, rfl, e3, _, f3, f3', r3, o3, b3⟩ := post_runs p3 (fit_sep g2 (gap_low _ 1 (nrm_spec l2).1.1 (by omega)))
  rw [E2.out] at g4
  have k3 : m3 ≤ 4398046511104 := by omega
  have H3 := Lib.hid (common_any w3 B1 B3 (nrm l1) (gapS 1 (nrm l2)) m1 m3 d1 d3 E1.out e3 (R2.out.up b3) r3 (by omega) k3 ⟨f1, f1'⟩ ⟨f3, f3'⟩)
  have W3 : Hid (Below w.heap.size w w3) := W2.out.trans (b3.mono W2.out.size)
  clear p3 r3 o3 b3 e3 g1 g2 g4
  go_wp2_with fail
  refine H3.out.mono ?_
  rintro e w4 p4
  rw [minus_comes] at p4
  obtain ⟨A, n, c, rfl, h⟩ := p4.back W3.out
  have HH := Lib.hid h
  clear p4 h
  go_wp2
  go_ret
  exact ⟨A, n, c, rfl, HH.out⟩
end Go.Proofs.Ytegclhgfibfanaa.Ru

/- The contracts of the program's 'Size', 'First' and 'Same'. Condition: at most 2^41 runs a side. -/
namespace Go.Proofs.Ytegclhgfibfanaa.Ru
open Go.ChangeShapes Go.WideShapes Go.ChangeAt Go.RowKit Go.Shelf
set_option linter.unusedVariables false
set_option maxRecDepth 4000

theorem psize_any (w : World) (A1 : Option Addr) (l1 : List Run) (n1 c1 : Nat) (hl1 : l1.length = n1) (hb1 : Runs w w.heap.size A1 l1) (h1 : n1 ≤ 4398046511104) :
    Calls Try.prog 28 #[.slice A1 n1 c1] w fun e w' => e = .returned (.int .u64 ((sizeR (nrm l1) : Nat) : Int)) ∧ Below w.heap.size w w' := by
  have H := Lib.hid (pnorm_any w A1 l1 n1 c1 hl1 hb1 h1)
  have HI := Lib.hid (nrm_spec l1).1
  clear hl1 hb1
  generalize nrm l1 = L at *
  go_enter Try.func28, Try.ntmps28
  go_wp2_with fail
  refine H.out.mono ?_
  clear H
  intro e w2 h2
  obtain ⟨A, n, c, rfl, hn, _, hnc, hc, hr, _, hb⟩ := post_runs h2 (fit_order HI.out)
  have HN := Lib.hid hn
  have HR := Lib.hid hr
  have HW := Lib.hid hb
  have HZ : Hid (sizeR L ≤ 281474976710656) := size_le HI.out
  clear h2 hn hr hb
  go_wp2_with fail
  go_loopw [3, 9] (fun s i wr => ∃ (k m : Nat), k ≤ n ∧ i = .int .i64 (k : Int) ∧ s = .int .u64 (m : Int) ∧ sizeR (L.take k) = m ∧ Below w2.heap.size w2 wr) (fun _ i _ => n - (intOf i).toNat)
  case atStart => exact ⟨0, 0, Nat.zero_le _, rfl, rfl, rfl, Below.refl _ _⟩
  case round =>
    obtain ⟨k, m, hk, rfl, rfl, hm, hbl⟩ := hrel
    have HM := Lib.hid hm
    have HX := Lib.hid hbl
    have hm48 : m ≤ 281474976710656 := by rw [← hm]; exact Nat.le_trans (sizeR_le L k) HZ.out
    clear hm hbl
    by_cases hlt : k < n
    · obtain ⟨ad, lo, hi, rfl, hlk, hlo, hhi, hc1, hc2⟩ := (HR.out.up HX.out).at_ (k := k) (by rw [HN.out]; exact hlt)
      have hc3 : wr.cell? ⟨(ad.add (k * 2)).block, (ad.add (k * 2)).off + 1, none⟩ = some (.int .u64 (hi : Int)) := by rw [add_next]; exact hc2
      have hmay := (may_iff (lo, hi)).1 (HI.out.1 _ (List.mem_of_getElem? hlk))
      simp only at hmay
      have HS := Lib.hid (sizeR_take hlk)
      have HX2 : Hid (Below w2.heap.size w2 (wr.alloc (.cells #[.int .u64 (lo : Int), .int .u64 (hi : Int)] 59))) := HX.out.alloc HX.out.size _
      clear hlk hc2
      obtain ⟨s1, hs1⟩ : ∃ s1, s1 = hi - lo := ⟨_, rfl⟩
      obtain ⟨s2, hs2⟩ : ∃ s2, s2 = hi - lo + 1 := ⟨_, rfl⟩
      obtain ⟨s3, hs3⟩ : ∃ s3, s3 = m + (hi - lo + 1) := ⟨_, rfl⟩
      have hw1 : IntKind.u64.wrap ((hi : Int) - (lo : Int)) = (s1 : Int) := by rw [IntKind.wrap_u64]; omega
      have hw2 : IntKind.u64.wrap ((s1 : Int) + 1) = (s2 : Int) := by rw [IntKind.wrap_u64]; omega
      have hw3 : IntKind.u64.wrap ((m : Int) + (s2 : Int)) = (s3 : Int) := by rw [IntKind.wrap_u64]; omega
      have HE : Hid (sizeR (L.take (k + 1)) = s3) := by show _ = _; rw [HS.out, HM.out, hs3]
      clear hs1 hs2 hs3
      go_wp2
      go_roundw
      case rel => exact ⟨k + 1, s3, by omega, by go_num, rfl, HE.out, HX2.out⟩
      case measure => simp [intOf]; omega
    · obtain rfl : k = n := by omega
      have e : Hid (sizeR L = m) := by
        have h := HM.out
        rw [List.take_of_length_le (by rw [HN.out]; exact Nat.le_refl _)] at h
        exact h
      go_wp2
      go_ret
      exact ⟨ret_int (by rw [e.out]), HW.out.trans (HX.out.mono HW.out.size)⟩

theorem pfirst_any (w : World) (A1 : Option Addr) (l1 : List Run) (n1 c1 : Nat) (hl1 : l1.length = n1) (hb1 : Runs w w.heap.size A1 l1) (h1 : n1 ≤ 4398046511104) :
    Calls Try.prog 33 #[.slice A1 n1 c1] w fun e w' => e = .returned (.int .u64 ((firstR (nrm l1) : Nat) : Int)) ∧ Below w.heap.size w w' := by
  have H := Lib.hid (pnorm_any w A1 l1 n1 c1 hl1 hb1 h1)
  have HI := Lib.hid (nrm_spec l1).1
  clear hl1 hb1
  generalize nrm l1 = L at *
  go_enter Try.func33, Try.ntmps33
  go_wp2_with fail
  refine H.out.mono ?_
  clear H
  intro e w2 h2
  obtain ⟨A, n, c, rfl, hn, _, hnc, hc, hr, _, hb⟩ := post_runs h2 (fit_order HI.out)
  have HN := Lib.hid hn
  have HR := Lib.hid hr
  have HW := Lib.hid hb
  clear h2 hn hr hb
  by_cases h0 : n = 0
  · subst h0
    have e : Hid (firstR L = 1) := by show _ = _; rw [List.eq_nil_of_length_eq_zero HN.out]; rfl
    go_wp2
    go_ret
    exact ⟨ret_int (by rw [e.out]; rfl), HW.out⟩
  · have hne : ((n : Int) == 0) = false := by rw [beq_eq_false_iff_ne]; omega
    have hn0 : 0 < n := by omega
    obtain ⟨ad, lo, hi, rfl, hlk, hlo, hhi, hc1, hc2⟩ := HR.out.at_ (k := 0) (by rw [HN.out]; exact hn0)
    have hc3 : w2.cell? ⟨ad.block, ad.off + 1, none⟩ = some (.int .u64 (hi : Int)) := by
      have e : (⟨ad.block, ad.off + 1, none⟩ : Addr) = ad.add (0 * 2 + 1) := by unfold Addr.add; simp
      rw [e]; exact hc2
    have hc4 : w2.cell? ad = some (.int .u64 (lo : Int)) := by simpa [Addr.add] using hc1
    have hmay := (may_iff (lo, hi)).1 (HI.out.1 _ (List.mem_of_getElem? hlk))
    simp only at hmay
    have e : Hid (firstR L = if lo = 1 then hi + 1 else 1) := by
      show _ = _
      cases L with
      | nil => simp at hlk
      | cons r L => obtain rfl : r = (lo, hi) := by simpa using hlk
                    rfl
    clear hlk hc1 hc2
    by_cases hl1 : lo = 1
    · have hb1 : decide ((1 : Int) < (lo : Int)) = false := decide_eq_false (by omega)
      have E : Hid (firstR L = hi + 1) := e.out.trans (if_pos hl1)
      clear e hl1
      go_wp2
      go_ret
      exact ⟨ret_int (by rw [E.out]; go_num), HW.out⟩
    · have hb1 : decide ((1 : Int) < (lo : Int)) = true := decide_eq_true (by omega)
      have E : Hid (firstR L = 1) := e.out.trans (if_neg hl1)
      clear e hl1
      go_wp2
      go_ret
      exact ⟨ret_int (by rw [E.out]; rfl), HW.out⟩

end Go.Proofs.Ytegclhgfibfanaa.Ru

/- The contract of the program's 'Good'. For every list of runs that any machine can hold. -/
namespace Go.Proofs.Ytegclhgfibfanaa.Ru
open Go.ChangeShapes Go.WideShapes Go.ChangeAt Go.RowKit Go.Shelf
set_option linter.unusedVariables false
set_option maxRecDepth 4000

theorem order_one {r : Run} (h : mayR r = true) : InOrder [r] := ⟨fun s hs => by obtain rfl := List.mem_singleton.1 hs; exact h, by simp⟩
theorem order_last {o : List Run} {s r : Run} (h : InOrder (o ++ [s])) (hr : mayR r = true) (hf : s.2 + 1 < r.1) : InOrder (o ++ [s] ++ [r]) := by
  refine order_snoc h hr fun t ht => ?_
  obtain ⟨h1, h2, h3⟩ := order_init h
  rcases List.mem_append.1 ht with ht | ht
  · have := h3 t ht
    have := (may_iff s).1 h2
    omega
  · obtain rfl := List.mem_singleton.1 ht
    exact hf
theorem order_take {l : List Run} (h : InOrder l) (k : Nat) : InOrder (l.take k) := ⟨fun r hr => h.1 r (List.mem_of_mem_take hr), List.Pairwise.sublist (List.take_sublist _ _) h.2⟩
theorem take_snoc {l : List Run} {k : Nat} {r : Run} (h : l[k]? = some r) : l.take (k + 1) = l.take k ++ [r] := by rw [List.take_add_one, h]; rfl
theorem tells_x (w : World) (lo hi : Nat) :
    Calls Try.prog 40 #[.agg #[.int .u64 (lo : Int), .int .u64 (hi : Int)]] w fun e w' => e = .returned (.bool (mayR (lo, hi))) ∧ w' = w.alloc (.cells #[.int .u64 (lo : Int), .int .u64 (hi : Int)] 59) := by
  by_cases c1 : lo = 0
  · subst c1
    have hd : mayR (0, hi) = false := decide_eq_false (fun h => by have := h.1; simp at this)
    rw [hd]
    clear hd
    go_enter Try.func40, Try.ntmps40
    go_wp2
    go_ret
    exact ⟨rfl, rfl⟩
  · have d1 : ((lo : Int) != 0) = true := by rw [bne_iff_ne]; omega
    by_cases c2 : lo ≤ hi
    · have d2 : decide ((lo : Int) ≤ (hi : Int)) = true := decide_eq_true (by omega)
      have hd : mayR (lo, hi) = decide ((hi : Int) ≤ 281474976710655) := decide_eq_decide.2 ⟨fun h => by have := h.2.2; simp at this; omega, fun h => ⟨by simp; omega, c2, by simp; omega⟩⟩
      rw [hd]
      clear hd
      go_enter Try.func40, Try.ntmps40
      go_wp2
      go_ret
      exact ⟨rfl, rfl⟩
    · have hd : mayR (lo, hi) = false := decide_eq_false (fun h => c2 h.2.1)
      have d2 : decide ((lo : Int) ≤ (hi : Int)) = false := decide_eq_false (by omega)
      rw [hd]
      clear hd
      go_enter Try.func40, Try.ntmps40
      go_wp2
      go_ret
      exact ⟨rfl, rfl⟩
theorem tells_g (W : World) (r : Run) (b : Bool) (hb : mayR r = b) :
    Calls Try.prog 40 #[.agg #[.int .u64 (r.1 : Int), .int .u64 (r.2 : Int)]] W fun e w' => e = .returned (.bool b) ∧ ∃ q os', w' = Sort.grow (W.drewN q) os' :=
  (tells_x W r.1 r.2).mono fun _ _ ⟨h1, h2⟩ => ⟨by rw [h1, ← hb], 0, #[.cells #[.int .u64 (r.1 : Int), .int .u64 (r.2 : Int)] 59], h2.trans (Sort.alloc_eq_grow _ _)⟩
theorem apart_g (W : World) (s r : Run) (b : Bool) (h : s.2 ≤ 281474976710656) (hb : decide (s.2 + 1 < r.1) = b) :
    Calls Try.prog 41 #[.agg #[.int .u64 (s.1 : Int), .int .u64 (s.2 : Int)], .agg #[.int .u64 (r.1 : Int), .int .u64 (r.2 : Int)]] W fun e w' => e = .returned (.bool b) ∧ ∃ q os', w' = Sort.grow (W.drewN q) os' := by
  have h1 : IntKind.u64.wrap ((s.2 : Int) + 1) = ((s.2 + 1 : Nat) : Int) := by simp [IntKind.wrap, IntKind.bits, IntKind.signed]; omega
  have hd : decide (((s.2 + 1 : Nat) : Int) < (r.1 : Int)) = b := by rw [← hb]; exact decide_eq_decide.2 (by omega)
  generalize ((s.2 + 1 : Nat) : Int) = z at h1 hd ⊢
  clear hb
  go_enter Try.func41, Try.ntmps41
  go_wp2
  go_ret
  exact ⟨rfl, 0, _, by rw [Sort.alloc_eq_grow, Sort.alloc_eq_grow, Sort.grow_grow]; rfl⟩
theorem tells_later (w W : World) (r : Run) (b : Bool) (hb : mayR r = b) (bel : Below w.heap.size w W) :
    Calls Try.prog 40 #[.agg #[.int .u64 (r.1 : Int), .int .u64 (r.2 : Int)]] W fun e w' => e = .returned (.bool b) ∧ Below w.heap.size w w' :=
  (tells_any W r.1 r.2).mono fun _ _ ⟨h1, h2⟩ => ⟨by rw [h1, ← hb], bel.trans (h2.mono bel.size)⟩
theorem below_grow (V : World) (n : Nat) (os : Array Obj) : Below V.heap.size V (Sort.grow (V.drewN n) os) :=
  ⟨rfl, rfl, rfl, by show V.heap.size ≤ (V.heap ++ os).size; simp, fun i hi => by show (V.heap ++ os)[i]? = V.heap[i]?; exact Array.getElem?_append_left hi⟩

set_option maxHeartbeats 1000000 in
theorem pgood_any (w : World) (A1 : Option Addr) (l : List Run) (n c1 : Nat) (hl : l.length = n) (hb : Runs w w.heap.size A1 l) (h63 : n ≤ 9223372036854775807) :
    Calls Try.prog 30 #[.slice A1 n c1] w fun e w' => e = .returned (.bool (decide (l = nrm l))) ∧ Below w.heap.size w w' := by
  have HL := Lib.hid hl
  have HB := Lib.hid hb
  have HT : Hid (InOrder l → decide (l = nrm l) = true) := fun h => decide_eq_true ((good_comes l).1 h)
  have HF : Hid (¬ InOrder l → decide (l = nrm l) = false) := fun h => decide_eq_false (fun e => h ((good_comes l).2 e))
  clear hl hb
  generalize decide (l = nrm l) = ans at HT HF ⊢
  go_enter Try.func30, Try.ntmps30
  go_wp2
  go_loopw [7] (fun i wr => ∃ k : Nat, k ≤ n ∧ i = .int .i64 (k : Int) ∧ InOrder (l.take k) ∧ Below w.heap.size w wr) (fun i _ => n - (intOf i).toNat)
  case atStart => exact ⟨0, Nat.zero_le _, rfl, order_nil, Below.refl _ _⟩
  case round =>
    obtain ⟨k, hk, rfl, hi, hbl⟩ := hrel
    have HI := Lib.hid hi
    have HW := Lib.hid hbl
    clear hi hbl
    by_cases hlt : k < n
    · obtain ⟨ad, lo, hi, rfl, hlk, hlo, hhi, q1, q2⟩ := (HB.out.below HW.out).at_ (k := k) (by rw [HL.out]; exact hlt)
      have q3 : wr.cell? ⟨(ad.add (k * 2)).block, (ad.add (k * 2)).off + 1, none⟩ = some (.int .u64 (hi : Int)) := by rw [add_next]; exact q2
      have LK := Lib.hid hlk
      have L0 : Hid (Below wr.heap.size wr (wr.alloc (.cells #[.int .u64 (lo : Int), .int .u64 (hi : Int)] 59))) := below_new _ _
      have P0 := Lib.hid (Pair.new wr (lo, hi))
      clear hlk q2
      have HCR : Hid (∀ V, Below (wr.alloc (.cells #[.int .u64 (lo : Int), .int .u64 (hi : Int)] 59)).heap.size (wr.alloc (.cells #[.int .u64 (lo : Int), .int .u64 (hi : Int)] 59)) V → V.cell? ⟨wr.heap.size, 0, none⟩ = some (.int .u64 (lo : Int)) ∧ V.cell? ⟨wr.heap.size, 1, none⟩ = some (.int .u64 (hi : Int))) := fun V hV => ⟨(P0.out.below hV).cell1, (P0.out.below hV).cell2⟩
      have HWV : Hid (∀ V, Below (wr.alloc (.cells #[.int .u64 (lo : Int), .int .u64 (hi : Int)] 59)).heap.size (wr.alloc (.cells #[.int .u64 (lo : Int), .int .u64 (hi : Int)] 59)) V → Below w.heap.size w V) := fun V hV => HW.out.trans ((L0.out.trans (hV.mono L0.out.size)).mono HW.out.size)
      have HNO : Hid (¬ InOrder (l.take (k + 1)) → ans = false) := fun h => HF.out (fun h2 => h (order_take h2 _))
      clear P0
      rcases k with _ | z
      · have q4 : wr.cell? ad = some (.int .u64 (lo : Int)) := by simpa [Addr.add] using q1
        have q5 : wr.cell? ⟨ad.block, ad.off + 1, none⟩ = some (.int .u64 (hi : Int)) := by simpa [Addr.add] using q3
        clear q1 q3
        obtain ⟨b, hb⟩ : ∃ b, mayR (lo, hi) = b := ⟨_, rfl⟩
        go_wp2_with fail
        clear q4 q5
        generalize wr.alloc (.cells #[.int .u64 (lo : Int), .int .u64 (hi : Int)] 59) = V0 at HCR HWV L0 ⊢
        have hmx : Try.prog.follows .mixedOrders = true := by kernel_rfl
        have g3 : ∀ n os, (Sort.grow (V0.drewN n) os).cell? ⟨wr.heap.size, 0, none⟩ = some (.int .u64 (lo : Int)) := fun n os => (HCR.out _ (below_grow V0 n os)).1
        have g4 : ∀ n os, (Sort.grow (V0.drewN n) os).cell? ⟨wr.heap.size, 1, none⟩ = some (.int .u64 (hi : Int)) := fun n os => (HCR.out _ (below_grow V0 n os)).2
        have ct := fun W => tells_g W (lo, hi) b hb
        clear HCR L0
        cases b with
        | true =>
          have HR : Hid (InOrder (l.take (0 + 1))) := by
            show InOrder _
            rw [take_snoc LK.out]
            exact order_one hb
          refine wp_region_quiet_grown hmx (by kernel_rfl) ?_
          repeat (
            (with_reducible refine wpQuiet_step (fun K hK => ?_))
            go_simp
            first
              | ((with_reducible refine hK _ ?_); clear hK K)
              | ((rw [if_neg (fun h => by cases h)]); (with_reducible refine hK _ ?_); clear hK K)
              | (apply Exists.intro; refine ⟨fun _ => ?_, hK _ ?_⟩; (go_at_call 40; refine Calls.grown_of (ct _)); clear hK K))
          with_reducible refine wpQuiet_nil ?_
          intro _ hw'
          obtain ⟨⟨nq, osq⟩, hw''⟩ := hw'
          subst hw''
          have HWV2 := Lib.hid (HWV.out _ (below_grow V0 nq osq))
          generalize Sort.grow (V0.drewN nq) osq = V at HWV2 ⊢
          go_wp2
          go_roundw
          case rel => exact ⟨1, by omega, by go_num, HR.out, HWV2.out⟩
          case measure => simp [intOf]; omega
        | false =>
          have HA : Hid (ans = false) := HNO.out (fun h => by
            have := h.1 (lo, hi) (by rw [take_snoc LK.out]; simp)
            rw [hb] at this; cases this)
          refine wp_region_quiet_grown hmx (by kernel_rfl) ?_
          repeat (
            (with_reducible refine wpQuiet_step (fun K hK => ?_))
            go_simp
            first
              | ((with_reducible refine hK _ ?_); clear hK K)
              | ((rw [if_neg (fun h => by cases h)]); (with_reducible refine hK _ ?_); clear hK K)
              | (apply Exists.intro; refine ⟨fun _ => ?_, hK _ ?_⟩; (go_at_call 40; refine Calls.grown_of (ct _)); clear hK K))
          with_reducible refine wpQuiet_nil ?_
          intro _ hw'
          obtain ⟨⟨nq, osq⟩, hw''⟩ := hw'
          subst hw''
          have HWV2 := Lib.hid (HWV.out _ (below_grow V0 nq osq))
          generalize Sort.grow (V0.drewN nq) osq = V at HWV2 ⊢
          go_wp2
          go_ret
          exact ⟨ret_bool HA.out.symm, HWV2.out⟩
      · obtain ⟨b, hb⟩ : ∃ b, mayR (lo, hi) = b := ⟨_, rfl⟩
        have hzn : z < n := by omega
        obtain ⟨ad2, slo, shi, e, hlz, hslo, hshi, s1, s2⟩ := (HB.out.below HW.out).at_ (k := z) (by rw [HL.out]; exact hzn)
        cases e
        have s3 : wr.cell? ⟨(ad.add (z * 2)).block, (ad.add (z * 2)).off + 1, none⟩ = some (.int .u64 (shi : Int)) := by rw [add_next]; exact s2
        have SK := Lib.hid hlz
        have hs2 : shi ≤ 281474976710656 := by
          have := (may_iff (slo, shi)).1 (HI.out.1 (slo, shi) (by rw [take_snoc hlz]; simp))
          have h2 : shi ≤ 281474976710655 := this.2.2
          omega
        have S1 : Hid ((wr.alloc (.cells #[.int .u64 (lo : Int), .int .u64 (hi : Int)] 59)).cell? (ad.add (z * 2)) = some (.int .u64 (slo : Int)) ∧ (wr.alloc (.cells #[.int .u64 (lo : Int), .int .u64 (hi : Int)] 59)).cell? ⟨(ad.add (z * 2)).block, (ad.add (z * 2)).off + 1, none⟩ = some (.int .u64 (shi : Int))) := ⟨(L0.out.cell (World.block_lt_of_cell? wr _ s1)).trans s1, (L0.out.cell (World.block_lt_of_cell? wr _ s3)).trans s3⟩
        have SB : Hid ((ad.add (z * 2)).block < (wr.alloc (.cells #[.int .u64 (lo : Int), .int .u64 (hi : Int)] 59)).heap.size) := Nat.lt_of_lt_of_le (World.block_lt_of_cell? wr _ s1) L0.out.size
        clear hlz s1 s2 s3
        go_wp2_with fail
        clear q1 q3
        generalize wr.alloc (.cells #[.int .u64 (lo : Int), .int .u64 (hi : Int)] 59) = V0 at HCR HWV L0 S1 SB ⊢
        have hmx : Try.prog.follows .mixedOrders = true := by kernel_rfl
        have g1 : ∀ n os, (Sort.grow (V0.drewN n) os).cell? (ad.add (z * 2)) = some (.int .u64 (slo : Int)) := fun n os => ((below_grow V0 n os).cell SB.out).trans S1.out.1
        have g2 : ∀ n os, (Sort.grow (V0.drewN n) os).cell? ⟨(ad.add (z * 2)).block, (ad.add (z * 2)).off + 1, none⟩ = some (.int .u64 (shi : Int)) := fun n os => ((below_grow V0 n os).cell (p := ⟨(ad.add (z * 2)).block, (ad.add (z * 2)).off + 1, none⟩) SB.out).trans S1.out.2
        have g3 : ∀ n os, (Sort.grow (V0.drewN n) os).cell? ⟨wr.heap.size, 0, none⟩ = some (.int .u64 (lo : Int)) := fun n os => (HCR.out _ (below_grow V0 n os)).1
        have g4 : ∀ n os, (Sort.grow (V0.drewN n) os).cell? ⟨wr.heap.size, 1, none⟩ = some (.int .u64 (hi : Int)) := fun n os => (HCR.out _ (below_grow V0 n os)).2
        have ct := fun W => tells_g W (lo, hi) b hb
        clear HCR L0 S1 SB
        have hp : (0 : Int) < ((z : Nat) : Int) + 1 := by omega
        have hp2 : decide ((0 : Int) < ((z : Nat) : Int) + 1) = true := decide_eq_true (by omega)
        have hw1 : IntKind.i64.wrap (((z : Nat) : Int) + 1 - 1) = (z : Int) := by simp [IntKind.wrap, IntKind.bits, IntKind.signed]; omega
        have hw2 : IntKind.i64.wrap ((z : Nat) : Int) = (z : Int) := by simp [IntKind.wrap, IntKind.bits, IntKind.signed]; omega
        have hz0 : (0 : Int) ≤ (z : Int) := by omega
        have hz1 : (z : Int) < (n : Int) := by omega
        cases b with
        | true =>
          obtain ⟨b2, hb2⟩ : ∃ b2, decide (shi + 1 < lo) = b2 := ⟨_, rfl⟩
          have ca := fun W => apart_g W (slo, shi) (lo, hi) b2 hs2 hb2
          cases b2 with
          | true =>
            have HR : Hid (InOrder (l.take (z + 1 + 1))) := by
              show InOrder _
              have h1 := HI.out
              rw [take_snoc LK.out]
              rw [take_snoc SK.out] at h1 ⊢
              exact order_last h1 hb (of_decide_eq_true hb2)
            refine wp_region_quiet_grown hmx (by kernel_rfl) ?_
            repeat (
              (with_reducible refine wpQuiet_step (fun K hK => ?_))
              go_simp
              first
                | ((with_reducible refine hK _ ?_); clear hK K)
                | ((rw [if_neg (fun h => by cases h)]); (with_reducible refine hK _ ?_); clear hK K)
                | (apply Exists.intro; refine ⟨fun _ => ?_, hK _ ?_⟩; (first | (go_at_call 40; refine Calls.grown_of (ct _)) | (go_at_call 41; refine Calls.grown_of (ca _))); clear hK K))
            with_reducible refine wpQuiet_nil ?_
            intro _ hw'
            obtain ⟨⟨nq, osq⟩, hw''⟩ := hw'
            subst hw''
            have HWV2 := Lib.hid (HWV.out _ (below_grow V0 nq osq))
            generalize Sort.grow (V0.drewN nq) osq = V at HWV2 ⊢
            go_wp2
            go_roundw
            case rel => exact ⟨z + 1 + 1, by omega, by go_num, HR.out, HWV2.out⟩
            case measure => simp [intOf]; omega
          | false =>
            have HA : Hid (ans = false) := HNO.out (fun h => by
              rw [take_snoc LK.out, take_snoc SK.out] at h
              have := (order_init h).2.2 (slo, shi) (by simp)
              exact of_decide_eq_false hb2 this)
            refine wp_region_quiet_grown hmx (by kernel_rfl) ?_
            repeat (
              (with_reducible refine wpQuiet_step (fun K hK => ?_))
              go_simp
              first
                | ((with_reducible refine hK _ ?_); clear hK K)
                | ((rw [if_neg (fun h => by cases h)]); (with_reducible refine hK _ ?_); clear hK K)
                | (apply Exists.intro; refine ⟨fun _ => ?_, hK _ ?_⟩; (first | (go_at_call 40; refine Calls.grown_of (ct _)) | (go_at_call 41; refine Calls.grown_of (ca _))); clear hK K))
            with_reducible refine wpQuiet_nil ?_
            intro _ hw'
            obtain ⟨⟨nq, osq⟩, hw''⟩ := hw'
            subst hw''
            have HWV2 := Lib.hid (HWV.out _ (below_grow V0 nq osq))
            generalize Sort.grow (V0.drewN nq) osq = V at HWV2 ⊢
            go_wp2
            go_ret
            exact ⟨ret_bool HA.out.symm, HWV2.out⟩
        | false =>
          have HA : Hid (ans = false) := HNO.out (fun h => by
            have := h.1 (lo, hi) (by rw [take_snoc LK.out]; simp)
            rw [hb] at this; cases this)
          refine wp_region_quiet_grown hmx (by kernel_rfl) ?_
          repeat (
            (with_reducible refine wpQuiet_step (fun K hK => ?_))
            go_simp
            first
              | ((with_reducible refine hK _ ?_); clear hK K)
              | ((rw [if_neg (fun h => by cases h)]); (with_reducible refine hK _ ?_); clear hK K)
              | (apply Exists.intro; refine ⟨fun _ => ?_, hK _ ?_⟩; (go_at_call 40; refine Calls.grown_of (ct _)); clear hK K))
          with_reducible refine wpQuiet_nil ?_
          intro _ hw'
          obtain ⟨⟨nq, osq⟩, hw''⟩ := hw'
          subst hw''
          have HWV2 := Lib.hid (HWV.out _ (below_grow V0 nq osq))
          generalize Sort.grow (V0.drewN nq) osq = V at HWV2 ⊢
          go_wp2
          go_ret
          exact ⟨ret_bool HA.out.symm, HWV2.out⟩
    · obtain rfl : k = n := by omega
      have e : Hid (ans = true) := HT.out (by have := HI.out; rwa [List.take_of_length_le (by rw [HL.out]; exact Nat.le_refl _)] at this)
      go_wp2
      go_ret
      exact ⟨ret_bool e.out.symm, HW.out⟩
end Go.Proofs.Ytegclhgfibfanaa.Ru
