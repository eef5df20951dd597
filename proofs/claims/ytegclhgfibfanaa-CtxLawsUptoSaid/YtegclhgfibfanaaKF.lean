/- Layer dot, the program's side: slices.SortFunc at dots, and Sort. -/
import Derived.Test.YtegclhgfibfanaaMPDShelf
import Derived.Test.YtegclhgfibfanaaKE

/- The contract of slices.SortFunc as dot.Sort calls it: the same dots, in their order. Condition: fewer than 2^62 dots. -/
namespace Go.Proofs.Ytegclhgfibfanaa.Dt
open Go.ChangeShapes Go.WideShapes Go.ChangeAt Go.RowKit Go.Shelf
set_option linter.unusedVariables false
set_option maxRecDepth 4000

/-- a dot's two cells. -/
def encC (r : Dot) : List Value := [.int .u16 (r.1 : Int), .int .u64 (r.2 : Int)]
theorem two_grow (W : World) (x y : Dot) : two W x y = Sort.grow W (#[Obj.cells #[.int .u16 (x.1 : Int), .int .u64 (x.2 : Int)] 27] ++ #[Obj.cells #[.int .u16 (y.1 : Int), .int .u64 (y.2 : Int)] 27]) := by
  unfold two
  rw [Sort.alloc_eq_grow, Sort.alloc_eq_grow, Sort.grow_grow]
theorem closure_any (x y : Dot) (W : World) : Calls Try.prog 72 #[.agg #[.int .u16 (x.1 : Int), .int .u64 (x.2 : Int)], .agg #[.int .u16 (y.1 : Int), .int .u64 (y.2 : Int)]] W fun e w' => e = .returned (.int .i64 (cmpD x y)) ∧ ∃ q os', w' = Sort.grow (W.drewN q) os' :=
  (pcmp_left W x y).mono fun _ _ ⟨h1, h2⟩ => ⟨h1, by
    rcases h2 with rfl | rfl
    · exact ⟨0, _, by rw [World.drewN_zero, two_grow]⟩
    · exact ⟨0, _, by rw [World.drewN_zero, two_grow (two W x y), two_grow W, Sort.grow_grow]⟩⟩
theorem ltD (x y : Dot) : ltOf cmpD x y = aheadD x y := cmp_neg x y
theorem swoD : Sort.SWO (ltOf cmpD) where
  irrefl x := by rw [ltD]; exact ahead_irr x
  trans x y z h1 h2 := by rw [ltD] at *; exact ahead_trans h1 h2
  ntrans x y z h1 h2 := by
    rw [ltD] at *
    have a1 : ¬ (x.1 < y.1 ∨ (x.1 = y.1 ∧ x.2 < y.2)) := fun h => by rw [(ahead_iff _ _).2 h] at h1; exact absurd h1 (by simp)
    have a2 : ¬ (y.1 < z.1 ∨ (y.1 = z.1 ∧ y.2 < z.2)) := fun h => by rw [(ahead_iff _ _).2 h] at h2; exact absurd h2 (by simp)
    cases h : aheadD x z with
    | false => rfl
    | true =>
      have := (ahead_iff _ _).1 h
      omega
/-- none stands behind one that it is ahead of. -/
def Ris (l : List Dot) : Prop := l.Pairwise (fun a b => aheadD b a = false)

theorem flat_dv (l : List Dot) (j : Nat) (hj : j < l.length * 2) : (dv l)[j]? = some (Sort.flatK encC 2 l.toArray)[j]! := by
  rw [Sort.get_flatK _ _ _ _ (by simpa using hj)]
  have hk : j / 2 < l.length := by omega
  have hg : l[j / 2]? = some l[j / 2] := List.getElem?_eq_getElem hk
  obtain ⟨g1, g2⟩ := dv_get hg
  have e : l.toArray[j / 2]! = l[j / 2] := by rw [getElem!_pos _ _ (by simpa using hk)]; simp
  rw [e]
  rcases Nat.mod_two_eq_zero_or_one j with h | h
  · rw [h]
    have : j / 2 * 2 = j := by omega
    rw [this] at g1
    simpa [encC] using g1
  · rw [h]
    have : j / 2 * 2 + 1 = j := by omega
    rw [this] at g2
    simpa [encC] using g2

theorem sort_any (w : World) (B g cap n : Nat) (d : List Dot) (hn : d.length = n) (h62 : n < 4611686018427387904) (h : w.ownsRow B 27 2 (.slice (some ⟨g, 0, none⟩) n cap) n (dv d)) :
    Calls Try.prog 71 #[.slice (some ⟨g, 0, none⟩) n cap, .func (.func 72) #[] #[]] w fun e w' => e = .returned (.tuple #[]) ∧ ∃ m : List Dot, m.Perm d ∧ Ris m ∧ w'.ownsRow B 27 2 (.slice (some ⟨g, 0, none⟩) n cap) n (dv m) ∧ w.grownBy w' (some g) := by
  subst hn
  obtain ⟨hlen, ⟨hz, _⟩ | ⟨g', cap', cur, e, hB, hheap, hle, hmx, hsz, htk⟩⟩ := h
  · cases hz
  · cases e
    have hlt : g < w.heap.size := (Array.getElem?_eq_some_iff.1 hheap).1
    have hcell : ∀ j, j < d.length * 2 → cur[j]? = (dv d)[j]? := fun j hj => by
      rw [← htk, List.getElem?_take, if_pos hj]
      simp
    have hH : Sort.HoldsK encC 2 w g 0 d.toArray := fun j hj => by
      have hj' : j < d.length * 2 := by simpa using hj
      refine ⟨?_, by simp [World.frozen?, hheap]⟩
      rw [Nat.zero_add, show id (Sort.flatK encC 2 d.toArray)[j]! = (Sort.flatK encC 2 d.toArray)[j]! from rfl, ← flat_dv d j hj', ← hcell j hj']
      simp [World.cell?, hheap]
    have eg : ∀ args w, (callFunc 72 args).run Try.prog w = .ok (.enter 72 args) w := enters_of Try.func72 (by kernel_rfl) rfl
    have hcon := AnyQ.slices_SortFunc Try.sortD 2 Try.isAgg27 Try.sizeOf27 encC (fun _ => rfl) (fun x v hv => by simp [encC] at hv; rcases hv with rfl | rfl <;> rfl) cmpD swoD 72 #[] g 0 cap d.toArray w eg (fun m os dk _ x y => closure_any x y _) hH hlt (by simpa using h62)
    change Calls Try.prog 71 _ _ _ at hcon
    rw [List.size_toArray] at hcon
    refine hcon.mono ?_
    rintro e w' ⟨rfl, d', q, os, hp, hs, rfl⟩
    have h1 : d'.size = d.length := by simpa using hp.1
    refine ⟨rfl, d'.toList, ?_, ?_, ?_, ?_⟩
    · have h3 := hp.2.2
      have e1 : d'.extract 0 d.length = d' := by rw [← h1]; simp
      have e2 : d.toArray.extract 0 d.length = d.toArray := by simp
      rw [e1, e2] at h3
      exact h3
    · refine List.pairwise_iff_getElem.2 fun i j hi hj hij => ?_
      rw [Array.length_toList] at hi hj
      have := hs i j (Nat.zero_le _) hij (by omega)
      rw [ltD, getElem!_pos d' j hj, getElem!_pos d' i hi] at this
      simpa using this
    · refine ⟨by rw [dv_length, Array.length_toList, h1], .inr ⟨g, cap, Sort.putCells id 0 (Sort.flatK encC 2 d') cur, rfl, hB, ?_, hle, hmx, by simp [Sort.putCells, hsz], ?_⟩⟩
      · show ((w.heap.modify g (Sort.onCells (Sort.putCells id 0 (Sort.flatK encC 2 d')))) ++ os)[g]? = _
        rw [Array.getElem?_append_left (by simpa using hlt), Array.getElem?_modify, if_pos rfl, hheap]
        rfl
      · apply List.ext_getElem?
        intro j
        rw [List.getElem?_take]
        by_cases hj : j < d.length * 2
        · rw [if_pos hj]
          have hf := flat_dv d'.toList j (by rw [Array.length_toList, h1]; exact hj)
          rw [Array.toArray_toList] at hf
          rw [hf]
          have hc : cur[j]? = some cur[j] := Array.getElem?_eq_getElem (by omega)
          simp [Sort.putCells, hc, h1, hj]
        · rw [if_neg hj]
          exact (List.getElem?_eq_none (by rw [dv_length, Array.length_toList, h1]; omega)).symm
    · refine ⟨rfl, rfl, rfl, ?_, fun k hk hne => ?_⟩
      · show w.heap.size ≤ ((w.heap.modify g _) ++ os).size
        simp
      · show ((w.heap.modify g _) ++ os)[k]? = _
        rw [Array.getElem?_append_left (by simpa using hk), Array.getElem?_modify, if_neg (fun e => hne (by rw [e]))]
theorem ins_nil (w : World) (fv : Value) : Calls Try.prog 93 #[.slice none 0 0, .int .i64 0, .int .i64 0, fv] w fun e w' => e = .returned (.tuple #[]) ∧ w' = w := by
  go_enter Try.func93, Try.ntmps93
  go_wp2
  refine wp_loop_rounds 1 ?_
  rw [rounds_succ]
  go_wp2
  go_end0
  exact ⟨rfl, rfl⟩
theorem pdq_nil (w : World) (lim : Int) (fv : Value) : Calls Try.prog 87 #[.slice none 0 0, .int .i64 0, .int .i64 0, .int .i64 lim, fv] w fun e w' => e = .returned (.tuple #[]) ∧ w' = w := by
  have hi := fun W => ins_nil W fv
  go_enter Try.func87, Try.ntmps87
  go_wp2
  refine wp_loop_rounds 1 ?_
  rw [rounds_succ]
  go_wp2_with (go_at_call 93; refine (hi _).mono ?_; rintro e w' ⟨rfl, rfl⟩)
  (try simp only [Exit.inBlock, Exit.then]); refine bodyPost_ret (results_none rfl _ _ _) rfl ?_
  exact ⟨rfl, rfl⟩
theorem len_nil (w : World) : Calls Try.prog 54 #[.int .u64 0] w fun e w' => e = .returned (.int .i64 (Lib.bitLen 0 : Nat)) ∧ w' = w := by
  have h := Any.bits_Len (SlLaysF0.n15.bits (P := Try.prog) (ρ := Try.sortD_ren) { Try.sortD with }) 0 w (by omega) (by omega)
  change Calls Try.prog 54 _ _ _ at h
  exact h
theorem sort_nil (w : World) : Calls Try.prog 71 #[.slice none 0 0, .func (.func 72) #[] #[]] w fun e w' => e = .returned (.tuple #[]) ∧ w' = w := by
  have hl := fun W => len_nil W
  have hp := fun lim W => pdq_nil W lim (.func (.func 72) #[] #[])
  go_enter Try.func71, Try.ntmps71
  go_wp2_with (first | (go_at_call 54; refine (hl _).mono ?_; rintro e w' ⟨rfl, rfl⟩) | (go_at_call 87; refine (hp _ _).mono ?_; rintro e w' ⟨rfl, rfl⟩))
  go_end0
  exact ⟨rfl, rfl⟩
end Go.Proofs.Ytegclhgfibfanaa.Dt

/- The contract of the program's Sort of layer dot. For every list of at most 2^42 dots. -/
namespace Go.Proofs.Ytegclhgfibfanaa.Dt
open Go.ChangeShapes Go.WideShapes Go.ChangeAt Go.RowKit Go.Lib
set_option linter.unusedVariables false

/-- dots in order, each once: what Compact leaves of sorted ones. -/
theorem ris_at {d : Array Dot} (h : Ris d.toList) {i j : Nat} (hij : i ≤ j) (hj : j < d.size) : aheadD d[j]! d[i]! = false := by
  rcases Nat.eq_or_lt_of_le hij with rfl | hlt
  · exact ahead_irr _
  · have h1 := List.pairwise_iff_getElem.1 h i j (by simpa using Nat.lt_trans hlt hj) (by simpa using hj) hlt
    rw [getElem!_pos d j hj, getElem!_pos d i (Nat.lt_trans hlt hj)]
    simpa using h1
theorem comp_ord {d : Array Dot} (h : Ris d.toList) (m : Nat) (hm : m ≤ d.size) : Ord (compactUpTo d m) ∧ ∀ x, x ∈ compactUpTo d m ↔ ∃ j, j < m ∧ d[j]! = x := by
  induction m with
  | zero => exact ⟨List.Pairwise.nil, fun x => ⟨fun hx => absurd hx (by simp [compactUpTo]), fun ⟨j, hj, _⟩ => absurd hj (Nat.not_lt_zero _)⟩⟩
  | succ m ih =>
    obtain ⟨h1, h3⟩ := ih (by omega)
    rw [compactUpTo_succ]
    cases hk : keeps d m with
    | false =>
      simp only [Bool.false_eq_true, if_false, List.append_nil]
      refine ⟨h1, fun x => ?_⟩
      rw [h3]
      have hk2 : ¬ (m = 0 ∨ d[m]! ≠ d[m - 1]!) := of_decide_eq_false hk
      constructor
      · rintro ⟨j, hj, e⟩
        exact ⟨j, by omega, e⟩
      · rintro ⟨j, hj, e⟩
        by_cases e2 : j = m
        · subst e2
          have h4 : d[j]! = d[j - 1]! := Classical.byContradiction fun h5 => hk2 (.inr h5)
          exact ⟨j - 1, by omega, by rw [← h4]; exact e⟩
        · exact ⟨j, by omega, e⟩
    | true =>
      simp only [if_true]
      have hk2 : m = 0 ∨ d[m]! ≠ d[m - 1]! := of_decide_eq_true hk
      have hlt : ∀ x ∈ compactUpTo d m, aheadD x d[m]! = true := by
        intro x hx
        obtain ⟨j, hj, rfl⟩ := (h3 x).1 hx
        have h4 := ris_at h (i := j) (j := m - 1) (by omega) (by omega)
        have h5 := ris_at h (i := m - 1) (j := m) (by omega) (by omega)
        have h6 : aheadD d[m - 1]! d[m]! = true := ahead_all h5 (hk2.resolve_left (by omega))
        by_cases e : d[j]! = d[m - 1]!
        · rw [e]; exact h6
        · exact ahead_trans (ahead_all h4 (fun e2 => e e2.symm)) h6
      refine ⟨List.pairwise_append.2 ⟨h1, List.pairwise_singleton _ _, fun a ha b hb => ?_⟩, fun x => ?_⟩
      · rw [List.mem_singleton] at hb
        rw [hb]
        exact hlt a ha
      · rw [List.mem_append, h3, List.mem_singleton]
        constructor
        · rintro (⟨j, hj, e⟩ | e)
          · exact ⟨j, by omega, e⟩
          · exact ⟨m, by omega, e.symm⟩
        · rintro ⟨j, hj, e⟩
          by_cases e2 : j = m
          · subst e2; exact .inr e.symm
          · exact .inl ⟨j, by omega, e⟩
theorem comp_sort {l m : List Dot} (hp : m.Perm l) (hr : Ris m) : compactUpTo m.toArray m.length = sortD l := by
  obtain ⟨h1, h3⟩ := comp_ord (d := m.toArray) (by simpa using hr) m.length (by simp)
  refine sort_uniq h1 (fun x => ?_)
  rw [h3, ← hp.mem_iff]
  constructor
  · rintro ⟨j, hj, rfl⟩
    rw [getElem!_pos _ _ (by simpa using hj)]
    simp
  · intro hx
    obtain ⟨j, hj, rfl⟩ := List.getElem_of_mem hx
    exact ⟨j, hj, by rw [getElem!_pos _ _ (by simpa using hj)]; simp⟩

set_option maxHeartbeats 1000000 in
set_option maxRecDepth 100000 in
theorem pclone_any (w : World) (A : Option Addr) (l : List Dot) (n c : Nat) (hl : l.length = n) (hA : A = none → n = 0 ∧ c = 0) (hb : Dots w w.heap.size A l) (h42 : n ≤ 4398046511104) :
    Calls Try.prog 70 #[.slice A n c] w (DotPost w l) := by
  have HL := Lib.hid hl
  have HB := Lib.hid hb
  cases A with
  | none =>
    obtain ⟨rfl, rfl⟩ := hA rfl
    obtain rfl := List.eq_nil_of_length_eq_zero hl
    have q : ∀ W : World, (binOp .eql 35 (.slice none 0 0) (.slice none 0 0)).run Try.prog W = .ok (.bool true) W := fun W => Lib.run_eql_slice_nil W 35 27 none 0 0 0 0 Try.underlying35
    clear hA hl hb
    go_enter Try.func70, Try.ntmps70
    go_wp2
    go_ret
    exact ⟨none, 0, 0, rfl, rfl, World.ownsRow_nil _ _ _ _, Below.refl _ _⟩
  | some ad =>
    have q : ∀ W : World, (binOp .eql 35 (.slice (some ad) n c) (.slice none 0 0)).run Try.prog W = .ok (.bool false) W := fun W => Lib.run_eql_slice_nil W 35 27 (some ad) n c 0 0 Try.underlying35
    have HW := Lib.hid (below_new w (.cells #[] 27))
    have hO : (w.alloc (.cells #[] 27)).ownsRow w.heap.size 27 2 (.slice (some ⟨w.heap.size, 0, none⟩) 0 0) 0 (dv []) := World.ownsRow_lit w #[] 0 (Nat.le_refl _) (Nat.zero_le _) rfl
    have HO := Lib.hid hO
    have HB2 : Hid (Lies (w.alloc (.cells #[] 27)) (w.alloc (.cells #[] 27)).heap.size (some ad) (dv l)) := (hb.up HW.out).2
    clear hA hl hb hO
    go_enter Try.func70, Try.ntmps70
    go_wp2_with (at_builtin; refine wpList_any rfl (.tmp 5) (.tmp 6) rfl rfl _ w.heap.size 0 (.slice (some ⟨w.heap.size, 0, none⟩) 0 0) [] (some ad) l n c rfl rfl HO.out (fun h => by cases h) HB2.out HL.out (by omega) HW.out.size ?_; intro A3 c3 V3 ho3 hg3; have HO3 := Lib.hid ho3; have HW3 := Lib.hid (any_grown HO.out HW.out hg3); clear ho3 hg3)
    go_ret
    have h0 : 0 + n = n := Nat.zero_add n
    have ho := HO3.out
    rw [h0] at ho
    exact ⟨A3, n, c3, by rw [← h0]; rfl, HL.out, ho, HW3.out⟩

theorem compact_nil (w : World) : Calls Try.prog 73 #[.slice none 0 0] w fun e w' => e = .returned (.slice none 0 0) ∧ w' = w := by
  go_enter Try.func73, Try.ntmps73
  go_wp2
  go_ret
  exact ⟨rfl, rfl⟩
theorem fit_perm {m l : List Dot} (h : m.Perm l) (hf : Fit l) : Fit m := fun r hr => hf r (h.mem_iff.1 hr)
set_option maxHeartbeats 1000000 in
theorem psort_any (w : World) (A : Option Addr) (l : List Dot) (n c : Nat) (hl : l.length = n) (hA : A = none → n = 0 ∧ c = 0) (hb : Dots w w.heap.size A l) (h42 : n ≤ 4398046511104) :
    Calls Try.prog 56 #[.slice A n c] w (DotPost w (sortD l)) := by
  have CC := pclone_any w A l n c hl hA hb h42
  have HF := Lib.hid hb.1
  have HL := Lib.hid hl
  clear hl hA hb
  go_enter Try.func56, Try.ntmps56
  go_wp2_with fail
  refine CC.mono ?_
  rintro e w1 ⟨A1, n1, c1, rfl, hn1, ho1, hb1⟩
  obtain rfl : n = n1 := by rw [← HL.out]; exact hn1
  have HB1 := Lib.hid hb1
  clear CC hb1
  rcases ho1.2 with ⟨h0, h1⟩ | ⟨g, cap, cur, h0, hg, _⟩
  · cases h0
    obtain rfl := List.eq_nil_of_length_eq_zero HL.out
    have hs := fun W => sort_nil W
    have hc := fun W => compact_nil W
    clear ho1 hn1 h1
    go_wp2_with fail
    refine (hs _).mono ?_
    rintro e w2 ⟨rfl, rfl⟩
    go_wp2_with fail
    refine (hc _).mono ?_
    rintro e w3 ⟨rfl, rfl⟩
    go_wp2
    go_ret
    exact ⟨none, 0, 0, rfl, rfl, World.ownsRow_nil _ _ _ _, HB1.out⟩
  · cases h0
    have CS := sort_any w1 w.heap.size g c1 n l HL.out (by omega) ho1
    have HG := Lib.hid hg
    clear ho1 hn1
    go_wp2_with fail
    refine CS.mono ?_
    rintro e w2 ⟨rfl, m, hp, hr, ho2, hg2⟩
    have hm : m.length = n := by rw [hp.length_eq]; exact HL.out
    have CK := pcompact_any w2 w.heap.size g c1 n m hm (by omega) ho2
    have hcs := comp_sort hp hr
    rw [hm] at hcs
    rw [hcs] at CK
    have HB2 : Hid (Below w.heap.size w w2) := HB1.out.grown hg2 HB1.out.size (fun k hk => by cases hk; exact HG.out)
    clear CS hp hr ho2 hg2 hm hcs
    go_wp2_with fail
    refine CK.mono ?_
    rintro e w3 ⟨k, rfl, hk, ho3, hg3⟩
    have HB3 : Hid (Below w.heap.size w w3) := HB2.out.grown hg3 HB2.out.size (fun k hk => by cases hk; exact HG.out)
    have HK := Lib.hid hk
    have HO3 := Lib.hid ho3
    clear hk ho3 hg3
    go_wp2
    go_ret
    exact ⟨_, k, c1, rfl, HK.out.symm, HO3.out, HB3.out⟩
end Go.Proofs.Ytegclhgfibfanaa.Dt
