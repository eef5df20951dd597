/- Words and contracts that the proofs of this seat stand on, part 13 of 14. -/
import Derived.Shelf.SlSortCmp.WholeK
import Derived.Test.YtblgbbpbhcaodaaGreatProg
import Derived.Test.YtblgbbpbhcaodaaGreatMgL
import Derived.Test.YtblgbbpbhcaodaaGreatMgE
import Derived.Test.YtblgbbpbhcaodaaGreatMgJ
import Derived.Test.YtblgbbpbhcaodaaGreatMgH
import Derived.Test.YtblgbbpbhcaodaaGreatMgC

/- The laying of slices.SortFunc at dots: which functions and types of this program stand for those of the library's contract. -/
namespace Go.Proofs
open Go.Shelf
def Tryz.sortD_ren : Go.Shelf.Ren := ⟨fun | 6 => 84 | 15 => 89 | 14 => 88 | 28 => 98 | 29 => 99 | 20 => 90 | 21 => 91 | 22 => 92 | 23 => 93 | 24 => 94 | 25 => 95 | 26 => 96 | 27 => 97 | 46 => 100 | 47 => 101 | 48 => 102 | 49 => 103 | 50 => 104 | 57 => 105 | n => n, fun | 22 => 40 | 24 => 39 | 25 => 61 | 3 => 3 | 39 => 105 | 0 => 0 | 53 => 122 | 55 => 37 | 4 => 4 | 46 => 115 | 45 => 114 | 50 => 119 | 5 => 5 | 9 => 9 | 66 => 123 | 70 => 125 | 76 => 127 | 77 => 128 | n => n, fun | n => n⟩
theorem Tryz.sortD : Go.Proofs.SlLaysF0.n6 Tryz.prog Tryz.sortD_ren := {
  mixed := by kernel_rfl
  f6 := ⟨Tryz.f84.name, by decide, Tryz.func84.trans (congrArg some (by kernel_rfl))⟩
  f14 := ⟨Tryz.f88.name, by decide, Tryz.func88.trans (congrArg some (by kernel_rfl))⟩
  f15 := Tryz.func89.trans (congrArg some (by kernel_rfl))
  f20 := ⟨Tryz.f90.name, by decide, Tryz.func90.trans (congrArg some (by kernel_rfl))⟩
  f21 := ⟨Tryz.f91.name, by decide, Tryz.func91.trans (congrArg some (by kernel_rfl))⟩
  f22 := ⟨Tryz.f92.name, by decide, Tryz.func92.trans (congrArg some (by kernel_rfl))⟩
  f23 := ⟨Tryz.f93.name, by decide, Tryz.func93.trans (congrArg some (by kernel_rfl))⟩
  f24 := ⟨Tryz.f94.name, by decide, Tryz.func94.trans (congrArg some (by kernel_rfl))⟩
  f25 := ⟨Tryz.f95.name, by decide, Tryz.func95.trans (congrArg some (by kernel_rfl))⟩
  f26 := ⟨Tryz.f96.name, by decide, Tryz.func96.trans (congrArg some (by kernel_rfl))⟩
  f27 := ⟨Tryz.f97.name, by decide, Tryz.func97.trans (congrArg some (by kernel_rfl))⟩
  f28 := Tryz.func98.trans (congrArg some (by kernel_rfl))
  f29 := Tryz.func99.trans (congrArg some (by kernel_rfl))
  f46 := ⟨Tryz.f100.name, by decide, Tryz.func100.trans (congrArg some (by kernel_rfl))⟩
  f47 := Tryz.func101.trans (congrArg some (by kernel_rfl))
  f48 := Tryz.func102.trans (congrArg some (by kernel_rfl))
  f49 := ⟨Tryz.f103.name, by decide, Tryz.func103.trans (congrArg some (by kernel_rfl))⟩
  f50 := ⟨Tryz.f104.name, by decide, Tryz.func104.trans (congrArg some (by kernel_rfl))⟩
  f57 := ⟨Tryz.f105.name, by decide, Tryz.func105.trans (congrArg some (by kernel_rfl))⟩
  t0 := Tryz.underlying0
  a0 := Tryz.isAgg0
  z0 := Tryz.sizeOf0
  v0 := Tryz.zeroValue0
  t3 := Tryz.underlying3
  a3 := Tryz.isAgg3
  z3 := Tryz.sizeOf3
  v3 := Tryz.zeroValue3
  t4 := Tryz.underlying4
  a4 := Tryz.isAgg4
  z4 := Tryz.sizeOf4
  v4 := Tryz.zeroValue4
  t5 := Tryz.underlying5
  a5 := Tryz.isAgg5
  z5 := Tryz.sizeOf5
  v5 := Tryz.zeroValue5
  t9 := Tryz.underlying9
  a9 := Tryz.isAgg9
  z9 := Tryz.sizeOf9
  v9 := Tryz.zeroValue9
  t22 := Tryz.underlying40
  a22 := Tryz.isAgg40
  z22 := Tryz.sizeOf40
  v22 := Tryz.zeroValue40
  t25 := Tryz.underlying61
  a25 := Tryz.isAgg61
  z25 := Tryz.sizeOf61
  v25 := Tryz.zeroValue61
  t39 := Tryz.underlying105
  a39 := Tryz.isAgg105
  z39 := Tryz.sizeOf105
  v39 := Tryz.zeroValue105
  t45 := Tryz.underlying114
  a45 := Tryz.isAgg114
  z45 := Tryz.sizeOf114
  v45 := Tryz.zeroValue114
  t46 := Tryz.underlying115
  a46 := Tryz.isAgg115
  z46 := Tryz.sizeOf115
  v46 := Tryz.zeroValue115
  t50 := Tryz.underlying119
  a50 := Tryz.isAgg119
  z50 := Tryz.sizeOf119
  v50 := Tryz.zeroValue119
  t53 := Tryz.underlying122
  a53 := Tryz.isAgg122
  z53 := Tryz.sizeOf122
  v53 := Tryz.zeroValue122
  t55 := Tryz.underlying37
  a55 := Tryz.isAgg37
  z55 := Tryz.sizeOf37
  v55 := Tryz.zeroValue37
  t66 := Tryz.underlying123
  a66 := Tryz.isAgg123
  z66 := Tryz.sizeOf123
  v66 := Tryz.zeroValue123
  t70 := Tryz.underlying125
  a70 := Tryz.isAgg125
  z70 := Tryz.sizeOf125
  v70 := Tryz.zeroValue125
  t76 := Tryz.underlying127
  a76 := Tryz.isAgg127
  z76 := Tryz.sizeOf127
  v76 := Tryz.zeroValue127
  t77 := Tryz.underlying128
  a77 := Tryz.isAgg128
  z77 := Tryz.sizeOf128
  v77 := Tryz.zeroValue128 }
end Go.Proofs

/- The contract of slices.SortFunc as dot.Sort calls it: the same dots, in their order. Condition: fewer than 2^62 dots. -/
namespace Go.Proofs.YtblgbbpbhcaodaaGreat.Dt
open Go.ChangeShapes Go.WideShapes Go.ChangeAt Go.RowKit Go.Shelf
set_option linter.unusedVariables false

/-- a dot's two cells. -/
def encC (r : Dot) : List Value := [.int .u16 (r.1 : Int), .int .u64 (r.2 : Int)]
theorem two_grow (W : World) (x y : Dot) : two W x y = Sort.grow W (#[Obj.cells #[.int .u16 (x.1 : Int), .int .u64 (x.2 : Int)] 39] ++ #[Obj.cells #[.int .u16 (y.1 : Int), .int .u64 (y.2 : Int)] 39]) := by
  unfold two
  rw [Sort.alloc_eq_grow, Sort.alloc_eq_grow, Sort.grow_grow]
theorem closure_any (x y : Dot) (W : World) : Calls Tryz.prog 22 #[.agg #[.int .u16 (x.1 : Int), .int .u64 (x.2 : Int)], .agg #[.int .u16 (y.1 : Int), .int .u64 (y.2 : Int)]] W fun e w' => e = .returned (.int .i64 (cmpD x y)) ∧ ∃ q os', w' = Sort.grow (W.drewN q) os' :=
  (pcmp_left W x y).mono fun _ _ ⟨h1, h2⟩ => ⟨h1, by
    rcases h2 with rfl | rfl
    · exact ⟨0, _, by rw [World.drewN_zero, two_grow]⟩
    · exact ⟨0, _, by rw [World.drewN_zero, two_grow (two W x y), two_grow W, Sort.grow_grow]⟩⟩
theorem ltD (x y : Dot) : ltOf cmpD x y = aheadD x y := cmp_neg x y
theorem swoD : Sort.SWO (ltOf cmpD) where
  irrefl x := by rw [ltD]; exact ahead_irr x
  trans x y z h1 h2 := by rw [ltD] at *; exact ahead_trans h1 h2
  ntrans x y z h1 h2 := by
    rw [ltD] at *
    have a1 : ¬ (x.1 < y.1 ∨ (x.1 = y.1 ∧ x.2 < y.2)) := fun h => by rw [(ahead_iff _ _).2 h] at h1; exact absurd h1 (by simp)
    have a2 : ¬ (y.1 < z.1 ∨ (y.1 = z.1 ∧ y.2 < z.2)) := fun h => by rw [(ahead_iff _ _).2 h] at h2; exact absurd h2 (by simp)
    cases h : aheadD x z with
    | false => rfl
    | true =>
      have := (ahead_iff _ _).1 h
      omega
/-- none stands behind one that it is ahead of. -/
def Ris (l : List Dot) : Prop := l.Pairwise (fun a b => aheadD b a = false)

theorem flat_dv (l : List Dot) (j : Nat) (hj : j < l.length * 2) : (dv l)[j]? = some (Sort.flatK encC 2 l.toArray)[j]! := by
  rw [Sort.get_flatK _ _ _ _ (by simpa using hj)]
  have hk : j / 2 < l.length := by omega
  have hg : l[j / 2]? = some l[j / 2] := List.getElem?_eq_getElem hk
  obtain ⟨g1, g2⟩ := dv_get hg
  have e : l.toArray[j / 2]! = l[j / 2] := by rw [getElem!_pos _ _ (by simpa using hk)]; simp
  rw [e]
  rcases Nat.mod_two_eq_zero_or_one j with h | h
  · rw [h]
    have : j / 2 * 2 = j := by omega
    rw [this] at g1
    simpa [encC] using g1
  · rw [h]
    have : j / 2 * 2 + 1 = j := by omega
    rw [this] at g2
    simpa [encC] using g2

theorem sort_any (w : World) (B g cap n : Nat) (d : List Dot) (hn : d.length = n) (h62 : n < 4611686018427387904) (h : w.ownsRow B 39 2 (.slice (some ⟨g, 0, none⟩) n cap) n (dv d)) :
    Calls Tryz.prog 84 #[.slice (some ⟨g, 0, none⟩) n cap, .func (.func 22) #[] #[]] w fun e w' => e = .returned (.tuple #[]) ∧ ∃ m : List Dot, m.Perm d ∧ Ris m ∧ w'.ownsRow B 39 2 (.slice (some ⟨g, 0, none⟩) n cap) n (dv m) ∧ w.grownBy w' (some g) := by
  subst hn
  obtain ⟨hlen, ⟨hz, _⟩ | ⟨g', cap', cur, e, hB, hheap, hle, hmx, hsz, htk⟩⟩ := h
  · cases hz
  · cases e
    have hlt : g < w.heap.size := (Array.getElem?_eq_some_iff.1 hheap).1
    have hcell : ∀ j, j < d.length * 2 → cur[j]? = (dv d)[j]? := fun j hj => by
      rw [← htk, List.getElem?_take, if_pos hj]
      simp
    have hH : Sort.HoldsK encC 2 w g 0 d.toArray := fun j hj => by
      have hj' : j < d.length * 2 := by simpa using hj
      refine ⟨?_, by simp [World.frozen?, hheap]⟩
      rw [Nat.zero_add, show id (Sort.flatK encC 2 d.toArray)[j]! = (Sort.flatK encC 2 d.toArray)[j]! from rfl, ← flat_dv d j hj', ← hcell j hj']
      simp [World.cell?, hheap]
    have eg : ∀ args w, (callFunc 22 args).run Tryz.prog w = .ok (.enter 22 args) w := enters_of Tryz.func22 (by kernel_rfl) rfl
    have hcon := AnyQ.slices_SortFunc Tryz.sortD 2 Tryz.isAgg39 Tryz.sizeOf39 encC (fun _ => rfl) (fun x v hv => by simp [encC] at hv; rcases hv with rfl | rfl <;> rfl) cmpD swoD 22 #[] g 0 cap d.toArray w eg (fun m os dk _ x y => closure_any x y _) hH hlt (by simpa using h62)
    change Calls Tryz.prog 84 _ _ _ at hcon
    rw [List.size_toArray] at hcon
    refine hcon.mono ?_
    rintro e w' ⟨rfl, d', q, os, hp, hs, rfl⟩
    have h1 : d'.size = d.length := by simpa using hp.1
    refine ⟨rfl, d'.toList, ?_, ?_, ?_, ?_⟩
    · have h3 := hp.2.2
      have e1 : d'.extract 0 d.length = d' := by rw [← h1]; simp
      have e2 : d.toArray.extract 0 d.length = d.toArray := by simp
      rw [e1, e2] at h3
      exact h3
    · refine List.pairwise_iff_getElem.2 fun i j hi hj hij => ?_
      rw [Array.length_toList] at hi hj
      have := hs i j (Nat.zero_le _) hij (by omega)
      rw [ltD, getElem!_pos d' j hj, getElem!_pos d' i hi] at this
      simpa using this
    · refine ⟨by rw [dv_length, Array.length_toList, h1], .inr ⟨g, cap, Sort.putCells id 0 (Sort.flatK encC 2 d') cur, rfl, hB, ?_, hle, hmx, by simp [Sort.putCells, hsz], ?_⟩⟩
      · show ((w.heap.modify g (Sort.onCells (Sort.putCells id 0 (Sort.flatK encC 2 d')))) ++ os)[g]? = _
        rw [Array.getElem?_append_left (by simpa using hlt), Array.getElem?_modify, if_pos rfl, hheap]
        rfl
      · apply List.ext_getElem?
        intro j
        rw [List.getElem?_take]
        by_cases hj : j < d.length * 2
        · rw [if_pos hj]
          have hf := flat_dv d'.toList j (by rw [Array.length_toList, h1]; exact hj)
          rw [Array.toArray_toList] at hf
          rw [hf]
          have hc : cur[j]? = some cur[j] := Array.getElem?_eq_getElem (by omega)
          simp [Sort.putCells, hc, h1, hj]
        · rw [if_neg hj]
          exact (List.getElem?_eq_none (by rw [dv_length, Array.length_toList, h1]; omega)).symm
    · refine ⟨rfl, rfl, rfl, ?_, fun k hk hne => ?_⟩
      · show w.heap.size ≤ ((w.heap.modify g _) ++ os).size
        simp
      · show ((w.heap.modify g _) ++ os)[k]? = _
        rw [Array.getElem?_append_left (by simpa using hk), Array.getElem?_modify, if_neg (fun e => hne (by rw [e]))]
theorem ins_nil (w : World) (fv : Value) : Calls Tryz.prog 90 #[.slice none 0 0, .int .i64 0, .int .i64 0, fv] w fun e w' => e = .returned (.tuple #[]) ∧ w' = w := by
  go_enter Tryz.func90, Tryz.ntmps90
  go_wp2
  refine wp_loop_rounds 1 ?_
  rw [rounds_succ]
  go_wp2
  go_end0
  exact ⟨rfl, rfl⟩
theorem pdq_nil (w : World) (lim : Int) (fv : Value) : Calls Tryz.prog 88 #[.slice none 0 0, .int .i64 0, .int .i64 0, .int .i64 lim, fv] w fun e w' => e = .returned (.tuple #[]) ∧ w' = w := by
  have hi := fun W => ins_nil W fv
  go_enter Tryz.func88, Tryz.ntmps88
  go_wp2
  refine wp_loop_rounds 1 ?_
  rw [rounds_succ]
  go_wp2_with (go_at_call 90; refine (hi _).mono ?_; rintro e w' ⟨rfl, rfl⟩)
  (try simp only [Exit.inBlock, Exit.then]); refine bodyPost_ret (results_none rfl _ _ _) rfl ?_
  exact ⟨rfl, rfl⟩
theorem len_nil (w : World) : Calls Tryz.prog 89 #[.int .u64 0] w fun e w' => e = .returned (.int .i64 (Lib.bitLen 0 : Nat)) ∧ w' = w := by
  have h := Any.bits_Len (SlLaysF0.n15.bits (P := Tryz.prog) (ρ := Tryz.sortD_ren) { Tryz.sortD with }) 0 w (by omega) (by omega)
  change Calls Tryz.prog 89 _ _ _ at h
  exact h
theorem sort_nil (w : World) : Calls Tryz.prog 84 #[.slice none 0 0, .func (.func 22) #[] #[]] w fun e w' => e = .returned (.tuple #[]) ∧ w' = w := by
  have hl := fun W => len_nil W
  have hp := fun lim W => pdq_nil W lim (.func (.func 22) #[] #[])
  go_enter Tryz.func84, Tryz.ntmps84
  go_wp2_with (first | (go_at_call 89; refine (hl _).mono ?_; rintro e w' ⟨rfl, rfl⟩) | (go_at_call 88; refine (hp _ _).mono ?_; rintro e w' ⟨rfl, rfl⟩))
  go_end0
  exact ⟨rfl, rfl⟩
end Go.Proofs.YtblgbbpbhcaodaaGreat.Dt

/- The contract of the program's Sort of layer dot. For every list of at most 2^43 dots. -/
namespace Go.Proofs.YtblgbbpbhcaodaaGreat.Dt
open Go.ChangeShapes Go.WideShapes Go.ChangeAt Go.RowKit Go.Lib
set_option linter.unusedVariables false

/-- dots in order, each once: what Compact leaves of sorted ones. -/
theorem ris_at {d : Array Dot} (h : Ris d.toList) {i j : Nat} (hij : i ≤ j) (hj : j < d.size) : aheadD d[j]! d[i]! = false := by
  rcases Nat.eq_or_lt_of_le hij with rfl | hlt
  · exact ahead_irr _
  · have h1 := List.pairwise_iff_getElem.1 h i j (by simpa using Nat.lt_trans hlt hj) (by simpa using hj) hlt
    rw [getElem!_pos d j hj, getElem!_pos d i (Nat.lt_trans hlt hj)]
    simpa using h1
theorem comp_ord {d : Array Dot} (h : Ris d.toList) (m : Nat) (hm : m ≤ d.size) : Ord (compactUpTo d m) ∧ ∀ x, x ∈ compactUpTo d m ↔ ∃ j, j < m ∧ d[j]! = x := by
  induction m with
  | zero => exact ⟨List.Pairwise.nil, fun x => ⟨fun hx => absurd hx (by simp [compactUpTo]), fun ⟨j, hj, _⟩ => absurd hj (Nat.not_lt_zero _)⟩⟩
  | succ m ih =>
    obtain ⟨h1, h3⟩ := ih (by omega)
    rw [compactUpTo_succ]
    cases hk : keeps d m with
    | false =>
      simp only [Bool.false_eq_true, if_false, List.append_nil]
      refine ⟨h1, fun x => ?_⟩
      rw [h3]
      have hk2 : ¬ (m = 0 ∨ d[m]! ≠ d[m - 1]!) := of_decide_eq_false hk
      constructor
      · rintro ⟨j, hj, e⟩
        exact ⟨j, by omega, e⟩
      · rintro ⟨j, hj, e⟩
        by_cases e2 : j = m
        · subst e2
          have h4 : d[j]! = d[j - 1]! := Classical.byContradiction fun h5 => hk2 (.inr h5)
          exact ⟨j - 1, by omega, by rw [← h4]; exact e⟩
        · exact ⟨j, by omega, e⟩
    | true =>
      simp only [if_true]
      have hk2 : m = 0 ∨ d[m]! ≠ d[m - 1]! := of_decide_eq_true hk
      have hlt : ∀ x ∈ compactUpTo d m, aheadD x d[m]! = true := by
        intro x hx
        obtain ⟨j, hj, rfl⟩ := (h3 x).1 hx
        have h4 := ris_at h (i := j) (j := m - 1) (by omega) (by omega)
        have h5 := ris_at h (i := m - 1) (j := m) (by omega) (by omega)
        have h6 : aheadD d[m - 1]! d[m]! = true := ahead_all h5 (hk2.resolve_left (by omega))
        by_cases e : d[j]! = d[m - 1]!
        · rw [e]; exact h6
        · exact ahead_trans (ahead_all h4 (fun e2 => e e2.symm)) h6
      refine ⟨List.pairwise_append.2 ⟨h1, List.pairwise_singleton _ _, fun a ha b hb => ?_⟩, fun x => ?_⟩
      · rw [List.mem_singleton] at hb
        rw [hb]
        exact hlt a ha
      · rw [List.mem_append, h3, List.mem_singleton]
        constructor
        · rintro (⟨j, hj, e⟩ | e)
          · exact ⟨j, by omega, e⟩
          · exact ⟨m, by omega, e.symm⟩
        · rintro ⟨j, hj, e⟩
          by_cases e2 : j = m
          · subst e2; exact .inr e.symm
          · exact .inl ⟨j, by omega, e⟩
theorem comp_sort {l m : List Dot} (hp : m.Perm l) (hr : Ris m) : compactUpTo m.toArray m.length = sortD l := by
  obtain ⟨h1, h3⟩ := comp_ord (d := m.toArray) (by simpa using hr) m.length (by simp)
  refine sort_uniq h1 (fun x => ?_)
  rw [h3, ← hp.mem_iff]
  constructor
  · rintro ⟨j, hj, rfl⟩
    rw [getElem!_pos _ _ (by simpa using hj)]
    simp
  · intro hx
    obtain ⟨j, hj, rfl⟩ := List.getElem_of_mem hx
    exact ⟨j, hj, by rw [getElem!_pos _ _ (by simpa using hj)]; simp⟩

set_option maxHeartbeats 1000000 in
set_option maxRecDepth 100000 in
theorem pclone_any (w : World) (A : Option Addr) (l : List Dot) (n c : Nat) (hl : l.length = n) (hA : A = none → n = 0 ∧ c = 0) (hb : Dots w w.heap.size A l) (h42 : n ≤ 8796093022208) :
    Calls Tryz.prog 83 #[.slice A n c] w (DotPost w l) := by
  have HL := Lib.hid hl
  have HB := Lib.hid hb
  cases A with
  | none =>
    obtain ⟨rfl, rfl⟩ := hA rfl
    obtain rfl := List.eq_nil_of_length_eq_zero hl
    have q : ∀ W : World, (binOp .eql 40 (.slice none 0 0) (.slice none 0 0)).run Tryz.prog W = .ok (.bool true) W := fun W => Lib.run_eql_slice_nil W 40 39 none 0 0 0 0 Tryz.underlying40
    clear hA hl hb
    go_enter Tryz.func83, Tryz.ntmps83
    go_wp2
    go_ret
    exact ⟨none, 0, 0, rfl, rfl, World.ownsRow_nil _ _ _ _, Below.refl _ _⟩
  | some ad =>
    have q : ∀ W : World, (binOp .eql 40 (.slice (some ad) n c) (.slice none 0 0)).run Tryz.prog W = .ok (.bool false) W := fun W => Lib.run_eql_slice_nil W 40 39 (some ad) n c 0 0 Tryz.underlying40
    have HW := Lib.hid (below_new w (.cells #[] 39))
    have hO : (w.alloc (.cells #[] 39)).ownsRow w.heap.size 39 2 (.slice (some ⟨w.heap.size, 0, none⟩) 0 0) 0 (dv []) := World.ownsRow_lit w #[] 0 (Nat.le_refl _) (Nat.zero_le _) rfl
    have HO := Lib.hid hO
    have HB2 : Hid (Lies (w.alloc (.cells #[] 39)) (w.alloc (.cells #[] 39)).heap.size (some ad) (dv l)) := (hb.up HW.out).2
    clear hA hl hb hO
    go_enter Tryz.func83, Tryz.ntmps83
    go_wp2_with (at_builtin; refine wpList_any rfl (.tmp 5) (.tmp 6) rfl rfl _ w.heap.size 0 (.slice (some ⟨w.heap.size, 0, none⟩) 0 0) [] (some ad) l n c rfl rfl HO.out (fun h => by cases h) HB2.out HL.out (by omega) HW.out.size ?_; intro A3 c3 V3 ho3 hg3; have HO3 := Lib.hid ho3; have HW3 := Lib.hid (any_grown HO.out HW.out hg3); clear ho3 hg3)
    go_ret
    have h0 : 0 + n = n := Nat.zero_add n
    have ho := HO3.out
    rw [h0] at ho
    exact ⟨A3, n, c3, by rw [← h0]; rfl, HL.out, ho, HW3.out⟩

theorem compact_nil (w : World) : Calls Tryz.prog 85 #[.slice none 0 0] w fun e w' => e = .returned (.slice none 0 0) ∧ w' = w := by
  go_enter Tryz.func85, Tryz.ntmps85
  go_wp2
  go_ret
  exact ⟨rfl, rfl⟩
theorem fit_perm {m l : List Dot} (h : m.Perm l) (hf : Fit l) : Fit m := fun r hr => hf r (h.mem_iff.1 hr)
set_option maxHeartbeats 1000000 in
theorem psort_any (w : World) (A : Option Addr) (l : List Dot) (n c : Nat) (hl : l.length = n) (hA : A = none → n = 0 ∧ c = 0) (hb : Dots w w.heap.size A l) (h42 : n ≤ 8796093022208) :
    Calls Tryz.prog 74 #[.slice A n c] w (DotPost w (sortD l)) := by
  have CC := pclone_any w A l n c hl hA hb h42
  have HF := Lib.hid hb.1
  have HL := Lib.hid hl
  clear hl hA hb
  go_enter Tryz.func74, Tryz.ntmps74
  go_wp2_with fail
  refine CC.mono ?_
  rintro e w1 ⟨A1, n1, c1, rfl, hn1, ho1, hb1⟩
  obtain rfl : n = n1 := by rw [← HL.out]; exact hn1
  have HB1 := Lib.hid hb1
  clear CC hb1
  rcases ho1.2 with ⟨h0, h1⟩ | ⟨g, cap, cur, h0, hg, _⟩
  · cases h0
    obtain rfl := List.eq_nil_of_length_eq_zero HL.out
    have hs := fun W => sort_nil W
    have hc := fun W => compact_nil W
    clear ho1 hn1 h1
    go_wp2_with fail
    refine (hs _).mono ?_
    rintro e w2 ⟨rfl, rfl⟩
    go_wp2_with fail
    refine (hc _).mono ?_
    rintro e w3 ⟨rfl, rfl⟩
    go_wp2
    go_ret
    exact ⟨none, 0, 0, rfl, rfl, World.ownsRow_nil _ _ _ _, HB1.out⟩
  · cases h0
    have CS := sort_any w1 w.heap.size g c1 n l HL.out (by omega) ho1
    have HG := Lib.hid hg
    clear ho1 hn1
    go_wp2_with fail
    refine CS.mono ?_
    rintro e w2 ⟨rfl, m, hp, hr, ho2, hg2⟩
    have hm : m.length = n := by rw [hp.length_eq]; exact HL.out
    have CK := pcompact_any w2 w.heap.size g c1 n m hm (by omega) ho2
    have hcs := comp_sort hp hr
    rw [hm] at hcs
    rw [hcs] at CK
    have HB2 : Hid (Below w.heap.size w w2) := HB1.out.grown hg2 HB1.out.size (fun k hk => by cases hk; exact HG.out)
    clear CS hp hr ho2 hg2 hm hcs
    go_wp2_with fail
    refine CK.mono ?_
    rintro e w3 ⟨k, rfl, hk, ho3, hg3⟩
    have HB3 : Hid (Below w.heap.size w w3) := HB2.out.grown hg3 HB2.out.size (fun k hk => by cases hk; exact HG.out)
    have HK := Lib.hid hk
    have HO3 := Lib.hid ho3
    clear hk ho3 hg3
    go_wp2
    go_ret
    exact ⟨_, k, c1, rfl, HK.out.symm, HO3.out, HB3.out⟩
end Go.Proofs.YtblgbbpbhcaodaaGreat.Dt

/- The contracts of the program's good and PutDots of layer dcode. -/
namespace Go.Proofs.YtblgbbpbhcaodaaGreat.Dc
open Go.ChangeShapes Go.WideShapes Go.ChangeAt Go.RowKit
set_option linter.unusedVariables false
set_option maxRecDepth 4000

theorem fit_filter {l : List Dot} (h : Dt.Fit l) (p : Dot → Bool) : Dt.Fit (l.filter p) := fun x hx => h x (List.mem_filter.1 hx).1
theorem len_filter (l : List Dot) (p : Dot → Bool) (k : Nat) : ((l.take k).filter p).length ≤ l.length := Nat.le_trans (List.length_filter_le _ _) (by rw [List.length_take]; omega)
/-- dots that may be. -/
def GoodPost (w : World) (l : List Dot) (r : Ending) (V : World) : Prop :=
  ∃ (A : Option Addr) (m c : Nat), r = .returned (.slice A m c) ∧ (l.filter Dt.mayD).length = m ∧ V.ownsRow w.heap.size 39 2 (.slice A m c) m (Dt.dv (l.filter Dt.mayD)) ∧ Below w.heap.size w V
set_option maxHeartbeats 8000000 in
theorem pgoods_any (w : World) (A : Option Addr) (l : List Dot) (n c : Nat) (hl : l.length = n) (hd : Dt.Dots w w.heap.size A l) (hn : n ≤ 1048576) :
    Calls Tryz.prog 75 #[.slice A n c] w (GoodPost w l) := by
  have HD := Lib.hid hd
  have HL := Lib.hid hl
  clear hl hd
  go_enter Tryz.func75, Tryz.ntmps75
  go_wp2_with fail
  go_loopw [3, 8] (fun v i wr => ∃ (k m4 c4 : Nat) (A4 : Option Addr), k ≤ n ∧ i = .int .i64 (k : Int) ∧ v = .slice A4 m4 c4 ∧ ((l.take k).filter Dt.mayD).length = m4 ∧ wr.ownsRow w.heap.size 39 2 (.slice A4 m4 c4) m4 (Dt.dv ((l.take k).filter Dt.mayD)) ∧ Below w.heap.size w wr) (fun _ i _ => n - (intOf i).toNat)
  case atStart => exact ⟨0, 0, 0, none, Nat.zero_le _, rfl, rfl, rfl, World.ownsRow_nil _ _ _ _, Below.refl _ _⟩
  case round =>
    obtain ⟨k, m4, c4, A4, hk, rfl, rfl, hm4, ho, hw⟩ := hrel
    have HM := Lib.hid hm4
    have HO := Lib.hid ho
    have HW := Lib.hid hw
    have hm4n : m4 ≤ 1048576 := by rw [← hm4]; exact Nat.le_trans (len_filter l _ k) (by rw [HL.out]; exact hn)
    clear hm4 ho hw
    by_cases hlt : k < n
    · obtain ⟨ad, x, rfl, hB, hlx, hx1, hx2, hcx⟩ := HD.out.cells (k := k) (by rw [HL.out]; exact hlt)
      obtain ⟨e1, e2⟩ := hcx wr HW.out
      have HN := Lib.hid (Dt.filter_next Dt.mayD hlx)
      have s0 : (k : Int) < (n : Int) := by omega
      have s3 : (0 : Int) ≤ (k : Int) := by omega
      have C5 := Lib.hid (Dt.pgood_x (wr.alloc (dbox x)) x)
      have V5 := Lib.hid (dbox_new wr x)
      have B5 := Lib.hid (below_new wr (dbox x))
      clear hlx hcx
      go_wp2_with fail
      have hs5 := alloc_size wr (dbox x)
      rw [show wr.heap.size + 1 = (wr.alloc (dbox x)).heap.size from hs5.symm] at V5
      obtain ⟨b0, b1⟩ := V5.out _ (below_new _ (dbox x))
      generalize wr.alloc (dbox x) = w5 at *
      cases hmx : Dt.mayD x with
      | false =>
        rw [hmx] at C5
        have HE : Hid ((l.take (k + 1)).filter Dt.mayD = (l.take k).filter Dt.mayD) := Lib.hid (by rw [HN.out]; simp [hmx])
        refine C5.out.mono ?_
        rintro e w6 ⟨rfl, rfl⟩
        have B6 := Lib.hid (B5.out.trans ((below_new w5 (dbox x)).mono B5.out.size))
        have O6 := Lib.hid (Dt.own_kept HO.out B6.out)
        have W6 := Lib.hid (HW.out.trans (B6.out.mono HW.out.size))
        clear C5 V5 b0 b1 e1 e2
        go_wp2
        go_roundw
        case rel => exact ⟨k + 1, m4, c4, A4, hlt, by go_num, rfl, by rw [HE.out]; exact HM.out, by rw [HE.out]; exact O6.out, W6.out⟩
        case measure => simp [intOf]; omega
      | true =>
        rw [hmx] at C5
        have HE : Hid ((l.take (k + 1)).filter Dt.mayD = (l.take k).filter Dt.mayD ++ [x]) := Lib.hid (by rw [HN.out]; simp [hmx])
        refine C5.out.mono ?_
        rintro e w6 ⟨rfl, rfl⟩
        have B6 := Lib.hid (B5.out.trans ((below_new w5 (dbox x)).mono B5.out.size))
        have O6 := Lib.hid (Dt.own_kept HO.out B6.out)
        have W6 := Lib.hid (HW.out.trans (B6.out.mono HW.out.size))
        generalize w5.alloc (dbox x) = w6 at *
        have W7 := Lib.hid (bel_alloc (dbox x) W6.out)
        have HOB : Hid (∀ j, (Value.slice A4 m4 c4).ownBlock = some j → w.heap.size ≤ j) := Lib.hid (fun j hj => (O6.out.lt j hj).1)
        clear C5 V5 e1 e2
        go_wp2_with (at_builtin; refine Dt.wpList_any rfl (.tmp 14) (.tmp 16) rfl rfl _ w.heap.size m4 (.slice A4 m4 c4) ((l.take k).filter Dt.mayD) (some ⟨w6.heap.size, 0, none⟩) [x] 1 1 rfl rfl (O6.out.alloc _) (fun h => by cases h) (Dt.lies_one w6 x) rfl (by omega) W7.out.size ?_; intro A8 c8 w8 ho8 hg8; have O8 := Lib.hid ho8; have W8 := Lib.hid (W7.out.grown hg8 W7.out.size HOB.out); clear ho8 hg8)
        go_roundw
        case rel => exact ⟨k + 1, m4 + 1, c8, A8, hlt, by go_num, rfl, by rw [HE.out, List.length_append, HM.out]; rfl, by rw [HE.out]; exact O8.out, W8.out⟩
        case measure => simp [intOf]; omega
    · obtain rfl : k = n := by omega
      have hall : l.take k = l := List.take_of_length_le (by rw [HL.out]; exact Nat.le_refl _)
      rw [hall] at HO HM
      clear hall
      go_wp2
      go_ret
      exact ⟨A4, m4, c4, rfl, HM.out, HO.out, HW.out⟩
set_option maxHeartbeats 8000000 in
theorem pputdots_any (w : World) (B g : Nat) (rb : Option Nat) (m : List Nat) (A : Option Addr) (l : List Dot) (n c : Nat) (h : Nu.PW w B g rb m) (hBw : B ≤ w.heap.size) (hl : l.length = n) (hd : Dt.Dots w B A l) (hn : n ≤ 1048576) (hm : m.length ≤ 1099511627776) :
    Calls Tryz.prog 60 #[.pointer (some ⟨g, 0, none⟩), .slice A n c] w (Nu.WPost w B g rb (m ++ dotsB (someD l))) := by
  have HL := Lib.hid hl
  have HP := Lib.hid h
  have hgw : g < w.heap.size := h.base.2
  have HRW : Hid (∀ k, rb = some k → k < w.heap.size) := Lib.hid (fun k e => (h.row k e).2)
  have HF := Lib.hid hd.1
  have CG := pgoods_any w A l n c hl (hd.more hBw) hn
  clear h hl hd hBw
  go_enter Tryz.func60, Tryz.ntmps60
  go_wp2_with fail
  refine CG.mono ?_
  rintro e wr ⟨A4, m4, c4, rfl, hm4, ho, hw⟩
  have HM := Lib.hid hm4
  have HO := Lib.hid ho
  have HW := Lib.hid hw
  have hm4n : m4 ≤ 1048576 := by rw [← hm4]; exact Nat.le_trans (List.length_filter_le _ _) (by rw [HL.out]; exact hn)
  clear hm4 ho hw CG
  have hfl := fit_filter HF.out Dt.mayD
  obtain ⟨q1, q2, q3⟩ := Dt.own_len HO.out
  have CS := Dt.psort_any wr A4 (l.filter Dt.mayD) m4 c4 HM.out q3 (Dt.dots_own HO.out hfl) (by omega)
  have hfs : Dt.Fit (someD l) := by
    have := (some_fit HF.out l.length).1
    rwa [List.take_of_length_le (Nat.le_refl _)] at this
  have hsl := some_len l
  have HFS := Lib.hid hfs
  have HSL : Hid ((someD l).length ≤ 1048576) := Lib.hid (by rw [HL.out] at hsl; omega)
  have CS2 : Calls Tryz.prog 74 #[.slice A4 m4 c4] wr (Dt.DotPost wr (someD l)) := CS
  clear CS hfl q1 q2 q3 hfs hsl HF
  obtain ⟨S, hS⟩ : ∃ S, someD l = S := ⟨_, rfl⟩
  rw [hS] at CS2 HFS HSL
  have HSS := Lib.hid hS
  clear hS
  go_wp2_with fail
  refine CS2.mono ?_
  intro e v0 hp
  obtain ⟨A5, n5, c5, rfl, hn5, nil5, cap5, max5, hD5, ho5, hb5⟩ := Dt.post_dots hp HFS.out
  have Y0 := Lib.hid (HW.out.trans (hb5.mono HW.out.size))
  have L5 : Hid (DL w.heap.size v0 A5 S n5 c5) := Lib.hid ⟨hn5, nil5, cap5, max5, hD5, fun ad e => by subst e; exact Nat.le_trans HW.out.size (ho5.lt ad.block rfl).1⟩
  have HN5 := Lib.hid hn5
  have hn5b : n5 ≤ 1048576 := by rw [← hn5]; exact HSL.out
  have hwr : IntKind.u64.wrap (n5 : Int) = (n5 : Int) := by rw [IntKind.wrap_u64]; omega
  have W0 := Lib.hid (WS.start (pw_up HP.out Y0.out))
  clear hp hn5 nil5 cap5 max5 hD5 ho5 hb5 CS2 HO HM
  go_wp2_with fail
  refine (ws_num W0.out n5 (by show n5 < 18446744073709551616; omega) (by omega)).mono ?_
  rintro e v1 ⟨rfl, q1⟩
  have W1 := Lib.hid q1
  clear q1 W0
  go_wp2_with fail
  go_loopw [17] (fun i wq => ∃ k : Nat, k ≤ n5 ∧ i = .int .i64 (k : Int) ∧ WS v0 wq B g rb (m ++ Nu.enc S.length ++ (S.take k).flatMap dotB)) (fun i _ => n5 - (intOf i).toNat)
  case atStart => exact ⟨0, Nat.zero_le _, rfl, by rw [List.take_zero, List.flatMap_nil, List.append_nil, HN5.out]; exact W1.out⟩
  case round =>
    clear W1
    obtain ⟨k2, hk2, rfl, q2⟩ := hrel
    have W2 := Lib.hid q2
    clear q2
    by_cases hlt2 : k2 < n5
    · obtain ⟨ad, x, rfl, hB, hlx, hx1, hx2, hcx⟩ := (L5.out.two W2.out.two hgw HRW.out).dots.cells (k := k2) (by rw [HN5.out]; exact hlt2)
      obtain ⟨e1, e2⟩ := hcx wr (Below.refl _ _)
      have HN := Lib.hid (dots_next (l := m) hlx)
      have hlen : (m ++ Nu.enc S.length ++ (S.take k2).flatMap dotB).length ≤ 35184372088832 := by
        have h1 := flat_le (f := dotB) (k := 18) dotB_le (S.take k2)
        have h2 : (S.take k2).length ≤ S.length := by rw [List.length_take]; omega
        have h3 := enc_le S.length
        have h4 := HSL.out
        rw [List.length_append, List.length_append]
        omega
      have s0 : (k2 : Int) < (n5 : Int) := by omega
      have s3 : (0 : Int) ≤ (k2 : Int) := by omega
      have W3 := Lib.hid (W2.out.more (below_new wr (dbox x)))
      obtain ⟨b0, b1⟩ := dbox_new wr x (wr.alloc (dbox x)) (by rw [← alloc_size wr (dbox x)]; exact Below.refl _ _)
      clear hlx hcx
      go_wp2_with fail
      generalize wr.alloc (dbox x) = w3 at *
      refine (W3.out.step (m2 := m ++ Nu.enc S.length ++ (S.take k2).flatMap dotB ++ dotB x) (fun r hr => pputdot_any w3 B g r _ x hr hx1 hx2 hlen)).mono ?_
      rintro e w4 ⟨rfl, q4⟩
      have W4 := Lib.hid q4
      clear q4 e1 e2 b0 b1
      go_wp2
      go_roundw
      case rel => exact ⟨k2 + 1, hlt2, by go_num, by rw [HN.out]; exact W4.out⟩
      case measure => simp [intOf]; omega
    · obtain rfl : k2 = n5 := by omega
      go_wp2
      go_end0
      have hW := W2.out
      rw [List.take_of_length_le (by rw [HN5.out]; exact Nat.le_refl _)] at hW
      rw [HSS.out]
      unfold dotsB
      rw [← List.append_assoc]
      exact (hW.from Y0.out).post
end Go.Proofs.YtblgbbpbhcaodaaGreat.Dc

/- The contracts of the program's Put, PutAll and Encode of layer ecode. -/
namespace Go.Proofs.YtblgbbpbhcaodaaGreat.Ec
open Go.ChangeShapes Go.WideShapes Go.ChangeAt Go.RowKit Go.Proofs.YtblgbbpbhcaodaaGreat.Dc
set_option linter.unusedVariables false
set_option maxRecDepth 4000

theorem side_next {w V U : World} {B g bx : Nat} {m m2 : List Nat} {r : Option Nat} (k : Side w V B g bx m r) (q : WS w U B g r m2) : Side w U B g bx m2 r := ⟨q, k.g_ne, k.r_ne, k.lt⟩
theorem ws_byte {w V : World} {B g : Nat} {rb : Option Nat} {m : List Nat} (h : WS w V B g rb m) (x : Nat) (hx : x < 256) (hm : m.length ≤ 70368744177664) :
    Calls Tryz.prog 57 #[.pointer (some ⟨g, 0, none⟩), .int .u8 (x : Int)] V fun e U => e = .returned (.tuple #[]) ∧ WS w U B g rb (m ++ [x]) :=
  h.step fun r hr => Nu.wbyte_any V B g r m x hr hx hm
theorem ws_text {w V : World} {B g : Nat} {rb : Option Nat} {m : List Nat} (h : WS w V B g rb m) (s : ByteArray) (hm : m.length + s.size ≤ 70368744177000) :
    Calls Tryz.prog 59 #[.pointer (some ⟨g, 0, none⟩), .string s] V fun e U => e = .returned (.tuple #[]) ∧ WS w U B g rb (m ++ (Nu.enc s.size ++ Nu.sb s)) :=
  h.step fun r hr => Nu.wtext_any V B g r m s hr hm
theorem ws_dot {w V : World} {B g : Nat} {rb : Option Nat} {m : List Nat} (h : WS w V B g rb m) (d : Dot) (hd : d.1 < 65536) (hd2 : d.2 < big) (hm : m.length ≤ 35184372088832) :
    Calls Tryz.prog 56 #[.pointer (some ⟨g, 0, none⟩), .agg #[.int .u16 (d.1 : Int), .int .u64 (d.2 : Int)]] V fun e U => e = .returned (.tuple #[]) ∧ WS w U B g rb (m ++ dotB d) :=
  h.step fun r hr => pputdot_any V B g r m d hr hd hd2 hm
theorem ws_dots {w V : World} {B g : Nat} {rb : Option Nat} {m : List Nat} (h : WS w V B g rb m) (A : Option Addr) (l : List Dot) (n c : Nat) (hBw : B ≤ V.heap.size) (hl : l.length = n) (hd : Dt.Dots V B A l) (hn : n ≤ 1048576) (hm : m.length ≤ 1099511627776) :
    Calls Tryz.prog 60 #[.pointer (some ⟨g, 0, none⟩), .slice A n c] V fun e U => e = .returned (.tuple #[]) ∧ WS w U B g rb (m ++ dotsB (someD l)) :=
  h.step fun r hr => pputdots_any V B g r m A l n c hr hBw hl hd hn hm
/-- from a writer's beginning nothing below its blocks has turned. -/
theorem ws_low {w V : World} {B g : Nat} {rb : Option Nat} {m m0 : List Nat} (h0 : Nu.PW w B g rb m0) (hB : B ≤ w.heap.size) (h : WS w V B g rb m) : Below B w V := Nu.below_two h.two h0.base.1 (fun k e => (h0.row k e).1) hB
set_option maxHeartbeats 4000000 in
theorem pput_any (w : World) (B g : Nat) (rb : Option Nat) (m : List Nat) (p : Ev.EV) (x : Evt) (h : Nu.PW w B g rb m) (hB : B ≤ w.heap.size) (hp : Ev.EventIs w B p x) (hk : x.kills.length ≤ 1048576) (ht : x.txt.size ≤ 1048576) (hm : m.length ≤ 17179869184) :
    Calls Tryz.prog 36 #[.pointer (some ⟨g, 0, none⟩), p.val] w (Nu.WPost w B g rb (m ++ evtB x)) := by
  obtain ⟨L, hL⟩ : ∃ L, x.kills = L := ⟨_, rfl⟩
  have hx := hp.eq
  rw [hL] at hx hk
  subst hx
  obtain ⟨r, hr, htw, s0⟩ := side_new (WS.start h) p.box
  have S0 := Lib.hid s0
  have HT := Lib.hid htw
  have HRR := Lib.hid hr
  have H := Lib.hid h
  have HP := Lib.hid hp
  have HF := Lib.hid hp.fits
  have HK := Lib.hid (Ev.box_new w p (w.alloc p.box) (by rw [← alloc_size w p.box]; exact Below.refl _ _)).all
  have hf0 : p.dev < 65536 := hp.fits.dot.1
  have hf1 : p.num < big := hp.fits.dot.2
  have hf2 : p.kind < 256 := hp.fits.kind
  have hf3 : p.cid < 18446744073709551616 := hp.fits.cid
  have hf4 : p.fld < 256 := hp.fits.fld
  have ht1 : p.txt.size ≤ 1048576 := ht
  have q1 := dotB_le (p.dev, p.num)
  have q2 := enc_le p.cid
  have q3 := enc_le p.txt.size
  have q4 := Nu.sb_length p.txt
  have hL2 : L.length = p.len := hp.kills.len
  have HL2 := Lib.hid hL2
  have hkn : p.len ≤ 1048576 := by omega
  obtain ⟨k0, k1, k2, k3, k4, k5, k6⟩ := HK.out
  clear h s0 hr htw hp hL ht hL2
  go_enter Tryz.func36, Tryz.ntmps36
  go_upto_region 1 with fail
  obtain ⟨bx, hbx⟩ : ∃ bx, w.heap.size = bx := ⟨_, rfl⟩
  rw [hbx] at S0 k0 k1 k2 k3 k4 k5 k6 ⊢
  generalize w.alloc p.box = w1 at *
  clear hbx
  go_wp2_with fail
  refine (ws_dot S0.out.ws (p.dev, p.num) hf0 hf1 (by omega)).mono ?_
  rintro e w2 ⟨rfl, z⟩
  have S1 := Lib.hid (side_next S0.out z)
  have e2 := (S1.out.cell 2).trans k2
  clear z S0
  go_wp2_with fail
  refine (ws_byte S1.out.ws p.kind hf2 (by simp only [List.length_append]; omega)).mono ?_
  rintro e w3 ⟨rfl, z⟩
  have S2 := Lib.hid (side_next S1.out z)
  have e3 := (S2.out.cell 3).trans k3
  clear z S1 e2
  go_wp2_with fail
  refine (ws_num S2.out.ws p.cid hf3 (by simp only [List.length_append, List.length_singleton]; omega)).mono ?_
  rintro e w4 ⟨rfl, z⟩
  have S3 := Lib.hid (side_next S2.out z)
  have e4 := (S3.out.cell 4).trans k4
  clear z S2 e3
  go_wp2_with fail
  refine (ws_byte S3.out.ws p.fld hf4 (by simp only [List.length_append, List.length_singleton]; omega)).mono ?_
  rintro e w5 ⟨rfl, z⟩
  have S4 := Lib.hid (side_next S3.out z)
  have e5 := (S4.out.cell 5).trans k5
  clear z S3 e4
  go_wp2_with fail
  refine (ws_text S4.out.ws p.txt (by simp only [List.length_append, List.length_singleton]; omega)).mono ?_
  rintro e w6 ⟨rfl, z⟩
  have S5 := Lib.hid (side_next S4.out z)
  have e6 := (S5.out.cell 6).trans k6
  have HBL := Lib.hid (ws_low H.out hB (WS.join HRR.out HT.out S5.out.ws))
  clear z S4 e5
  go_wp2_with fail
  refine (ws_dots S5.out.ws p.adr L p.len p.cap (Nat.le_trans hB HBL.out.size) HL2.out (HP.out.kills.below HBL.out).dots hkn (by simp only [List.length_append, List.length_singleton]; omega)).mono ?_
  rintro e w7 ⟨rfl, z⟩
  have W7 := Lib.hid (WS.join HRR.out HT.out z)
  clear z S5 e6
  go_wp2
  go_end0
  have e : m ++ evtB ⟨(p.dev, p.num), p.kind, p.cid, p.fld, p.txt, L⟩ = m ++ dotB (p.dev, p.num) ++ [p.kind] ++ Nu.enc p.cid ++ [p.fld] ++ (Nu.enc p.txt.size ++ Nu.sb p.txt) ++ dotsB (someD L) := by
    unfold evtB
    simp only [List.append_assoc]
  rw [e]
  exact W7.out.post
theorem ws_put {w V : World} {B g : Nat} {rb : Option Nat} {m : List Nat} {p : Ev.EV} {x : Evt} (h : WS w V B g rb m) (hB : B ≤ V.heap.size) (hp : Ev.EventIs V B p x) (hk : x.kills.length ≤ 1048576) (ht : x.txt.size ≤ 1048576) (hm : m.length ≤ 17179869184) :
    Calls Tryz.prog 36 #[.pointer (some ⟨g, 0, none⟩), .agg #[.int .u16 (p.dev : Int), .int .u64 (p.num : Int), .int .u8 (p.kind : Int), .int .u64 (p.cid : Int), .int .u8 (p.fld : Int), .string p.txt, .slice p.adr p.len p.cap]] V fun e U => e = .returned (.tuple #[]) ∧ WS w U B g rb (m ++ evtB x) :=
  h.step fun r hr => pput_any V B g r m p x hr hB hp hk ht hm
set_option maxHeartbeats 4000000 in
theorem pencode_any (w : World) (p : Ev.EV) (x : Evt) (hp : Ev.EventIs w w.heap.size p x) (hk : x.kills.length ≤ 1048576) (ht : x.txt.size ≤ 1048576) :
    Calls Tryz.prog 17 #[p.val] w (EncPost w x) := by
  have HB := Lib.hid (below_new w p.box)
  have HK : Hid (∀ V, Below (w.alloc p.box).heap.size (w.alloc p.box) V → Ev.CellsAt V ⟨w.heap.size, 0, none⟩ p) := Lib.hid (fun V hV => Ev.box_new w p V (by rw [alloc_size] at hV; exact hV))
  have HP := Lib.hid (hp.up HB.out)
  have hxl := evtB_len x
  clear hp
  obtain ⟨k0, k1, k2, k3, k4, k5, k6⟩ := (HK.out _ (Below.refl _ _)).all
  go_enter Tryz.func17, Tryz.ntmps17
  go_upto_region 1 with fail
  generalize w.alloc p.box = w1 at *
  have C1 := Ev.pgoodE_any w1 p x HP.out
  simp only [Ev.EV.val] at C1
  cases hg : Ev.goodE x with
  | false =>
    rw [hg] at C1
    have HG := Lib.hid hg
    clear hg
    go_wp2_with fail
    refine C1.mono ?_
    rintro e w2 ⟨rfl, b2⟩
    have B2 := Lib.hid (HB.out.trans (b2.mono HB.out.size))
    clear C1 b2 k0 k1 k2 k3 k4 k5 k6
    go_wp2
    go_ret2
    exact ⟨none, 0, 0, by rw [HG.out]; rfl, by rw [HG.out]; exact BL.none_ _, B2.out⟩
  | true =>
    rw [hg] at C1
    have HG := Lib.hid hg
    clear hg
    go_wp2_with fail
    refine C1.mono ?_
    rintro e w2 ⟨rfl, b2⟩
    have B2 := Lib.hid (HB.out.trans (b2.mono HB.out.size))
    have W0 := Lib.hid (Nu.PW.new w2)
    have Y0 := Lib.hid (below_new w2 (.cells #[.slice none 0 0] 70))
    have P2 := Lib.hid ((HP.out.up b2).below Y0.out)
    have K2 := Lib.hid (HK.out _ (b2.trans (Y0.out.mono b2.size))).all
    clear C1 b2 k0 k1 k2 k3 k4 k5 k6
    obtain ⟨k0, k1, k2, k3, k4, k5, k6⟩ := K2.out
    go_upto_region 4 with fail
    have C3 := pput_any _ _ _ _ _ p x W0.out Y0.out.size P2.out hk ht (by decide)
    simp only [Ev.EV.val] at C3
    generalize w2.alloc (.cells #[.slice none 0 0] 70) = w3 at *
    go_wp2_with fail
    refine C3.mono ?_
    rintro e w4 ⟨rfl, r4, p4, _, y4⟩
    rw [List.nil_append] at p4
    have W4 := Lib.hid p4
    have Y4 := Lib.hid (Y0.out.trans (Nu.below_two y4 (Nat.le_refl _) (fun q e => by cases e) Y0.out.size))
    clear C3 p4 y4 W0 Y0 P2 K2 k0 k1 k2 k3 k4 k5 k6
    go_wp2_with fail
    refine (Nu.wbytes_any w4 _ _ _ _ W4.out (by omega)).mono ?_
    rintro e w5 ⟨A5, n5, c5, rfl, h1, h2, h3, h4, h5, h6, _⟩
    have L5 : Hid (BL w5 A5 (evtB x) n5 c5) := Lib.hid ⟨h1, (fun e => by subst e; have := h5 rfl; omega), h3, h4, h2⟩
    have B5 := Lib.hid (B2.out.trans ((Y4.out.trans (h6.mono Y4.out.size)).mono B2.out.size))
    clear h1 h2 h3 h4 h5 h6 W4 Y4
    go_wp2
    go_ret2
    exact ⟨A5, n5, c5, by rw [HG.out]; rfl, by rw [HG.out]; exact L5.out, B5.out⟩
end Go.Proofs.YtblgbbpbhcaodaaGreat.Ec
