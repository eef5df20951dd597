/- The contract of the program's Sort of layer dot. For every list of at most 2^43 dots. -/
import Derived.Test.YtbaiiidkffafmaaPSortF
namespace Go.Proofs.Ytbaiiidkffafmaa.Dt
open Go.ChangeShapes Go.WideShapes Go.ChangeAt Go.RowKit Go.Lib
set_option linter.unusedVariables false

/-- dots in order, each once: what Compact leaves of sorted ones. -/
theorem ris_at {d : Array Dot} (h : Ris d.toList) {i j : Nat} (hij : i ≤ j) (hj : j < d.size) : aheadD d[j]! d[i]! = false := by
  rcases Nat.eq_or_lt_of_le hij with rfl | hlt
  · exact ahead_irr _
  · have h1 := List.pairwise_iff_getElem.1 h i j (by simpa using Nat.lt_trans hlt hj) (by simpa using hj) hlt
    rw [getElem!_pos d j hj, getElem!_pos d i (Nat.lt_trans hlt hj)]
    simpa using h1
theorem comp_ord {d : Array Dot} (h : Ris d.toList) (m : Nat) (hm : m ≤ d.size) : Ord (compactUpTo d m) ∧ ∀ x, x ∈ compactUpTo d m ↔ ∃ j, j < m ∧ d[j]! = x := by
  induction m with
  | zero => exact ⟨List.Pairwise.nil, fun x => ⟨fun hx => absurd hx (by simp [compactUpTo]), fun ⟨j, hj, _⟩ => absurd hj (Nat.not_lt_zero _)⟩⟩
  | succ m ih =>
    obtain ⟨h1, h3⟩ := ih (by omega)
    rw [compactUpTo_succ]
    cases hk : keeps d m with
    | false =>
      simp only [Bool.false_eq_true, if_false, List.append_nil]
      refine ⟨h1, fun x => ?_⟩
      rw [h3]
      have hk2 : ¬ (m = 0 ∨ d[m]! ≠ d[m - 1]!) := of_decide_eq_false hk
      constructor
      · rintro ⟨j, hj, e⟩
        exact ⟨j, by omega, e⟩
      · rintro ⟨j, hj, e⟩
        by_cases e2 : j = m
        · subst e2
          have h4 : d[j]! = d[j - 1]! := Classical.byContradiction fun h5 => hk2 (.inr h5)
          exact ⟨j - 1, by omega, by rw [← h4]; exact e⟩
        · exact ⟨j, by omega, e⟩
    | true =>
      simp only [if_true]
      have hk2 : m = 0 ∨ d[m]! ≠ d[m - 1]! := of_decide_eq_true hk
      have hlt : ∀ x ∈ compactUpTo d m, aheadD x d[m]! = true := by
        intro x hx
        obtain ⟨j, hj, rfl⟩ := (h3 x).1 hx
        have h4 := ris_at h (i := j) (j := m - 1) (by omega) (by omega)
        have h5 := ris_at h (i := m - 1) (j := m) (by omega) (by omega)
        have h6 : aheadD d[m - 1]! d[m]! = true := ahead_all h5 (hk2.resolve_left (by omega))
        by_cases e : d[j]! = d[m - 1]!
        · rw [e]; exact h6
        · exact ahead_trans (ahead_all h4 (fun e2 => e e2.symm)) h6
      refine ⟨List.pairwise_append.2 ⟨h1, List.pairwise_singleton _ _, fun a ha b hb => ?_⟩, fun x => ?_⟩
      · rw [List.mem_singleton] at hb
        rw [hb]
        exact hlt a ha
      · rw [List.mem_append, h3, List.mem_singleton]
        constructor
        · rintro (⟨j, hj, e⟩ | e)
          · exact ⟨j, by omega, e⟩
          · exact ⟨m, by omega, e.symm⟩
        · rintro ⟨j, hj, e⟩
          by_cases e2 : j = m
          · subst e2; exact .inr e.symm
          · exact .inl ⟨j, by omega, e⟩
theorem comp_sort {l m : List Dot} (hp : m.Perm l) (hr : Ris m) : compactUpTo m.toArray m.length = sortD l := by
  obtain ⟨h1, h3⟩ := comp_ord (d := m.toArray) (by simpa using hr) m.length (by simp)
  refine sort_uniq h1 (fun x => ?_)
  rw [h3, ← hp.mem_iff]
  constructor
  · rintro ⟨j, hj, rfl⟩
    rw [getElem!_pos _ _ (by simpa using hj)]
    simp
  · intro hx
    obtain ⟨j, hj, rfl⟩ := List.getElem_of_mem hx
    exact ⟨j, hj, by rw [getElem!_pos _ _ (by simpa using hj)]; simp⟩

set_option maxHeartbeats 1000000 in
set_option maxRecDepth 100000 in
theorem pclone_any (w : World) (A : Option Addr) (l : List Dot) (n c : Nat) (hl : l.length = n) (hA : A = none → n = 0 ∧ c = 0) (hb : Dots w w.heap.size A l) (h42 : n ≤ 8796093022208) :
    Calls Try.prog 44 #[.slice A n c] w (DotPost w l) := by
  have HL := Lib.hid hl
  have HB := Lib.hid hb
  cases A with
  | none =>
    obtain ⟨rfl, rfl⟩ := hA rfl
    obtain rfl := List.eq_nil_of_length_eq_zero hl
    have q : ∀ W : World, (binOp .eql 26 (.slice none 0 0) (.slice none 0 0)).run Try.prog W = .ok (.bool true) W := fun W => Lib.run_eql_slice_nil W 26 25 none 0 0 0 0 Try.underlying26
    clear hA hl hb
    go_enter Try.func44, Try.ntmps44
    go_wp2
    go_ret
    exact ⟨none, 0, 0, rfl, rfl, World.ownsRow_nil _ _ _ _, Below.refl _ _⟩
  | some ad =>
    have q : ∀ W : World, (binOp .eql 26 (.slice (some ad) n c) (.slice none 0 0)).run Try.prog W = .ok (.bool false) W := fun W => Lib.run_eql_slice_nil W 26 25 (some ad) n c 0 0 Try.underlying26
    have HW := Lib.hid (below_new w (.cells #[] 25))
    have hO : (w.alloc (.cells #[] 25)).ownsRow w.heap.size 25 2 (.slice (some ⟨w.heap.size, 0, none⟩) 0 0) 0 (dv []) := World.ownsRow_lit w #[] 0 (Nat.le_refl _) (Nat.zero_le _) rfl
    have HO := Lib.hid hO
    have HB2 : Hid (Lies (w.alloc (.cells #[] 25)) (w.alloc (.cells #[] 25)).heap.size (some ad) (dv l)) := (hb.up HW.out).2
    clear hA hl hb hO
    go_enter Try.func44, Try.ntmps44
    go_wp2_with (at_builtin; refine wpList_any rfl (.tmp 5) (.tmp 6) rfl rfl _ w.heap.size 0 (.slice (some ⟨w.heap.size, 0, none⟩) 0 0) [] (some ad) l n c rfl rfl HO.out (fun h => by cases h) HB2.out HL.out (by omega) HW.out.size ?_; intro A3 c3 V3 ho3 hg3; have HO3 := Lib.hid ho3; have HW3 := Lib.hid (any_grown HO.out HW.out hg3); clear ho3 hg3)
    go_ret
    have h0 : 0 + n = n := Nat.zero_add n
    have ho := HO3.out
    rw [h0] at ho
    exact ⟨A3, n, c3, by rw [← h0]; rfl, HL.out, ho, HW3.out⟩

theorem compact_nil (w : World) : Calls Try.prog 56 #[.slice none 0 0] w fun e w' => e = .returned (.slice none 0 0) ∧ w' = w := by
  go_enter Try.func56, Try.ntmps56
  go_wp2
  go_ret
  exact ⟨rfl, rfl⟩
theorem fit_perm {m l : List Dot} (h : m.Perm l) (hf : Fit l) : Fit m := fun r hr => hf r (h.mem_iff.1 hr)
set_option maxHeartbeats 1000000 in
theorem psort_any (w : World) (A : Option Addr) (l : List Dot) (n c : Nat) (hl : l.length = n) (hA : A = none → n = 0 ∧ c = 0) (hb : Dots w w.heap.size A l) (h42 : n ≤ 8796093022208) :
    Calls Try.prog 41 #[.slice A n c] w (DotPost w (sortD l)) := by
  have CC := pclone_any w A l n c hl hA hb h42
  have HF := Lib.hid hb.1
  have HL := Lib.hid hl
  clear hl hA hb
  go_enter Try.func41, Try.ntmps41
  go_wp2_with fail
  refine CC.mono ?_
  rintro e w1 ⟨A1, n1, c1, rfl, hn1, ho1, hb1⟩
  obtain rfl : n = n1 := by rw [← HL.out]; exact hn1
  have HB1 := Lib.hid hb1
  clear CC hb1
  rcases ho1.2 with ⟨h0, h1⟩ | ⟨g, cap, cur, h0, hg, _⟩
  · cases h0
    obtain rfl := List.eq_nil_of_length_eq_zero HL.out
    have hs := fun W => sort_nil W
    have hc := fun W => compact_nil W
    clear ho1 hn1 h1
    go_wp2_with fail
    refine (hs _).mono ?_
    rintro e w2 ⟨rfl, rfl⟩
    go_wp2_with fail
    refine (hc _).mono ?_
    rintro e w3 ⟨rfl, rfl⟩
    go_wp2
    go_ret
    exact ⟨none, 0, 0, rfl, rfl, World.ownsRow_nil _ _ _ _, HB1.out⟩
  · cases h0
    have CS := sort_any w1 w.heap.size g c1 n l HL.out (by omega) ho1
    have HG := Lib.hid hg
    clear ho1 hn1
    go_wp2_with fail
    refine CS.mono ?_
    rintro e w2 ⟨rfl, m, hp, hr, ho2, hg2⟩
    have hm : m.length = n := by rw [hp.length_eq]; exact HL.out
    have CK := pcompact_any w2 w.heap.size g c1 n m hm (by omega) ho2
    have hcs := comp_sort hp hr
    rw [hm] at hcs
    rw [hcs] at CK
    have HB2 : Hid (Below w.heap.size w w2) := HB1.out.grown hg2 HB1.out.size (fun k hk => by cases hk; exact HG.out)
    clear CS hp hr ho2 hg2 hm hcs
    go_wp2_with fail
    refine CK.mono ?_
    rintro e w3 ⟨k, rfl, hk, ho3, hg3⟩
    have HB3 : Hid (Below w.heap.size w w3) := HB2.out.grown hg3 HB2.out.size (fun k hk => by cases hk; exact HG.out)
    have HK := Lib.hid hk
    have HO3 := Lib.hid ho3
    clear hk ho3 hg3
    go_wp2
    go_ret
    exact ⟨_, k, c1, rfl, HK.out.symm, HO3.out, HB3.out⟩
end Go.Proofs.Ytbaiiidkffafmaa.Dt
