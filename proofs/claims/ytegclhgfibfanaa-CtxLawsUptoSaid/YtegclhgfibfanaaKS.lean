/- Layer runs, the document's side: the answers, and plain arithmetic of lists in order. -/
import Derived.Test.YtegclhgfibfanaaMRSet
import Derived.Test.YtegclhgfibfanaaKR

/- The contracts of the document's answers for layer runs: Join, Meet, Minus, Norm, Eq, Good, Size, First, Last, Of. Condition: at most 32768 runs (16384 on either side where two lists meet are more than the laws ask), at most 32768 numbers. -/
namespace Go.Proofs.Ytegclhgfibfanaa.Ru
open Go.ChangeShapes Go.WideShapes Go.ChangeAt Go.RowKit
set_option linter.unusedVariables false
set_option maxRecDepth 4000

theorem fit_order {l : List Run} (h : InOrder l) : Fit l := fun r hr => by
  have := (may_iff r).1 (h.1 r hr)
  omega
theorem runs_own {w : World} {B n c : Nat} {A : Option Addr} {m : List Run} (h : w.ownsRow B 59 2 (.slice A n c) n (rv m)) (hf : Fit m) : Runs w w.heap.size A m := ⟨hf, lies_any (by decide) h⟩
/-- what a list that came out is to the walks behind it. -/
theorem post_runs {w w' : World} {m : List Run} {e : Ending} (h : RunPost w m e w') (hf : Fit m) : ∃ A n c, e = .returned (.slice A n c) ∧ m.length = n ∧ (A = none → n = 0 ∧ c = 0) ∧ n ≤ c ∧ c ≤ 9223372036854775807 ∧ Runs w' w'.heap.size A m ∧ w'.ownsRow w.heap.size 59 2 (.slice A n c) n (rv m) ∧ Below w.heap.size w w' := by
  obtain ⟨A, n, c, rfl, hn, ho, hb⟩ := h
  obtain ⟨h1, h2, h3⟩ := own_len ho
  exact ⟨A, n, c, rfl, hn, h3, h1, h2, runs_own ho hf, ho, hb⟩

/-- the list in order of the same numbers. -/
def normL (l : List Run) : List Run := setL l [] 0
theorem norm_spec (l : List Run) : InOrder (normL l) ∧ ∀ n, has (normL l) n = has l n := by
  obtain ⟨h1, h2⟩ := set_spec l [] 0
  exact ⟨h1, fun n => by rw [show normL l = setL l [] 0 from rfl, h2 n, inB_zero, has_nil, Bool.or_false]⟩
theorem take_more {l m : List Run} {k : Nat} {x : Run} (h : l.take k = m.take k) (h1 : l[k]? = some x) (h2 : m[k]? = some x) : l.take (k + 1) = m.take (k + 1) := by
  rw [List.take_add_one, List.take_add_one, h, h1, h2]
theorem ne_at {l m : List Run} {k : Nat} {x y : Run} (h1 : l[k]? = some x) (h2 : m[k]? = some y) (hn : x ≠ y) : l ≠ m := by
  intro e
  rw [e, h2] at h1
  exact hn (Option.some.inj h1).symm
theorem eq_any (w : World) (B1 B2 : Nat) (A1 A2 : Option Addr) (l1 l2 : List Run) (n1 n2 c1 c2 : Nat) (e1 : l1.length = n1) (e2 : l2.length = n2) (h1 : Runs w B1 A1 l1) (h2 : Runs w B2 A2 l2) (h63 : n1 ≤ 9223372036854775807) :
    Calls Try.prog 29 #[.slice A1 n1 c1, .slice A2 n2 c2] w fun e w' => e = .returned (.bool (decide (l1 = l2))) ∧ ∃ m, w' = w.drewN m := by
  have H1 := Lib.hid h1
  have H2 := Lib.hid h2
  have E1 := Lib.hid e1
  have E2 := Lib.hid e2
  clear h1 h2 e1 e2
  by_cases hn : n1 = n2
  · subst hn
    go_enter Try.func29, Try.ntmps29
    go_wp2
    go_loopw [5] (fun i wr => ∃ k : Nat, k ≤ n1 ∧ i = .int .i64 (k : Int) ∧ l1.take k = l2.take k ∧ ∃ m, wr = w.drewN m) (fun i _ => n1 - (intOf i).toNat)
    case atStart => exact ⟨0, Nat.zero_le _, rfl, by simp, 0, rfl⟩
    case round =>
      obtain ⟨k, hk, rfl, ht, m, rfl⟩ := hrel
      have HT := Lib.hid ht
      clear ht
      by_cases hlt : k < n1
      · obtain ⟨a1, x1, x2, rfl, hlx, hx1, hx2, hc1, hc2⟩ := H1.out.at_ (k := k) (by rw [E1.out]; exact hlt)
        obtain ⟨a2, y1, y2, rfl, hly, hy1, hy2, hd1, hd2⟩ := H2.out.at_ (k := k) (by rw [E2.out]; exact hlt)
        have hc3 : w.cell? ⟨(a1.add (k * 2)).block, (a1.add (k * 2)).off + 1, none⟩ = some (.int .u64 (x2 : Int)) := by rw [add_next]; exact hc2
        have hd3 : w.cell? ⟨(a2.add (k * 2)).block, (a2.add (k * 2)).off + 1, none⟩ = some (.int .u64 (y2 : Int)) := by rw [add_next]; exact hd2
        have LX := Lib.hid hlx
        have LY := Lib.hid hly
        clear hlx hly hc2 hd2
        by_cases hxy : x1 = y1 ∧ x2 = y2
        · obtain ⟨rfl, rfl⟩ := hxy
          have hs := Lib.hid (take_more HT.out LX.out LY.out)
          go_wp2_with fail
          go_quiet (fail)
          go_wp2
          go_roundw
          case rel => exact ⟨k + 1, by omega, by go_num, hs.out, _, rfl⟩
          case measure => simp [intOf]; omega
        · have hd : Hid (decide (l1 = l2) = false) := decide_eq_false (ne_at LX.out LY.out (fun e => hxy (by cases e; exact ⟨rfl, rfl⟩)))
          by_cases hx : x1 = y1
          · subst hx
            have hx2' : ¬ x2 = y2 := fun e => hxy ⟨rfl, e⟩
            have hb2 : ((x2 : Int) == (y2 : Int)) = false := by rw [beq_eq_false_iff_ne]; omega
            clear hxy
            go_wp2_with fail
            go_quiet (fail)
            go_wp2
            go_ret
            exact ⟨ret_bool hd.out.symm, _, World.drewN_drewN ..⟩
          · have hb2 : ((x1 : Int) == (y1 : Int)) = false := by rw [beq_eq_false_iff_ne]; omega
            clear hxy
            go_wp2_with fail
            go_quiet (fail)
            go_wp2
            go_ret
            exact ⟨ret_bool hd.out.symm, _, World.drewN_drewN ..⟩
      · obtain rfl : k = n1 := by omega
        have hd : Hid (l1 = l2) := by
          have h := HT.out
          rw [List.take_of_length_le (by rw [E1.out]; exact Nat.le_refl _), List.take_of_length_le (by rw [E2.out]; exact Nat.le_refl _)] at h
          exact h
        go_wp2
        go_ret
        exact ⟨ret_bool (by rw [decide_eq_true hd.out]), m, rfl⟩
  · have hd : Hid (decide (l1 = l2) = false) := decide_eq_false (fun e => hn (by rw [← E1.out, ← E2.out, e]))
    have hne : ((n1 : Int) != (n2 : Int)) = true := by rw [bne_iff_ne]; omega
    go_enter Try.func29, Try.ntmps29
    go_wp2
    go_ret
    exact ⟨ret_bool hd.out.symm, 0, rfl⟩
end Go.Proofs.Ytegclhgfibfanaa.Ru

/- The contracts of the document's Size and First for layer runs. Condition: at most 32768 runs. -/
namespace Go.Proofs.Ytegclhgfibfanaa.Ru
open Go.ChangeShapes Go.WideShapes Go.ChangeAt Go.RowKit
set_option linter.unusedVariables false
set_option maxRecDepth 4000

theorem below_drewK {B : Nat} {a w : World} (h : Below B a w) (n : Nat) : Below B a (w.drewN n) := Go.below_drewN h n

theorem sizeR_append (a b : List Run) : sizeR (a ++ b) = sizeR a + sizeR b := by
  induction a with
  | nil => simp [sizeR]
  | cons r a ih => simp only [List.cons_append, sizeR, ih]; omega
theorem sizeR_take {l : List Run} {k lo hi : Nat} (h : l[k]? = some (lo, hi)) : sizeR (l.take (k + 1)) = sizeR (l.take k) + (hi - lo + 1) := by
  rw [List.take_add_one, h, sizeR_append]
  rfl
theorem sizeR_le (l : List Run) (k : Nat) : sizeR (l.take k) ≤ sizeR l := by
  have := sizeR_append (l.take k) (l.drop k)
  rw [List.take_append_drop] at this
  omega

end Go.Proofs.Ytegclhgfibfanaa.Ru

/- Plain arithmetic for layer runs: what the program's 'joined', 'common' and 'gaps' come to, as sets of numbers. No program is walked here. -/
namespace Go.Proofs.Ytegclhgfibfanaa.Ru
set_option linter.unusedVariables false
set_option maxRecDepth 4000

/-- the list in order of the same numbers, as the document's answer has it. -/
def nrm (l : List Run) : List Run := setL l [] 0
theorem nrm_spec (l : List Run) : InOrder (nrm l) ∧ ∀ n, has (nrm l) n = has l n := by
  obtain ⟨h1, h2⟩ := set_spec l [] 0
  exact ⟨h1, fun n => by rw [show nrm l = setL l [] 0 from rfl, h2 n, inB_zero, has_nil, Bool.or_false]⟩
theorem nrm_uniq {l m : List Run} (h : InOrder m) (hs : ∀ n, has m n = has l n) : m = nrm l := uniq h (nrm_spec l).1 fun n => by rw [hs n, (nrm_spec l).2 n]

/-! Runs that rise, joined. -/
def joinS (o : List Run) (r : Run) : List Run :=
  match o.getLast? with
  | none => o ++ [r]
  | some s => if s.2 + 1 < r.1 then o ++ [r] else o.dropLast ++ [(s.1, max s.2 r.2)]
def joinL (l : List Run) : List Run := l.foldl joinS []
theorem joinS_nil (r : Run) : joinS [] r = [r] := rfl
theorem joinS_far {o : List Run} {s r : Run} (h : s.2 + 1 < r.1) : joinS (o ++ [s]) r = o ++ [s] ++ [r] := by unfold joinS; simp [h]
theorem joinS_near {o : List Run} {s r : Run} (h : ¬ s.2 + 1 < r.1) : joinS (o ++ [s]) r = o ++ [(s.1, max s.2 r.2)] := by unfold joinS; simp [h]
theorem joinL_take {l : List Run} {k : Nat} {r : Run} (h : l[k]? = some r) : joinL (l.take (k + 1)) = joinS (joinL (l.take k)) r := by
  unfold joinL
  rw [List.take_add_one, h]
  simp
theorem snoc_cases (o : List Run) : o = [] ∨ ∃ o' s, o = o' ++ [s] := by
  rcases List.eq_nil_or_concat o with h | ⟨o', s, h⟩
  · exact .inl h
  · exact .inr ⟨o', s, by simpa using h⟩
theorem joinS_spec {o : List Run} {r : Run} (ho : InOrder o) (hr : mayR r = true) (hb : ∀ s ∈ o, s.1 ≤ r.1) :
    InOrder (joinS o r) ∧ (∀ n, has (joinS o r) n = (has o n || tst r n)) ∧ (∀ s ∈ joinS o r, s.1 ≤ r.1) ∧ (joinS o r).length ≤ o.length + 1 := by
  rcases snoc_cases o with rfl | ⟨o', s, rfl⟩
  · rw [joinS_nil]
    refine ⟨⟨fun s hs => by obtain rfl := List.mem_singleton.1 hs; exact hr, by simp⟩, fun n => by rw [has_cons, has_nil]; simp, fun s hs => by obtain rfl := List.mem_singleton.1 hs; exact Nat.le_refl _, by simp⟩
  · obtain ⟨h1, h2, h3⟩ := order_init ho
    have hs := hb s (by simp)
    have m1 := (may_iff s).1 h2
    have m2 := (may_iff r).1 hr
    by_cases hf : s.2 + 1 < r.1
    · rw [joinS_far hf]
      refine ⟨order_snoc ho hr fun t ht => ?_, fun n => by rw [has_append (o' ++ [s]) [r], has_cons r [], has_nil, Bool.or_false], fun t ht => ?_, by simp⟩
      · rcases List.mem_append.1 ht with ht | ht
        · have := h3 t ht
          omega
        · obtain rfl := List.mem_singleton.1 ht
          exact hf
      · rcases List.mem_append.1 ht with ht | ht
        · exact hb t ht
        · obtain rfl := List.mem_singleton.1 ht
          exact Nat.le_refl _
    · rw [joinS_near hf]
      have hm : mayR (s.1, max s.2 r.2) = true := (may_iff _).2 ⟨m1.1, by show s.1 ≤ max s.2 r.2; omega, by show max s.2 r.2 ≤ _; omega⟩
      have ht : ∀ n, tst (s.1, max s.2 r.2) n = (tst s n || tst r n) := fun n => by
        rw [Bool.eq_iff_iff, Bool.or_eq_true, tst_iff, tst_iff, tst_iff]
        constructor
        · rintro ⟨_, a1, a2⟩
          replace a1 : s.1 ≤ n := a1
          replace a2 : n ≤ max s.2 r.2 := a2
          by_cases hn : n ≤ s.2
          · exact .inl ⟨h2, a1, hn⟩
          · exact .inr ⟨hr, by omega, by omega⟩
        · rintro (⟨_, a1, a2⟩ | ⟨_, a1, a2⟩)
          · exact ⟨hm, a1, by show n ≤ max s.2 r.2; omega⟩
          · exact ⟨hm, by show s.1 ≤ n; omega, by show n ≤ max s.2 r.2; omega⟩
      refine ⟨order_snoc h1 hm h3, fun n => ?_, fun t ht => ?_, by simp⟩
      · rw [has_append, has_append, has_cons, has_cons, has_nil, ht n]
        simp [Bool.or_assoc]
      · rcases List.mem_append.1 ht with ht | ht
        · exact hb t (by simp [ht])
        · obtain rfl := List.mem_singleton.1 ht
          exact hs
def Rise (l : List Run) : Prop := l.Pairwise fun r s => r.1 ≤ s.1
theorem joinL_go : ∀ (l o : List Run), InOrder o → (∀ r ∈ l, mayR r = true) → Rise l → (∀ s ∈ o, ∀ r ∈ l, s.1 ≤ r.1) →
    InOrder (l.foldl joinS o) ∧ (∀ n, has (l.foldl joinS o) n = (has o n || has l n)) ∧ (l.foldl joinS o).length ≤ o.length + l.length
  | [], o, ho, _, _, _ => ⟨ho, fun n => by rw [has_nil, Bool.or_false]; rfl, by simp⟩
  | r :: l, o, ho, hm, hr, hb => by
    obtain ⟨s1, s2, s3, s4⟩ := joinS_spec (r := r) ho (hm r (by simp)) (fun s hs => hb s hs r (by simp))
    have hr' := List.pairwise_cons.1 hr
    obtain ⟨t1, t2, t3⟩ := joinL_go l (joinS o r) s1 (fun x hx => hm x (by simp [hx])) hr'.2 (fun s hs x hx => Nat.le_trans (s3 s hs) (hr'.1 x hx))
    refine ⟨t1, fun n => ?_, ?_⟩
    · show has (l.foldl joinS (joinS o r)) n = _
      rw [t2 n, s2 n, has_cons, Bool.or_assoc]
    · show (l.foldl joinS (joinS o r)).length ≤ _
      rw [List.length_cons]
      omega
theorem order_nil : InOrder [] := ⟨fun r hr => (by cases hr), List.Pairwise.nil⟩
theorem joinL_spec {l : List Run} (hm : ∀ r ∈ l, mayR r = true) (hr : Rise l) : InOrder (joinL l) ∧ (∀ n, has (joinL l) n = has l n) ∧ (joinL l).length ≤ l.length := by
  obtain ⟨h1, h2, h3⟩ := joinL_go l [] order_nil hm hr (fun s hs => by cases hs)
  exact ⟨h1, fun n => by rw [show joinL l = l.foldl joinS [] from rfl, h2 n, has_nil, Bool.false_or], by simpa [joinL] using h3⟩
/-- what a round of 'joined' finds: the runs done so far are in order, and no more than rounds. -/
theorem joinL_upto {l : List Run} (hm : ∀ r ∈ l, mayR r = true) (hr : Rise l) (k : Nat) : InOrder (joinL (l.take k)) ∧ (joinL (l.take k)).length ≤ k := by
  obtain ⟨h1, _, h3⟩ := joinL_spec (l := l.take k) (fun r h => hm r (List.mem_of_mem_take h)) (List.Pairwise.sublist (List.take_sublist _ _) hr)
  exact ⟨h1, Nat.le_trans h3 (by simp; omega)⟩

/-- the runs that tell something. -/
def tells (l : List Run) : List Run := l.filter mayR
theorem has_tells (l : List Run) (n : Nat) : has (tells l) n = has l n := by
  induction l with
  | nil => rfl
  | cons r l ih =>
    unfold tells at ih ⊢
    rw [has_cons, List.filter_cons]
    by_cases h : mayR r = true
    · rw [if_pos h, has_cons, ih]
    · rw [if_neg h, ih]
      have : tst r n = false := by unfold tst; simp [h]
      rw [this, Bool.false_or]
theorem has_perm {l m : List Run} (h : l.Perm m) (n : Nat) : has l n = has m n := by
  rw [Bool.eq_iff_iff, has_iff, has_iff]
  exact ⟨fun ⟨r, h1, h2⟩ => ⟨r, h.mem_iff.1 h1, h2⟩, fun ⟨r, h1, h2⟩ => ⟨r, h.mem_iff.2 h1, h2⟩⟩
/-- WHAT Norm COMES TO: sorted and joined, it is the document's list. -/
theorem joined_norm {l m : List Run} (hp : m.Perm (tells l)) (hr : Rise m) : joinL m = nrm l := by
  have hm : ∀ r ∈ m, mayR r = true := fun r h => (List.mem_filter.1 (hp.mem_iff.1 h)).2
  obtain ⟨h1, h2, _⟩ := joinL_spec hm hr
  exact nrm_uniq h1 fun n => by rw [h2 n, has_perm hp n, has_tells]
theorem exists_sorted (l : List Run) : ∃ m : List Run, m.Perm l ∧ Rise m := by
  refine ⟨l.mergeSort fun r s => decide (r.1 ≤ s.1), List.mergeSort_perm _ _, ?_⟩
  have := List.pairwise_mergeSort (le := fun r s : Run => decide (r.1 ≤ s.1)) (fun a b c h1 h2 => by simp at *; omega) (fun a b => by simp; omega) l
  exact this.imp fun h => by simpa using h
theorem nrm_length (l : List Run) : (nrm l).length ≤ l.length := by
  obtain ⟨m, hp, hr⟩ := exists_sorted (tells l)
  have hm : ∀ r ∈ m, mayR r = true := fun r h => (List.mem_filter.1 (hp.mem_iff.1 h)).2
  rw [← joined_norm hp hr]
  refine Nat.le_trans (joinL_spec hm hr).2.2 ?_
  rw [hp.length_eq]
  exact List.length_filter_le _ _

/-! What two lists have in common. -/
def Sep (l : List Run) : Prop := l.Pairwise fun r s => r.2 + 1 < s.1
def okR (r : Run) : Prop := mayR r = true ∨ r.1 = r.2 + 1
def both (x y : Run) : Run := (max x.1 y.1, min x.2 y.2)
def com : List Run → List Run → List Run
  | [], _ => []
  | _ :: _, [] => []
  | x :: a, y :: b => (if mayR (both x y) = true then [both x y] else []) ++ (if x.2 < y.2 then com a (y :: b) else com (x :: a) b)
  termination_by a b => a.length + b.length
theorem com_nil (b : List Run) : com [] b = [] := by rw [com]
theorem com_nil' (a : List Run) : com a [] = [] := by cases a <;> rw [com]
theorem com_cons (x y : Run) (a b : List Run) : com (x :: a) (y :: b) = (if mayR (both x y) = true then [both x y] else []) ++ (if x.2 < y.2 then com a (y :: b) else com (x :: a) b) := by rw [com]
theorem com_mem : ∀ (N : Nat) (a b : List Run), a.length + b.length ≤ N → ∀ s ∈ com a b, mayR s = true ∧ ∃ x ∈ a, ∃ y ∈ b, s = both x y
  | N, [], b, _, s, hs => by rw [com_nil] at hs; cases hs
  | N, x :: a, [], _, s, hs => by rw [com_nil'] at hs; cases hs
  | 0, x :: a, y :: b, h, s, hs => by simp at h
  | N + 1, x :: a, y :: b, h, s, hs => by
    rw [com_cons] at hs
    simp only [List.length_cons] at h
    rcases List.mem_append.1 hs with hs | hs
    · split at hs
      · rename_i hm
        obtain rfl := List.mem_singleton.1 hs
        exact ⟨hm, x, by simp, y, by simp, rfl⟩
      · cases hs
    · split at hs
      · obtain ⟨h1, u, hu, v, hv, e⟩ := com_mem N a (y :: b) (by simp only [List.length_cons]; omega) s hs
        exact ⟨h1, u, by simp [hu], v, hv, e⟩
      · obtain ⟨h1, u, hu, v, hv, e⟩ := com_mem N (x :: a) b (by simp only [List.length_cons]; omega) s hs
        exact ⟨h1, u, hu, v, by simp [hv], e⟩
theorem tst_both {x y : Run} (hx : okR x) (hy : okR y) (n : Nat) : tst (both x y) n = (tst x n && tst y n) := by
  rw [Bool.eq_iff_iff, Bool.and_eq_true, tst_iff, tst_iff, tst_iff, may_iff, may_iff, may_iff]
  unfold both
  simp only
  rcases hx with hx | hx
  · have m1 := (may_iff x).1 hx
    rcases hy with hy | hy
    · have m2 := (may_iff y).1 hy
      omega
    · omega
  · omega
theorem far' {r : Run} {l : List Run} (h : ∀ s ∈ l, r.2 + 1 < s.1) {n : Nat} (hn : has l n = true) : r.2 + 1 < n := by
  obtain ⟨s, hs, ht⟩ := (has_iff l n).1 hn
  have := h s hs
  have := ((tst_iff s n).1 ht).2.1
  omega
theorem com_spec : ∀ (N : Nat) (a b : List Run), a.length + b.length ≤ N → Sep a → Sep b → (∀ r ∈ a, okR r) → (∀ r ∈ b, okR r) →
    InOrder (com a b) ∧ (∀ n, has (com a b) n = (has a n && has b n)) ∧ (com a b).length ≤ a.length + b.length
  | N, [], b, _, _, _, _, _ => by rw [com_nil]; exact ⟨order_nil, fun n => by rw [has_nil]; rfl, by simp⟩
  | N, x :: a, [], _, _, _, _, _ => by rw [com_nil']; exact ⟨order_nil, fun n => by rw [has_nil, Bool.and_false], by simp⟩
  | 0, x :: a, y :: b, h, _, _, _, _ => by simp at h
  | N + 1, x :: a, y :: b, h, sa, sb, oa, ob => by
    have ox := oa x (by simp)
    have oy := ob y (by simp)
    have fa := (List.pairwise_cons.1 sa).1
    have fb := (List.pairwise_cons.1 sb).1
    have hl : (x :: a).length = a.length + 1 := rfl
    have hl' : (y :: b).length = b.length + 1 := rfl
    rw [com_cons]
    by_cases hlt : x.2 < y.2
    · rw [if_pos hlt]
      obtain ⟨h1, h2, h3⟩ := com_spec N a (y :: b) (by omega) (List.pairwise_cons.1 sa).2 sb (fun r hr => oa r (by simp [hr])) ob
      have hx : ∀ n, (tst x n && has b n) = false := fun n => by
        by_cases hb : has b n = true
        · have := far' fb hb
          have : tst x n = false := by
            by_cases ht : tst x n = true
            · have := ((tst_iff x n).1 ht).2.2; omega
            · simpa using ht
          rw [this]; rfl
        · simp [hb]
      have hh : ∀ n, (has (x :: a) n && has (y :: b) n) = ((tst x n && tst y n) || has (com a (y :: b)) n) := fun n => by
        rw [h2 n, has_cons, has_cons]
        have := hx n
        revert this
        cases tst x n <;> cases tst y n <;> cases has a n <;> cases has b n <;> decide
      split
      · rename_i hm
        refine ⟨⟨fun r hr => ?_, ?_⟩, fun n => ?_, by simp; omega⟩
        · rcases List.mem_append.1 hr with hr | hr
          · obtain rfl := List.mem_singleton.1 hr; exact hm
          · exact h1.1 r hr
        · rw [List.singleton_append, List.pairwise_cons]
          refine ⟨fun s hs => ?_, h1.2⟩
          obtain ⟨_, u, hu, v, hv, rfl⟩ := com_mem N a (y :: b) (by omega) s hs
          have := fa u hu
          show min x.2 y.2 + 1 < max u.1 v.1
          omega
        · rw [hh n, has_append, has_cons, has_nil, Bool.or_false, tst_both ox oy]
      · rename_i hm
        refine ⟨h1, fun n => ?_, by simp; omega⟩
        rw [List.nil_append, hh n, ← tst_both ox oy]
        have : tst (both x y) n = false := by unfold tst; simp [hm]
        rw [this, Bool.false_or]
    · rw [if_neg hlt]
      obtain ⟨h1, h2, h3⟩ := com_spec N (x :: a) b (by omega) sa (List.pairwise_cons.1 sb).2 oa (fun r hr => ob r (by simp [hr]))
      have hx : ∀ n, (tst y n && has a n) = false := fun n => by
        by_cases ha : has a n = true
        · have := far' fa ha
          have : tst y n = false := by
            by_cases ht : tst y n = true
            · have := ((tst_iff y n).1 ht).2.2; omega
            · simpa using ht
          rw [this]; rfl
        · simp [ha]
      have hh : ∀ n, (has (x :: a) n && has (y :: b) n) = ((tst x n && tst y n) || has (com (x :: a) b) n) := fun n => by
        rw [h2 n, has_cons, has_cons]
        have := hx n
        revert this
        cases tst x n <;> cases tst y n <;> cases has a n <;> cases has b n <;> decide
      split
      · rename_i hm
        refine ⟨⟨fun r hr => ?_, ?_⟩, fun n => ?_, by simp; omega⟩
        · rcases List.mem_append.1 hr with hr | hr
          · obtain rfl := List.mem_singleton.1 hr; exact hm
          · exact h1.1 r hr
        · rw [List.singleton_append, List.pairwise_cons]
          refine ⟨fun s hs => ?_, h1.2⟩
          obtain ⟨_, u, hu, v, hv, rfl⟩ := com_mem N (x :: a) b (by omega) s hs
          have := fb v hv
          show min x.2 y.2 + 1 < max u.1 v.1
          omega
        · rw [hh n, has_append, has_cons, has_nil, Bool.or_false, tst_both ox oy]
      · rename_i hm
        refine ⟨h1, fun n => ?_, by simp; omega⟩
        rw [List.nil_append, hh n, ← tst_both ox oy]
        have : tst (both x y) n = false := by unfold tst; simp [hm]
        rw [this, Bool.false_or]

/-! All numbers but those of a list that is in order. -/
def gapS : Nat → List Run → List Run
  | nx, [] => [(nx, 281474976710655)]
  | nx, r :: l => (nx, r.1 - 1) :: gapS (r.2 + 1) l
theorem gap_spec : ∀ (l : List Run) (nx : Nat), InOrder l → (∀ r ∈ l, nx ≤ r.1) → 1 ≤ nx → nx ≤ 281474976710656 →
    Sep (gapS nx l) ∧ (∀ r ∈ gapS nx l, okR r ∧ nx ≤ r.1) ∧ (∀ n, has (gapS nx l) n = (decide (nx ≤ n) && decide (n ≤ 281474976710655) && !has l n)) ∧ (gapS nx l).length = l.length + 1
  | [], nx, _, _, h1, h2 => by
    refine ⟨by simp [gapS, Sep], fun r hr => ?_, fun n => ?_, rfl⟩
    · obtain rfl := List.mem_singleton.1 hr
      refine ⟨?_, Nat.le_refl _⟩
      by_cases h : nx ≤ 281474976710655
      · exact .inl ((may_iff _).2 ⟨h1, h, Nat.le_refl _⟩)
      · exact .inr (by show nx = 281474976710655 + 1; omega)
    · rw [gapS, has_cons, has_nil, Bool.or_false, Bool.eq_iff_iff, tst_iff, may_iff]
      simp
      omega
  | r :: l, nx, ho, hb, h1, h2 => by
    obtain ⟨t1, t2, t3⟩ := order_tail ho
    have m := (may_iff r).1 t2
    have hr := hb r (by simp)
    obtain ⟨s1, s2, s3, s4⟩ := gap_spec l (r.2 + 1) t1 (fun s hs => by have := t3 s hs; omega) (by omega) (by omega)
    refine ⟨?_, fun s hs => ?_, fun n => ?_, by simp [gapS, s4]⟩
    · unfold Sep
      rw [gapS, List.pairwise_cons]
      refine ⟨fun s hs => ?_, s1⟩
      have := (s2 s hs).2
      show r.1 - 1 + 1 < s.1
      omega
    · rw [gapS] at hs
      rcases List.mem_cons.1 hs with rfl | hs
      · refine ⟨?_, Nat.le_refl _⟩
        by_cases h : nx < r.1
        · exact .inl ((may_iff _).2 ⟨h1, by show nx ≤ r.1 - 1; omega, by show r.1 - 1 ≤ _; omega⟩)
        · exact .inr (by show nx = r.1 - 1 + 1; omega)
      · have := s2 s hs
        exact ⟨this.1, by omega⟩
    · have hl : has l n = true → r.2 + 1 < n := fun h => far t3 h
      rw [gapS, has_cons, has_cons, s3 n, Bool.eq_iff_iff]
      simp only [Bool.or_eq_true, Bool.and_eq_true, tst_iff, may_iff, decide_eq_true_eq, Bool.not_eq_true', Bool.or_eq_false_iff]
      have ht : tst r n = false ↔ ¬ (r.1 ≤ n ∧ n ≤ r.2) := by
        rw [← Bool.not_eq_true, tst_iff]
        exact ⟨fun h h' => h ⟨t2, h'.1, h'.2⟩, fun h h' => h ⟨h'.2.1, h'.2.2⟩⟩
      rw [ht]
      constructor
      · rintro (⟨_, a1, a2⟩ | ⟨⟨a1, a2⟩, a3⟩)
        · refine ⟨⟨a1, by omega⟩, by omega, ?_⟩
          by_cases h : has l n = true
          · have := hl h; omega
          · simpa using h
        · exact ⟨⟨by omega, a2⟩, by omega, a3⟩
      · rintro ⟨⟨a1, a2⟩, a3, a4⟩
        by_cases h : n < r.1
        · exact .inl ⟨⟨h1, by omega, by omega⟩, a1, by omega⟩
        · exact .inr ⟨⟨by omega, a2⟩, a4⟩

/-! What the program's answers come to. -/
theorem sep_order {l : List Run} (h : InOrder l) : Sep l := h.2
theorem ok_order {l : List Run} (h : InOrder l) : ∀ r ∈ l, okR r := fun r hr => .inl (h.1 r hr)
theorem has_bound {l : List Run} {n : Nat} (h : has l n = true) : 1 ≤ n ∧ n ≤ 281474976710655 := by
  obtain ⟨r, _, ht⟩ := (has_iff l n).1 h
  obtain ⟨a, b, c⟩ := (tst_iff r n).1 ht
  have := (may_iff r).1 a
  omega
theorem join_comes (a b : List Run) : nrm (a ++ b) = setL a b 0 := by
  obtain ⟨h1, h2⟩ := set_spec a b 0
  exact (nrm_uniq h1 fun n => by rw [h2 n, inB_zero, has_append]).symm
theorem meet_comes (a b : List Run) : com (nrm a) (nrm b) = setL a b 1 := by
  obtain ⟨h1, h2⟩ := set_spec a b 1
  have ha := nrm_spec a
  have hb := nrm_spec b
  obtain ⟨c1, c2, _⟩ := com_spec _ (nrm a) (nrm b) (Nat.le_refl _) ha.1.2 hb.1.2 (ok_order ha.1) (ok_order hb.1)
  exact uniq c1 h1 fun n => by rw [c2 n, h2 n, ha.2 n, hb.2 n]; rfl
theorem gap_nrm (b : List Run) : Sep (gapS 1 (nrm b)) ∧ (∀ r ∈ gapS 1 (nrm b), okR r) ∧ (∀ n, has (gapS 1 (nrm b)) n = (decide (1 ≤ n) && decide (n ≤ 281474976710655) && !has b n)) ∧ (gapS 1 (nrm b)).length = (nrm b).length + 1 := by
  have hb := nrm_spec b
  obtain ⟨g1, g2, g3, g4⟩ := gap_spec (nrm b) 1 hb.1 (fun r hr => ((may_iff r).1 (hb.1.1 r hr)).1) (by omega) (by omega)
  exact ⟨g1, fun r hr => (g2 r hr).1, fun n => by rw [g3 n, hb.2 n], g4⟩
theorem minus_comes (a b : List Run) : com (nrm a) (gapS 1 (nrm b)) = setL a b 2 := by
  obtain ⟨h1, h2⟩ := set_spec a b 2
  have ha := nrm_spec a
  obtain ⟨g1, g2, g3, _⟩ := gap_nrm b
  obtain ⟨c1, c2, _⟩ := com_spec _ (nrm a) (gapS 1 (nrm b)) (Nat.le_refl _) ha.1.2 g1 (ok_order ha.1) g2
  refine uniq c1 h1 fun n => ?_
  rw [c2 n, h2 n, ha.2 n, g3 n]
  show _ = (has a n && !has b n)
  by_cases h : has a n = true
  · have := has_bound h
    simp [h, this]
  · simp [h]
theorem set_length1 (a b : List Run) : (setL a b 1).length ≤ a.length + b.length := by
  have ha := nrm_spec a
  have hb := nrm_spec b
  rw [← meet_comes]
  have := (com_spec _ (nrm a) (nrm b) (Nat.le_refl _) ha.1.2 hb.1.2 (ok_order ha.1) (ok_order hb.1)).2.2
  have := nrm_length a
  have := nrm_length b
  omega
theorem set_length2 (a b : List Run) : (setL a b 2).length ≤ a.length + b.length + 1 := by
  have ha := nrm_spec a
  obtain ⟨g1, g2, _, g4⟩ := gap_nrm b
  rw [← minus_comes]
  have := (com_spec _ (nrm a) (gapS 1 (nrm b)) (Nat.le_refl _) ha.1.2 g1 (ok_order ha.1) g2).2.2
  have := nrm_length a
  have := nrm_length b
  omega
theorem set_length0 (a b : List Run) : (setL a b 0).length ≤ a.length + b.length := by
  rw [← join_comes, ← List.length_append]
  exact nrm_length _
theorem of_comes (l : List Nat) : nrm (l.map fun n => (n, n)) = ofL l := by
  obtain ⟨h1, h2⟩ := ofL_spec l
  refine (nrm_uniq h1 fun n => ?_).symm
  rw [h2 n]
  unfold has
  rw [List.any_map]
  congr 1
  funext m
  rw [Bool.eq_iff_iff]
  simp
  intro _
  omega
theorem good_comes (l : List Run) : InOrder l ↔ l = nrm l := ⟨fun h => nrm_uniq h fun _ => rfl, fun h => by rw [h]; exact (nrm_spec l).1⟩
end Go.Proofs.Ytegclhgfibfanaa.Ru

/- Plain arithmetic for RunsLaws: sets are sets. No program is walked here. -/
namespace Go.Proofs.Ytegclhgfibfanaa.Ru
set_option linter.unusedVariables false
set_option maxRecDepth 4000

theorem has0 (a b : List Run) (n : Nat) : has (setL a b 0) n = (has a n || has b n) := (set_spec a b 0).2 n
theorem has1 (a b : List Run) (n : Nat) : has (setL a b 1) n = (has a n && has b n) := (set_spec a b 1).2 n
theorem has2 (a b : List Run) (n : Nat) : has (setL a b 2) n = (has a n && !has b n) := (set_spec a b 2).2 n
theorem join_turn (a b : List Run) : setL b a 0 = setL a b 0 := uniq (set_spec b a 0).1 (set_spec a b 0).1 fun n => by rw [has0, has0, Bool.or_comm]
theorem meet_turn (a b : List Run) : setL b a 1 = setL a b 1 := uniq (set_spec b a 1).1 (set_spec a b 1).1 fun n => by rw [has1, has1, Bool.and_comm]
theorem both_parts (a b : List Run) : nrm (setL (setL a b 2) (setL a b 1) 0) = nrm a := uniq (nrm_spec _).1 (nrm_spec _).1 fun n => by
  rw [(nrm_spec _).2, (nrm_spec _).2, has0, has1, has2]
  cases has a n <;> cases has b n <;> rfl
theorem empty_of {l : List Run} (h : InOrder l) (hn : ∀ n, has l n = false) : l = [] := uniq h order_nil fun n => by rw [hn n]; rfl
theorem apart_parts (a b : List Run) : (setL (setL a b 2) b 1).length = 0 := by
  rw [empty_of (set_spec _ _ 1).1 fun n => by rw [has1, has2]; cases has a n <;> cases has b n <;> rfl]
  rfl
theorem within_meet (a b : List Run) : (setL (setL a b 1) a 2).length = 0 := by
  rw [empty_of (set_spec _ _ 2).1 fun n => by rw [has2, has1]; cases has a n <;> cases has b n <;> rfl]
  rfl
theorem within_join (a b : List Run) : (setL a (setL a b 0) 2).length = 0 := by
  rw [empty_of (set_spec _ _ 2).1 fun n => by rw [has2, has0]; cases has a n <;> cases has b n <;> rfl]
  rfl
theorem set_good (a b : List Run) (how : Int) : decide (setL a b how = nrm (setL a b how)) = true := decide_eq_true ((good_comes _).1 (set_spec a b how).1)
theorem sizes (a b : List Run) : sizeR (nrm (setL a b 0)) + sizeR (nrm (setL a b 1)) = sizeR (nrm a) + sizeR (nrm b) := by
  have top : ∀ l : List Run, ∀ r ∈ nrm l, r.2 < 281474976710656 := fun l r hr => by
    have := (may_iff r).1 ((nrm_spec l).1.1 r hr)
    omega
  rw [← size_cnt (nrm_spec _).1 (top _), ← size_cnt (nrm_spec _).1 (top _), ← size_cnt (nrm_spec a).1 (top a), ← size_cnt (nrm_spec b).1 (top b)]
  have h := cnt_or_and (has a) (has b) 281474976710656
  rw [cnt_congr (f := has (nrm (setL a b 0))) (g := fun n => has a n || has b n) (fun n => by rw [(nrm_spec _).2, has0]),
    cnt_congr (f := has (nrm (setL a b 1))) (g := fun n => has a n && has b n) (fun n => by rw [(nrm_spec _).2, has1]),
    cnt_congr (f := has (nrm a)) (g := has a) (fun n => (nrm_spec _).2 n), cnt_congr (f := has (nrm b)) (g := has b) (fun n => (nrm_spec _).2 n)]
  exact h
end Go.Proofs.Ytegclhgfibfanaa.Ru
