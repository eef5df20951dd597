/- Plain arithmetic for RunsEach: the numbers of a list in order, one after another. No program is walked here. -/
import Derived.Test.YtaoojiacdkabbaaJoined
namespace Go.Proofs.Ytaoojiacdkabbaa.Ru
set_option linter.unusedVariables false

/-- a number that a variable holds. -/
abbrev U64 := { x : Nat // x < 18446744073709551616 }
def toU (x : Nat) : U64 := ⟨x % 18446744073709551616, Nat.mod_lt _ (by decide)⟩
theorem toU_val {x : Nat} (h : x < 18446744073709551616) : (toU x).1 = x := Nat.mod_eq_of_lt h
def runN (r : Run) : List Nat := List.range' r.1 (r.2 + 1 - r.1)
/-- the numbers that a list tells, run by run. -/
def numsN (l : List Run) : List Nat := l.flatMap runN
def numsU (l : List Run) : List U64 := (numsN l).map toU
theorem numsN_cons (r : Run) (l : List Run) : numsN (r :: l) = runN r ++ numsN l := rfl
theorem numsN_append (a b : List Run) : numsN (a ++ b) = numsN a ++ numsN b := by unfold numsN; rw [List.flatMap_append]
theorem runN_mem (r : Run) (n : Nat) : n ∈ runN r ↔ r.1 ≤ n ∧ n ≤ r.2 := by
  unfold runN
  rw [List.mem_range'_1]
  omega
theorem numsN_mem {l : List Run} (h : InOrder l) (n : Nat) : n ∈ numsN l ↔ has l n = true := by
  unfold numsN
  rw [List.mem_flatMap, has_iff]
  constructor
  · rintro ⟨r, hr, hn⟩
    exact ⟨r, hr, (tst_iff r n).2 ⟨h.1 r hr, (runN_mem r n).1 hn⟩⟩
  · rintro ⟨r, hr, ht⟩
    exact ⟨r, hr, (runN_mem r n).2 ((tst_iff r n).1 ht).2⟩
theorem numsN_rise : ∀ {l : List Run}, InOrder l → (numsN l).Pairwise (· < ·)
  | [], _ => List.Pairwise.nil
  | r :: l, h => by
    obtain ⟨h1, h2, h3⟩ := order_tail h
    rw [numsN_cons, List.pairwise_append]
    refine ⟨List.pairwise_lt_range' (s := r.1) (n := r.2 + 1 - r.1), numsN_rise h1, fun x hx y hy => ?_⟩
    have a := (runN_mem r x).1 hx
    have b := far h3 ((numsN_mem h1 y).1 hy)
    omega
theorem numsN_length : ∀ {l : List Run}, InOrder l → (numsN l).length = sizeR l
  | [], _ => rfl
  | r :: l, h => by
    obtain ⟨h1, h2, _⟩ := order_tail h
    have m := (may_iff r).1 h2
    rw [numsN_cons, List.length_append, numsN_length h1]
    unfold runN
    rw [List.length_range']
    show _ = (r.2 - r.1 + 1) + sizeR l
    omega
theorem numsU_length {l : List Run} (h : InOrder l) : (numsU l).length = sizeR l := by unfold numsU; rw [List.length_map, numsN_length h]
theorem numsU_val {l : List Run} (h : InOrder l) : (numsU l).map (·.1) = numsN l := by
  unfold numsU
  rw [List.map_map]
  conv => rhs; rw [← List.map_id (numsN l)]
  refine List.map_congr_left fun x hx => ?_
  have := has_bound ((numsN_mem h x).1 hx)
  exact toU_val (by omega)

/-- the last number so far. -/
def lastN (pre : List U64) : Nat := match pre.getLast? with | none => 0 | some x => x.1
theorem lastN_snoc (pre : List U64) (x : U64) : lastN (pre ++ [x]) = x.1 := by unfold lastN; simp
theorem lastN_nil : lastN [] = 0 := rfl
/-- what the law asks of the next number. -/
def Chk (l : List Run) (pre : List U64) (x : U64) : Prop := lastN pre < x.1 ∧ has l x.1 = true ∧ setL l [(lastN pre + 1, x.1)] 1 = [(x.1, x.1)]
theorem chk_of {l : List Run} {pre : List U64} {x : U64} (h : pre ++ [x] <+: numsU (nrm l)) : Chk l pre x := by
  obtain ⟨hO, hS⟩ := nrm_spec l
  obtain ⟨rest, hr⟩ := h
  have hv := numsU_val hO
  rw [← hr, List.append_assoc, List.map_append, List.map_append] at hv
  simp only [List.map_cons, List.map_nil, List.singleton_append] at hv
  have hrise := numsN_rise hO
  rw [← hv, List.pairwise_append, List.pairwise_cons] at hrise
  obtain ⟨r1, ⟨r2, _⟩, r3⟩ := hrise
  have hmem : ∀ n, has l n = true ↔ n ∈ pre.map (·.1) ∨ n = x.1 ∨ n ∈ rest.map (·.1) := fun n => by
    rw [← hS n, ← numsN_mem hO n, ← hv, List.mem_append, List.mem_cons]
  have hx : has l x.1 = true := (hmem _).2 (.inr (.inl rfl))
  have hb := has_bound hx
  have hlast : lastN pre < x.1 ∧ ∀ n ∈ pre.map (·.1), n ≤ lastN pre := by
    rcases List.eq_nil_or_concat pre with rfl | ⟨p, y, rfl⟩
    · exact ⟨by rw [lastN_nil]; omega, fun n hn => by cases hn⟩
    · rw [List.concat_eq_append] at *
      rw [lastN_snoc]
      refine ⟨r3 _ (by simp) _ (by simp), fun n hn => ?_⟩
      rw [List.map_append, List.pairwise_append] at r1
      rw [List.map_append] at hn
      rcases List.mem_append.1 hn with hn | hn
      · exact Nat.le_of_lt (r1.2.2 n hn y.1 (by simp))
      · simp at hn; omega
  refine ⟨hlast.1, hx, uniq (set_spec _ _ 1).1 ⟨fun r hr => by obtain rfl := List.mem_singleton.1 hr; exact (may_iff _).2 ⟨hb.1, Nat.le_refl _, hb.2⟩, by simp⟩ fun n => ?_⟩
  rw [(set_spec l [(lastN pre + 1, x.1)] 1).2 n, has_one]
  show (has l n && has [(lastN pre + 1, x.1)] n) = _
  have hm : mayR (x.1, x.1) = true := (may_iff _).2 ⟨hb.1, Nat.le_refl _, hb.2⟩
  have hm2 : mayR (lastN pre + 1, x.1) = true := (may_iff _).2 ⟨by show 1 ≤ lastN pre + 1; omega, by show lastN pre + 1 ≤ x.1; omega, hb.2⟩
  rw [has_cons, has_nil, Bool.or_false, hm, Bool.true_and, Bool.eq_iff_iff, Bool.and_eq_true, decide_eq_true_iff, tst_iff]
  constructor
  · rintro ⟨a1, _, a2, a3⟩
    replace a2 : lastN pre + 1 ≤ n := a2
    replace a3 : n ≤ x.1 := a3
    rcases (hmem n).1 a1 with h | h | h
    · have := hlast.2 n h; omega
    · exact h
    · have := r2 n h; omega
  · rintro rfl
    exact ⟨hx, hm2, by show lastN pre + 1 ≤ x.1; omega, Nat.le_refl _⟩
end Go.Proofs.Ytaoojiacdkabbaa.Ru
