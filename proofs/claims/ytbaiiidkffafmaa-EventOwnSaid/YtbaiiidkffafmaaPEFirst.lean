/- What a stable sort and a CompactFunc make of events: those rising by their dots, of each dot the first one. Plain: nothing is asked of a program. -/
import Derived.Test.YtbaiiidkffafmaaEPlain
import Derived.Test.YtbaiiidkffafmaaPECmp
namespace Go.Proofs.Ytbaiiidkffafmaa.Ev
open Go.ChangeShapes Go.WideShapes Go.ChangeAt Go.RowKit
set_option linter.unusedVariables false

section
variable {α : Type} (key : α → Dt.Dot)
theorem mem_firsts {ef : α → α → Bool} {A : Nat → α} (m : Nat) (a : α) : a ∈ St.firsts ef A m ↔ ∃ i, i < m ∧ A i = a ∧ (i = 0 ∨ ef (A i) (A (i - 1)) = false) := by
  induction m with
  | zero => simp [St.firsts]
  | succ m ih =>
    by_cases h : m ≠ 0 ∧ ef (A m) (A (m - 1)) = true
    · rw [St.firsts_skip (by omega) h.2, ih]
      constructor
      · rintro ⟨i, h1, h2, h3⟩
        exact ⟨i, by omega, h2, h3⟩
      · rintro ⟨i, h1, h2, h3⟩
        rcases Nat.lt_or_ge i m with hi | hi
        · exact ⟨i, hi, h2, h3⟩
        · obtain rfl : i = m := by omega
          rcases h3 with h3 | h3
          · exact absurd h3 h.1
          · rw [h.2] at h3; cases h3
    · have h' : m = 0 ∨ ef (A m) (A (m - 1)) = false := by
        by_cases h0 : m = 0
        · exact .inl h0
        · right
          cases he : ef (A m) (A (m - 1)) with
          | false => rfl
          | true => exact absurd ⟨h0, he⟩ h
      rw [St.firsts_keep h', List.mem_append, ih]
      constructor
      · rintro (⟨i, h1, h2, h3⟩ | h1)
        · exact ⟨i, by omega, h2, h3⟩
        · rw [List.mem_singleton] at h1
          exact ⟨m, by omega, h1.symm, h'⟩
      · rintro ⟨i, h1, h2, h3⟩
        rcases Nat.lt_or_ge i m with hi | hi
        · exact .inl ⟨i, hi, h2, h3⟩
        · obtain rfl : i = m := by omega
          exact .inr (by rw [List.mem_singleton]; exact h2.symm)
/-- by their keys. -/
def ltK (x y : α) : Bool := Dt.aheadD (key x) (key y)
def eqK (x y : α) : Bool := decide (key x = key y)
theorem swoK : Sort.SWO (ltK key) where
  irrefl x := by have := Dt.swoD.irrefl (key x); rw [Dt.ltD] at this; exact this
  trans x y z h1 h2 := by have := Dt.swoD.trans (key x) (key y) (key z) (by rw [Dt.ltD]; exact h1) (by rw [Dt.ltD]; exact h2); rw [Dt.ltD] at this; exact this
  ntrans x y z h1 h2 := by have := Dt.swoD.ntrans (key x) (key y) (key z) (by rw [Dt.ltD]; exact h1) (by rw [Dt.ltD]; exact h2); rw [Dt.ltD] at this; exact this
theorem ltK_of {x y : α} (h : ltK key y x = false) (hn : key y ≠ key x) : ltK key x y = true := by
  refine ahead_total (a := key y) (b := key x) ?_ (fun e => hn e.symm)
  rw [show Dt.aheadD (key y) (key x) = ltK key y x from rfl, h]
  simp
variable {key} {A : Nat → α} {n : Nat}
theorem firsts_ord (h : St.Srt (ltK key) A 0 n) : ∀ m, m ≤ n → (St.firsts (eqK key) A m).Pairwise (fun a b => ltK key a b = true)
  | 0, _ => List.Pairwise.nil
  | m + 1, hm => by
    have ih := firsts_ord h m (by omega)
    by_cases hc : m ≠ 0 ∧ eqK key (A m) (A (m - 1)) = true
    · rw [St.firsts_skip (by omega) hc.2]
      exact ih
    · have h' : m = 0 ∨ eqK key (A m) (A (m - 1)) = false := by
        by_cases h0 : m = 0
        · exact .inl h0
        · right
          cases he : eqK key (A m) (A (m - 1)) with
          | false => rfl
          | true => exact absurd ⟨h0, he⟩ hc
      rw [St.firsts_keep h', List.pairwise_append]
      refine ⟨ih, List.pairwise_singleton _ _, fun a ha b hb => ?_⟩
      rw [List.mem_singleton] at hb
      subst hb
      obtain ⟨i, hi, rfl, _⟩ := (mem_firsts m a).1 ha
      rcases h' with h' | h'
      · omega
      · have h1 : ltK key (A (m - 1)) (A m) = true := ltK_of key (h (m - 1) m (Nat.zero_le _) (by omega) (by omega)) (of_decide_eq_false h')
        exact St.le_lt (swoK key) (h.le (swoK key) (Nat.zero_le _) (show i ≤ m - 1 by omega) (by omega)) h1
theorem firsts_find (h : St.Srt (ltK key) A 0 n) (a : α) : a ∈ St.firsts (eqK key) A n ↔ (St.seg A 0 n).find? (fun y => decide (key y = key a)) = some a := by
  have hl : (St.seg A 0 n).length = n := by simp [St.seg]
  have hg : ∀ i (hi : i < (St.seg A 0 n).length), (St.seg A 0 n)[i] = A i := fun i hi => by simp [St.seg]
  rw [mem_firsts, List.find?_eq_some_iff_getElem]
  constructor
  · rintro ⟨i, h1, rfl, h3⟩
    refine ⟨by simp, i, by omega, hg i (by omega), fun j hj => ?_⟩
    rw [hg j (by omega)]
    rcases h3 with h3 | h3
    · omega
    · have q1 : ltK key (A (i - 1)) (A i) = true := ltK_of key (h (i - 1) i (Nat.zero_le _) (by omega) h1) (of_decide_eq_false h3)
      have q2 := St.le_lt (swoK key) (h.le (swoK key) (Nat.zero_le _) (show j ≤ i - 1 by omega) (by omega)) q1
      have q3 : key (A j) ≠ key (A i) := ahead_ne q2
      simp [q3]
  · rintro ⟨_, i, hi, h2, h3⟩
    rw [hg i hi] at h2
    refine ⟨i, by omega, h2, ?_⟩
    by_cases h0 : i = 0
    · exact .inl h0
    · right
      have := h3 (i - 1) (by omega)
      rw [hg (i - 1) (by omega)] at this
      refine decide_eq_false (fun e => ?_)
      rw [← h2] at this
      simp [e] at this
end

/-- an event, as it stands in memory and as it tells. -/
structure PE where
  fst : EV
  snd : Evt
  same : fst.dot = snd.dot
instance : Inhabited PE := ⟨⟨⟨0, 0, 0, 0, 0, ⟨#[]⟩, none, 0, 0⟩, ⟨(0, 0), 0, 0, 0, ⟨#[]⟩, []⟩, rfl⟩⟩
def keyE (a : PE) : Dt.Dot := a.2.dot
theorem find_first {Z : List PE} {a : PE} : Z.find? (fun y => decide (keyE y = keyE a)) = some a → FirstE (Z.map PE.snd) a.2 := by
  rw [List.find?_eq_some_iff_getElem]
  rintro ⟨_, i, hi, h2, h3⟩
  refine ⟨i, by simp [hi, h2], fun j y hj hy => ?_⟩
  have hjl : j < Z.length := by omega
  simp [hjl] at hy
  have := h3 j hj
  simp only [Bool.not_eq_true', decide_eq_false_iff_not] at this
  rw [← hy]
  exact this
theorem first_find {Z : List PE} {x : Evt} (h : FirstE (Z.map PE.snd) x) : ∃ a, a.2 = x ∧ Z.find? (fun y => decide (keyE y = keyE a)) = some a := by
  obtain ⟨j, hj, hall⟩ := h
  have hjl : j < Z.length := by have := (List.getElem?_eq_some_iff.1 hj).1; simpa using this
  have hx : (Z[j]).2 = x := by simpa [hjl] using hj
  refine ⟨Z[j], hx, ?_⟩
  rw [List.find?_eq_some_iff_getElem]
  refine ⟨by simp, j, hjl, rfl, fun i hi => ?_⟩
  have hil : i < Z.length := by omega
  have := hall i (Z[i]).2 hi (by simp [hil])
  simp only [Bool.not_eq_true', decide_eq_false_iff_not]
  unfold keyE
  rw [hx]
  exact this
/-- sorted so that equals stand as they stood, and of equal neighbours the first one alone: the document's order. -/
theorem firsts_sort {Z : List PE} {A : Nat → PE} (hs : St.Srt (ltK keyE) A 0 Z.length) (hk : St.Keeps (ltK keyE) Z (St.seg A 0 Z.length)) : (St.firsts (eqK keyE) A Z.length).map PE.snd = sortE (Z.map PE.snd) := by
  have hf : ∀ a : PE, (St.seg A 0 Z.length).find? (fun y => decide (keyE y = keyE a)) = Z.find? (fun y => decide (keyE y = keyE a)) := fun a => by
    rw [← List.head?_filter, ← List.head?_filter, hk (fun y => decide (keyE y = keyE a)) (fun x y hx hy => by
      have e : keyE x = keyE y := (of_decide_eq_true hx).trans (of_decide_eq_true hy).symm
      unfold ltK
      rw [e]
      exact Dt.ahead_irr _)]
  refine sort_uniq ?_ (fun x => ?_)
  · unfold OrdE
    rw [List.pairwise_map]
    exact firsts_ord hs _ (Nat.le_refl _)
  · rw [List.mem_map]
    constructor
    · rintro ⟨a, ha, rfl⟩
      exact find_first ((hf a) ▸ (firsts_find hs a).1 ha)
    · intro h
      obtain ⟨a, rfl, hb⟩ := first_find h
      exact ⟨a, (firsts_find hs a).2 ((hf a).trans hb), rfl⟩
end Go.Proofs.Ytbaiiidkffafmaa.Ev
