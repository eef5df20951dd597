/- Words and contracts that the proofs of this seat stand on, part 8 of 18. -/
import Derived.Sort.LotA
import Derived.Test.YtmebokpgiehgmaaMgG
import Derived.Test.YtmebokpgiehgmaaMgA
import Derived.Maps.OwnOps
import Derived.Maps.Ext
import Derived.DeepKeys4

/- Merging and sorting where equals keep their order: plain arithmetic. Nothing is asked of a program. -/
namespace Go.Proofs.Ytmebokpgiehgmaa.St
open Go.Sort
set_option linter.unusedVariables false
set_option maxRecDepth 4000
variable {α : Type}

/-- the elements from a on, below b. -/
def seg (A : Nat → α) (a b : Nat) : List α := (List.range' a (b - a)).map A
theorem seg_nil (A : Nat → α) {a b : Nat} (h : b ≤ a) : seg A a b = [] := by
  unfold seg
  rw [Nat.sub_eq_zero_of_le h]; rfl
theorem seg_add (A : Nat → α) {a m b : Nat} (h1 : a ≤ m) (h2 : m ≤ b) : seg A a b = seg A a m ++ seg A m b := by
  unfold seg
  rw [← List.map_append]
  congr 1
  have e := List.range'_append (s := a) (m := m - a) (n := b - m) (step := 1)
  rw [Nat.one_mul, show a + (m - a) = m by omega, show m - a + (b - m) = b - a by omega] at e
  exact e.symm
theorem seg_shift {A A' : Nat → α} {a c n : Nat} (h : ∀ i, i < n → A' (a + i) = A (c + i)) : seg A' a (a + n) = seg A c (c + n) := by
  unfold seg
  rw [Nat.add_sub_cancel_left, Nat.add_sub_cancel_left]
  refine List.ext_getElem (by simp) (fun i h1 h2 => ?_)
  simp only [List.getElem_map, List.getElem_range', Nat.one_mul]
  exact h i (by simpa using h1)
theorem seg_congr {A A' : Nat → α} {a b : Nat} (h : ∀ i, a ≤ i → i < b → A' i = A i) : seg A' a b = seg A a b := by
  rcases Nat.le_total b a with hb | hb
  · rw [seg_nil _ hb, seg_nil _ hb]
  · obtain ⟨n, rfl⟩ := Nat.exists_eq_add_of_le hb
    exact seg_shift (fun i hi => h (a + i) (by omega) (by omega))
theorem mem_seg {A : Nat → α} {a b : Nat} {x : α} : x ∈ seg A a b ↔ ∃ i, a ≤ i ∧ i < b ∧ A i = x := by
  unfold seg
  simp only [List.mem_map, List.mem_range'_1]
  constructor
  · rintro ⟨i, ⟨h1, h2⟩, h3⟩
    exact ⟨i, h1, by omega, h3⟩
  · rintro ⟨i, h1, h2, h3⟩
    exact ⟨i, ⟨h1, by omega⟩, h3⟩
theorem seg_one (A : Nat → α) (a : Nat) : seg A a (a + 1) = [A a] := by
  unfold seg
  rw [Nat.add_sub_cancel_left]; rfl
theorem seg_list (l : List α) [Inhabited α] : seg (fun i => l.toArray[i]!) 0 l.length = l := by
  unfold seg
  refine List.ext_getElem (by simp) (fun i h1 h2 => ?_)
  simp only [List.getElem_map, List.getElem_range', Nat.one_mul, Nat.zero_add]
  simp [h2]

variable {lt : α → α → Bool}
/-- of elements none of which is less than another one, all stand in both lists in the same order. -/
def Keeps (lt : α → α → Bool) (l l' : List α) : Prop := ∀ f : α → Bool, (∀ x y, f x = true → f y = true → lt x y = false) → l'.filter f = l.filter f
theorem Keeps.refl (l : List α) : Keeps lt l l := fun _ _ => rfl
theorem Keeps.trans {l m n : List α} (h : Keeps lt l m) (h' : Keeps lt m n) : Keeps lt l n := fun f hf => (h' f hf).trans (h f hf)
theorem Keeps.app {l l' m m' : List α} (h : Keeps lt l l') (h' : Keeps lt m m') : Keeps lt (l ++ m) (l' ++ m') := fun f hf => by
  rw [List.filter_append, List.filter_append, h f hf, h' f hf]
theorem Keeps.mem (hS : SWO lt) {l l' : List α} (h : Keeps lt l l') (x : α) : x ∈ l' ↔ x ∈ l := by
  classical
  have e := h (fun y => decide (y = x)) (fun a b ha hb => by
    have ha := of_decide_eq_true ha
    have hb := of_decide_eq_true hb
    subst ha hb
    exact hS.irrefl _)
  have q : ∀ m : List α, x ∈ m ↔ x ∈ m.filter (fun y => decide (y = x)) := fun m => by simp
  rw [q l', q l, e]
theorem Keeps.len (hS : SWO lt) {l l' : List α} (h : Keeps lt l l') : l'.Perm l := by
  classical
  refine List.perm_iff_count.2 (fun x => ?_)
  have e := h (fun y => y == x) (fun a b ha hb => by
    have ha := eq_of_beq ha
    have hb := eq_of_beq hb
    subst ha hb
    exact hS.irrefl _)
  rw [List.count_eq_length_filter, List.count_eq_length_filter, e]
theorem keeps_turn {u v : List α} (h : ∀ x ∈ u, ∀ y ∈ v, lt y x = true) : Keeps lt (u ++ v) (v ++ u) := fun f hf => by
  rw [List.filter_append, List.filter_append]
  have e : u.filter f = [] ∨ v.filter f = [] := by
    rcases hu : u.filter f with _ | ⟨x, u'⟩
    · exact .inl rfl
    · right
      rcases hv : v.filter f with _ | ⟨y, v'⟩
      · rfl
      · have hx := List.mem_filter.1 (show x ∈ u.filter f by rw [hu]; simp)
        have hy := List.mem_filter.1 (show y ∈ v.filter f by rw [hv]; simp)
        have h1 := h x hx.1 y hy.1
        rw [hf y x hy.2 hx.2] at h1
        cases h1
  rcases e with e | e <;> rw [e] <;> simp

/-- no later one is less than an earlier one. -/
def Srt (lt : α → α → Bool) (A : Nat → α) (a b : Nat) : Prop := ∀ i j, a ≤ i → i < j → j < b → lt (A j) (A i) = false
theorem Srt.le (hS : SWO lt) {A : Nat → α} {a b i j : Nat} (h : Srt lt A a b) (ha : a ≤ i) (hij : i ≤ j) (hj : j < b) : lt (A j) (A i) = false := by
  rcases Nat.eq_or_lt_of_le hij with rfl | hlt
  · exact hS.irrefl _
  · exact h i j ha hlt hj
theorem Srt.congr {A A' : Nat → α} {a b : Nat} (h : Srt lt A a b) (e : ∀ i, a ≤ i → i < b → A' i = A i) : Srt lt A' a b := fun i j h1 h2 h3 => by
  rw [e i h1 (by omega), e j (by omega) h3]
  exact h i j h1 h2 h3
theorem Srt.shift {A A' : Nat → α} {a c n : Nat} (h : Srt lt A c (c + n)) (e : ∀ i, i < n → A' (a + i) = A (c + i)) : Srt lt A' a (a + n) := fun i j h1 h2 h3 => by
  obtain ⟨i', rfl⟩ := Nat.exists_eq_add_of_le h1
  obtain ⟨j', rfl⟩ := Nat.exists_eq_add_of_le (Nat.le_trans h1 (Nat.le_of_lt h2))
  rw [e i' (by omega), e j' (by omega)]
  exact h _ _ (by omega) (by omega) (by omega)
theorem Srt.part {A : Nat → α} {a b c d : Nat} (h : Srt lt A a b) (h1 : a ≤ c) (h2 : d ≤ b) : Srt lt A c d := fun i j x y z => h i j (by omega) y (by omega)
theorem Srt.join {A : Nat → α} {a m b : Nat} (h1 : Srt lt A a m) (h2 : Srt lt A m b) (h : ∀ i j, a ≤ i → i < m → m ≤ j → j < b → lt (A j) (A i) = false) : Srt lt A a b := fun i j x y z => by
  rcases Nat.lt_or_ge j m with hj | hj
  · exact h1 i j x y hj
  · rcases Nat.lt_or_ge i m with hi | hi
    · exact h i j x hi hj z
    · exact h2 i j hi y z
theorem lt_le (hS : SWO lt) {x y z : α} (h1 : lt x y = true) (h2 : lt z y = false) : lt x z = true := by
  cases h : lt x z with
  | true => rfl
  | false => rw [hS.ntrans _ _ _ h h2] at h1; cases h1
theorem le_lt (hS : SWO lt) {x y z : α} (h1 : lt y x = false) (h2 : lt y z = true) : lt x z = true := by
  cases h : lt x z with
  | true => rfl
  | false => rw [hS.ntrans _ _ _ h1 h] at h2; cases h2

/-- the elements from s on, below m, and those from m on, below e, change places. -/
def rot (A : Nat → α) (s m e : Nat) : Nat → α := fun i => if s ≤ i ∧ i < s + (e - m) then A (i + (m - s)) else if s + (e - m) ≤ i ∧ i < e then A (i - (e - m)) else A i
/-- n elements from a on, and n from b on, change places. -/
def swr (A : Nat → α) (a b n : Nat) : Nat → α := fun i => if a ≤ i ∧ i < a + n then A (i - a + b) else if b ≤ i ∧ i < b + n then A (i - b + a) else A i
theorem rot_left (A : Nat → α) (m e : Nat) (h : m ≤ e) : rot A m m e = A := by
  funext i
  unfold rot
  repeat' split
  all_goals first | rfl | (congr 1; omega) | (exfalso; omega)
theorem rot_right (A : Nat → α) (s m : Nat) (h : s ≤ m) : rot A s m m = A := by
  funext i
  unfold rot
  repeat' split
  all_goals first | rfl | (congr 1; omega) | (exfalso; omega)
theorem rot_more (D : Nat → α) (s m i j : Nat) (hs : s + i = m) (h : j < i) : rot (swr D s m j) (s + j) m (m + j) = rot D s m (m + j) := by
  funext x
  unfold rot swr
  repeat' split
  all_goals first | rfl | (congr 1; omega) | (exfalso; omega)
theorem rot_less (D : Nat → α) (s m i j : Nat) (hs : s + i = m) (h : i < j) : rot (swr D s (m + j - i) i) s m (m + (j - i)) = rot D s m (m + j) := by
  funext x
  unfold rot swr
  repeat' split
  all_goals first | rfl | (congr 1; omega) | (exfalso; omega)
theorem rot_same (D : Nat → α) (s m i : Nat) (hs : s + i = m) : swr D s m i = rot D s m (m + i) := by
  funext x
  unfold rot swr
  repeat' split
  all_goals first | rfl | (congr 1; omega) | (exfalso; omega)
theorem rot_out (A : Nat → α) (s m e i : Nat) (h1 : s ≤ m) (h2 : m ≤ e) (h : i < s ∨ e ≤ i) : rot A s m e i = A i := by
  unfold rot
  repeat' split
  all_goals first | rfl | (exfalso; omega)
theorem rot_low (A : Nat → α) (s m e : Nat) (h1 : s ≤ m) (h2 : m ≤ e) : ∀ i, i < e - m → rot A s m e (s + i) = A (m + i) := fun i hi => by
  unfold rot
  repeat' split
  all_goals first | (congr 1; omega) | (exfalso; omega)
theorem rot_high (A : Nat → α) (s m e : Nat) (h1 : s ≤ m) (h2 : m ≤ e) : ∀ i, i < m - s → rot A s m e (s + (e - m) + i) = A (s + i) := fun i hi => by
  unfold rot
  repeat' split
  all_goals first | (congr 1; omega) | (exfalso; omega)
theorem keeps_rot (A : Nat → α) {a s m e b : Nat} (h1 : a ≤ s) (h2 : s ≤ m) (h3 : m ≤ e) (h4 : e ≤ b) (h : ∀ i j, s ≤ i → i < m → m ≤ j → j < e → lt (A j) (A i) = true) : Keeps lt (seg A a b) (seg (rot A s m e) a b) := by
  have hx : s + (e - m) + (m - s) = e := by omega
  have e1 : seg (rot A s m e) a s = seg A a s := seg_congr (fun i _ hi => rot_out A s m e i h2 h3 (.inl hi))
  have e4 : seg (rot A s m e) e b = seg A e b := seg_congr (fun i hi _ => rot_out A s m e i h2 h3 (.inr hi))
  have e2 : seg (rot A s m e) s (s + (e - m)) = seg A m e := by
    rw [seg_shift (rot_low A s m e h2 h3), show m + (e - m) = e by omega]
  have e3 : seg (rot A s m e) (s + (e - m)) e = seg A s m := by
    have := seg_shift (rot_high A s m e h2 h3)
    rw [hx, show s + (m - s) = m by omega] at this
    exact this
  rw [seg_add A (show a ≤ s from h1) (show s ≤ b by omega), seg_add A (show s ≤ e by omega) h4, seg_add A h2 h3,
    seg_add (rot A s m e) (show a ≤ s from h1) (show s ≤ b by omega), seg_add (rot A s m e) (show s ≤ e by omega) h4, seg_add (rot A s m e) (show s ≤ s + (e - m) by omega) (show s + (e - m) ≤ e by omega), e1, e2, e3, e4]
  refine (Keeps.refl _).app (Keeps.app (keeps_turn (fun x hx y hy => ?_)) (Keeps.refl _))
  obtain ⟨i, i1, i2, rfl⟩ := mem_seg.1 hx
  obtain ⟨j, j1, j2, rfl⟩ := mem_seg.1 hy
  exact h i j i1 i2 j1 j2

/-- what a merge of [a, b) leaves: it is in order, equals stand as they stood, nothing else is touched. -/
structure Merged (lt : α → α → Bool) (A A' : Nat → α) (a b : Nat) : Prop where
  out : ∀ i, i < a ∨ b ≤ i → A' i = A i
  srt : Srt lt A' a b
  keep : Keeps lt (seg A a b) (seg A' a b)
theorem Merged.same {A : Nat → α} {a b : Nat} (h : Srt lt A a b) : Merged lt A A a b := ⟨fun _ _ => rfl, h, Keeps.refl _⟩
/-- one element ahead of others in order: it is put behind all that are less. -/
theorem merge_first (hS : SWO lt) {A : Nat → α} {a i b : Nat} (hs : Srt lt A (a + 1) b) (h1 : a + 1 ≤ i) (h2 : i ≤ b) (hl : ∀ h, a + 1 ≤ h → h < i → lt (A h) (A a) = true) (hr : ∀ h, i ≤ h → h < b → lt (A h) (A a) = false) :
    Merged lt A (rot A a (a + 1) i) a b := by
  have lo := rot_low A a (a + 1) i (by omega) h1
  have hi := rot_high A a (a + 1) i (by omega) h1 0 (by omega)
  simp only [Nat.add_zero] at hi
  refine ⟨fun k hk => rot_out A a (a + 1) i k (by omega) h1 (by omega), ?_, keeps_rot A (Nat.le_refl _) (by omega) h1 h2 (fun k j k1 k2 j1 j2 => by rw [show k = a by omega]; exact hl j j1 j2)⟩
  refine Srt.join (m := a + (i - (a + 1))) ?_ (Srt.join (m := a + (i - (a + 1)) + 1) (fun x y _ _ _ => by omega) ?_ ?_) ?_
  · exact Srt.shift (c := a + 1) (hs.part (by omega) (by omega)) lo
  · exact (hs.part (c := a + (i - (a + 1)) + 1) (by omega) (Nat.le_refl _)).congr (fun k k1 k2 => rot_out A a (a + 1) i k (by omega) h1 (by omega))
  · intro x y x1 x2 y1 y2
    rw [show x = a + (i - (a + 1)) by omega, hi, rot_out A a (a + 1) i y (by omega) h1 (by omega)]
    exact hr y (by omega) y2
  · intro x y x1 x2 y1 y2
    obtain ⟨x', rfl⟩ := Nat.exists_eq_add_of_le x1
    rw [lo x' (by omega)]
    rcases Nat.eq_or_lt_of_le y1 with rfl | hy
    · rw [hi]
      have := hl (a + 1 + x') (by omega) (by omega)
      cases h : lt (A a) (A (a + 1 + x')) with
      | false => rfl
      | true => have := hS.trans _ _ _ h this; rw [hS.irrefl] at this; cases this
    · rw [rot_out A a (a + 1) i y (by omega) h1 (by omega)]
      exact hs.le hS (by omega) (by omega) y2
/-- one element behind others in order: it is put ahead of all that are greater. -/
theorem merge_last (hS : SWO lt) {A : Nat → α} {a i m : Nat} (hs : Srt lt A a m) (h1 : a ≤ i) (h2 : i ≤ m) (hl : ∀ h, a ≤ h → h < i → lt (A m) (A h) = false) (hr : ∀ h, i ≤ h → h < m → lt (A m) (A h) = true) :
    Merged lt A (rot A i m (m + 1)) a (m + 1) := by
  have lo := rot_low A i m (m + 1) h2 (by omega) 0 (by omega)
  have hi := rot_high A i m (m + 1) h2 (by omega)
  simp only [Nat.add_zero] at lo
  rw [show m + 1 - m = 1 by omega] at hi
  refine ⟨fun k hk => rot_out A i m (m + 1) k h2 (by omega) (by omega), ?_, keeps_rot A h1 h2 (by omega) (Nat.le_refl _) (fun k j k1 k2 j1 j2 => by rw [show j = m by omega]; exact hr k k1 k2)⟩
  refine Srt.join (m := i) ?_ (Srt.join (m := i + 1) (fun x y _ _ _ => by omega) ?_ ?_) ?_
  · exact (hs.part (Nat.le_refl _) h2).congr (fun k k1 k2 => rot_out A i m (m + 1) k h2 (by omega) (by omega))
  · have := Srt.shift (c := i) (n := m - i) (hs.part h1 (by omega)) hi
    rw [show i + 1 + (m - i) = m + 1 by omega] at this
    exact this
  · intro x y x1 x2 y1 y2
    obtain ⟨y', rfl⟩ := Nat.exists_eq_add_of_le y1
    rw [show x = i by omega, lo, hi y' (by omega)]
    have := hr (i + y') (by omega) (by omega)
    cases h : lt (A (i + y')) (A m) with
    | false => rfl
    | true => have := hS.trans _ _ _ h this; rw [hS.irrefl] at this; cases this
  · intro x y x1 x2 y1 y2
    rw [rot_out A i m (m + 1) x h2 (by omega) (.inl x2)]
    rcases Nat.eq_or_lt_of_le y1 with rfl | hy
    · rw [lo]
      exact hl x x1 x2
    · obtain ⟨y', rfl⟩ := Nat.exists_eq_add_of_le (show i + 1 ≤ y by omega)
      rw [hi y' (by omega)]
      exact hs.le hS x1 (by omega) (by omega)
/-- two halves, the first one of which has nothing that is greater than anything of the second one, each merged by itself. -/
theorem merge_halves (hS : SWO lt) {A A1 A2 A3 : Nat → α} {a m b : Nat} (ha : a ≤ m) (hb : m ≤ b) (o1 : ∀ i, i < a ∨ b ≤ i → A1 i = A i) (k1 : Keeps lt (seg A a b) (seg A1 a b)) (h2 : Merged lt A1 A2 a m) (h3 : Merged lt A2 A3 m b)
    (h : ∀ i j, a ≤ i → i < m → m ≤ j → j < b → lt (A1 j) (A1 i) = false) : Merged lt A A3 a b := by
  have e2 : seg A2 m b = seg A1 m b := seg_congr (fun i h1 _ => h2.out i (.inr h1))
  have e3 : seg A3 a m = seg A2 a m := seg_congr (fun i _ h1 => h3.out i (.inl h1))
  have g1 := h2.keep.mem hS
  have g2 := h3.keep.mem hS
  rw [e2] at g2
  refine ⟨fun i hi => (h3.out i (by omega)).trans ((h2.out i (by omega)).trans (o1 i hi)), Srt.join (m := m) (h2.srt.congr (fun i _ hi => h3.out i (.inl hi))) h3.srt ?_, ?_⟩
  · intro i j i1 i2 j1 j2
    have hx : A3 i ∈ seg A1 a m := by
      rw [h3.out i (.inl i2)]
      exact (g1 _).1 (mem_seg.2 ⟨i, i1, i2, rfl⟩)
    have hy : A3 j ∈ seg A1 m b := (g2 _).1 (mem_seg.2 ⟨j, j1, j2, rfl⟩)
    obtain ⟨i', q1, q2, q3⟩ := mem_seg.1 hx
    obtain ⟨j', r1, r2, r3⟩ := mem_seg.1 hy
    rw [← q3, ← r3]
    exact h i' j' q1 q2 r1 r2
  · refine k1.trans ?_
    rw [seg_add A1 ha hb, seg_add A3 ha hb, e3, ← e2]
    exact h2.keep.app h3.keep

/-- what the search for the place to cut has found. -/
structure Cut (lt : α → α → Bool) (A : Nat → α) (a m b mid s : Nat) : Prop where
  below : ∀ c, (if mid < m then mid + m - b else a) ≤ c → c < s → lt (A (mid + m - 1 - c)) (A c) = false
  above : ∀ c, s ≤ c → c < (if mid < m then mid else m) → lt (A (mid + m - 1 - c)) (A c) = true
  lo : (if mid < m then mid + m - b else a) ≤ s
  hi : s ≤ (if mid < m then mid else m)
/-- a cut parts both halves rightly: what is put ahead is less than what it is put ahead of; all else is in order. -/
theorem Cut.fits (hS : SWO lt) {A : Nat → α} {a m b mid s : Nat} (hm : mid = (a + b) / 2) (ha : a < m) (hb : m < b) (h1 : Srt lt A a m) (h2 : Srt lt A m b) (C : Cut lt A a m b mid s) :
    a ≤ s ∧ s ≤ m ∧ s ≤ mid ∧ m ≤ mid + m - s ∧ mid + m - s ≤ b ∧ mid ≤ mid + m - s ∧ (∀ i j, s ≤ i → i < m → m ≤ j → j < mid + m - s → lt (A j) (A i) = true) ∧ (∀ i j, a ≤ i → i < s → mid + m - s ≤ j → j < b → lt (A j) (A i) = false) := by
  obtain ⟨c1, c2, c3, c4⟩ := C
  have q1 : a ≤ s ∧ s ≤ m ∧ s ≤ mid ∧ m ≤ mid + m - s ∧ mid + m - s ≤ b ∧ mid ≤ mid + m - s := by
    by_cases h : mid < m
    · rw [if_pos h] at c3 c4
      omega
    · rw [if_neg h] at c3 c4
      omega
  obtain ⟨q1, q2, q3, q4, q5, q6⟩ := q1
  refine ⟨q1, q2, q3, q4, q5, q6, ?_, ?_⟩
  · intro i j i1 i2 j1 j2
    have hs : s < (if mid < m then mid else m) := by
      by_cases h : mid < m
      · rw [if_pos h] at c4 ⊢; omega
      · rw [if_neg h] at c4 ⊢; omega
    have := c2 s (Nat.le_refl _) hs
    have g1 := h1.le hS q1 i1 i2
    have g2 := h2.le hS (i := j) (j := mid + m - 1 - s) j1 (by omega) (by omega)
    exact lt_le hS (le_lt hS g2 this) g1
  · intro i j i1 i2 j1 j2
    have hs : (if mid < m then mid + m - b else a) ≤ s - 1 := by
      by_cases h : mid < m
      · rw [if_pos h] at c3 ⊢; omega
      · rw [if_neg h] at c3 ⊢; omega
    have := c1 (s - 1) hs (by omega)
    rw [show mid + m - 1 - (s - 1) = mid + m - s by omega] at this
    have g1 := h1.le hS (i := i) (j := s - 1) i1 (by omega) (by omega)
    have g2 := h2.le hS (i := mid + m - s) (j := j) q4 j1 j2
    exact hS.ntrans _ _ _ (hS.ntrans _ _ _ g2 this) g1
/-- how the search goes on. -/
theorem cut_up (hS : SWO lt) {A : Nat → α} {a m b mid c c' : Nat} (hm : mid = (a + b) / 2) (ha : a < m) (hb : m < b) (h1 : Srt lt A a m) (h2 : Srt lt A m b) (hc : c' ≤ c) (hl : (if mid < m then mid + m - b else a) ≤ c') (hr : c < (if mid < m then mid else m))
    (h : lt (A (mid + m - 1 - c)) (A c) = false) : lt (A (mid + m - 1 - c')) (A c') = false := by
  have q : a ≤ c' ∧ c < m ∧ m ≤ mid + m - 1 - c ∧ mid + m - 1 - c' < b := by
    by_cases h : mid < m
    · rw [if_pos h] at hl hr
      omega
    · rw [if_neg h] at hl hr
      omega
  obtain ⟨q1, q2, q3, q4⟩ := q
  have g1 := h1.le hS q1 hc q2
  have g2 := h2.le hS (i := mid + m - 1 - c) (j := mid + m - 1 - c') q3 (by omega) q4
  exact hS.ntrans _ _ _ (hS.ntrans _ _ _ g2 h) g1
theorem cut_down (hS : SWO lt) {A : Nat → α} {a m b mid c c' : Nat} (hm : mid = (a + b) / 2) (ha : a < m) (hb : m < b) (h1 : Srt lt A a m) (h2 : Srt lt A m b) (hc : c' ≤ c) (hl : (if mid < m then mid + m - b else a) ≤ c') (hr : c < (if mid < m then mid else m))
    (h : lt (A (mid + m - 1 - c')) (A c') = true) : lt (A (mid + m - 1 - c)) (A c) = true := by
  cases g : lt (A (mid + m - 1 - c)) (A c) with
  | true => rfl
  | false => rw [cut_up hS hm ha hb h1 h2 hc hl hr g] at h; cases h
/-- the whole merge: cut, turned, and each half merged. -/
theorem merge_cut (hS : SWO lt) {A A2 A3 : Nat → α} {a m b mid s : Nat} (hm : mid = (a + b) / 2) (ha : a < m) (hb : m < b) (h1 : Srt lt A a m) (h2 : Srt lt A m b) (C : Cut lt A a m b mid s)
    (hl : if a < s ∧ s < mid then Merged lt (rot A s m (mid + m - s)) A2 a mid else A2 = rot A s m (mid + m - s))
    (hr : if mid < mid + m - s ∧ mid + m - s < b then Merged lt A2 A3 mid b else A3 = A2) : Merged lt A A3 a b := by
  obtain ⟨q1, q2, q3, q4, q5, q6, q7, q8⟩ := C.fits hS hm ha hb h1 h2
  have lo := rot_low A s m (mid + m - s) q2 q4
  have hi := rot_high A s m (mid + m - s) q2 q4
  rw [show mid + m - s - m = mid - s by omega] at lo hi
  rw [show s + (mid - s) = mid by omega] at hi
  have ot := fun i => rot_out A s m (mid + m - s) i q2 q4
  have s1 : Srt lt (rot A s m (mid + m - s)) s mid := by
    have := Srt.shift (c := m) (n := mid - s) (h2.part (Nat.le_refl _) (by omega)) lo
    rwa [show s + (mid - s) = mid by omega] at this
  have s2 : Srt lt (rot A s m (mid + m - s)) mid (mid + m - s) := by
    have := Srt.shift (c := s) (n := m - s) (h1.part q1 (by omega)) hi
    rwa [show mid + (m - s) = mid + m - s by omega] at this
  have s0 : Srt lt (rot A s m (mid + m - s)) a s := (h1.part (Nat.le_refl _) q2).congr (fun i _ h => ot i (.inl h))
  have s3 : Srt lt (rot A s m (mid + m - s)) (mid + m - s) b := (h2.part q4 (Nat.le_refl _)).congr (fun i h _ => ot i (.inr h))
  have m2 : Merged lt (rot A s m (mid + m - s)) A2 a mid := by
    by_cases h : a < s ∧ s < mid
    · rwa [if_pos h] at hl
    · rw [if_neg h] at hl
      subst hl
      refine Merged.same ?_
      by_cases he : s = a
      · rw [← he]; exact s1
      · have e : s = mid := by omega
        exact e ▸ s0.part (Nat.le_refl _) (Nat.le_of_eq e.symm)
  have m3 : Merged lt A2 A3 mid b := by
    by_cases h : mid < mid + m - s ∧ mid + m - s < b
    · rwa [if_pos h] at hr
    · rw [if_neg h] at hr
      subst hr
      refine Merged.same ?_
      have : Srt lt (rot A s m (mid + m - s)) mid b := by
        by_cases he : mid + m - s = mid
        · rw [he] at s3; rw [he]; exact s3
        · have : mid + m - s = b := by omega
          rw [this] at s2; rw [this]; exact s2
      exact this.congr (fun i h1 _ => m2.out i (.inr h1))
  refine merge_halves hS (by omega) (by omega) (fun i h => ot i (by omega)) (keeps_rot A q1 q2 q4 q5 q7) m2 m3 ?_
  intro i j i1 i2 j1 j2
  rcases Nat.lt_or_ge i s with hi1 | hi1
  · rw [ot i (.inl hi1)]
    rcases Nat.lt_or_ge j (mid + m - s) with hj | hj
    · obtain ⟨j', rfl⟩ := Nat.exists_eq_add_of_le j1
      rw [hi j' (by omega)]
      exact h1.le hS i1 (by omega) (by omega)
    · rw [ot j (.inr hj)]
      exact q8 i j i1 hi1 hj j2
  · obtain ⟨i', rfl⟩ := Nat.exists_eq_add_of_le hi1
    rw [lo i' (by omega)]
    rcases Nat.lt_or_ge j (mid + m - s) with hj | hj
    · obtain ⟨j', rfl⟩ := Nat.exists_eq_add_of_le j1
      rw [hi j' (by omega)]
      have := q7 (s + j') (m + i') (by omega) (by omega) (by omega) (by omega)
      cases h : lt (A (s + j')) (A (m + i')) with
      | false => rfl
      | true => have := hS.trans _ _ _ h this; rw [hS.irrefl] at this; cases this
    · rw [ot j (.inr hj)]
      exact h2.le hS (by omega) (by omega) j2

/-- an array as a row. -/
def row [Inhabited α] (d : Array α) : Nat → α := fun i => d[i]!
theorem row_swp [Inhabited α] (d : Array α) {i j : Nat} (hi : i < d.size) (hj : j < d.size) : row (swp d i j) = fun k => if k = j then row d i else if k = i then row d j else row d k := by
  funext k
  exact swp_get d hi hj k
theorem keeps_next [Inhabited α] (d : Array α) {a b j : Nat} (ha : a ≤ j) (hb : j + 1 < b) (hs : b ≤ d.size) (h : lt d[j + 1]! d[j]! = true) : Keeps lt (seg (row d) a b) (seg (row (swp d (j + 1) j)) a b) := by
  have e : row (swp d (j + 1) j) = rot (row d) j (j + 1) (j + 2) := by
    rw [row_swp d (by omega) (by omega)]
    funext k
    unfold rot
    repeat' split
    all_goals first | rfl | (congr 1; omega) | (exfalso; omega)
  rw [e]
  exact keeps_rot (row d) ha (by omega) (by omega) (by omega) (fun x y x1 x2 y1 y2 => by rw [show x = j by omega, show y = j + 1 by omega]; exact h)
theorem keeps_inner [Inhabited α] (a b : Nat) : ∀ (j : Nat) (d : Array α), a ≤ j → j < b → b ≤ d.size → Keeps lt (seg (row d) a b) (seg (row (insInner lt a j d)) a b)
  | 0, d, _, _, _ => by unfold insInner; exact Keeps.refl _
  | j + 1, d, ha, hb, hs => by
    unfold insInner
    split
    · rename_i hc
      simp only [Bool.and_eq_true, decide_eq_true_eq] at hc
      exact (keeps_next d (by omega) hb hs hc.2).trans (keeps_inner a b j (swp d (j + 1) j) (by omega) (by omega) (by rw [swp_size]; exact hs))
    · exact Keeps.refl _
theorem inner_size [Inhabited α] (a : Nat) : ∀ (j : Nat) (d : Array α), (insInner lt a j d).size = d.size
  | 0, d => by unfold insInner; rfl
  | j + 1, d => by
    unfold insInner
    split
    · rw [inner_size a j, swp_size]
    · rfl
theorem keeps_outer [Inhabited α] (a b : Nat) : ∀ (n i : Nat) (d : Array α), b - i = n → a < i → b ≤ d.size → Keeps lt (seg (row d) a b) (seg (row (insOuter lt a b i d)) a b)
  | 0, i, d, hn, _, _ => by rw [insOuter, if_neg (by omega)]; exact Keeps.refl _
  | n + 1, i, d, hn, ha, hs => by
    rw [insOuter, if_pos (by omega)]
    exact (keeps_inner a b i d (by omega) (by omega) hs).trans (keeps_outer a b n (i + 1) _ (by omega) (by omega) (by rw [inner_size]; exact hs))
/-- what an insertion sort of [a, b) leaves. -/
theorem ins_merged [Inhabited α] (hS : SWO lt) (d : Array α) {a b : Nat} (hab : a ≤ b) (hb : b ≤ d.size) : Merged lt (row d) (row (insertionSort lt d a b)) a b ∧ (insertionSort lt d a b).size = d.size := by
  obtain ⟨⟨h1, h2, _⟩, h3⟩ := insertionSort_holds hS d a b hab hb
  exact ⟨⟨h2, h3, keeps_outer a b _ (a + 1) d rfl (by omega) hb⟩, h1⟩
end Go.Proofs.Ytmebokpgiehgmaa.St

/- What the walk of layer event's law EventOwn stands on: stores into a list of one's own, and what lies apart of it. -/
namespace Go.Proofs.Ytmebokpgiehgmaa.Ev
open Go.ChangeShapes Go.WideShapes Go.ChangeAt Go.RowKit
set_option linter.unusedVariables false
set_option maxRecDepth 4000

/-- all but block g is as it was. -/
structure Apart (g : Nat) (w W : World) : Prop where
  os : W.os = w.os
  tape : W.tape = w.tape
  output : W.output = w.output
  size : W.heap.size = w.heap.size
  block : ∀ k, k ≠ g → W.heap[k]? = w.heap[k]?
theorem Apart.refl (g : Nat) (w : World) : Apart g w w := ⟨rfl, rfl, rfl, rfl, fun _ _ => rfl⟩
theorem Apart.drewN {g : Nat} {w W : World} (h : Apart g w W) (m : Nat) : Apart g w (W.drewN m) := ⟨h.os, h.tape, h.output, h.size, h.block⟩
theorem Apart.setCell {g : Nat} {w W : World} (h : Apart g w W) {a : Addr} (ha : a.block = g) (v : Value) : Apart g w (W.setCell a v) :=
  ⟨h.os, h.tape, h.output, (World.size_setCell _ _ _).trans h.size, fun k hk => (Below.heap_setCell W a v k (by rw [ha]; exact hk)).trans (h.block k hk)⟩
theorem Apart.below {g B : Nat} {w W : World} (h : Apart g w W) (hB : B ≤ g) : Below B w W := ⟨h.os, h.tape, h.output, by rw [h.size]; exact Nat.le_refl _, fun k hk => h.block k (by omega)⟩
theorem Apart.cell {g : Nat} {w W : World} (h : Apart g w W) {a : Addr} (ha : a.block ≠ g) : W.cell? a = w.cell? a := World.cell?_of_block (w := w) (h.block _ ha)
theorem Apart.frozen {g : Nat} {w W : World} (h : Apart g w W) {a : Addr} (ha : a.block ≠ g) : W.frozen? a = w.frozen? a := World.frozen?_of_block (w := w) (h.block _ ha)
theorem CellsAt.apart {g : Nat} {w W : World} {a : Addr} {p : EV} (h : CellsAt w a p) (hb : Apart g w W) (ha : a.block ≠ g) : CellsAt W a p :=
  ⟨(hb.cell ha).trans h.c0, (hb.cell (a := ⟨a.block, a.off + 1, none⟩) ha).trans h.c1, (hb.cell (a := ⟨a.block, a.off + 2, none⟩) ha).trans h.c2, (hb.cell (a := ⟨a.block, a.off + 3, none⟩) ha).trans h.c3, (hb.cell (a := ⟨a.block, a.off + 4, none⟩) ha).trans h.c4, (hb.cell (a := ⟨a.block, a.off + 5, none⟩) ha).trans h.c5, (hb.cell (a := ⟨a.block, a.off + 6, none⟩) ha).trans h.c6⟩
/-- a list's block is not g. -/
def Off (g : Nat) (A : Option Addr) (n : Nat) : Prop := ∀ ad : Addr, A = some ad → 0 < n → ad.block ≠ g
theorem DotsAt.apart {g B : Nat} {w W : World} {A : Option Addr} {l : List Dt.Dot} {n c : Nat} (h : DotsAt w B A l n c) (hb : Apart g w W) (ha : Off g A n) : DotsAt W B A l n c := by
  refine ⟨h.len, h.nil, h.cap, h.max, h.wide, h.dots.1, fun hl => ?_⟩
  obtain ⟨ad, e, hB, hc⟩ := h.dots.2 hl
  have h0 : 0 < n := by rw [Dt.dv_length, h.len] at hl; omega
  exact ⟨ad, e, hB, fun j u hu => (hb.cell (by rw [block_add]; exact ha ad e h0)).trans (hc j u hu)⟩
theorem Free.apart {g B : Nat} {w W : World} {A : Option Addr} {n : Nat} (h : Free w B A n) (hb : Apart g w W) (ha : Off g A n) : Free W B A n := fun j hj => by
  obtain ⟨ad, e, h1, h2, h3⟩ := h j hj
  exact ⟨ad, e, h1, (hb.frozen (by rw [block_add]; exact ha ad e (by omega))).trans h2, (hb.frozen (by rw [block_add]; exact ha ad e (by omega))).trans h3⟩
theorem Free.kept {B : Nat} {w W : World} {A : Option Addr} {l : List Dt.Dot} {n c : Nat} (h : Free w B A n) (hd : DotsAt w w.heap.size A l n c) (hb : Below w.heap.size w W) : Free W B A n := fun j hj => by
  obtain ⟨ad, e, h1, h2, h3⟩ := h j hj
  obtain ⟨ad', e', hB, _⟩ := hd.dots.2 (by rw [Dt.dv_length, hd.len]; omega)
  obtain rfl : ad = ad' := by rw [e] at e'; exact Option.some.inj e'
  exact ⟨ad, e, h1, (hb.frozen (by rw [block_add]; exact hB)).trans h2, (hb.frozen (by rw [block_add]; exact hB)).trans h3⟩

theorem lies_cells {W : World} {B : Nat} {ad : Addr} {m : List Dt.Dot} (hb : ad.block < B) (h : ∀ (k : Nat) (x : Dt.Dot), m[k]? = some x → W.cell? (ad.add (k * 2)) = some (.int .u16 (x.1 : Int)) ∧ W.cell? (ad.add (k * 2 + 1)) = some (.int .u64 (x.2 : Int))) : Dt.Lies W B (some ad) (Dt.dv m) := fun _ => by
  refine ⟨ad, rfl, hb, fun j u hu => ?_⟩
  have hj := (List.getElem?_eq_some_iff.1 hu).1
  rw [Dt.dv_length] at hj
  have hd : j / 2 < m.length := by omega
  have hg := List.getElem?_eq_getElem hd
  obtain ⟨g1, g2⟩ := Dt.dv_get hg
  obtain ⟨c1, c2⟩ := h _ _ hg
  rcases Nat.mod_two_eq_zero_or_one j with h0 | h0
  · have e : j = j / 2 * 2 := by omega
    rw [← e] at g1 c1
    rw [g1] at hu
    cases hu
    exact c1
  · have e : j = j / 2 * 2 + 1 := by omega
    rw [← e] at g2 c2
    rw [g2] at hu
    cases hu
    exact c2
theorem DotsAt.get {w : World} {B n c : Nat} {ad : Addr} {m : List Dt.Dot} (h : DotsAt w B (some ad) m n c) {k : Nat} {x : Dt.Dot} (hx : m[k]? = some x) :
    ad.block < B ∧ x.1 < 65536 ∧ x.2 < 18446744073709551616 ∧ w.cell? (ad.add (k * 2)) = some (.int .u16 (x.1 : Int)) ∧ w.cell? (ad.add (k * 2 + 1)) = some (.int .u64 (x.2 : Int)) := by
  have hk := (List.getElem?_eq_some_iff.1 hx).1
  obtain ⟨ad1, e1, hB, _⟩ := h.dots.2 (by rw [Dt.dv_length]; omega)
  obtain ⟨ad2, lo, hi, e2, hl, h1, h2, c1, c2⟩ := h.dots.at_ hk
  cases e1
  cases e2
  rw [hx] at hl
  cases hl
  exact ⟨hB, h1, h2, c1, c2⟩
theorem add_off (a : Addr) (n : Nat) : (a.add n).off = a.off + n := by
  unfold Addr.add
  split
  · subst_vars; rfl
  · rfl
theorem add_ne {a : Addr} {m n : Nat} (h : m ≠ n) : a.add m ≠ a.add n := fun e => by
  have := congrArg Addr.off e
  rw [add_off, add_off] at this
  omega
/-- a dot's number is another. -/
theorem DotsAt.num {w : World} {B n c k : Nat} {ad : Addr} {m : List Dt.Dot} {x : Dt.Dot} {z : Nat} (h : DotsAt w B (some ad) m n c) (hx : m[k]? = some x) (hz : z < 18446744073709551616) :
    DotsAt (w.setCell (ad.add (k * 2 + 1)) (.int .u64 (z : Int))) B (some ad) (m.set k (x.1, z)) n c := by
  obtain ⟨hB, h1, h2, d1, d2⟩ := h.get hx
  have hk := (List.getElem?_eq_some_iff.1 hx).1
  refine ⟨by rw [List.length_set]; exact h.len, h.nil, h.cap, h.max, h.wide, fun y hy => ?_, lies_cells hB fun i y hi => ?_⟩
  · rcases List.mem_or_eq_of_mem_set hy with hy | rfl
    · exact h.dots.1 y hy
    · exact ⟨h1, hz⟩
  · rw [List.getElem?_set] at hi
    by_cases e : k = i
    · subst e
      rw [if_pos rfl, if_pos hk] at hi
      cases hi
      exact ⟨(World.cell?_setCell_other _ _ _ _ (add_ne (by omega))).trans d1, World.cell?_setCell_same _ _ _ d2⟩
    · rw [if_neg e] at hi
      obtain ⟨_, _, _, e1, e2⟩ := h.get hi
      exact ⟨(World.cell?_setCell_other _ _ _ _ (add_ne (by omega))).trans e1, (World.cell?_setCell_other _ _ _ _ (add_ne (by omega))).trans e2⟩
/-- a dot's device is another. -/
theorem DotsAt.dev {w : World} {B n c k : Nat} {ad : Addr} {m : List Dt.Dot} {x : Dt.Dot} {z : Nat} (h : DotsAt w B (some ad) m n c) (hx : m[k]? = some x) (hz : z < 65536) :
    DotsAt (w.setCell (ad.add (k * 2)) (.int .u16 (z : Int))) B (some ad) (m.set k (z, x.2)) n c := by
  obtain ⟨hB, h1, h2, d1, d2⟩ := h.get hx
  have hk := (List.getElem?_eq_some_iff.1 hx).1
  refine ⟨by rw [List.length_set]; exact h.len, h.nil, h.cap, h.max, h.wide, fun y hy => ?_, lies_cells hB fun i y hi => ?_⟩
  · rcases List.mem_or_eq_of_mem_set hy with hy | rfl
    · exact h.dots.1 y hy
    · exact ⟨hz, h2⟩
  · rw [List.getElem?_set] at hi
    by_cases e : k = i
    · subst e
      rw [if_pos rfl, if_pos hk] at hi
      cases hi
      exact ⟨World.cell?_setCell_same _ _ _ d1, (World.cell?_setCell_other _ _ _ _ (add_ne (by omega))).trans d2⟩
    · rw [if_neg e] at hi
      obtain ⟨_, _, _, e1, e2⟩ := h.get hi
      exact ⟨(World.cell?_setCell_other _ _ _ _ (add_ne (by omega))).trans e1, (World.cell?_setCell_other _ _ _ _ (add_ne (by omega))).trans e2⟩
theorem Free.set {w : World} {B n : Nat} {A : Option Addr} (h : Free w B A n) (a : Addr) (v : Value) : Free (w.setCell a v) B A n := fun j hj => by
  obtain ⟨ad, e, h1, h2, h3⟩ := h j hj
  exact ⟨ad, e, h1, by rw [World.frozen?_setCell]; exact h2, by rw [World.frozen?_setCell]; exact h3⟩
theorem sort_one (x : Evt) : sortE [x] = [x] := by
  unfold sortE
  simp [putE, stE]
theorem out_new (w : World) : (w.alloc (.cells #[] 26)).ownsRow w.heap.size 26 2 (.slice (some ⟨w.heap.size, 0, none⟩) 0 0) 0 (Dt.dv []) := World.ownsRow_lit w #[] 0 (Nat.le_refl _) (by simp [maxLen]) rfl
/-- a copy of a list of dots, by an append to a new one. -/
theorem wpList_out {ops : Array Oper} {rest : List Oper} {o : Oper} {a : Act} {Q : Exit → Act → World → Prop} (hgd : o.guard = none) (s x : Operand) (ho : o.op = .call { callee := .builtin .append, args := #[s, x], argTypes := #[30, 30] }) (hty : o.type = 30)
    (w : World) (B g : Nat) (A : Option Addr) (m : List Dt.Dot) (n c : Nat) (hs : a.eval s = .slice (some ⟨g, 0, none⟩) 0 0) (hx : a.eval x = .slice A n c) (hw : w.ownsRow B 26 2 (.slice (some ⟨g, 0, none⟩) 0 0) 0 (Dt.dv [])) (hd : DotsAt w w.heap.size A m n c) (hB : B ≤ w.heap.size)
    (hK : ∀ A' c' w', w'.ownsRow B 26 2 (.slice A' n c') n (Dt.dv m) → w.grownBy w' (some g) → wpList Try.prog ops Q rest (a.put o.dst (.slice A' n c')) w') : wpList Try.prog ops Q (o :: rest) a w := by
  refine Dt.wpList_any hgd s x ho hty w B 0 _ [] A m n c hs hx hw hd.nil hd.dots.2 hd.len (by have := hd.wide; omega) hB fun A' c' w' h1 h2 => ?_
  rw [Nat.zero_add] at h1 ⊢
  exact hK A' c' w' h1 h2
/-- the copy that the law keeps. -/
theorem own_was {w w1 : World} {p : EV} {x : Evt} {A1 : Option Addr} {c1 : Nat} (hp : EventIs w w.heap.size p x)
    (ho : w1.ownsRow (w.heap.size + 1 + 1) 26 2 (.slice A1 p.len c1) p.len (Dt.dv x.kills)) (hg : (((w.alloc p.box).alloc p.box).alloc (.cells #[] 26)).grownBy w1 (some (w.heap.size + 1 + 1))) :
    w1.frozen? ⟨w.heap.size + 1, 6, none⟩ = false ∧ w1.cell? ⟨w.heap.size + 1, 6, none⟩ = some (.slice p.adr p.len p.cap) ∧ CellsAt (w1.setCell ⟨w.heap.size + 1, 6, none⟩ (.slice A1 p.len c1)) ⟨w.heap.size, 0, none⟩ p ∧
      CellsAt (w1.setCell ⟨w.heap.size + 1, 6, none⟩ (.slice A1 p.len c1)) ⟨w.heap.size + 1, 0, none⟩ ⟨p.dev, p.num, p.kind, p.cid, p.fld, p.txt, A1, p.len, c1⟩ ∧ EventIs (w1.setCell ⟨w.heap.size + 1, 6, none⟩ (.slice A1 p.len c1)) (w1.setCell ⟨w.heap.size + 1, 6, none⟩ (.slice A1 p.len c1)).heap.size ⟨p.dev, p.num, p.kind, p.cid, p.fld, p.txt, A1, p.len, c1⟩ x ∧
      Below w.heap.size w (w1.setCell ⟨w.heap.size + 1, 6, none⟩ (.slice A1 p.len c1)) := by
  have hb : Below (w.heap.size + 1 + 1) (((w.alloc p.box).alloc p.box).alloc (.cells #[] 26)) w1 := (Below.refl _ _).grown hg (by simp) (fun k e => by cases e; exact Nat.le_refl _)
  have h1 : Below (w.heap.size + 1) (w.alloc p.box) w1 := (by have h := below_new2 (w.alloc p.box) p.box (.cells #[] 26); rw [alloc_size] at h; exact h.trans (hb.mono (by omega)))
  have h2 : Below (w.heap.size + 1 + 1) ((w.alloc p.box).alloc p.box) w1 := (by have h := below_new ((w.alloc p.box).alloc p.box) (.cells #[] 26); rw [alloc_size, alloc_size] at h; exact h.trans hb)
  have e1 := box_new w p w1 h1
  have e2 := box_new (w.alloc p.box) p w1 (by rw [alloc_size]; exact h2)
  rw [alloc_size] at e2
  have h3 : Below w.heap.size w w1 := (below_new w p.box).trans (h1.mono (by omega))
  have h4 : Below w.heap.size w (w1.setCell ⟨w.heap.size + 1, 6, none⟩ (.slice A1 p.len c1)) := h3.setCell (by show _ ≤ w.heap.size + 1; omega) _
  have h5 := ownsRow_setCell_below ho (a := ⟨w.heap.size + 1, 6, none⟩) (by show w.heap.size + 1 < _; omega) (.slice A1 p.len c1)
  obtain ⟨k1, k2, k3⟩ := Dt.own_len h5
  obtain ⟨a0, a1, a2, a3, a4, a5, a6⟩ := e2.all
  have ot : ∀ {k : Nat} {v : Value}, k ≠ 6 → w1.cell? ⟨w.heap.size + 1, k, none⟩ = some v → (w1.setCell ⟨w.heap.size + 1, 6, none⟩ (.slice A1 p.len c1)).cell? ⟨w.heap.size + 1, k, none⟩ = some v := fun {k v} hk h => (World.cell?_setCell_other _ _ _ _ (fun e => hk (by cases e; rfl))).trans h
  refine ⟨?_, a6, e1.apart ((Apart.refl (w.heap.size + 1) w1).setCell rfl _) (by show w.heap.size ≠ _; omega), ⟨ot (k := 0) (by decide) a0, ?_, ?_, ?_, ?_, ?_, ?_⟩, ⟨hp.dev, hp.num, hp.kind, hp.cid, hp.fld, hp.txt, hp.fits, ⟨hp.kills.len, k3, k1, k2, hp.kills.wide, Dt.dots_own h5 hp.kills.dots.1⟩⟩, h4⟩
  · rw [h2.frozen (by show w.heap.size + 1 < _; omega)]
    first | (simp [go_sem]; done) | (simp [World.frozen?, World.alloc_eq]; done) | (rw [frozen?_alloc_cells, frozen?_alloc_cells]; simp [World.frozen?])
  · exact ot (k := 1) (by decide) a1
  · exact ot (k := 2) (by decide) a2
  · exact ot (k := 3) (by decide) a3
  · exact ot (k := 4) (by decide) a4
  · exact ot (k := 5) (by decide) a5
  · exact World.cell?_setCell_same _ _ _ a6
/-- a list of one's own lies in one block. -/
theorem own_block {w : World} {B n c V : Nat} {A : Option Addr} {l : List Dt.Dot} (hd : DotsAt w w.heap.size A l n c) (hf : Free w B A n) (hV : w.heap.size ≤ V) (hB : B ≤ V) :
    ∃ g, (∀ ad : Addr, A = some ad → 0 < n → ad.block = g) ∧ B ≤ g ∧ ((g < w.heap.size ∧ 0 < n) ∨ g = V) := by
  by_cases h0 : 0 < n
  · obtain ⟨ad, e, h1, _, _⟩ := hf 0 h0
    obtain ⟨ad', e', hB', _⟩ := hd.dots.2 (by rw [Dt.dv_length, hd.len]; omega)
    rw [e] at e'
    cases e'
    exact ⟨ad.block, fun b hb _ => by rw [e] at hb; cases hb; rfl, h1, .inl ⟨hB', h0⟩⟩
  · exact ⟨V, fun _ _ h => absurd h h0, hB, .inr rfl⟩
theorem off_below {w : World} {g B n c : Nat} {A : Option Addr} {l : List Dt.Dot} (hd : DotsAt w B A l n c) (hB : B ≤ g) : Off g A n := fun ad e h0 => by
  obtain ⟨ad', e', hB', _⟩ := hd.dots.2 (by rw [Dt.dv_length, hd.len]; omega)
  rw [e] at e'
  cases e'
  omega
theorem off_above {w : World} {g B n : Nat} {A : Option Addr} (hf : Free w B A n) (hB : g < B) : Off g A n := fun ad e h0 => by
  obtain ⟨ad', e', h1, _, _⟩ := hf 0 h0
  rw [e] at e'
  cases e'
  omega
theorem Free.less {w : World} {B B' n : Nat} {A : Option Addr} (h : Free w B A n) (hB : B' ≤ B) : Free w B' A n := fun j hj => by
  obtain ⟨ad, e, h1, h2, h3⟩ := h j hj
  exact ⟨ad, e, Nat.le_trans hB h1, h2, h3⟩
/-- what holds at each round's head of a loop that turns a list of dots of one's own. -/
def TurnL (g : Nat) (w0 : World) (A : Option Addr) (n c : Nat) (i : Value) (W : World) : Prop :=
  ∃ (k : Nat) (m : List Dt.Dot), k ≤ n ∧ i = .int .i64 (k : Int) ∧ Apart g w0 W ∧ DotsAt W w0.heap.size A m n c ∧ Free W 0 A n
theorem turn_start {g n c B : Nat} {w0 : World} {A : Option Addr} {m : List Dt.Dot} (hd : DotsAt w0 w0.heap.size A m n c) (hf : Free w0 B A n) : TurnL g w0 A n c (.int .i64 0) w0 :=
  ⟨0, m, Nat.zero_le _, rfl, Apart.refl _ _, hd, hf.less (Nat.zero_le _)⟩
theorem turn_num {g n c k z : Nat} {w0 wr : World} {ad : Addr} {m : List Dt.Dot} {y : Dt.Dot} (hk : k < n) (hg : ad.block = g) (h : Apart g w0 wr) (hd : DotsAt wr w0.heap.size (some ad) m n c) (hf : Free wr 0 (some ad) n) (hy : m[k]? = some y) (hz : z < 18446744073709551616) :
    TurnL g w0 (some ad) n c (.int .i64 ((k : Int) + 1)) (wr.setCell ⟨(ad.add (k * 2)).block, (ad.add (k * 2)).off + 1, none⟩ (.int .u64 (z : Int))) :=
  ⟨k + 1, m.set k (y.1, z), hk, by go_num, h.setCell (a := ⟨(ad.add (k * 2)).block, (ad.add (k * 2)).off + 1, none⟩) ((block_add ad (k * 2)).trans hg) _, by rw [add_eq _ _ _ (by decide)]; exact hd.num hy hz, hf.set _ _⟩
theorem turn_dev {g n c k z : Nat} {w0 wr : World} {ad : Addr} {m : List Dt.Dot} {y : Dt.Dot} (hk : k < n) (hg : ad.block = g) (h : Apart g w0 wr) (hd : DotsAt wr w0.heap.size (some ad) m n c) (hf : Free wr 0 (some ad) n) (hy : m[k]? = some y) (hz : z < 65536) :
    TurnL g w0 (some ad) n c (.int .i64 ((k : Int) + 1)) (wr.setCell (ad.add (k * 2)) (.int .u16 (z : Int))) :=
  ⟨k + 1, m.set k (z, y.2), hk, by go_num, h.setCell ((block_add _ _).trans hg) _, hd.dev hy hz, hf.set _ _⟩
/-- what a round reads and where it stores. -/
theorem turn_at {n c k : Nat} {B : Nat} {wr : World} {A : Option Addr} {m : List Dt.Dot} (hk : k < n) (hd : DotsAt wr B A m n c) (hf : Free wr 0 A n) :
    ∃ (ad : Addr) (y1 y2 : Nat), A = some ad ∧ m[k]? = some (y1, y2) ∧ y1 < 65536 ∧ y2 < 18446744073709551616 ∧ wr.cell? (ad.add (k * 2)) = some (.int .u16 (y1 : Int)) ∧ wr.cell? ⟨(ad.add (k * 2)).block, (ad.add (k * 2)).off + 1, none⟩ = some (.int .u64 (y2 : Int)) ∧
      wr.frozen? (ad.add (k * 2)) = false ∧ wr.frozen? ⟨(ad.add (k * 2)).block, (ad.add (k * 2)).off + 1, none⟩ = false := by
  obtain ⟨ad, rfl, _, f1, f2⟩ := hf k hk
  have hkm : k < m.length := by rw [hd.len]; exact hk
  have hy := List.getElem?_eq_getElem hkm
  obtain ⟨_, h1, h2, c1, c2⟩ := hd.get hy
  refine ⟨ad, m[k].1, m[k].2, rfl, hy, h1, h2, c1, ?_, f1, ?_⟩
  · rw [add_eq _ _ _ (by decide)]; exact c2
  · rw [add_eq _ _ _ (by decide)]; exact f2
end Go.Proofs.Ytmebokpgiehgmaa.Ev

/- Maps from dots to bools: which dots such a map holds. -/
namespace Go.Proofs.Ytmebokpgiehgmaa.Kl
open Go.ChangeShapes Go.WideShapes Go.ChangeAt Go.RowKit Go.Maps
set_option linter.unusedVariables false
set_option maxRecDepth 4000

theorem laidOutP : laidOutB Try.prog = true := by kernel_rfl
theorem rowDot : (26 : TypeId) < Try.prog.types.size := of_decide_eq_true (by kernel_rfl)
theorem keyTypeDot : Try.prog.keyType 26 = true := by kernel_rfl
theorem lawD : Keyed Try.prog 26 := Keyed.of_law (deep_law_laid laidOutP (m := 2) (by omega) rowDot (by kernel_rfl) (by kernel_rfl))
/-- a dot as a value, and as a key. -/
def dval (d : Dt.Dot) : Value := .agg #[.int .u16 (d.1 : Int), .int .u64 (d.2 : Int)]
def keyD (d : Dt.Dot) : Lit := .string (keyBytes [.int .u16 (d.1 : Int), .int .u64 (d.2 : Int)])
theorem wf16' {d : Nat} (h : d < 65536) : (Lit.int .u16 (d : Int)).wf = true := by
  simp [Lit.wf, IntKind.min, IntKind.max, IntKind.bits, IntKind.signed]; omega
theorem wf64' {n : Nat} (h : n < 18446744073709551616) : (Lit.int .u64 (n : Int)).wf = true := by
  simp [Lit.wf, IntKind.min, IntKind.max, IntKind.bits, IntKind.signed]; omega
theorem sizeTypes : ∃ m, Try.prog.types.size = m + 1 := ⟨_, (by kernel_rfl : Try.prog.types.size = (Try.prog.types.size - 1) + 1)⟩
theorem lits16 (m : Nat) {d : Nat} (h : d < 65536) : Try.prog.keyLits (m + 1) 24 [.int .u16 (d : Int)] = some [.int .u16 (d : Int)] := by
  unfold Program.keyLits
  simp only [Try.underlying24, wf16' h, and_self, if_true]
theorem lits64 (m : Nat) {d : Nat} (h : d < 18446744073709551616) : Try.prog.keyLits (m + 1) 23 [.int .u64 (d : Int)] = some [.int .u64 (d : Int)] := by
  unfold Program.keyLits
  simp only [Try.underlying23, wf64' h, and_self, if_true]
theorem cellsDot : Try.prog.cellsOf 26 = 2 := by kernel_rfl
theorem cells16 : Try.prog.cellsOf 24 = 1 := by kernel_rfl
theorem cells64 : Try.prog.cellsOf 23 = 1 := by kernel_rfl
theorem litsDot (m : Nat) {d : Dt.Dot} (h : d.1 < 65536 ∧ d.2 < 18446744073709551616) : Try.prog.keyLits (m + 1 + 1) 26 [.int .u16 (d.1 : Int), .int .u64 (d.2 : Int)] = some [.int .u16 (d.1 : Int), .int .u64 (d.2 : Int)] := by
  have h1 := lits16 m h.1
  have h2 := lits64 m h.2
  unfold Program.keyLits
  simp only [Try.underlying26, cellsDot]
  simp [cells16, cells64, h1, h2]
theorem formedDot (d : Dt.Dot) : (dval d).formed Try.prog 26 = true := by
  unfold dval Value.formed
  simp only [Try.underlying26, cellsDot]
  rfl
theorem keyD_is {d : Dt.Dot} (h : d.1 < 65536 ∧ d.2 < 18446744073709551616) : keyOf Try.prog 26 (dval d) = some (keyD d) := by
  obtain ⟨m, hm⟩ := sizeTypes
  have h1 := litsDot m h
  rw [← hm] at h1
  unfold keyOf
  simp only [Try.underlying26]
  rw [if_pos (by rw [keyTypeDot, formedDot]; rfl), show (dval d).cells.toList = [.int .u16 (d.1 : Int), .int .u64 (d.2 : Int)] from rfl, h1]
  rfl
theorem keyD_lit (d : Dt.Dot) : WideAt.IsKeyLit (keyD d) := trivial
theorem keyD_inj {d e : Dt.Dot} (hd : d.1 < 65536 ∧ d.2 < 18446744073709551616) (he : e.1 < 65536 ∧ e.2 < 18446744073709551616) (h : keyD d = keyD e) : d = e := by
  have h1 := lawD.inj (keyD_is hd) (by rw [h]; exact keyD_is he)
  obtain ⟨a, b⟩ := d
  obtain ⟨a', b'⟩ := e
  simp only [dval, Value.agg.injEq] at h1
  injection h1 with h1
  simp only [List.cons.injEq, Value.int.injEq, true_and, and_true] at h1
  obtain ⟨h2, h3⟩ := h1
  have : a = a' := by omega
  have : b = b' := by omega
  subst_vars
  rfl
abbrev boolL (b : Bool) : DataW Unit := .lit (.bool b)
theorem zeroB (w : World) : (zeroValue 4).run Try.prog w = .ok (.bool false) w := by kernel_rfl
theorem elem_inv {v : Value} {z : DataW Unit × List MemPlace} (h : plainElem Try.prog 4 v = some z) : ∃ b, v = .bool b ∧ z = (boolL b, []) := by
  unfold plainElem at h
  rw [Try.underlying4] at h
  cases v <;> simp at h
  exact ⟨_, rfl, h.symm⟩
/-- the map says of each dot what s says. -/
def HoldsD (D : DataW Unit) (s : Dt.Dot → Bool) : Prop := ∀ d : Dt.Dot, d.1 < 65536 ∧ d.2 < 18446744073709551616 → D.atKey (keyD d) (boolL false) = boolL (s d)
/-- block b is a map of at most n entries that says of each dot what s says. -/
def MapD (w : World) (b n : Nat) (s : Dt.Dot → Bool) : Prop := ∃ D : DataW Unit, w.ownsMap Try.prog 26 (plainElem Try.prog 4) b n D ∧ HoldsD D s
theorem MapD.lt {w : World} {b n : Nat} {s : Dt.Dot → Bool} (h : MapD w b n s) : b < w.heap.size := by
  obtain ⟨D, h1, _⟩ := h
  exact h1.lt
theorem MapD.up {w W : World} {b n : Nat} {s : Dt.Dot → Bool} (h : MapD w b n s) (hW : Below w.heap.size w W) : MapD W b n s := by
  have hlt := h.lt
  obtain ⟨D, ⟨es, clock, h1, h2⟩, h3⟩ := h
  exact ⟨D, ⟨es, clock, (hW.block b hlt).trans h1, h2⟩, h3⟩
theorem MapD.kept {w W : World} {b n : Nat} {s : Dt.Dot → Bool} {row : Option Nat} (h : MapD w b n s) (hg : w.grownBy W row) (hne : some b ≠ row) : MapD W b n s := by
  obtain ⟨D, h1, h2⟩ := h
  exact ⟨D, h1.kept hg hne, h2⟩
theorem mapD_new (w : World) : MapD (w.alloc (.map #[] 0)) w.heap.size 0 (fun _ => false) := ⟨.map [], World.ownsMap_made _ _ _ _, fun _ _ => rfl⟩
/-- a look-up. -/
theorem MapD.look {w : World} {b n : Nat} {s : Dt.Dot → Bool} (h : MapD w b n s) {d : Dt.Dot} (hd : d.1 < 65536 ∧ d.2 < 18446744073709551616) : (Instr.lookup 51 (.map (some b)) (.agg #[.int .u16 (d.1 : Int), .int .u64 (d.2 : Int)]) false).run Try.prog w = .ok (.bool (s d)) w := by
  obtain ⟨D, h1, h2⟩ := h
  obtain ⟨v, ps, hrun, hv⟩ := h1.lookup lawD Try.underlying51 (zeroB _) (plainElem_bool Try.underlying4 false) (keyD_is hd)
  rw [h2 d hd] at hv
  obtain ⟨c, rfl, hc⟩ := elem_inv hv
  have e : boolL (s d) = boolL c := congrArg Prod.fst hc
  injection e with e
  injection e with e
  rw [e]
  exact hrun
/-- a store of true. -/
theorem wpList_putD {ops : Array Oper} {rest : List Oper} {o : Oper} {a : Act} {w : World} {Q : Exit → Act → World → Prop} (hg : o.guard = none) (m x v : Operand) (hop : o.op = Op.mapUpdate 51 m x v)
    (b n : Nat) (s : Dt.Dot → Bool) (d : Dt.Dot) (hm : a.eval m = .map (some b)) (h : MapD w b n s) (hn : n ≤ 8796093022208) (hd : d.1 < 65536 ∧ d.2 < 18446744073709551616) (hx : a.eval x = .agg #[.int .u16 (d.1 : Int), .int .u64 (d.2 : Int)]) (hv : a.eval v = .bool true)
    (hK : ∀ w', MapD w' b (n + 1) (fun e => decide (e = d) || s e) → w.grownBy w' (some b) → wpList Try.prog ops Q rest (a.put o.dst undef) w') : wpList Try.prog ops Q (o :: rest) a w := by
  obtain ⟨D, h1, h2⟩ := h
  exact wpList_mapUpdate_own w hg m x v 51 hop 26 4 lawD Try.underlying51 _ b n D hm h1 (by unfold maxLen; omega) _ _ _ hx hv (keyD_is hd) (boolL true) [] (plainElem_bool Try.underlying4 true) fun w' h4 h5 =>
    hK w' ⟨_, h4, fun e he => by
      by_cases hed : e = d
      · subst hed
        rw [Maps.atKey_put_same h1.isMap (keyD_lit _)]
        simp
      · rw [Maps.atKey_put_other (fun h => hed (keyD_inj he hd h)), h2 e he]
        simp [hed]⟩ h5
end Go.Proofs.Ytmebokpgiehgmaa.Kl
