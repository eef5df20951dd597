/- Words and contracts that the proofs of this seat stand on, part 24 of 39. -/
import Derived.Sort.LotA
import Derived.Test.YtgaegfddobpomaaGreatOrB
import Derived.Shelf.SlSortCmp.KitK

namespace Go.Proofs.YtgaegfddobpomaaGreat.St
open Go.Sort
set_option linter.unusedVariables false
set_option maxRecDepth 4000
variable {α : Type}
def seg (A : Nat → α) (a b : Nat) : List α := (List.range' a (b - a)).map A
theorem seg_nil (A : Nat → α) {a b : Nat} (h : b ≤ a) : seg A a b = [] := by
 unfold seg
 rw [Nat.sub_eq_zero_of_le h]; rfl
theorem seg_add (A : Nat → α) {a m b : Nat} (h1 : a ≤ m) (h2 : m ≤ b) : seg A a b = seg A a m ++ seg A m b := by
 unfold seg
 rw [← List.map_append]
 congr 1
 have e := List.range'_append (s := a) (m := m - a) (n := b - m) (step := 1)
 rw [Nat.one_mul, show a + (m - a) = m by omega, show m - a + (b - m) = b - a by omega] at e
 exact e.symm
theorem seg_shift {A A' : Nat → α} {a c n : Nat} (h : ∀ i, i < n → A' (a + i) = A (c + i)) : seg A' a (a + n) = seg A c (c + n) := by
 unfold seg
 rw [Nat.add_sub_cancel_left, Nat.add_sub_cancel_left]
 refine List.ext_getElem (by simp) (fun i h1 h2 => ?_)
 simp only [List.getElem_map, List.getElem_range', Nat.one_mul]
 exact h i (by simpa using h1)
theorem seg_congr {A A' : Nat → α} {a b : Nat} (h : ∀ i, a ≤ i → i < b → A' i = A i) : seg A' a b = seg A a b := by
 rcases Nat.le_total b a with hb | hb
 · rw [seg_nil _ hb, seg_nil _ hb]
 · obtain ⟨n, rfl⟩ := Nat.exists_eq_add_of_le hb
   exact seg_shift (fun i hi => h (a + i) (by omega) (by omega))
theorem mem_seg {A : Nat → α} {a b : Nat} {x : α} : x ∈ seg A a b ↔ ∃ i, a ≤ i ∧ i < b ∧ A i = x := by
 unfold seg
 simp only [List.mem_map, List.mem_range'_1]
 constructor
 · rintro ⟨i, ⟨h1, h2⟩, h3⟩
   exact ⟨i, h1, by omega, h3⟩
 · rintro ⟨i, h1, h2, h3⟩
   exact ⟨i, ⟨h1, by omega⟩, h3⟩
theorem seg_one (A : Nat → α) (a : Nat) : seg A a (a + 1) = [A a] := by
 unfold seg
 rw [Nat.add_sub_cancel_left]; rfl
theorem seg_list (l : List α) [Inhabited α] : seg (fun i => l.toArray[i]!) 0 l.length = l := by
 unfold seg
 refine List.ext_getElem (by simp) (fun i h1 h2 => ?_)
 simp only [List.getElem_map, List.getElem_range', Nat.one_mul, Nat.zero_add]
 simp [h2]
variable {lt : α → α → Bool}
def Keeps (lt : α → α → Bool) (l l' : List α) : Prop := ∀ f : α → Bool, (∀ x y, f x = true → f y = true → lt x y = false) → l'.filter f = l.filter f
theorem Keeps.refl (l : List α) : Keeps lt l l := fun _ _ => rfl
theorem Keeps.trans {l m n : List α} (h : Keeps lt l m) (h' : Keeps lt m n) : Keeps lt l n := fun f hf => (h' f hf).trans (h f hf)
theorem Keeps.app {l l' m m' : List α} (h : Keeps lt l l') (h' : Keeps lt m m') : Keeps lt (l ++ m) (l' ++ m') := fun f hf => by
 rw [List.filter_append, List.filter_append, h f hf, h' f hf]
theorem Keeps.mem (hS : SWO lt) {l l' : List α} (h : Keeps lt l l') (x : α) : x ∈ l' ↔ x ∈ l := by
 classical
 have e := h (fun y => decide (y = x)) (fun a b ha hb => by
   have ha := of_decide_eq_true ha
   have hb := of_decide_eq_true hb
   subst ha hb
   exact hS.irrefl _)
 have q : ∀ m : List α, x ∈ m ↔ x ∈ m.filter (fun y => decide (y = x)) := fun m => by simp
 rw [q l', q l, e]
theorem keeps_turn {u v : List α} (h : ∀ x ∈ u, ∀ y ∈ v, lt y x = true) : Keeps lt (u ++ v) (v ++ u) := fun f hf => by
 rw [List.filter_append, List.filter_append]
 have e : u.filter f = [] ∨ v.filter f = [] := by
   rcases hu : u.filter f with _ | ⟨x, u'⟩
   · exact .inl rfl
   · right
     rcases hv : v.filter f with _ | ⟨y, v'⟩
     · rfl
     · have hx := List.mem_filter.1 (show x ∈ u.filter f by rw [hu]; simp)
       have hy := List.mem_filter.1 (show y ∈ v.filter f by rw [hv]; simp)
       have h1 := h x hx.1 y hy.1
       rw [hf y x hy.2 hx.2] at h1
       cases h1
 rcases e with e | e <;> rw [e] <;> simp
def Srt (lt : α → α → Bool) (A : Nat → α) (a b : Nat) : Prop := ∀ i j, a ≤ i → i < j → j < b → lt (A j) (A i) = false
theorem Srt.le (hS : SWO lt) {A : Nat → α} {a b i j : Nat} (h : Srt lt A a b) (ha : a ≤ i) (hij : i ≤ j) (hj : j < b) : lt (A j) (A i) = false := by
 rcases Nat.eq_or_lt_of_le hij with rfl | hlt
 · exact hS.irrefl _
 · exact h i j ha hlt hj
theorem Srt.congr {A A' : Nat → α} {a b : Nat} (h : Srt lt A a b) (e : ∀ i, a ≤ i → i < b → A' i = A i) : Srt lt A' a b := fun i j h1 h2 h3 => by
 rw [e i h1 (by omega), e j (by omega) h3]
 exact h i j h1 h2 h3
theorem Srt.shift {A A' : Nat → α} {a c n : Nat} (h : Srt lt A c (c + n)) (e : ∀ i, i < n → A' (a + i) = A (c + i)) : Srt lt A' a (a + n) := fun i j h1 h2 h3 => by
 obtain ⟨i', rfl⟩ := Nat.exists_eq_add_of_le h1
 obtain ⟨j', rfl⟩ := Nat.exists_eq_add_of_le (Nat.le_trans h1 (Nat.le_of_lt h2))
 rw [e i' (by omega), e j' (by omega)]
 exact h _ _ (by omega) (by omega) (by omega)
theorem Srt.part {A : Nat → α} {a b c d : Nat} (h : Srt lt A a b) (h1 : a ≤ c) (h2 : d ≤ b) : Srt lt A c d := fun i j x y z => h i j (by omega) y (by omega)
theorem Srt.join {A : Nat → α} {a m b : Nat} (h1 : Srt lt A a m) (h2 : Srt lt A m b) (h : ∀ i j, a ≤ i → i < m → m ≤ j → j < b → lt (A j) (A i) = false) : Srt lt A a b := fun i j x y z => by
 rcases Nat.lt_or_ge j m with hj | hj
 · exact h1 i j x y hj
 · rcases Nat.lt_or_ge i m with hi | hi
   · exact h i j x hi hj z
   · exact h2 i j hi y z
theorem lt_le (hS : SWO lt) {x y z : α} (h1 : lt x y = true) (h2 : lt z y = false) : lt x z = true := by
 cases h : lt x z with
 | true => rfl
 | false => rw [hS.ntrans _ _ _ h h2] at h1; cases h1
theorem le_lt (hS : SWO lt) {x y z : α} (h1 : lt y x = false) (h2 : lt y z = true) : lt x z = true := by
 cases h : lt x z with
 | true => rfl
 | false => rw [hS.ntrans _ _ _ h1 h] at h2; cases h2
def rot (A : Nat → α) (s m e : Nat) : Nat → α := fun i => if s ≤ i ∧ i < s + (e - m) then A (i + (m - s)) else if s + (e - m) ≤ i ∧ i < e then A (i - (e - m)) else A i
def swr (A : Nat → α) (a b n : Nat) : Nat → α := fun i => if a ≤ i ∧ i < a + n then A (i - a + b) else if b ≤ i ∧ i < b + n then A (i - b + a) else A i
theorem rot_left (A : Nat → α) (m e : Nat) (h : m ≤ e) : rot A m m e = A := by
 funext i
 unfold rot
 repeat' split
 all_goals first | rfl | (congr 1; omega) | (exfalso; omega)
theorem rot_right (A : Nat → α) (s m : Nat) (h : s ≤ m) : rot A s m m = A := by
 funext i
 unfold rot
 repeat' split
 all_goals first | rfl | (congr 1; omega) | (exfalso; omega)
theorem rot_more (D : Nat → α) (s m i j : Nat) (hs : s + i = m) (h : j < i) : rot (swr D s m j) (s + j) m (m + j) = rot D s m (m + j) := by
 funext x
 unfold rot swr
 repeat' split
 all_goals first | rfl | (congr 1; omega) | (exfalso; omega)
theorem rot_less (D : Nat → α) (s m i j : Nat) (hs : s + i = m) (h : i < j) : rot (swr D s (m + j - i) i) s m (m + (j - i)) = rot D s m (m + j) := by
 funext x
 unfold rot swr
 repeat' split
 all_goals first | rfl | (congr 1; omega) | (exfalso; omega)
theorem rot_same (D : Nat → α) (s m i : Nat) (hs : s + i = m) : swr D s m i = rot D s m (m + i) := by
 funext x
 unfold rot swr
 repeat' split
 all_goals first | rfl | (congr 1; omega) | (exfalso; omega)
theorem rot_out (A : Nat → α) (s m e i : Nat) (h1 : s ≤ m) (h2 : m ≤ e) (h : i < s ∨ e ≤ i) : rot A s m e i = A i := by
 unfold rot
 repeat' split
 all_goals first | rfl | (exfalso; omega)
theorem rot_low (A : Nat → α) (s m e : Nat) (h1 : s ≤ m) (h2 : m ≤ e) : ∀ i, i < e - m → rot A s m e (s + i) = A (m + i) := fun i hi => by
 unfold rot
 repeat' split
 all_goals first | (congr 1; omega) | (exfalso; omega)
theorem rot_high (A : Nat → α) (s m e : Nat) (h1 : s ≤ m) (h2 : m ≤ e) : ∀ i, i < m - s → rot A s m e (s + (e - m) + i) = A (s + i) := fun i hi => by
 unfold rot
 repeat' split
 all_goals first | (congr 1; omega) | (exfalso; omega)
theorem keeps_rot (A : Nat → α) {a s m e b : Nat} (h1 : a ≤ s) (h2 : s ≤ m) (h3 : m ≤ e) (h4 : e ≤ b) (h : ∀ i j, s ≤ i → i < m → m ≤ j → j < e → lt (A j) (A i) = true) : Keeps lt (seg A a b) (seg (rot A s m e) a b) := by
 have hx : s + (e - m) + (m - s) = e := by omega
 have e1 : seg (rot A s m e) a s = seg A a s := seg_congr (fun i _ hi => rot_out A s m e i h2 h3 (.inl hi))
 have e4 : seg (rot A s m e) e b = seg A e b := seg_congr (fun i hi _ => rot_out A s m e i h2 h3 (.inr hi))
 have e2 : seg (rot A s m e) s (s + (e - m)) = seg A m e := by
   rw [seg_shift (rot_low A s m e h2 h3), show m + (e - m) = e by omega]
 have e3 : seg (rot A s m e) (s + (e - m)) e = seg A s m := by
   have := seg_shift (rot_high A s m e h2 h3)
   rw [hx, show s + (m - s) = m by omega] at this
   exact this
 rw [seg_add A (show a ≤ s from h1) (show s ≤ b by omega), seg_add A (show s ≤ e by omega) h4, seg_add A h2 h3,
   seg_add (rot A s m e) (show a ≤ s from h1) (show s ≤ b by omega), seg_add (rot A s m e) (show s ≤ e by omega) h4, seg_add (rot A s m e) (show s ≤ s + (e - m) by omega) (show s + (e - m) ≤ e by omega), e1, e2, e3, e4]
 refine (Keeps.refl _).app (Keeps.app (keeps_turn (fun x hx y hy => ?_)) (Keeps.refl _))
 obtain ⟨i, i1, i2, rfl⟩ := mem_seg.1 hx
 obtain ⟨j, j1, j2, rfl⟩ := mem_seg.1 hy
 exact h i j i1 i2 j1 j2
structure Merged (lt : α → α → Bool) (A A' : Nat → α) (a b : Nat) : Prop where
 out : ∀ i, i < a ∨ b ≤ i → A' i = A i
 srt : Srt lt A' a b
 keep : Keeps lt (seg A a b) (seg A' a b)
theorem Merged.same {A : Nat → α} {a b : Nat} (h : Srt lt A a b) : Merged lt A A a b := ⟨fun _ _ => rfl, h, Keeps.refl _⟩
theorem merge_first (hS : SWO lt) {A : Nat → α} {a i b : Nat} (hs : Srt lt A (a + 1) b) (h1 : a + 1 ≤ i) (h2 : i ≤ b) (hl : ∀ h, a + 1 ≤ h → h < i → lt (A h) (A a) = true) (hr : ∀ h, i ≤ h → h < b → lt (A h) (A a) = false) :
   Merged lt A (rot A a (a + 1) i) a b := by
 have lo := rot_low A a (a + 1) i (by omega) h1
 have hi := rot_high A a (a + 1) i (by omega) h1 0 (by omega)
 simp only [Nat.add_zero] at hi
 refine ⟨fun k hk => rot_out A a (a + 1) i k (by omega) h1 (by omega), ?_, keeps_rot A (Nat.le_refl _) (by omega) h1 h2 (fun k j k1 k2 j1 j2 => by rw [show k = a by omega]; exact hl j j1 j2)⟩
 refine Srt.join (m := a + (i - (a + 1))) ?_ (Srt.join (m := a + (i - (a + 1)) + 1) (fun x y _ _ _ => by omega) ?_ ?_) ?_
 · exact Srt.shift (c := a + 1) (hs.part (by omega) (by omega)) lo
 · exact (hs.part (c := a + (i - (a + 1)) + 1) (by omega) (Nat.le_refl _)).congr (fun k k1 k2 => rot_out A a (a + 1) i k (by omega) h1 (by omega))
 · intro x y x1 x2 y1 y2
   rw [show x = a + (i - (a + 1)) by omega, hi, rot_out A a (a + 1) i y (by omega) h1 (by omega)]
   exact hr y (by omega) y2
 · intro x y x1 x2 y1 y2
   obtain ⟨x', rfl⟩ := Nat.exists_eq_add_of_le x1
   rw [lo x' (by omega)]
   rcases Nat.eq_or_lt_of_le y1 with rfl | hy
   · rw [hi]
     have := hl (a + 1 + x') (by omega) (by omega)
     cases h : lt (A a) (A (a + 1 + x')) with
     | false => rfl
     | true => have := hS.trans _ _ _ h this; rw [hS.irrefl] at this; cases this
   · rw [rot_out A a (a + 1) i y (by omega) h1 (by omega)]
     exact hs.le hS (by omega) (by omega) y2
theorem merge_last (hS : SWO lt) {A : Nat → α} {a i m : Nat} (hs : Srt lt A a m) (h1 : a ≤ i) (h2 : i ≤ m) (hl : ∀ h, a ≤ h → h < i → lt (A m) (A h) = false) (hr : ∀ h, i ≤ h → h < m → lt (A m) (A h) = true) :
   Merged lt A (rot A i m (m + 1)) a (m + 1) := by
 have lo := rot_low A i m (m + 1) h2 (by omega) 0 (by omega)
 have hi := rot_high A i m (m + 1) h2 (by omega)
 simp only [Nat.add_zero] at lo
 rw [show m + 1 - m = 1 by omega] at hi
 refine ⟨fun k hk => rot_out A i m (m + 1) k h2 (by omega) (by omega), ?_, keeps_rot A h1 h2 (by omega) (Nat.le_refl _) (fun k j k1 k2 j1 j2 => by rw [show j = m by omega]; exact hr k k1 k2)⟩
 refine Srt.join (m := i) ?_ (Srt.join (m := i + 1) (fun x y _ _ _ => by omega) ?_ ?_) ?_
 · exact (hs.part (Nat.le_refl _) h2).congr (fun k k1 k2 => rot_out A i m (m + 1) k h2 (by omega) (by omega))
 · have := Srt.shift (c := i) (n := m - i) (hs.part h1 (by omega)) hi
   rw [show i + 1 + (m - i) = m + 1 by omega] at this
   exact this
 · intro x y x1 x2 y1 y2
   obtain ⟨y', rfl⟩ := Nat.exists_eq_add_of_le y1
   rw [show x = i by omega, lo, hi y' (by omega)]
   have := hr (i + y') (by omega) (by omega)
   cases h : lt (A (i + y')) (A m) with
   | false => rfl
   | true => have := hS.trans _ _ _ h this; rw [hS.irrefl] at this; cases this
 · intro x y x1 x2 y1 y2
   rw [rot_out A i m (m + 1) x h2 (by omega) (.inl x2)]
   rcases Nat.eq_or_lt_of_le y1 with rfl | hy
   · rw [lo]
     exact hl x x1 x2
   · obtain ⟨y', rfl⟩ := Nat.exists_eq_add_of_le (show i + 1 ≤ y by omega)
     rw [hi y' (by omega)]
     exact hs.le hS x1 (by omega) (by omega)
theorem merge_halves (hS : SWO lt) {A A1 A2 A3 : Nat → α} {a m b : Nat} (ha : a ≤ m) (hb : m ≤ b) (o1 : ∀ i, i < a ∨ b ≤ i → A1 i = A i) (k1 : Keeps lt (seg A a b) (seg A1 a b)) (h2 : Merged lt A1 A2 a m) (h3 : Merged lt A2 A3 m b)
   (h : ∀ i j, a ≤ i → i < m → m ≤ j → j < b → lt (A1 j) (A1 i) = false) : Merged lt A A3 a b := by
 have e2 : seg A2 m b = seg A1 m b := seg_congr (fun i h1 _ => h2.out i (.inr h1))
 have e3 : seg A3 a m = seg A2 a m := seg_congr (fun i _ h1 => h3.out i (.inl h1))
 have g1 := h2.keep.mem hS
 have g2 := h3.keep.mem hS
 rw [e2] at g2
 refine ⟨fun i hi => (h3.out i (by omega)).trans ((h2.out i (by omega)).trans (o1 i hi)), Srt.join (m := m) (h2.srt.congr (fun i _ hi => h3.out i (.inl hi))) h3.srt ?_, ?_⟩
 · intro i j i1 i2 j1 j2
   have hx : A3 i ∈ seg A1 a m := by
     rw [h3.out i (.inl i2)]
     exact (g1 _).1 (mem_seg.2 ⟨i, i1, i2, rfl⟩)
   have hy : A3 j ∈ seg A1 m b := (g2 _).1 (mem_seg.2 ⟨j, j1, j2, rfl⟩)
   obtain ⟨i', q1, q2, q3⟩ := mem_seg.1 hx
   obtain ⟨j', r1, r2, r3⟩ := mem_seg.1 hy
   rw [← q3, ← r3]
   exact h i' j' q1 q2 r1 r2
 · refine k1.trans ?_
   rw [seg_add A1 ha hb, seg_add A3 ha hb, e3, ← e2]
   exact h2.keep.app h3.keep
structure Cut (lt : α → α → Bool) (A : Nat → α) (a m b mid s : Nat) : Prop where
 below : ∀ c, (if mid < m then mid + m - b else a) ≤ c → c < s → lt (A (mid + m - 1 - c)) (A c) = false
 above : ∀ c, s ≤ c → c < (if mid < m then mid else m) → lt (A (mid + m - 1 - c)) (A c) = true
 lo : (if mid < m then mid + m - b else a) ≤ s
 hi : s ≤ (if mid < m then mid else m)
theorem Cut.fits (hS : SWO lt) {A : Nat → α} {a m b mid s : Nat} (hm : mid = (a + b) / 2) (ha : a < m) (hb : m < b) (h1 : Srt lt A a m) (h2 : Srt lt A m b) (C : Cut lt A a m b mid s) :
   a ≤ s ∧ s ≤ m ∧ s ≤ mid ∧ m ≤ mid + m - s ∧ mid + m - s ≤ b ∧ mid ≤ mid + m - s ∧ (∀ i j, s ≤ i → i < m → m ≤ j → j < mid + m - s → lt (A j) (A i) = true) ∧ (∀ i j, a ≤ i → i < s → mid + m - s ≤ j → j < b → lt (A j) (A i) = false) := by
 obtain ⟨c1, c2, c3, c4⟩ := C
 have q1 : a ≤ s ∧ s ≤ m ∧ s ≤ mid ∧ m ≤ mid + m - s ∧ mid + m - s ≤ b ∧ mid ≤ mid + m - s := by
   by_cases h : mid < m
   · rw [if_pos h] at c3 c4
     omega
   · rw [if_neg h] at c3 c4
     omega
 obtain ⟨q1, q2, q3, q4, q5, q6⟩ := q1
 refine ⟨q1, q2, q3, q4, q5, q6, ?_, ?_⟩
 · intro i j i1 i2 j1 j2
   have hs : s < (if mid < m then mid else m) := by
     by_cases h : mid < m
     · rw [if_pos h] at c4 ⊢; omega
     · rw [if_neg h] at c4 ⊢; omega
   have := c2 s (Nat.le_refl _) hs
   have g1 := h1.le hS q1 i1 i2
   have g2 := h2.le hS (i := j) (j := mid + m - 1 - s) j1 (by omega) (by omega)
   exact lt_le hS (le_lt hS g2 this) g1
 · intro i j i1 i2 j1 j2
   have hs : (if mid < m then mid + m - b else a) ≤ s - 1 := by
     by_cases h : mid < m
     · rw [if_pos h] at c3 ⊢; omega
     · rw [if_neg h] at c3 ⊢; omega
   have := c1 (s - 1) hs (by omega)
   rw [show mid + m - 1 - (s - 1) = mid + m - s by omega] at this
   have g1 := h1.le hS (i := i) (j := s - 1) i1 (by omega) (by omega)
   have g2 := h2.le hS (i := mid + m - s) (j := j) q4 j1 j2
   exact hS.ntrans _ _ _ (hS.ntrans _ _ _ g2 this) g1
theorem cut_up (hS : SWO lt) {A : Nat → α} {a m b mid c c' : Nat} (hm : mid = (a + b) / 2) (ha : a < m) (hb : m < b) (h1 : Srt lt A a m) (h2 : Srt lt A m b) (hc : c' ≤ c) (hl : (if mid < m then mid + m - b else a) ≤ c') (hr : c < (if mid < m then mid else m))
   (h : lt (A (mid + m - 1 - c)) (A c) = false) : lt (A (mid + m - 1 - c')) (A c') = false := by
 have q : a ≤ c' ∧ c < m ∧ m ≤ mid + m - 1 - c ∧ mid + m - 1 - c' < b := by
   by_cases h : mid < m
   · rw [if_pos h] at hl hr
     omega
   · rw [if_neg h] at hl hr
     omega
 obtain ⟨q1, q2, q3, q4⟩ := q
 have g1 := h1.le hS q1 hc q2
 have g2 := h2.le hS (i := mid + m - 1 - c) (j := mid + m - 1 - c') q3 (by omega) q4
 exact hS.ntrans _ _ _ (hS.ntrans _ _ _ g2 h) g1
theorem cut_down (hS : SWO lt) {A : Nat → α} {a m b mid c c' : Nat} (hm : mid = (a + b) / 2) (ha : a < m) (hb : m < b) (h1 : Srt lt A a m) (h2 : Srt lt A m b) (hc : c' ≤ c) (hl : (if mid < m then mid + m - b else a) ≤ c') (hr : c < (if mid < m then mid else m))
   (h : lt (A (mid + m - 1 - c')) (A c') = true) : lt (A (mid + m - 1 - c)) (A c) = true := by
 cases g : lt (A (mid + m - 1 - c)) (A c) with
 | true => rfl
 | false => rw [cut_up hS hm ha hb h1 h2 hc hl hr g] at h; cases h
theorem merge_cut (hS : SWO lt) {A A2 A3 : Nat → α} {a m b mid s : Nat} (hm : mid = (a + b) / 2) (ha : a < m) (hb : m < b) (h1 : Srt lt A a m) (h2 : Srt lt A m b) (C : Cut lt A a m b mid s)
   (hl : if a < s ∧ s < mid then Merged lt (rot A s m (mid + m - s)) A2 a mid else A2 = rot A s m (mid + m - s))
   (hr : if mid < mid + m - s ∧ mid + m - s < b then Merged lt A2 A3 mid b else A3 = A2) : Merged lt A A3 a b := by
 obtain ⟨q1, q2, q3, q4, q5, q6, q7, q8⟩ := C.fits hS hm ha hb h1 h2
 have lo := rot_low A s m (mid + m - s) q2 q4
 have hi := rot_high A s m (mid + m - s) q2 q4
 rw [show mid + m - s - m = mid - s by omega] at lo hi
 rw [show s + (mid - s) = mid by omega] at hi
 have ot := fun i => rot_out A s m (mid + m - s) i q2 q4
 have s1 : Srt lt (rot A s m (mid + m - s)) s mid := by
   have := Srt.shift (c := m) (n := mid - s) (h2.part (Nat.le_refl _) (by omega)) lo
   rwa [show s + (mid - s) = mid by omega] at this
 have s2 : Srt lt (rot A s m (mid + m - s)) mid (mid + m - s) := by
   have := Srt.shift (c := s) (n := m - s) (h1.part q1 (by omega)) hi
   rwa [show mid + (m - s) = mid + m - s by omega] at this
 have s0 : Srt lt (rot A s m (mid + m - s)) a s := (h1.part (Nat.le_refl _) q2).congr (fun i _ h => ot i (.inl h))
 have s3 : Srt lt (rot A s m (mid + m - s)) (mid + m - s) b := (h2.part q4 (Nat.le_refl _)).congr (fun i h _ => ot i (.inr h))
 have m2 : Merged lt (rot A s m (mid + m - s)) A2 a mid := by
   by_cases h : a < s ∧ s < mid
   · rwa [if_pos h] at hl
   · rw [if_neg h] at hl
     subst hl
     refine Merged.same ?_
     by_cases he : s = a
     · rw [← he]; exact s1
     · have e : s = mid := by omega
       exact e ▸ s0.part (Nat.le_refl _) (Nat.le_of_eq e.symm)
 have m3 : Merged lt A2 A3 mid b := by
   by_cases h : mid < mid + m - s ∧ mid + m - s < b
   · rwa [if_pos h] at hr
   · rw [if_neg h] at hr
     subst hr
     refine Merged.same ?_
     have : Srt lt (rot A s m (mid + m - s)) mid b := by
       by_cases he : mid + m - s = mid
       · rw [he] at s3; rw [he]; exact s3
       · have : mid + m - s = b := by omega
         rw [this] at s2; rw [this]; exact s2
     exact this.congr (fun i h1 _ => m2.out i (.inr h1))
 refine merge_halves hS (by omega) (by omega) (fun i h => ot i (by omega)) (keeps_rot A q1 q2 q4 q5 q7) m2 m3 ?_
 intro i j i1 i2 j1 j2
 rcases Nat.lt_or_ge i s with hi1 | hi1
 · rw [ot i (.inl hi1)]
   rcases Nat.lt_or_ge j (mid + m - s) with hj | hj
   · obtain ⟨j', rfl⟩ := Nat.exists_eq_add_of_le j1
     rw [hi j' (by omega)]
     exact h1.le hS i1 (by omega) (by omega)
   · rw [ot j (.inr hj)]
     exact q8 i j i1 hi1 hj j2
 · obtain ⟨i', rfl⟩ := Nat.exists_eq_add_of_le hi1
   rw [lo i' (by omega)]
   rcases Nat.lt_or_ge j (mid + m - s) with hj | hj
   · obtain ⟨j', rfl⟩ := Nat.exists_eq_add_of_le j1
     rw [hi j' (by omega)]
     have := q7 (s + j') (m + i') (by omega) (by omega) (by omega) (by omega)
     cases h : lt (A (s + j')) (A (m + i')) with
     | false => rfl
     | true => have := hS.trans _ _ _ h this; rw [hS.irrefl] at this; cases this
   · rw [ot j (.inr hj)]
     exact h2.le hS (by omega) (by omega) j2
def row [Inhabited α] (d : Array α) : Nat → α := fun i => d[i]!
theorem row_swp [Inhabited α] (d : Array α) {i j : Nat} (hi : i < d.size) (hj : j < d.size) : row (swp d i j) = fun k => if k = j then row d i else if k = i then row d j else row d k := by
 funext k
 exact swp_get d hi hj k
theorem keeps_next [Inhabited α] (d : Array α) {a b j : Nat} (ha : a ≤ j) (hb : j + 1 < b) (hs : b ≤ d.size) (h : lt d[j + 1]! d[j]! = true) : Keeps lt (seg (row d) a b) (seg (row (swp d (j + 1) j)) a b) := by
 have e : row (swp d (j + 1) j) = rot (row d) j (j + 1) (j + 2) := by
   rw [row_swp d (by omega) (by omega)]
   funext k
   unfold rot
   repeat' split
   all_goals first | rfl | (congr 1; omega) | (exfalso; omega)
 rw [e]
 exact keeps_rot (row d) ha (by omega) (by omega) (by omega) (fun x y x1 x2 y1 y2 => by rw [show x = j by omega, show y = j + 1 by omega]; exact h)
theorem keeps_inner [Inhabited α] (a b : Nat) : ∀ (j : Nat) (d : Array α), a ≤ j → j < b → b ≤ d.size → Keeps lt (seg (row d) a b) (seg (row (insInner lt a j d)) a b)
 | 0, d, _, _, _ => by unfold insInner; exact Keeps.refl _
 | j + 1, d, ha, hb, hs => by
   unfold insInner
   split
   · rename_i hc
     simp only [Bool.and_eq_true, decide_eq_true_eq] at hc
     exact (keeps_next d (by omega) hb hs hc.2).trans (keeps_inner a b j (swp d (j + 1) j) (by omega) (by omega) (by rw [swp_size]; exact hs))
   · exact Keeps.refl _
theorem inner_size [Inhabited α] (a : Nat) : ∀ (j : Nat) (d : Array α), (insInner lt a j d).size = d.size
 | 0, d => by unfold insInner; rfl
 | j + 1, d => by
   unfold insInner
   split
   · rw [inner_size a j, swp_size]
   · rfl
theorem keeps_outer [Inhabited α] (a b : Nat) : ∀ (n i : Nat) (d : Array α), b - i = n → a < i → b ≤ d.size → Keeps lt (seg (row d) a b) (seg (row (insOuter lt a b i d)) a b)
 | 0, i, d, hn, _, _ => by rw [insOuter, if_neg (by omega)]; exact Keeps.refl _
 | n + 1, i, d, hn, ha, hs => by
   rw [insOuter, if_pos (by omega)]
   exact (keeps_inner a b i d (by omega) (by omega) hs).trans (keeps_outer a b n (i + 1) _ (by omega) (by omega) (by rw [inner_size]; exact hs))
theorem ins_merged [Inhabited α] (hS : SWO lt) (d : Array α) {a b : Nat} (hab : a ≤ b) (hb : b ≤ d.size) : Merged lt (row d) (row (insertionSort lt d a b)) a b ∧ (insertionSort lt d a b).size = d.size := by
 obtain ⟨⟨h1, h2, _⟩, h3⟩ := insertionSort_holds hS d a b hab hb
 exact ⟨⟨h2, h3, keeps_outer a b _ (a + 1) d rfl (by omega) hb⟩, h1⟩
end Go.Proofs.YtgaegfddobpomaaGreat.St

namespace Go.Proofs.YtgaegfddobpomaaGreat.St
open Go.ChangeShapes Go.WideShapes Go.ChangeAt Go.RowKit Go.Shelf Go.Lib Go.Sort
set_option linter.unusedVariables false
set_option maxRecDepth 4000
structure Lays (P : Program) (k : Nat) : Prop where
 mixed : P.follows .mixedOrders = true
 fSwap : P.funcs[(213 : Nat)]? = some Tryz.f213
 fRot : P.funcs[(195 : Nat)]? = some Tryz.f195
 fMerge : P.funcs[(170 : Nat)]? = some Tryz.f170
 fStab : P.funcs[(144 : Nat)]? = some Tryz.f144
 fSort : P.funcs[(106 : Nat)]? = some Tryz.f106
 t0 : P.underlying 0 = some (TypeDesc.tuple #[])
 a0 : ∀ w, (isAgg 0).run P w = .ok false w
 z0 : ∀ w, (Go.sizeOf 0).run P w = .ok 1 w
 v0 : ∀ w, (zeroValue 0).run P w = .ok (Value.tuple #[]) w
 t3 : P.underlying 3 = some (TypeDesc.int IntKind.i64)
 a3 : ∀ w, (isAgg 3).run P w = .ok false w
 z3 : ∀ w, (Go.sizeOf 3).run P w = .ok 1 w
 v3 : ∀ w, (zeroValue 3).run P w = .ok (Value.int IntKind.i64 0) w
 t4 : P.underlying 4 = some (TypeDesc.bool)
 a4 : ∀ w, (isAgg 4).run P w = .ok false w
 z4 : ∀ w, (Go.sizeOf 4).run P w = .ok 1 w
 v4 : ∀ w, (zeroValue 4).run P w = .ok (Value.bool false) w
 t62 : P.underlying 166 = some (TypeDesc.int IntKind.u64)
 a62 : ∀ w, (isAgg 166).run P w = .ok false w
 z62 : ∀ w, (Go.sizeOf 166).run P w = .ok 1 w
 v62 : ∀ w, (zeroValue 166).run P w = .ok (Value.int IntKind.u64 0) w
 t30 : P.underlying 29 = some (TypeDesc.slice 38)
 a30 : ∀ w, (isAgg 29).run P w = .ok false w
 z30 : ∀ w, (Go.sizeOf 29).run P w = .ok 1 w
 v30 : ∀ w, (zeroValue 29).run P w = .ok (Value.slice none 0 0) w
 t51 : P.underlying 131 = some (TypeDesc.func #[38, 38] #[3] false)
 a51 : ∀ w, (isAgg 131).run P w = .ok false w
 z51 : ∀ w, (Go.sizeOf 131).run P w = .ok 1 w
 v51 : ∀ w, (zeroValue 131).run P w = .ok (Value.nilFunc) w
 aE : ∀ w, (isAgg 38).run P w = .ok true w
 zE : ∀ w, (Go.sizeOf 38).run P w = .ok k w
theorem swr_zero {α : Type} (A : Nat → α) (a b : Nat) : swr A a b 0 = A := by
 funext k
 unfold swr
 repeat' split
 all_goals first | rfl | (exfalso; omega)
theorem swr_next {α : Type} [Inhabited α] {dk d : Array α} {a b i n : Nat} (hs : dk.size = d.size) (hi : i < n) (ha : a + n ≤ b) (hb : b + n ≤ d.size) (h : row dk = swr (row d) a b i) : row (swp dk (a + i) (b + i)) = swr (row d) a b (i + 1) := by
 rw [row_swp dk (by omega) (by omega), h]
 funext k
 unfold swr
 repeat' split
 all_goals first | rfl | (congr 1; omega) | (exfalso; omega)
variable {P : Program} {α : Type} [Inhabited α] {enc : α → List Value} {k : Nat} {w0 : World} {blk off : Nat} {d0 : Array α}
set_option maxHeartbeats 4000000 in
theorem swapRange_any (L : Lays P k) (R : RowK enc k w0 blk off d0) (h62 : d0.size < 4611686018427387904) (cap a b n : Nat) (fv : Value) (d : Array α) (hs : d.size = d0.size) (ha : a + n ≤ b) (hb : b + n ≤ d0.size) (w : World) (hw : SWK enc k w0 blk off d w) :
   Calls P 213 #[.slice (some ⟨blk, off, none⟩) d0.size cap, .int .i64 a, .int .i64 b, .int .i64 n, fv] w fun e w' =>
     e = .returned (.tuple #[]) ∧ ∃ d', d'.size = d0.size ∧ SWK enc k w0 blk off d' w' ∧ row d' = swr (row d) a b n := by
 have mixed := L.mixed; have t0 := L.t0; have a0 := L.a0; have z0 := L.z0; have v0 := L.v0; have t3 := L.t3; have a3 := L.a3; have z3 := L.z3; have v3 := L.v3; have t4 := L.t4; have a4 := L.a4; have z4 := L.z4; have v4 := L.v4; have t30 := L.t30; have a30 := L.a30; have z30 := L.z30; have v30 := L.v30; have aE := L.aE; have zE := L.zE
 have u30 := run_underlying L.t30
 have HR := Lib.hid R
 have HW := Lib.hid hw
 have F := L.fSwap
 clear hw R L
 go_enter F, Tryz.ntmps213
 go_wp2
 go_loopw [10] (fun vi wr => ∃ (i : Nat) (dk : Array α), vi = .int .i64 (i : Int) ∧ i ≤ n ∧ dk.size = d0.size ∧ SWK enc k w0 blk off dk wr ∧ row dk = swr (row d) a b i) (fun vi _ => n - (intOf vi).toNat)
 case atStart => exact ⟨0, d, rfl, Nat.zero_le _, hs, HW.out, (swr_zero _ _ _).symm⟩
 case round =>
   obtain ⟨i, dk, rfl, hin, hsk, hwk, hrow⟩ := hrel
   have HWK := Lib.hid hwk
   have HROW := Lib.hid hrow
   clear hwk hrow
   by_cases hlt : i < n
   · have hz : (i : Int) < (n : Int) := by omega
     have i1 : a + i < dk.size := by omega
     have i2 : b + i < dk.size := by omega
     have w1 : IntKind.i64.wrap ((a : Int) + (i : Int)) = (a : Int) + (i : Int) := by rw [IntKind.wrap_i64]; omega
     have w2 : IntKind.i64.wrap ((b : Int) + (i : Int)) = (b : Int) + (i : Int) := by rw [IntKind.wrap_i64]; omega
     have n1 : ((a : Int) + (i : Int)).toNat = a + i := by omega
     have n2 : ((b : Int) + (i : Int)).toNat = b + i := by omega
     have p1 : (0 : Int) ≤ (a : Int) + (i : Int) := by omega
     have p2 : (0 : Int) ≤ (b : Int) + (i : Int) := by omega
     have q1 : (a : Int) + (i : Int) < (d0.size : Int) := by omega
     have q2 : (b : Int) + (i : Int) < (d0.size : Int) := by omega
     have l1 := HWK.out.ld1 HR.out hsk P (a + i) i1
     have l2 := HWK.out.ld1 HR.out hsk P (b + i) i2
     have s1 := HWK.out.st1 HR.out hsk P (a + i) i1 dk[b + i]!
     have s2 := HWK.out.st2 HR.out hsk P (a + i) (b + i) i1 i2 dk[b + i]! dk[a + i]!
     have HS := Lib.hid (HWK.out.swapped HR.out (a + i) (b + i) i1 i2)
     have hsA : (enc dk[a + i]!).length = k := HR.out.hk _
     have hsB : (enc dk[b + i]!).length = k := HR.out.hk _
     have HN := Lib.hid (swr_next (d := d) (hsk.trans hs.symm) hlt ha (by rw [hs]; exact hb) HROW.out)
     clear HWK HROW
     generalize enc dk[a + i]! = cA at *
     generalize enc dk[b + i]! = cB at *
     go_wp2_with fail
     go_big_region_o
     all_goals go_wp2
     go_roundw
     case rel => exact ⟨i + 1, _, by go_num, by omega, by rw [size_swp]; exact hsk, HS.out, HN.out⟩
     case measure => simp [intOf]; omega
   · obtain rfl : i = n := by omega
     go_wp2
     go_end0
     exact ⟨rfl, dk, hsk, HWK.out, HROW.out⟩
theorem rot_start {α : Type} (D : Nat → α) (a m b : Nat) (h1 : a < m) (h2 : m < b) : rot D (m - (m - a)) m (m + (b - m)) = rot D a m b := by
 rw [show m - (m - a) = a by omega, show m + (b - m) = b by omega]
set_option maxHeartbeats 4000000 in
theorem rotate_any (L : Lays P k) (R : RowK enc k w0 blk off d0) (h62 : d0.size < 4611686018427387904) (cap a m b : Nat) (fv : Value) (d : Array α) (hs : d.size = d0.size) (ha : a < m) (hm : m < b) (hb : b ≤ d0.size) (w : World) (hw : SWK enc k w0 blk off d w) :
   Calls P 195 #[.slice (some ⟨blk, off, none⟩) d0.size cap, .int .i64 a, .int .i64 m, .int .i64 b, fv] w fun e w' =>
     e = .returned (.tuple #[]) ∧ ∃ d', d'.size = d0.size ∧ SWK enc k w0 blk off d' w' ∧ row d' = rot (row d) a m b := by
 have CS := fun (x y n : Nat) (dk : Array α) (hsk : dk.size = d0.size) (ha : x + n ≤ y) (hb : y + n ≤ d0.size) (W : World) (hw : SWK enc k w0 blk off dk W) => swapRange_any L R h62 cap x y n fv dk hsk ha hb W hw
 have mixed := L.mixed; have t0 := L.t0; have a0 := L.a0; have z0 := L.z0; have v0 := L.v0; have t3 := L.t3; have a3 := L.a3; have z3 := L.z3; have v3 := L.v3; have t4 := L.t4; have a4 := L.a4; have z4 := L.z4; have v4 := L.v4; have t30 := L.t30; have a30 := L.a30; have z30 := L.z30; have v30 := L.v30; have t51 := L.t51; have a51 := L.a51; have z51 := L.z51; have v51 := L.v51
 have u30 := run_underlying L.t30
 have e75 : ∀ args w, (callFunc 213 args).run P w = .ok (.enter 213 args) w := enters_of L.fSwap (by kernel_rfl) rfl
 have HCS := Lib.hid CS
 have HW := Lib.hid hw
 have F := L.fRot
 have hz1 : (a : Int) < (m : Int) := by omega
 have hz2 : (m : Int) < (b : Int) := by omega
 have w1 : IntKind.i64.wrap ((m : Int) - (a : Int)) = (m : Int) - (a : Int) := by rw [IntKind.wrap_i64]; omega
 have w2 : IntKind.i64.wrap ((b : Int) - (m : Int)) = (b : Int) - (m : Int) := by rw [IntKind.wrap_i64]; omega
 have e1 : (m : Int) - (a : Int) = ((m - a : Nat) : Int) := by omega
 have e2 : (b : Int) - (m : Int) = ((b - m : Nat) : Int) := by omega
 rw [e1] at w1
 rw [e2] at w2
 clear hw R L CS
 go_enter F, Tryz.ntmps195
 go_wp2
 go_loopw [10, 11] (fun vi vj wr => ∃ (i j : Nat) (dk : Array α), vi = .int .i64 (i : Int) ∧ vj = .int .i64 (j : Int) ∧ 0 < i ∧ 0 < j ∧ i + a ≤ m ∧ m + j ≤ b ∧ dk.size = d0.size ∧ SWK enc k w0 blk off dk wr ∧ rot (row dk) (m - i) m (m + j) = rot (row d) a m b) (fun vi vj _ => (intOf vi).toNat + (intOf vj).toNat)
 case atStart => exact ⟨m - a, b - m, d, by go_num, by go_num, by omega, by omega, by omega, by omega, hs, HW.out, rot_start _ _ _ _ ha hm⟩
 case round =>
   obtain ⟨i, j, dk, rfl, rfl, hi0, hj0, him, hjb, hsk, hwk, hrow⟩ := hrel
   have HWK := Lib.hid hwk
   have HROW := Lib.hid hrow
   clear hwk hrow
   have p1 : (0 : Int) ≤ (m : Int) - (i : Int) := by omega
   have ws : IntKind.i64.wrap ((m : Int) - (i : Int)) = (m : Int) - (i : Int) := by rw [IntKind.wrap_i64]; omega
   rcases Nat.lt_trichotomy i j with hlt | rfl | hlt
   · have hne : ((i : Int) != (j : Int)) = true := by rw [bne_iff_ne]; omega
     have hgt : decide ((i : Int) > (j : Int)) = false := decide_eq_false (by omega)
     have hgt' : ¬ (j : Int) < (i : Int) := by omega
     have wt : IntKind.i64.wrap ((m : Int) + (j : Int)) = (m : Int) + (j : Int) := by rw [IntKind.wrap_i64]; omega
     have wu : IntKind.i64.wrap ((m : Int) + (j : Int) - (i : Int)) = (m : Int) + (j : Int) - (i : Int) := by rw [IntKind.wrap_i64]; omega
     have wv : IntKind.i64.wrap ((j : Int) - (i : Int)) = (j : Int) - (i : Int) := by rw [IntKind.wrap_i64]; omega
     have C := HCS.out (m - i) (m + j - i) i dk hsk (by omega) (by omega) wr HWK.out
     rw [show ((m - i : Nat) : Int) = (m : Int) - (i : Int) by omega, show ((m + j - i : Nat) : Int) = (m : Int) + (j : Int) - (i : Int) by omega] at C
     go_wp2_with fail
     refine C.mono ?_
     rintro e w3 ⟨rfl, d3, hs3, hw3, hr3⟩
     have HW3 := Lib.hid hw3
     have HR3 : Hid (rot (row d3) (m - i) m (m + (j - i)) = rot (row d) a m b) := Lib.hid (by rw [hr3, rot_less (row dk) (m - i) m i j (by omega) hlt]; exact HROW.out)
     clear hw3 hr3 C
     go_wp2
     go_roundw
     case rel => exact ⟨i, j - i, d3, by go_num, by go_num, hi0, by omega, him, by omega, hs3, HW3.out, HR3.out⟩
     case measure => simp [intOf]; omega
   · have hne : ((i : Int) != (i : Int)) = false := by simp
     have C := HCS.out (m - i) m i dk hsk (by omega) (by omega) wr HWK.out
     rw [show ((m - i : Nat) : Int) = (m : Int) - (i : Int) by omega] at C
     go_wp2_with fail
     refine C.mono ?_
     rintro e w3 ⟨rfl, d3, hs3, hw3, hr3⟩
     have HW3 := Lib.hid hw3
     have HR3 : Hid (row d3 = rot (row d) a m b) := Lib.hid (by rw [hr3, rot_same (row dk) (m - i) m i (by omega)]; exact HROW.out)
     clear hw3 hr3 C
     go_wp2
     go_end0
     exact ⟨rfl, d3, hs3, HW3.out, HR3.out⟩
   · have hne : ((i : Int) != (j : Int)) = true := by rw [bne_iff_ne]; omega
     have hgt : decide ((i : Int) > (j : Int)) = true := decide_eq_true (by omega)
     have hgt' : (j : Int) < (i : Int) := by omega
     have wv : IntKind.i64.wrap ((i : Int) - (j : Int)) = (i : Int) - (j : Int) := by rw [IntKind.wrap_i64]; omega
     have C := HCS.out (m - i) m j dk hsk (by omega) (by omega) wr HWK.out
     rw [show ((m - i : Nat) : Int) = (m : Int) - (i : Int) by omega] at C
     go_wp2_with fail
     refine C.mono ?_
     rintro e w3 ⟨rfl, d3, hs3, hw3, hr3⟩
     have HW3 := Lib.hid hw3
     have HR3 : Hid (rot (row d3) (m - (i - j)) m (m + j) = rot (row d) a m b) := Lib.hid (by rw [hr3, show m - (i - j) = m - i + j by omega, rot_more (row dk) (m - i) m i j (by omega) hlt]; exact HROW.out)
     clear hw3 hr3 C
     go_wp2
     go_roundw
     case rel => exact ⟨i - j, j, d3, by go_num, by go_num, by omega, hj0, by omega, hjb, hs3, HW3.out, HR3.out⟩
     case measure => simp [intOf]; omega
end Go.Proofs.YtgaegfddobpomaaGreat.St
