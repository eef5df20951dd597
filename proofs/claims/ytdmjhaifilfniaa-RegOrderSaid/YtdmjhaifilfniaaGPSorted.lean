/- What slices.Sort and slices.Compact make of texts: all texts in order, each once. Plain: no program is named here. -/
import Derived.Test.YtdmjhaifilfniaaGPlain
import Derived.Lib.SlicesCompact
import Derived.Sort.EncStr
namespace Go.Proofs.Ytdmjhaifilfniaa.Rg
open Go.ChangeShapes Go.WideShapes Go.ChangeAt Go.RowKit Go.Lib
set_option linter.unusedVariables false

/-- a text's bytes. -/
def bl (s : ByteArray) : List UInt8 := s.data.toList
/-- bytes as a text. -/
def lb (x : List UInt8) : ByteArray := ⟨x.toArray⟩
theorem lb_bl (s : ByteArray) : lb (bl s) = s := by unfold lb bl; simp
theorem bl_lb (x : List UInt8) : bl (lb x) = x := by unfold lb bl; simp
theorem enc_bl (s : ByteArray) : encStr (bl s) = .string s := by unfold bl; simp
theorem enc_map (l : List ByteArray) : (l.map bl).map encStr = l.map Value.string := by
  rw [List.map_map]
  exact List.map_congr_left (fun s _ => enc_bl s)
theorem lt_lb (x y : List UInt8) : ltT (lb x) (lb y) = decide (x < y) := by
  rw [ltT_str, ByteArray.toList_eq, ByteArray.toList_eq]
  show decide ((lb x).data.toList < (lb y).data.toList) = _
  unfold lb
  simp
/-- of a list in order what slices.Compact keeps: in order, each once. -/
theorem compact_upto (d : Array (List UInt8)) (hs : ∀ i j, i ≤ j → j < d.size → d[i]! ≤ d[j]!) : ∀ m, m ≤ d.size → (compactUpTo d m).Pairwise (· < ·) ∧ ∀ x, x ∈ compactUpTo d m ↔ ∃ j, j < m ∧ d[j]! = x
  | 0, _ => ⟨by simp [compactUpTo], fun x => by simp [compactUpTo]⟩
  | m + 1, hm => by
    obtain ⟨h1, h2⟩ := compact_upto d hs m (by omega)
    rw [compactUpTo_succ]
    by_cases hk : 0 < m ∧ d[m]! = d[m - 1]!
    · rw [keeps_neg hk.1 hk.2]
      simp only [Bool.false_eq_true, if_false, List.append_nil]
      refine ⟨h1, fun x => ?_⟩
      rw [h2]
      constructor
      · rintro ⟨j, hj, e⟩
        exact ⟨j, by omega, e⟩
      · rintro ⟨j, hj, e⟩
        by_cases hjm : j = m
        · exact ⟨m - 1, by omega, by rw [← hk.2, ← hjm, e]⟩
        · exact ⟨j, by omega, e⟩
    · have hkk : keeps d m = true := by
        by_cases h0 : m = 0
        · subst h0; exact keeps_lt_one d 0 (by omega)
        · exact keeps_pos (fun e => hk ⟨by omega, e⟩)
      rw [hkk, if_pos rfl]
      refine ⟨List.pairwise_append.2 ⟨h1, List.pairwise_singleton _ _, fun a ha b hb => ?_⟩, fun x => ?_⟩
      · rw [List.mem_singleton] at hb
        subst hb
        obtain ⟨j, hj, rfl⟩ := (h2 a).1 ha
        have hle := hs j (m - 1) (by omega) (by omega)
        have hle2 := hs (m - 1) m (by omega) (by omega)
        have hne : ¬ d[m]! = d[m - 1]! := fun e => hk ⟨by omega, e⟩
        have hlt : d[m - 1]! < d[m]! := by
          rcases Decidable.em (d[m - 1]! < d[m]!) with h | h
          · exact h
          · exact absurd (List.le_antisymm (List.not_lt.1 h) hle2) hne
        exact List.lt_of_le_of_lt hle hlt
      · rw [List.mem_append, List.mem_singleton, h2]
        constructor
        · rintro (⟨j, hj, e⟩ | rfl)
          · exact ⟨j, by omega, e⟩
          · exact ⟨m, by omega, rfl⟩
        · rintro ⟨j, hj, e⟩
          by_cases hjm : j = m
          · right; rw [← e, hjm]
          · left; exact ⟨j, by omega, e⟩
theorem compact_ord {zs : List (List UInt8)} (h : zs.Pairwise (· ≤ ·)) : (compact zs).Pairwise (· < ·) ∧ ∀ x, x ∈ compact zs ↔ x ∈ zs := by
  have hs : ∀ i j, i ≤ j → j < zs.toArray.size → zs.toArray[i]! ≤ zs.toArray[j]! := by
    intro i j hij hj
    have hj2 : j < zs.length := by simpa using hj
    rw [getElem!_pos zs.toArray i (by simp; omega), getElem!_pos zs.toArray j hj]
    simp only [List.getElem_toArray]
    rcases Nat.lt_or_ge i j with hl | hl
    · exact List.pairwise_iff_getElem.1 h i j (by omega) hj2 hl
    · obtain rfl : i = j := by omega
      exact List.le_refl _
  obtain ⟨h1, h2⟩ := compact_upto zs.toArray hs zs.length (by simp)
  refine ⟨h1, fun x => ?_⟩
  show x ∈ compactUpTo zs.toArray zs.length ↔ _
  rw [h2, List.mem_iff_getElem]
  constructor
  · rintro ⟨j, hj, e⟩
    exact ⟨j, hj, by rw [getElem!_pos zs.toArray j (by simpa using hj)] at e; simpa using e⟩
  · rintro ⟨j, hj, e⟩
    exact ⟨j, hj, by rw [getElem!_pos zs.toArray j (by simpa using hj)]; simpa using e⟩
/-- what slices.Sort makes of texts. -/
abbrev sortL (zs : List (List UInt8)) : List (List UInt8) := zs.mergeSort fun x y => decide (x ≤ y)
theorem sort_le (zs : List (List UInt8)) : (sortL zs).Pairwise (· ≤ ·) := by
  have h := List.pairwise_mergeSort (le := fun x y : List UInt8 => decide (x ≤ y)) (fun a b c h1 h2 => by
    simp only [decide_eq_true_eq] at *
    exact List.le_trans h1 h2) (fun a b => by
    simp only [Bool.or_eq_true, decide_eq_true_eq]
    exact List.le_total a b) zs
  exact h.imp (fun h => by simpa using h)
theorem sort_mem (zs : List (List UInt8)) (x : List UInt8) : x ∈ sortL zs ↔ x ∈ zs := List.mem_mergeSort
/-- ALL TEXTS, in order, each once. -/
theorem texts_sorted (l : List ByteArray) : compact (sortL (l.map bl)) = (textsT l).map bl := by
  obtain ⟨h1, h2⟩ := compact_ord (sort_le (l.map bl))
  have e : (compact (sortL (l.map bl))).map lb = textsT l := by
    refine ord_uniq ?_ (texts_ord l) (fun x => ?_)
    · unfold OrdT
      rw [List.pairwise_map]
      exact h1.imp (fun h => by rw [lt_lb]; exact decide_eq_true h)
    · rw [List.mem_map, texts_mem]
      constructor
      · rintro ⟨y, hy, rfl⟩
        rw [h2, sort_mem, List.mem_map] at hy
        obtain ⟨s, hs, rfl⟩ := hy
        rw [lb_bl]; exact hs
      · intro hx
        exact ⟨bl x, by rw [h2, sort_mem]; exact List.mem_map_of_mem hx, lb_bl x⟩
  rw [← e, List.map_map]
  have : (bl ∘ lb) = id := funext (fun x => bl_lb x)
  rw [this, List.map_id]
theorem sort_len (l : List ByteArray) : (sortL (l.map bl)).length = l.length := by rw [List.length_mergeSort, List.length_map]
/-- texts but for one, as slices.DeleteFunc keeps them. -/
theorem del_other (s : ByteArray) (l : List ByteArray) : ((l.map bl).filter fun x => !decide (x = bl s)) = (otherT s l).map bl := by
  unfold otherT
  rw [List.filter_map]
  congr 1
  refine List.filter_congr (fun x _ => ?_)
  have : bl x = bl s ↔ x = s := ⟨fun h => by rw [← lb_bl x, h, lb_bl], fun h => by rw [h]⟩
  by_cases h : x = s
  · simp [h]
  · simp [h, this]
end Go.Proofs.Ytdmjhaifilfniaa.Rg
