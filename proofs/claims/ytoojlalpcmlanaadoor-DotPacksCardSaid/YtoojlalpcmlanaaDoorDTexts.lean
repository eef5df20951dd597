/- Plain arithmetic: texts of dots and back. No program is named here. -/
import Derived.Test.YtoojlalpcmlanaaDoorDParse
namespace Go.Proofs.YtoojlalpcmlanaaDoor.Dt
set_option linter.unusedVariables false

theorem digB_toNat (v : Nat) : (digB v).toNat = 48 + v % 10 := by
  unfold digB
  rw [UInt8.toNat_ofNat_of_lt' (by show 48 + v % 10 < 256; omega)]
theorem digB_dig (v : Nat) : isDig (digB v) = true := (isDig_iff _).2 (by rw [digB_toNat]; omega)
theorem dec_dig (v : Nat) : (decB v).all isDig = true := by
  induction v using Nat.strongRecOn with
  | _ v ih =>
    by_cases h : v < 10
    · rw [decB_small h]; simp [digB_dig]
    · rw [decB_more h, List.all_append, ih (v / 10) (by omega)]; simp [digB_dig]
theorem dec_val (v : Nat) : valB (decB v) = v := by
  induction v using Nat.strongRecOn with
  | _ v ih =>
    by_cases h : v < 10
    · rw [decB_small h]; unfold valB; simp [digB_toNat]; omega
    · rw [decB_more h, valB_snoc, ih (v / 10) (by omega), digB_toNat]; omega
theorem dec_some (v : Nat) : 1 ≤ (decB v).length := by
  by_cases h : v < 10
  · rw [decB_small h]; simp
  · rw [decB_more h]; simp
theorem dec_low {v k : Nat} (h : 10 ^ k ≤ v) : k + 1 ≤ (decB v).length := by
  induction k generalizing v with
  | zero => exact dec_some v
  | succ k ih =>
    have h1 : 1 ≤ 10 ^ k := Nat.one_le_pow k 10 (by omega)
    rw [Nat.pow_succ] at h
    have h2 := ih (v := v / 10) (by omega)
    rw [decB_more (by omega), List.length_append]
    simp; omega
theorem dec_head {v : Nat} (h : 1 ≤ v) : (decB v)[0]? ≠ some 48 := by
  induction v using Nat.strongRecOn with
  | _ v ih =>
    by_cases h1 : v < 10
    · rw [decB_small h1]
      intro h2
      have h3 : digB v = 48 := by simpa using h2
      have h4 := digB_toNat v
      rw [h3] at h4
      have : (48 : UInt8).toNat = 48 := rfl
      omega
    · rw [decB_more h1, List.getElem?_append_left (dec_some _)]
      exact ih (v / 10) (by omega) (by omega)
theorem num_dec {v : Nat} (h : v < 1000000000000000) : numB (decB v) = (v, true) := by
  rw [numB_good, if_pos (dec_dig v), dec_val]
  have h1 := dec_some v
  have h2 := decB_long v 14 (by omega)
  rintro (h3 | h3 | ⟨h3, h4⟩)
  · omega
  · omega
  · by_cases h5 : v < 10
    · rw [decB_small h5] at h3; simp at h3
    · exact dec_head (by omega) h4
theorem num_big {v : Nat} (h : 1000000000000000 ≤ v) : numB (decB v) = (0, false) := by
  apply badB_true
  have := dec_low (v := v) (k := 15) (by omega)
  omega
theorem split_last {l : List UInt8} (h : 1 ≤ l.length) : ∃ m c, l = m ++ [c] := by
  have hn : l ≠ [] := by rintro rfl; simp at h
  exact ⟨l.dropLast, l.getLast hn, (List.dropLast_concat_getLast hn).symm⟩
theorem val_head {l : List UInt8} (h1 : 1 ≤ l.length) (hd : l.all isDig = true) (hz : l[0]? ≠ some 48) : 1 ≤ valB l := by
  obtain ⟨n, hn⟩ : ∃ n, l.length = n := ⟨_, rfl⟩
  induction n generalizing l with
  | zero => omega
  | succ n ih =>
    obtain ⟨m, c, rfl⟩ := split_last h1
    rw [List.all_append, Bool.and_eq_true] at hd
    have hc : 48 ≤ c.toNat ∧ c.toNat ≤ 57 := (isDig_iff c).1 (by simpa using hd.2)
    rw [valB_snoc]
    by_cases h2 : 1 ≤ m.length
    · rw [List.getElem?_append_left h2] at hz
      have := ih h2 hd.1 hz (by rw [List.length_append] at hn; simp at hn; omega)
      omega
    · have : m = [] := List.length_eq_zero_iff.1 (by omega)
      subst this
      have : c.toNat ≠ 48 := fun h => hz (by simp; exact UInt8.toNat_inj.1 (by rw [h]; rfl))
      omega
theorem dec_of {l : List UInt8} (h1 : 1 ≤ l.length) (hd : l.all isDig = true) (hz : 1 < l.length → l[0]? ≠ some 48) : decB (valB l) = l := by
  obtain ⟨n, hn⟩ : ∃ n, l.length = n := ⟨_, rfl⟩
  induction n generalizing l with
  | zero => omega
  | succ n ih =>
    obtain ⟨m, c, rfl⟩ := split_last h1
    rw [List.all_append, Bool.and_eq_true] at hd
    have hc : 48 ≤ c.toNat ∧ c.toNat ≤ 57 := (isDig_iff c).1 (by simpa using hd.2)
    have hg : digB (valB m * 10 + (c.toNat - 48)) = c := UInt8.toNat_inj.1 (by rw [digB_toNat]; omega)
    rw [valB_snoc]
    by_cases h2 : 1 ≤ m.length
    · have hz' := hz (by rw [List.length_append]; simp; omega)
      rw [List.getElem?_append_left h2] at hz'
      have h3 := val_head h2 hd.1 hz'
      have h4 := ih h2 hd.1 (fun _ => hz') (by rw [List.length_append] at hn; simp at hn; omega)
      rw [decB_more (by omega), hg]
      have : (valB m * 10 + (c.toNat - 48)) / 10 = valB m := by omega
      rw [this, h4]
    · have : m = [] := List.length_eq_zero_iff.1 (by omega)
      subst this
      have hv : valB ([] : List UInt8) = 0 := rfl
      rw [hv] at hg ⊢
      rw [decB_small (by omega), hg]; rfl
theorem num_back {l : List UInt8} (h : (numB l).2 = true) : l = decB (numB l).1 ∧ (numB l).1 < 1000000000000000 := by
  refine ⟨?_, numB_less l⟩
  by_cases hb : l.length < 1 ∨ 15 < l.length ∨ (1 < l.length ∧ l[0]? = some 48)
  · rw [badB_true hb] at h; exact absurd h (by simp)
  · rw [numB_good hb] at h ⊢
    by_cases ha : l.all isDig = true
    · rw [if_pos ha]
      exact (dec_of (by omega) ha (fun h1 h2 => hb (.inr (.inr ⟨h1, h2⟩)))).symm
    · rw [if_neg ha] at h; exact absurd h (by simp)

/-- a dot's text, as a list of bytes. -/
def textL (d : Dot) : List UInt8 := decB d.1 ++ 46 :: decB d.2
theorem textA_list (d : Dot) : (textA d).data.toList = textL d := by
  simp [textA, textL, decA]
theorem textA_eq (d : Dot) : textA d = ⟨(textL d).toArray⟩ := by
  apply ByteArray.ext
  apply Array.ext'
  rw [textA_list]
theorem dec_nopoint {v : Nat} : ∀ c ∈ decB v, c ≠ 46 := by
  rintro c hc rfl
  have := List.all_eq_true.1 (dec_dig v) _ hc
  exact absurd ((isDig_iff _).1 this).1 (by decide)
theorem parse_text' (d : Dot) : parseB (textL d) = readB (numB (decB d.1)) (numB (decB d.2)) := by
  have ht : (textL d).take (decB d.1).length = decB d.1 := List.take_left' rfl
  have hd : (textL d).drop ((decB d.1).length + 1) = decB d.2 := by
    unfold textL
    rw [List.drop_append, List.drop_of_length_le (by omega)]
    have : (decB d.1).length + 1 - (decB d.1).length = 1 := by omega
    rw [this]; rfl
  rw [parseB_at (k := (decB d.1).length) (by rw [ht]; exact dec_nopoint) (by unfold textL; simp), ht, hd]
/-- the Text of a dot is read back, where the dot may be; where it may not be, it is refused. -/
theorem parse_text (d : Dot) (h : d.1 < 65536) : parseB (textL d) = if mayD d = true then (d, true) else ((0, 0), false) := by
  rw [parse_text', num_dec (by omega)]
  by_cases hb : d.2 < 1000000000000000
  · rw [num_dec hb]
    unfold readB
    have e : (d.1 ≤ 65535) = True := by simp; omega
    simp only [e, true_and]
  · rw [num_big (by omega)]
    have : ¬ mayD d = true := fun h' => by have := (may_iff d).1 h'; omega
    rw [if_neg this]
    rfl
/-- what is read is a dot that may be, and the text is its Text. -/
theorem parse_back {l : List UInt8} (h : (parseB l).2 = true) : l = textL (parseB l).1 ∧ mayD (parseB l).1 = true ∧ (parseB l).1.1 ≤ 65535 := by
  cases hf : l.findIdx? (fun c => c == 46) with
  | none => unfold parseB at h; rw [hf] at h; exact absurd h (by simp)
  | some k =>
    have hp : parseB l = readB (numB (l.take k)) (numB (l.drop (k + 1))) := by unfold parseB; rw [hf]
    rw [hp] at h ⊢
    obtain ⟨hlt, he, _⟩ := List.findIdx?_eq_some_iff_getElem.1 hf
    have he' : l[k] = 46 := by simpa using he
    unfold readB at h ⊢
    by_cases hc : (numB (l.take k)).2 = true ∧ (numB (l.drop (k + 1))).2 = true ∧ (numB (l.take k)).1 ≤ 65535 ∧ mayD ((numB (l.take k)).1, (numB (l.drop (k + 1))).1) = true
    · rw [if_pos hc]
      refine ⟨?_, hc.2.2.2, hc.2.2.1⟩
      have h1 := (num_back hc.1).1
      have h2 := (num_back hc.2.1).1
      show l = decB _ ++ 46 :: decB _
      rw [← h1, ← h2, ← he']
      conv => lhs; rw [← List.take_append_drop k l]
      rw [← List.drop_eq_getElem_cons hlt]
    · rw [if_neg hc] at h; exact absurd h (by simp)
theorem parse_no {l : List UInt8} (h : (parseB l).2 = false) : parseB l = ((0, 0), false) := by
  unfold parseB at h ⊢
  split at h
  · rfl
  · rename_i k hf
    unfold readB at h ⊢
    by_cases hc : (numB (l.take k)).2 = true ∧ (numB (l.drop (k + 1))).2 = true ∧ (numB (l.take k)).1 ≤ 65535 ∧ mayD ((numB (l.take k)).1, (numB (l.drop (k + 1))).1) = true
    · rw [if_pos hc] at h; exact absurd h (by simp)
    · rw [if_neg hc]
/-- two dots of one Text are the same. -/
theorem decB_inj {v u : Nat} (h : decB v = decB u) : v = u := by rw [← dec_val v, h, dec_val]
end Go.Proofs.YtoojlalpcmlanaaDoor.Dt
