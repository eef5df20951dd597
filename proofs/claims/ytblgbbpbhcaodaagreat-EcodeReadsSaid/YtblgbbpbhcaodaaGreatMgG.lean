/- Words and contracts that the proofs of this seat stand on, part 7 of 14. -/
import Derived.Test.YtblgbbpbhcaodaaGreatMgE
import Derived.Test.YtblgbbpbhcaodaaGreatMgF
import Derived.Deep.RegionHeld3

/- Events as bytes, and what a reader makes of any bytes. Plain: nothing is asked of a program. -/
namespace Go.Proofs.YtblgbbpbhcaodaaGreat.Ec
open Go.ChangeShapes Go.WideShapes Go.ChangeAt Go.RowKit Go.Proofs.YtblgbbpbhcaodaaGreat.Dc
set_option linter.unusedVariables false
set_option maxRecDepth 4000

abbrev Evt := Ev.Evt

/-! ### A byte, a text -/
def byteN (s : St) : Nat := Nu.byteV s.1
def byteS (s : St) : St := (Nu.byteL s.1, Nu.byteE s.1 s.2)
def textN (m : Nat) (s : St) : ByteArray := Nu.str (Nu.textV (m : Int) s.1)
def textS (m : Nat) (s : St) : St := (Nu.textL (m : Int) s.1, Nu.textE (m : Int) s.1 s.2)
theorem byte_sound {s : St} (h : Sound s) : Sound (byteS s) := fun hn => by
  obtain ⟨l, e⟩ := s
  cases l with
  | nil => rfl
  | cons x r =>
    have h1 : Nu.byteE (x :: r) e = e := if_neg (fun h => by cases h)
    have h2 : e ≠ 0 := fun h0 => hn (h1.trans h0)
    have h3 := h h2
    cases h3
theorem byteS_ok {s : St} (h : (byteS s).2 = 0) : s.2 = 0 ∧ s.1 = byteN s :: (byteS s).1 := by
  obtain ⟨l, e⟩ := s
  cases l with
  | nil =>
    have h1 : Nu.byteE [] e = Nu.stopE e 2 := if_pos rfl
    exact absurd (h1.symm.trans h) (stop_ne (by decide))
  | cons x r =>
    have h1 : Nu.byteE (x :: r) e = e := if_neg (fun h => by cases h)
    exact ⟨h1.symm.trans h, rfl⟩
theorem byte_small {s : St} (h : Nu.Small s.1) : Nu.Small (byteS s).1 := by
  obtain ⟨l, e⟩ := s
  cases l with
  | nil => exact h
  | cons x r => exact fun y hy => h y (List.mem_cons_of_mem _ hy)
theorem byteN_lt {s : St} (h : Nu.Small s.1) : byteN s < 256 := Nu.byteV_lt h
theorem byte_back (x : Nat) (r : List Nat) : byteN ([x] ++ r, 0) = x ∧ byteS ([x] ++ r, 0) = (r, 0) := by
  refine ⟨rfl, ?_⟩
  have h1 : Nu.byteE (x :: r) 0 = 0 := if_neg (fun h => by cases h)
  show (Nu.byteL (x :: r), Nu.byteE (x :: r) 0) = _
  rw [h1]
  rfl
theorem byteS_len (s : St) : (byteS s).1.length ≤ s.1.length := by
  obtain ⟨l, e⟩ := s
  cases l with
  | nil => exact Nat.le_refl _
  | cons x r => exact Nat.le_succ _
theorem str_sb (s : ByteArray) : Nu.str (Nu.sb s) = s := by
  apply ByteArray.ext
  apply Array.ext'
  have h := Nu.str_toList (Nu.sb s)
  rw [ByteArray.toList_eq] at h
  rw [h]
  unfold Nu.sb
  rw [List.map_map]
  have : (UInt8.ofNat ∘ UInt8.toNat) = id := by funext x; simp
  rw [this, List.map_id]
theorem sb_str {l : List Nat} (h : Nu.Small l) : Nu.sb (Nu.str l) = l := by
  have h1 := Nu.str_toList l
  rw [ByteArray.toList_eq] at h1
  unfold Nu.sb
  rw [h1, List.map_map]
  refine (List.map_congr_left (g := id) (fun x hx => ?_)).trans (List.map_id _)
  have := h x hx
  show (UInt8.ofNat x).toNat = x
  rw [UInt8.toNat_ofNat']
  omega
theorem str_size {l : List Nat} (h : Nu.Small l) : (Nu.str l).size = l.length := by rw [← Nu.sb_length, sb_str h]
theorem textV_in (m : Nat) (l : List Nat) : (Nu.textV (m : Int) l).length ≤ m := by
  unfold Nu.textV
  rw [Int.toNat_natCast]
  split
  · exact Nat.zero_le _
  · unfold Nu.takeV
    split
    · rw [List.length_take]; omega
    · exact Nat.zero_le _
theorem textV_small {l : List Nat} (m : Nat) (h : Nu.Small l) : Nu.Small (Nu.textV (m : Int) l) := by
  unfold Nu.textV
  split
  · intro x hx; cases hx
  · unfold Nu.takeV
    split
    · exact Nu.small_take (small_numL h) _
    · intro x hx; cases hx
theorem text_short {s : St} (m : Nat) (h : Nu.Small s.1) : (textN m s).size ≤ m := by
  show (Nu.str (Nu.textV (m : Int) s.1)).size ≤ m
  rw [str_size (textV_small m h)]
  exact textV_in m s.1
theorem text_small {s : St} (m : Nat) (h : Nu.Small s.1) : Nu.Small (textS m s).1 := by
  show Nu.Small (Nu.textL (m : Int) s.1)
  unfold Nu.textL
  split
  · intro x hx; cases hx
  · unfold Nu.takeL
    split
    · exact Nu.small_drop (small_numL h) _
    · intro x hx; cases hx
theorem textS_len (m : Nat) (s : St) : (textS m s).1.length ≤ s.1.length := by
  show (Nu.textL (m : Int) s.1).length ≤ _
  unfold Nu.textL
  split
  · exact Nat.zero_le _
  · unfold Nu.takeL
    split
    · rw [List.length_drop]; have := (num_shorter s.1).1; omega
    · exact Nat.zero_le _
theorem textS_ok {m : Nat} {s : St} (h : (textS m s).2 = 0) : s.2 = 0 ∧ (numS s).2 = 0 ∧ numN s ≤ m ∧ numN s ≤ (numS s).1.length ∧ Nu.textV (m : Int) s.1 = (numS s).1.take (numN s) ∧ (textS m s).1 = (numS s).1.drop (numN s) := by
  have h1 : Nu.textE (m : Int) s.1 s.2 = 0 := h
  unfold Nu.textE at h1
  rw [Int.toNat_natCast] at h1
  by_cases hm : m < Nu.numV s.1
  · rw [if_pos hm] at h1
    exact absurd h1 (stop_ne (by decide))
  · rw [if_neg hm] at h1
    unfold Nu.takeE at h1
    by_cases hk : Nu.numV s.1 ≤ (Nu.numL s.1).length
    · rw [if_pos hk] at h1
      refine ⟨(stop_iff.1 h1).1, h1, by show Nu.numV s.1 ≤ m; omega, hk, ?_, ?_⟩
      · unfold Nu.textV Nu.takeV
        rw [Int.toNat_natCast, if_neg hm, if_pos hk]
        rfl
      · show Nu.textL (m : Int) s.1 = _
        unfold Nu.textL Nu.takeL
        rw [Int.toNat_natCast, if_neg hm, if_pos hk]
        rfl
    · rw [if_neg hk] at h1
      exact absurd h1 (stop_ne (by decide))
theorem text_sound {m : Nat} {s : St} (h : Sound s) : Sound (textS m s) := fun hn => by
  have h1 : Nu.textE (m : Int) s.1 s.2 ≠ 0 := hn
  show Nu.textL (m : Int) s.1 = []
  unfold Nu.textE at h1
  unfold Nu.textL
  by_cases hm : (m : Int).toNat < Nu.numV s.1
  · rw [if_pos hm]
  · rw [if_neg hm] at h1 ⊢
    unfold Nu.takeE at h1
    unfold Nu.takeL
    by_cases hk : Nu.numV s.1 ≤ (Nu.numL s.1).length
    · rw [if_pos hk] at h1 ⊢
      have h2 : Nu.numL s.1 = [] := num_sound h h1
      rw [h2, List.drop_nil]
    · rw [if_neg hk]
theorem text_in {m : Nat} {s : St} (hs : Nu.Small s.1) (h : (textS m s).2 = 0) : s.1 = Nu.enc (textN m s).size ++ (Nu.sb (textN m s) ++ (textS m s).1) := by
  obtain ⟨h1, h2, h3, h4, h5, h6⟩ := textS_ok h
  obtain ⟨a1, a2⟩ := numS_in hs h2
  have hv := textV_small m hs
  have h7 : Nu.sb (textN m s) = (numS s).1.take (numN s) := (sb_str hv).trans h5
  have h8 : (textN m s).size = numN s := by
    show (Nu.str (Nu.textV (m : Int) s.1)).size = _
    rw [str_size hv, h5, List.length_take]
    omega
  rw [h7, h8, h6, List.take_append_drop]
  exact a1
theorem text_back {m : Nat} {t : ByteArray} (ht : t.size ≤ m) (hb : t.size < big) (r : List Nat) : textN m (Nu.enc t.size ++ (Nu.sb t ++ r), 0) = t ∧ textS m (Nu.enc t.size ++ (Nu.sb t ++ r), 0) = (r, 0) := by
  obtain ⟨h1, h2, h3⟩ := num_back hb (Nu.sb t ++ r)
  have hl : (Nu.sb t).length = t.size := Nu.sb_length t
  have hk : t.size ≤ (Nu.sb t ++ r).length := by rw [List.length_append, hl]; omega
  have hm : ¬ (m : Int).toNat < t.size := by rw [Int.toNat_natCast]; omega
  have e1 : (Nu.sb t ++ r).take t.size = Nu.sb t := by rw [← hl]; exact List.take_left
  have e2 : (Nu.sb t ++ r).drop t.size = r := by rw [← hl]; exact List.drop_left
  refine ⟨?_, ?_⟩
  · show Nu.str (Nu.textV (m : Int) _) = t
    unfold Nu.textV Nu.takeV
    rw [h1, h2, if_neg hm, if_pos hk, e1, str_sb]
  · show (Nu.textL (m : Int) _, Nu.textE (m : Int) _ 0) = _
    unfold Nu.textL Nu.takeL Nu.textE Nu.takeE
    rw [h1, h2, h3, if_neg hm, if_pos hk, if_neg hm, if_pos hk, e2]
    rfl

/-! ### Dots that are read -/
theorem ord_snoc {o : List Dot} {d : Dot} (ho : Dt.Ord o) (h : stepsB o d = true) : Dt.Ord (o ++ [d]) := by
  rcases List.eq_nil_or_concat o with rfl | ⟨l, x, rfl⟩
  · exact List.pairwise_singleton _ _
  · rw [List.concat_eq_append] at ho h ⊢
    unfold stepsB at h
    rw [List.getLast?_concat] at h
    rw [← Dt.rise_ord, Dt.riseB_snoc, (Dt.rise_ord _).2 ho]
    exact h
theorem dotsS_ok {o : List Dot} {s : St} (h : (dotsS o s).2 = 0) : (dotR s).2.2 = 0 ∧ stepsB o (dotR s).1 = true ∧ dotsS o s = (dotR s).2 := by
  unfold dotsS at h ⊢
  by_cases hc : (dotR s).2.2 = 0 ∧ stepsB o (dotR s).1 = false
  · rw [if_pos hc] at h
    exact absurd h (stop_ne (by decide))
  · rw [if_neg hc] at h ⊢
    refine ⟨h, ?_, rfl⟩
    cases hb : stepsB o (dotR s).1 with
    | true => rfl
    | false => exact absurd ⟨h, hb⟩ hc
theorem dotsL_in : ∀ (k : Nat) (o : List Dot) (s : St), Nu.Small s.1 → Dt.Ord o → (dotsL k o s).2.2 = 0 →
    s.2 = 0 ∧ ∃ q, (dotsL k o s).1 = o ++ q ∧ q.length = k ∧ s.1 = q.flatMap dotB ++ (dotsL k o s).2.1 ∧ (∀ x ∈ q, Dt.mayD x = true ∧ x.1 < 65536 ∧ x.2 < big) ∧ Dt.Ord (o ++ q)
  | 0, o, s, _, ho, h => ⟨h, [], by simp [dotsL], rfl, by simp [dotsL], (fun x hx => by cases hx), by simpa using ho⟩
  | k + 1, o, s, hs, ho, h => by
    by_cases h0 : s.2 = 0
    · have e : dotsL (k + 1) o s = dotsL k (o ++ [(dotR s).1]) (dotsS o s) := by
        conv => lhs; unfold dotsL
        rw [if_pos h0]
      rw [e] at h ⊢
      have hk0 : (dotsS o s).2 = 0 := by
        rcases Nat.eq_zero_or_pos (dotsS o s).2 with h2 | h2
        · exact h2
        · rw [dotsL_bad (by omega)] at h
          exact h
      obtain ⟨g1, g2, g3⟩ := dotsS_ok hk0
      obtain ⟨_, a2, a3⟩ := dot_in hs g1
      have hsm : Nu.Small (dotsS o s).1 := by rw [g3]; exact dotR_small hs
      obtain ⟨_, q, b1, b2, b3, b4, b5⟩ := dotsL_in k _ _ hsm (ord_snoc ho g2) h
      refine ⟨h0, (dotR s).1 :: q, by rw [b1, List.append_assoc]; rfl, by rw [List.length_cons, b2], ?_, fun x hx => ?_, by rw [List.append_assoc] at b5; exact b5⟩
      · rw [List.flatMap_cons, List.append_assoc, ← b3, g3]
        exact a2
      · rcases List.mem_cons.1 hx with rfl | hx
        · exact ⟨a3, dotR_fit hs⟩
        · exact b4 x hx
    · rw [dotsL_bad h0] at h
      exact absurd h h0
/-- WHAT IS READ AS DOTS HAS BEEN WRITTEN SO. -/
theorem dots_in {most : Nat} {s : St} (hs : Nu.Small s.1) (h : (dotsR most s).2.2 = 0) : s.2 = 0 ∧ s.1 = dotsB (dotsR most s).1 ++ (dotsR most s).2.1 ∧ Dt.Ord (dotsR most s).1 ∧ (∀ x ∈ (dotsR most s).1, Dt.mayD x = true ∧ x.1 < 65536 ∧ x.2 < big) ∧ (dotsR most s).1.length ≤ most := by
  by_cases hz : (dotsL (numN s) [] (dotsF most s)).2.2 = 0
  · have e : dotsR most s = dotsL (numN s) [] (dotsF most s) := if_pos hz
    have hF : Nu.Small (dotsF most s).1 := by
      unfold dotsF
      split
      · intro x hx; cases hx
      · exact num_small hs
    obtain ⟨h1, q, b1, b2, b3, b4, b5⟩ := dotsL_in _ _ _ hF List.Pairwise.nil hz
    have hm : ¬ most < numN s := fun hm => by
      have : dotsF most s = failS 3 (numS s) := if_pos hm
      rw [this] at h1
      exact stop_ne (by decide) h1
    have eF : dotsF most s = numS s := if_neg hm
    rw [eF] at h1
    obtain ⟨a1, a2⟩ := numS_in hs h1
    have hq : (dotsR most s).1 = q := by rw [e, b1, List.nil_append]
    refine ⟨(numS_ok h1).1, ?_, by rw [hq]; simpa using b5, by rw [hq]; exact b4, by rw [hq, b2]; omega⟩
    unfold dotsB
    rw [hq, b2, List.append_assoc, e, ← b3, eF]
    exact a1
  · have e : dotsR most s = ([], (dotsL (numN s) [] (dotsF most s)).2) := if_neg hz
    rw [e] at h
    exact absurd h hz
theorem dotsR_sound {most : Nat} {s : St} (h : Sound s) : Sound (dotsR most s).2 := by
  have h1 := dotsL_sound (numN s) [] _ (dotsF_sound (most := most) h)
  unfold dotsR
  split
  · exact h1
  · exact h1
theorem dotsL_small : ∀ (k : Nat) (o : List Dot) (s : St), Nu.Small s.1 → Nu.Small (dotsL k o s).2.1
  | 0, o, s, h => h
  | k + 1, o, s, h => by
    unfold dotsL
    split
    · refine dotsL_small k _ _ ?_
      unfold dotsS
      split
      · intro x hx; cases hx
      · exact dotR_small h
    · exact h
theorem dotsR_small {most : Nat} {s : St} (h : Nu.Small s.1) : Nu.Small (dotsR most s).2.1 := by
  have hF : Nu.Small (dotsF most s).1 := by
    unfold dotsF
    split
    · intro x hx; cases hx
    · exact num_small h
  have h1 := dotsL_small (numN s) [] _ hF
  unfold dotsR
  split
  · exact h1
  · exact h1
theorem dotsR_max {most : Nat} {s : St} (h : Nu.Small s.1) : (dotsR most s).1.length ≤ most := by
  by_cases hz : (dotsR most s).2.2 = 0
  · exact (dots_in h hz).2.2.2.2
  · unfold dotsR at hz ⊢
    split
    · rename_i h2; rw [if_pos h2] at hz; exact absurd h2 hz
    · exact Nat.zero_le _
theorem dotsR_bad {most : Nat} {s : St} (h : (dotsR most s).2.2 ≠ 0) : (dotsR most s).1 = [] := by
  unfold dotsR at h ⊢
  split
  · rename_i h2; rw [if_pos h2] at h; exact absurd h2 h
  · rfl
theorem dotsR_len (most : Nat) (s : St) : (dotsR most s).2.1.length ≤ s.1.length := by
  have hF : (dotsF most s).1.length ≤ s.1.length := by
    unfold dotsF
    split
    · exact Nat.zero_le _
    · exact numS_len s
  have h1 : ∀ (k : Nat) (o : List Dot) (s : St), (dotsL k o s).2.1.length ≤ s.1.length := by
    intro k
    induction k with
    | zero => intro o s; exact Nat.le_refl _
    | succ k ih =>
      intro o s
      unfold dotsL
      split
      · refine Nat.le_trans (ih _ _) ?_
        unfold dotsS
        split
        · exact Nat.zero_le _
        · exact (dotR_len s).1
      · exact Nat.le_refl _
  have h2 := Nat.le_trans (h1 (numN s) [] (dotsF most s)) hF
  unfold dotsR
  split
  · exact h2
  · exact h2
end Go.Proofs.YtblgbbpbhcaodaaGreat.Ec

/- Events as bytes, going on: one event, and many. Plain. -/
namespace Go.Proofs.YtblgbbpbhcaodaaGreat.Ec
open Go.ChangeShapes Go.WideShapes Go.ChangeAt Go.RowKit Go.Proofs.YtblgbbpbhcaodaaGreat.Dc
set_option linter.unusedVariables false
set_option maxRecDepth 4000

/-! ### One event -/
def evtB (x : Evt) : List Nat := dotB x.dot ++ ([x.kind] ++ (Nu.enc x.cid ++ ([x.fld] ++ (Nu.enc x.txt.size ++ (Nu.sb x.txt ++ dotsB (someD x.kills))))))
def e1 (s : St) : St := (dotR s).2
def e2 (s : St) : St := byteS (e1 s)
def e3 (s : St) : St := numS (e2 s)
def e4 (s : St) : St := byteS (e3 s)
def e5 (s : St) : St := textS 60 (e4 s)
def e6 (s : St) : St := (dotsR 256 (e5 s)).2
/-- what stands there, as an event. -/
def evtN (s : St) : Evt := ⟨(dotR s).1, byteN (e1 s), numN (e2 s), byteN (e3 s), textN 60 (e4 s), (dotsR 256 (e5 s)).1⟩
def evtZ : Evt := ⟨(0, 0), 0, 0, 0, ⟨#[]⟩, []⟩
def evtR (s : St) : Evt × St := if (e6 s).2 = 0 ∧ Ev.goodE (evtN s) = true then (evtN s, e6 s) else (evtZ, failS 4 (e6 s))
theorem e6_sound {s : St} (h : Sound s) : Sound (e6 s) := dotsR_sound (text_sound (byte_sound (num_sound (byte_sound (dotR_sound h)))))
theorem e1_small {s : St} (h : Nu.Small s.1) : Nu.Small (e1 s).1 := dotR_small h
theorem e2_small {s : St} (h : Nu.Small s.1) : Nu.Small (e2 s).1 := byte_small (e1_small h)
theorem e3_small {s : St} (h : Nu.Small s.1) : Nu.Small (e3 s).1 := num_small (e2_small h)
theorem e4_small {s : St} (h : Nu.Small s.1) : Nu.Small (e4 s).1 := byte_small (e3_small h)
theorem e5_small {s : St} (h : Nu.Small s.1) : Nu.Small (e5 s).1 := text_small 60 (e4_small h)
theorem e6_small {s : St} (h : Nu.Small s.1) : Nu.Small (e6 s).1 := dotsR_small (e5_small h)
theorem e5_len (s : St) : (e5 s).1.length ≤ s.1.length := Nat.le_trans (textS_len _ _) (Nat.le_trans (byteS_len _) (Nat.le_trans (numS_len _) (Nat.le_trans (byteS_len _) (dotR_len s).1)))
theorem evtR_sound {s : St} (h : Sound s) : Sound (evtR s).2 := by
  unfold evtR
  split
  · exact e6_sound h
  · exact fail_sound _ _
theorem evtR_small {s : St} (h : Nu.Small s.1) : Nu.Small (evtR s).2.1 := by
  unfold evtR
  split
  · exact e6_small h
  · intro x hx; cases hx
/-- numbers of an event that was read fit. -/
theorem evtN_fits {s : St} (h : Nu.Small s.1) : Ev.Fits (evtN s) :=
  ⟨dotR_fit h, byteN_lt (e1_small h), Nu.numV_lt (e2_small h), byteN_lt (e3_small h), Nat.le_trans (text_short 60 (e4_small h)) (by decide)⟩
theorem evtZ_fits : Ev.Fits evtZ := ⟨⟨by decide, by decide⟩, by decide, by decide, by decide, show (0 : Nat) ≤ 140737488355328 by decide⟩
theorem evtZ_bad : Ev.goodE evtZ = false := by
  unfold Ev.goodE
  rw [show Dt.mayD evtZ.dot = false from by decide]
  simp
theorem evtR_fits {s : St} (h : Nu.Small s.1) : Ev.Fits (evtR s).1 := by
  unfold evtR
  split
  · exact evtN_fits h
  · exact evtZ_fits
theorem evtN_kills {s : St} (h : Nu.Small s.1) : (evtN s).kills.length ≤ 256 := dotsR_max (e5_small h)
theorem evtR_ok {s : St} (h : (evtR s).2.2 = 0) : (e6 s).2 = 0 ∧ Ev.goodE (evtN s) = true ∧ evtR s = (evtN s, e6 s) := by
  unfold evtR at h ⊢
  by_cases hc : (e6 s).2 = 0 ∧ Ev.goodE (evtN s) = true
  · rw [if_pos hc]; exact ⟨hc.1, hc.2, rfl⟩
  · rw [if_neg hc] at h
    exact absurd h (stop_ne (by decide))
theorem evtR_bad {s : St} (h : (evtR s).2.2 ≠ 0) : (evtR s).1 = evtZ := by
  unfold evtR at h ⊢
  by_cases hc : (e6 s).2 = 0 ∧ Ev.goodE (evtN s) = true
  · rw [if_pos hc] at h; exact absurd hc.1 h
  · rw [if_neg hc]
/-- of an event that may be: its parts. -/
theorem good_kills {x : Evt} (h : Ev.goodE x = true) : (∀ d ∈ x.kills, Dt.mayD d = true) ∧ Dt.Ord x.kills ∧ x.kills.length ≤ 256 ∧ Dt.mayD x.dot = true := by
  unfold Ev.goodE at h
  simp only [Bool.and_eq_true, decide_eq_true_eq, List.all_eq_true] at h
  obtain ⟨⟨⟨⟨⟨⟨_, h1⟩, _⟩, h2⟩, h3⟩, h4⟩, _⟩ := h
  exact ⟨h2, (Dt.rise_ord _).1 h4, h3, h1⟩
theorem good_text {x : Evt} (h : Ev.goodE x = true) : x.txt.size ≤ 60 := by
  unfold Ev.goodE at h
  simp only [Bool.and_eq_true] at h
  have h2 := h.1.1.1.1.2
  unfold Ev.headB at h2
  split at h2
  · simp only [Bool.and_eq_true] at h2
    have h3 := h2.2
    unfold Fd.textB at h3
    simp only [Bool.and_eq_true, decide_eq_true_eq] at h3
    have h4 := h3.2
    rw [Array.length_toList] at h4
    exact h4
  · split at h2
    · simp only [Bool.and_eq_true, decide_eq_true_eq] at h2
      rw [h2.2]
      exact Nat.zero_le _
    · cases h2
/-- WHAT IS WRITTEN IS READ. -/
theorem evt_back {x : Evt} (hg : Ev.goodE x = true) (hf : Ev.Fits x) (hk : Dt.Fit x.kills) (r : List Nat) : evtR (evtB x ++ r, 0) = (x, (r, 0)) := by
  obtain ⟨g1, g2, g3, g4⟩ := good_kills hg
  have ht := good_text hg
  have hsome : someD x.kills = x.kills := some_self g1 g2
  have e : evtB x ++ r = dotB x.dot ++ ([x.kind] ++ (Nu.enc x.cid ++ ([x.fld] ++ (Nu.enc x.txt.size ++ (Nu.sb x.txt ++ (dotsB x.kills ++ r)))))) := by
    unfold evtB
    rw [hsome]
    simp only [List.append_assoc]
  have d1 := dot_back g4 hf.dot.1 hf.dot.2 ([x.kind] ++ (Nu.enc x.cid ++ ([x.fld] ++ (Nu.enc x.txt.size ++ (Nu.sb x.txt ++ (dotsB x.kills ++ r))))))
  rw [← e] at d1
  have q1 : e1 (evtB x ++ r, 0) = ([x.kind] ++ (Nu.enc x.cid ++ ([x.fld] ++ (Nu.enc x.txt.size ++ (Nu.sb x.txt ++ (dotsB x.kills ++ r))))), 0) := by unfold e1; rw [d1]
  obtain ⟨b1, b2⟩ := byte_back x.kind (Nu.enc x.cid ++ ([x.fld] ++ (Nu.enc x.txt.size ++ (Nu.sb x.txt ++ (dotsB x.kills ++ r)))))
  have q2 : e2 (evtB x ++ r, 0) = (Nu.enc x.cid ++ ([x.fld] ++ (Nu.enc x.txt.size ++ (Nu.sb x.txt ++ (dotsB x.kills ++ r)))), 0) := by unfold e2; rw [q1, b2]
  obtain ⟨c1, c2⟩ := numS_back hf.cid ([x.fld] ++ (Nu.enc x.txt.size ++ (Nu.sb x.txt ++ (dotsB x.kills ++ r))))
  have q3 : e3 (evtB x ++ r, 0) = ([x.fld] ++ (Nu.enc x.txt.size ++ (Nu.sb x.txt ++ (dotsB x.kills ++ r))), 0) := by unfold e3; rw [q2, c2]
  obtain ⟨f1, f2⟩ := byte_back x.fld (Nu.enc x.txt.size ++ (Nu.sb x.txt ++ (dotsB x.kills ++ r)))
  have q4 : e4 (evtB x ++ r, 0) = (Nu.enc x.txt.size ++ (Nu.sb x.txt ++ (dotsB x.kills ++ r)), 0) := by unfold e4; rw [q3, f2]
  obtain ⟨t1, t2⟩ := text_back (m := 60) ht (show x.txt.size < 18446744073709551616 by omega) (dotsB x.kills ++ r)
  have q5 : e5 (evtB x ++ r, 0) = (dotsB x.kills ++ r, 0) := by unfold e5; rw [q4, t2]
  have k1 := dots_back (most := 256) (fun d hd => ⟨g1 d hd, hk d hd⟩) g2 g3 (show x.kills.length < 18446744073709551616 by omega) r
  have q6 : e6 (evtB x ++ r, 0) = (r, 0) := by unfold e6; rw [q5, k1]
  have hN : evtN (evtB x ++ r, 0) = x := by
    unfold evtN
    rw [d1, q1, q2, q3, q4, q5, b1, c1, f1, t1, k1]
  unfold evtR
  rw [hN, q6, if_pos ⟨rfl, hg⟩]
/-- WHAT IS READ AS AN EVENT HAS BEEN WRITTEN SO. -/
theorem evt_in {s : St} (hs : Nu.Small s.1) (h : (evtR s).2.2 = 0) : s.2 = 0 ∧ s.1 = evtB (evtR s).1 ++ (evtR s).2.1 ∧ Ev.goodE (evtR s).1 = true ∧ Dt.Fit (evtR s).1.kills := by
  obtain ⟨h1, h2, h3⟩ := evtR_ok h
  obtain ⟨k1, k2, k3, k4, k5⟩ := dots_in (e5_small hs) h1
  obtain ⟨t1, _⟩ := textS_ok k1
  have t2 := text_in (e4_small hs) k1
  obtain ⟨f1, f2⟩ := byteS_ok t1
  obtain ⟨c1, _⟩ := numS_in (e2_small hs) f1
  have c2 := (numS_ok f1).1
  obtain ⟨b1, b2⟩ := byteS_ok c2
  obtain ⟨d1, d2, d3⟩ := dot_in hs b1
  rw [h3]
  refine ⟨d1, ?_, h2, fun d hd => (k4 d hd).2⟩
  have hsome : someD (evtN s).kills = (evtN s).kills := some_self (fun d hd => (k4 d hd).1) k3
  unfold evtB
  rw [hsome]
  have w5 : (e5 s).1 = dotsB (evtN s).kills ++ (e6 s).1 := k2
  have w4 : (e4 s).1 = Nu.enc (evtN s).txt.size ++ (Nu.sb (evtN s).txt ++ (e5 s).1) := t2
  have w3 : (e3 s).1 = [(evtN s).fld] ++ (e4 s).1 := f2
  have w2 : (e2 s).1 = Nu.enc (evtN s).cid ++ (e3 s).1 := c1
  have w1 : (e1 s).1 = [(evtN s).kind] ++ (e2 s).1 := b2
  have w0 : s.1 = dotB (evtN s).dot ++ (e1 s).1 := d2
  show s.1 = _ ++ (e6 s).1
  simp only [List.append_assoc]
  rw [← w5, ← w4, ← w3, ← w2, ← w1]
  exact w0
theorem evtB_small {x : Evt} (hf : Ev.Fits x) : Nu.Small (evtB x) := by
  unfold evtB
  refine Nu.small_append (dotB_small _) (Nu.small_append ?_ (Nu.small_append (Nu.enc_small _) (Nu.small_append ?_ (Nu.small_append (Nu.enc_small _) (Nu.small_append (Nu.sb_small _) (dotsB_small _))))))
  · intro y hy
    obtain rfl := List.mem_singleton.1 hy
    exact hf.kind
  · intro y hy
    obtain rfl := List.mem_singleton.1 hy
    exact hf.fld
theorem evtB_len (x : Evt) : (evtB x).length ≤ 56 + x.txt.size + x.kills.length * 18 := by
  have h1 := dotB_le x.dot
  have h2 := enc_le x.cid
  have h3 := enc_le x.txt.size
  have h4 := Nu.sb_length x.txt
  have h5 := dotsB_len (someD x.kills)
  have h6 := some_len x.kills
  unfold evtB
  simp only [List.length_append, List.length_singleton]
  omega
theorem evtR_len (s : St) : (evtR s).2.1.length ≤ s.1.length ∧ ((evtR s).2.2 = 0 → (evtR s).2.1.length + 2 ≤ s.1.length) := by
  have h1 := e5_len s
  have h2 : (e6 s).1.length ≤ (e5 s).1.length := dotsR_len 256 (e5 s)
  refine ⟨?_, fun h => ?_⟩
  · unfold evtR
    split
    · exact Nat.le_trans h2 h1
    · exact Nat.zero_le _
  · obtain ⟨g1, _, g3⟩ := evtR_ok h
    rw [g3]
    show (e6 s).1.length + 2 ≤ _
    have k0 : (dotsR 256 (e5 s)).2.2 = 0 := g1
    have k1 : (e5 s).2 = 0 := by
      rcases Nat.eq_zero_or_pos (e5 s).2 with h0 | h0
      · exact h0
      · exfalso
        have hF : (dotsF 256 (e5 s)).2 ≠ 0 := by
          unfold dotsF
          split
          · exact stop_ne (by decide)
          · intro h9; have := (numS_ok h9).1; omega
        unfold dotsR at k0
        rw [dotsL_bad hF] at k0
        split at k0
        · rename_i h8; exact hF h8
        · exact hF k0
    have t1 := (textS_ok k1).1
    have f1 := (byteS_ok t1).1
    have c1 := (numS_ok f1).1
    have b1 := (byteS_ok c1).1
    have d1 := (dotR_len s).2 b1
    have d2 : (e2 s).1.length ≤ (e1 s).1.length := byteS_len _
    have d3 : (e3 s).1.length ≤ (e2 s).1.length := numS_len _
    have d4 : (e4 s).1.length ≤ (e3 s).1.length := byteS_len _
    have d5 : (e5 s).1.length ≤ (e4 s).1.length := textS_len _ _
    have d0 : (e1 s).1.length + 2 ≤ s.1.length := d1
    omega
def endN (s : St) : Nat := Nu.endE s.1 s.2
def decE (b : List Nat) : Evt × Nat := if endN (evtR (b, 0)).2 = 0 then ((evtR (b, 0)).1, 0) else (evtZ, endN (evtR (b, 0)).2)
theorem end_zero {s : St} (hs : Sound s) (h : endN s = 0) : s = ([], 0) := by
  obtain ⟨l, e⟩ := s
  have h' : Nu.endE l e = 0 := h
  unfold Nu.endE at h'
  by_cases hl : l = []
  · rw [if_pos hl] at h'
    rw [hl, h']
  · rw [if_neg hl] at h'
    exact absurd h' (stop_ne (by decide))
/-- what is decoded: just what was encoded. -/
theorem dec_in {b : List Nat} (hb : Nu.Small b) (h : (decE b).2 = 0) : b = evtB (decE b).1 ∧ Ev.goodE (decE b).1 = true := by
  unfold decE at h ⊢
  by_cases he : endN (evtR (b, 0)).2 = 0
  · rw [if_pos he]
    have hz := end_zero (evtR_sound (fun h => absurd rfl h)) he
    obtain ⟨_, h2, h3, _⟩ := evt_in (s := (b, 0)) hb (by rw [hz])
    refine ⟨?_, h3⟩
    rw [hz] at h2
    simpa using h2
  · rw [if_neg he] at h; exact absurd h he

/-! ### Many -/
def stepsE (o : List Evt) (x : Evt) : Bool := match o.getLast? with | none => true | some y => Dt.aheadD y.dot x.dot
def evtsS (o : List Evt) (s : St) : St := if (evtR s).2.2 = 0 ∧ stepsE o (evtR s).1 = false then failS 4 (evtR s).2 else (evtR s).2
def evtsL : Nat → List Evt → St → List Evt × St
  | 0, o, s => (o, s)
  | k + 1, o, s => if s.2 = 0 then evtsL k (o ++ [(evtR s).1]) (evtsS o s) else (o, s)
def evtsR (most : Nat) (s : St) : List Evt × St := if (evtsL (numN s) [] (dotsF most s)).2.2 = 0 then evtsL (numN s) [] (dotsF most s) else ([], (evtsL (numN s) [] (dotsF most s)).2)
def evtsB (l : List Evt) : List Nat := Nu.enc l.length ++ l.flatMap evtB
theorem evtsS_sound {o : List Evt} {s : St} (h : Sound s) : Sound (evtsS o s) := by
  unfold evtsS
  split
  · exact fail_sound _ _
  · exact evtR_sound h
theorem evtsL_bad {k : Nat} {o : List Evt} {s : St} (h : s.2 ≠ 0) : evtsL k o s = (o, s) := by
  cases k with
  | zero => rfl
  | succ k => unfold evtsL; rw [if_neg h]
theorem evtsL_sound : ∀ (k : Nat) (o : List Evt) (s : St), Sound s → Sound (evtsL k o s).2
  | 0, o, s, h => h
  | k + 1, o, s, h => by
    unfold evtsL
    split
    · exact evtsL_sound k _ _ (evtsS_sound h)
    · exact h
theorem evts_loop : ∀ (q o : List Evt) (r : List Nat), (∀ x ∈ q, Ev.goodE x = true ∧ Ev.Fits x ∧ Dt.Fit x.kills) → Ev.OrdE (o ++ q) → evtsL q.length o (q.flatMap evtB ++ r, 0) = (o ++ q, (r, 0))
  | [], o, r, _, _ => by simp [evtsL]
  | x :: q, o, r, hq, ho => by
    have hx := hq x (List.mem_cons_self ..)
    have e : (x :: q).flatMap evtB ++ r = evtB x ++ (q.flatMap evtB ++ r) := by rw [List.flatMap_cons, List.append_assoc]
    have hr := evt_back hx.1 hx.2.1 hx.2.2 (q.flatMap evtB ++ r)
    have hs : stepsE o x = true := by
      unfold stepsE
      cases hg : o.getLast? with
      | none => rfl
      | some y =>
        have hy : y ∈ o := List.mem_of_getLast? hg
        exact (List.pairwise_append.1 ho).2.2 y hy x (List.mem_cons_self ..)
    show evtsL (q.length + 1) o _ = _
    unfold evtsL
    rw [e, if_pos rfl]
    unfold evtsS
    rw [hr, hs]
    simp only [Bool.true_eq_false, and_false, if_false]
    have ih := evts_loop q (o ++ [x]) r (fun y hy => hq y (List.mem_cons_of_mem _ hy)) (by rw [List.append_assoc]; exact ho)
    rw [ih, List.append_assoc]
    rfl
theorem evts_back {l : List Evt} {most : Nat} (hl : ∀ x ∈ l, Ev.goodE x = true ∧ Ev.Fits x ∧ Dt.Fit x.kills) (ho : Ev.OrdE l) (hm : l.length ≤ most) (hb : l.length < big) (r : List Nat) : evtsR most (evtsB l ++ r, 0) = (l, (r, 0)) := by
  have e : evtsB l ++ r = Nu.enc l.length ++ (l.flatMap evtB ++ r) := by unfold evtsB; rw [List.append_assoc]
  obtain ⟨h1, h2⟩ := numS_back hb (l.flatMap evtB ++ r)
  have hF : dotsF most (evtsB l ++ r, 0) = (l.flatMap evtB ++ r, 0) := by
    unfold dotsF
    rw [e, h1, h2, if_neg (by omega)]
  unfold evtsR
  rw [hF, e, h1, evts_loop l [] r hl (by simpa using ho)]
  rfl
theorem evtsS_len {L : Nat} (o : List Evt) (s : St) (h : (evtsS o s).2 = 0) (hl : o.length + s.1.length ≤ L) : o.length + 1 + (evtsS o s).1.length ≤ L := by
  have h1 := evtR_len s
  unfold evtsS at h ⊢
  split
  · rename_i hc
    rw [if_pos hc] at h
    exact absurd h (stop_ne (by decide))
  · rename_i hc
    rw [if_neg hc] at h
    have := h1.2 h
    omega
theorem evts_step {num k : Nat} {o : List Evt} {s s0 : St} (hk : k < num) (he : s.2 = 0) (hL : evtsL num [] s0 = evtsL (num - k) o s) : evtsL num [] s0 = evtsL (num - (k + 1)) (o ++ [(evtR s).1]) (evtsS o s) := by
  rw [hL, show num - k = num - (k + 1) + 1 by omega]
  conv => lhs; unfold evtsL
  rw [if_pos he]
/-! ### How long -/
def Slim (x : Evt) : Prop := x.kills.length ≤ 300 ∧ x.txt.size ≤ 200
theorem evtsB_len {l : List Evt} (h : ∀ x ∈ l, Slim x) : (l.flatMap evtB).length ≤ l.length * 6000 := by
  induction l with
  | nil => exact Nat.le_refl _
  | cons x l ih =>
    have h1 := h x (List.mem_cons_self ..)
    have h2 := evtB_len x
    have h3 := ih (fun y hy => h y (List.mem_cons_of_mem _ hy))
    have h4 := h1.1
    have h5 := h1.2
    rw [List.flatMap_cons, List.length_append, List.length_cons, Nat.add_mul]
    omega
theorem evts_next {l : List Nat} {U : List Evt} {k : Nat} {x : Evt} (h : U[k]? = some x) : l ++ Nu.enc U.length ++ (U.take (k + 1)).flatMap evtB = l ++ Nu.enc U.length ++ (U.take k).flatMap evtB ++ evtB x := by
  rw [flat_snoc h, List.append_assoc (l ++ Nu.enc U.length)]
theorem evts_all (l : List Nat) {U : List Evt} {n : Nat} (h : U.length = n) : l ++ Nu.enc U.length ++ (U.take n).flatMap evtB = l ++ evtsB U := by
  rw [List.take_of_length_le (by omega)]
  unfold evtsB
  rw [List.append_assoc]
theorem upto_len {l : List Nat} {U : List Evt} {k n : Nat} (hl : l.length = n) (h : ∀ x ∈ U, Slim x) : (l ++ Nu.enc U.length ++ (U.take k).flatMap evtB).length ≤ n + 9 + U.length * 6000 := by
  have h1 := enc_le U.length
  have h2 := evtsB_len (l := U.take k) (fun x hx => h x (List.mem_of_mem_take hx))
  have h3 : (U.take k).length ≤ U.length := by rw [List.length_take]; omega
  have h4 : (U.take k).length * 6000 ≤ U.length * 6000 := Nat.mul_le_mul_right _ h3
  rw [List.length_append, List.length_append, hl]
  omega
end Go.Proofs.YtblgbbpbhcaodaaGreat.Ec

/- The contracts of the document's PutDot and PutDots of layer dcode. -/
namespace Go.Proofs.YtblgbbpbhcaodaaGreat.Dc
open Go.ChangeShapes Go.WideShapes Go.ChangeAt Go.RowKit
set_option linter.unusedVariables false
set_option maxRecDepth 4000

theorem below_new (w : World) (o : Obj) : Below w.heap.size w (w.alloc o) := (Below.refl _ _).alloc (Nat.le_refl _) o
theorem alloc_size (w : World) (o : Obj) : (w.alloc o).heap.size = w.heap.size + 1 := by simp
theorem bel_drew {w W : World} {B : Nat} (h : Below B w W) : Below B w W.drew := h.drew
theorem bel_alloc {w W : World} (o : Obj) (h : Below w.heap.size w W) : Below w.heap.size w (W.alloc o) := h.alloc h.size o
/-- bytes in memory. -/
structure BL (w : World) (A : Option Addr) (l : List Nat) (n c : Nat) : Prop where
  len : l.length = n
  nil : A = none → n = 0 ∧ c = 0
  cap : n ≤ c
  max : c ≤ 9223372036854775807
  at_ : Nu.Bytes w w.heap.size A l
theorem BL.up {w W : World} {A : Option Addr} {l : List Nat} {n c : Nat} (h : BL w A l n c) (hW : Below w.heap.size w W) : BL W A l n c := ⟨h.len, h.nil, h.cap, h.max, h.at_.up hW⟩
theorem BL.none_ (w : World) : BL w none [] 0 0 := ⟨rfl, fun _ => ⟨rfl, rfl⟩, Nat.le_refl _, by decide, Nu.Bytes.none_ _ _ _⟩
/-- bytes come out. -/
def BPost (w : World) (m : List Nat) (e : Ending) (w' : World) : Prop := ∃ A n c, e = .returned (.slice A n c) ∧ BL w' A m n c ∧ Below w.heap.size w w'
theorem post_bytes {w w' : World} {m : List Nat} {e : Ending} (hs : Nu.Small m) (h : Nu.AppPost w m e w') : BPost w m e w' := by
  obtain ⟨g, cap, n, rfl, hn, hg, ho, hb⟩ := h
  obtain ⟨h1, h2, h3⟩ := Dt.own_len ho
  exact ⟨_, n, cap, rfl, ⟨hn, h3, h1, h2, Nu.bytes_own ho hs⟩, hb⟩
theorem len_more {l : List Nat} {n n' v : Nat} (h : l.length = n) (h2 : (l ++ Nu.enc v).length = n') (hn : n ≤ 70368744177664) : n' ≤ 140737488351232 := by
  have := enc_le v
  rw [List.length_append] at h2
  omega
/-- a dot's box. -/
abbrev dbox (d : Dot) : Obj := .cells #[.int .u16 (d.1 : Int), .int .u64 (d.2 : Int)] 39
abbrev dval (d : Dot) : Value := .agg #[.int .u16 (d.1 : Int), .int .u64 (d.2 : Int)]
theorem dbox_new (w : World) (d : Dot) (V : World) (hb : Below (w.heap.size + 1) (w.alloc (dbox d)) V) : V.cell? ⟨w.heap.size, 0, none⟩ = some (.int .u16 (d.1 : Int)) ∧ V.cell? ⟨w.heap.size, 1, none⟩ = some (.int .u64 (d.2 : Int)) :=
  ⟨(hb.cell (p := ⟨w.heap.size, 0, none⟩) (Nat.lt_succ_self _)).trans (by rw [World.cell?_alloc_mark]; rfl), (hb.cell (p := ⟨w.heap.size, 1, none⟩) (Nat.lt_succ_self _)).trans (by rw [World.cell?_alloc_mark]; rfl)⟩

theorem some_next {l : List Dot} {k : Nat} {x : Dot} (h : l[k]? = some x) : someD (l.take (k + 1)) = if Dt.mayD x = true then Dt.putD (someD (l.take k)) x else someD (l.take k) := by
  unfold someD Dt.sortD
  rw [Dt.filter_next _ h, List.foldl_append]
  by_cases hm : Dt.mayD x = true
  · rw [if_pos hm, if_pos hm]; rfl
  · rw [if_neg hm, if_neg hm]; rfl
theorem some_fit {l : List Dot} (h : Dt.Fit l) (k : Nat) : Dt.Fit (someD (l.take k)) ∧ (someD (l.take k)).length ≤ k := by
  refine ⟨fun x hx => ?_, ?_⟩
  · have h2 := (Dt.sort_mem ((l.take k).filter Dt.mayD) x).1 hx
    exact h x (List.mem_of_mem_take (List.mem_filter.1 h2).1)
  · have := some_len (l.take k)
    rw [List.length_take] at this
    omega
theorem p_skip {w1 wr V : World} {n k m c : Nat} {A : Option Addr} {f : Nat → List Dot} (hk : k < n) (hs : f (k + 1) = f k) (hm : (f k).length = m) (ho : wr.ownsRow w1.heap.size 39 2 (.slice A m c) m (Dt.dv (f k))) (hb : Below w1.heap.size w1 wr) (hV : Below wr.heap.size wr V) :
    Dt.PRel w1 n f (.slice A m c) (.int .i64 ((k : Int) + 1)) V :=
  ⟨k + 1, m, A, c, hk, rfl, by go_num, by rw [hs]; exact hm, by rw [hs]; exact Dt.own_kept ho hV, hb.trans (hV.mono hb.size)⟩

/-- what stands between two rounds of PutDots. -/
theorem dots_next {l : List Nat} {U : List Dot} {k : Nat} {x : Dot} (h : U[k]? = some x) : l ++ Nu.enc U.length ++ (U.take (k + 1)).flatMap dotB = l ++ Nu.enc U.length ++ (U.take k).flatMap dotB ++ dotB x := by
  rw [flat_snoc h, List.append_assoc (l ++ Nu.enc U.length)]
theorem put_len {l : List Nat} {U : List Dot} {k n n3 : Nat} (h : l.length = n) (h2 : (l ++ Nu.enc U.length ++ (U.take k).flatMap dotB).length = n3) (hn : n ≤ 1099511627776) (hU : U.length ≤ 1099511627776) : n3 ≤ 70368744177664 := by
  have h3 := enc_le U.length
  have h4 := flat_le (f := dotB) (k := 18) dotB_le (U.take k)
  have h5 : (U.take k).length ≤ U.length := by rw [List.length_take]; omega
  rw [List.length_append, List.length_append] at h2
  omega
end Go.Proofs.YtblgbbpbhcaodaaGreat.Dc

/- The contracts of pack's writer, going on: Bytes; the law's own example; and every method of a nil writer and of a nil reader. -/
namespace Go.Proofs.YtblgbbpbhcaodaaGreat.Nu
open Go.ChangeShapes Go.WideShapes Go.ChangeAt Go.RowKit
set_option linter.unusedVariables false
set_option maxRecDepth 4000

theorem below_two {w w' : World} {B g : Nat} {rb : Option Nat} (h : Two w w' g rb) (hg : B ≤ g) (hr : ∀ k, rb = some k → B ≤ k) (hB : B ≤ w.heap.size) : Below B w w' :=
  ⟨h.os, h.tape, h.output, h.size, fun k hk => h.block k (by omega) (by omega) (fun e => by have := hr k e.symm; omega)⟩
theorem PW.row {w : World} {B g : Nat} {rb : Option Nat} {m : List Nat} (h : PW w B g rb m) : ∀ k, rb = some k → B ≤ k ∧ k < w.heap.size := by
  obtain ⟨v, n, h1, rfl, h3, _⟩ := h
  exact h3.lt
theorem PW.base {w : World} {B g : Nat} {rb : Option Nat} {m : List Nat} (h : PW w B g rb m) : B ≤ g ∧ g < w.heap.size := by
  obtain ⟨v, n, h1, rfl, h3, _, _, h6⟩ := h
  exact ⟨h6, h1.lt⟩
theorem PW.small {w : World} {B g : Nat} {rb : Option Nat} {m : List Nat} (h : PW w B g rb m) : Small m := by
  obtain ⟨v, n, h1, rfl, h3, _, h5, h6⟩ := h
  exact h5
theorem PW.new (w : World) : PW (w.alloc (.cells #[.slice none 0 0] 70)) w.heap.size w.heap.size none [] :=
  ⟨.slice none 0 0, 0, At.new _ _ _, rfl, World.ownsRow_nil _ _ _ _, rfl, fun x hx => (by cases hx), Nat.le_refl _⟩
theorem wbytes_any (w : World) (B g : Nat) (rb : Option Nat) (m : List Nat) (h : PW w B g rb m) (hm : m.length ≤ 140737488355328) :
    Calls Tryz.prog 37 #[.pointer (some ⟨g, 0, none⟩)] w (ClonePost w m) := by
  obtain ⟨v, n, h1, h1b, h3, h4, h5, h6⟩ := h
  have c0 := h1.cell 0
  simp at c0
  rcases h3.2 with ⟨rfl, rfl⟩ | ⟨g1, cap, cur, rfl, _⟩
  · obtain rfl := List.eq_nil_of_length_eq_zero h4
    clear h1 h1b h3 h4 h5
    go_enter Tryz.func37, Tryz.ntmps37
    go_wp2_with fail
    refine (clone_any w none [] 0 0 rfl (fun _ => ⟨rfl, rfl⟩) (Bytes.none_ _ _ _) (by omega)).mono ?_
    rintro r w' ⟨A, n, c, rfl, hp⟩
    have HP := Lib.hid hp
    clear hp
    go_wp2
    go_ret
    exact ⟨A, n, c, rfl, HP.out⟩
  · have HB := Lib.hid (bytes_own h3 h5)
    have H4 := Lib.hid h4
    rw [h4] at hm
    clear h1 h1b h3 h4 h5
    go_enter Tryz.func37, Tryz.ntmps37
    go_wp2_with fail
    refine (clone_any w (some ⟨g1, 0, none⟩) m n cap H4.out (fun h => (by cases h)) HB.out hm).mono ?_
    rintro r w' ⟨A, n', c, rfl, hp⟩
    have HP := Lib.hid hp
    clear hp
    go_wp2
    go_ret
    exact ⟨A, n', c, rfl, HP.out⟩

def ab : ByteArray := ⟨#[97, 98]⟩
theorem ex_bytes : ([] ++ enc 258) ++ (enc ab.size ++ sb ab) = [2, 1, 2, 1, 2, 97, 98] := by decide

theorem nil25 (w : World) (x : Int) : Calls Tryz.prog 58 #[.pointer none, .int .u64 x] w fun r w' => r = .returned (.tuple #[]) ∧ w = w' := by
  go_enter Tryz.func58, Tryz.ntmps58
  go_wp2
  refine bodyPost_ret (results_none rfl _ _ _) rfl ?_
  exact ⟨rfl, rfl⟩
theorem nil27 (w : World) (x : Int) : Calls Tryz.prog 57 #[.pointer none, .int .u8 x] w fun r w' => r = .returned (.tuple #[]) ∧ w = w' := by
  -- stands on function 59
  go_enter Tryz.func57, Tryz.ntmps57
  go_wp2
  refine bodyPost_ret (results_none rfl _ _ _) rfl ?_
  exact ⟨rfl, rfl⟩
theorem nil30 (w : World) (s : ByteArray) : Calls Tryz.prog 59 #[.pointer none, .string s] w fun r w' => r = .returned (.tuple #[]) ∧ w = w' := by
  go_enter Tryz.func59, Tryz.ntmps59
  go_wp2
  refine bodyPost_ret (results_none rfl _ _ _) rfl ?_
  exact ⟨rfl, rfl⟩
theorem nil17 (w : World) (x : Int) : Calls Tryz.prog 21 #[.pointer none, .int .i64 x] w fun r w' => r = .returned (.tuple #[]) ∧ w = w' := by
  go_enter Tryz.func21, Tryz.ntmps21
  go_wp2
  refine bodyPost_ret (results_none rfl _ _ _) rfl ?_
  exact ⟨rfl, rfl⟩
theorem nil33 (w : World) : Calls Tryz.prog 37 #[.pointer none] w fun r w' => r = .returned (.slice none 0 0) ∧ w = w' := by
  go_enter Tryz.func37, Tryz.ntmps37
  go_wp2
  go_ret
  exact ⟨rfl, rfl⟩
theorem nil7 (w : World) : Calls Tryz.prog 20 #[.pointer none] w fun r w' => r = .returned (.int .u64 0) ∧ w = w' := by
  go_enter Tryz.func20, Tryz.ntmps20
  go_wp2
  go_ret
  exact ⟨rfl, rfl⟩
theorem nil9 (w : World) (x : Int) : Calls Tryz.prog 78 #[.pointer none, .int .u64 x] w fun r w' => r = .returned (.int .u64 0) ∧ w = w' := by
  go_enter Tryz.func78, Tryz.ntmps78
  go_wp2
  go_ret
  exact ⟨rfl, rfl⟩
theorem nil11 (w : World) : Calls Tryz.prog 42 #[.pointer none] w fun r w' => r = .returned (.int .u8 0) ∧ w = w' := by
  -- stands on function 64
  go_enter Tryz.func42, Tryz.ntmps42
  go_wp2
  go_ret
  exact ⟨rfl, rfl⟩
theorem nil15 (w : World) (x : Int) : Calls Tryz.prog 43 #[.pointer none, .int .i64 x] w fun r w' => r = .returned (.string ⟨#[]⟩) ∧ w = w' := by
  go_enter Tryz.func43, Tryz.ntmps43
  go_wp2
  go_ret
  exact ⟨rfl, rfl⟩
theorem nil23 (w : World) : Calls Tryz.prog 16 #[.pointer none] w fun r w' => r = .returned (.int .i64 1) ∧ w = w' := by
  go_enter Tryz.func16, Tryz.ntmps16
  go_wp2
  go_ret
  exact ⟨rfl, rfl⟩
theorem nil19 (w : World) : Calls Tryz.prog 9 #[.pointer none] w fun r w' => r = .returned (.int .i64 1) ∧ w = w' := by
  go_enter Tryz.func9, Tryz.ntmps9
  go_wp2
  go_ret
  exact ⟨rfl, rfl⟩
end Go.Proofs.YtblgbbpbhcaodaaGreat.Nu

/- The contract of pack's New: a reader of these bytes in a new block. -/
namespace Go.Proofs.YtblgbbpbhcaodaaGreat.Nu
open Go.ChangeShapes Go.WideShapes Go.ChangeAt Go.RowKit
set_option linter.unusedVariables false
set_option maxRecDepth 4000

/-- a new reader of these bytes. -/
def NewPost (w : World) (l : List Nat) (r : Ending) (w' : World) : Prop :=
  ∃ g, r = .returned (.pointer (some ⟨g, 0, none⟩)) ∧ w.heap.size ≤ g ∧ PR w' g g l 0 ∧ Below w.heap.size w w'
theorem new_any (w : World) (A : Option Addr) (l : List Nat) (n c : Nat) (hn : l.length = n) (hA : A = none → n = 0 ∧ c = 0) (hb : Bytes w w.heap.size A l) (hl : n ≤ 140737488355328) :
    Calls Tryz.prog 5 #[.slice A n c] w (NewPost w l) := by
  have hB := Lib.hid hb
  have HN := Lib.hid hn
  have HA := Lib.hid hA
  clear hb hn hA
  go_enter Tryz.func5, Tryz.ntmps5
  go_wp2_with fail
  refine (clone_any w A l n c HN.out HA.out hB.out hl).mono ?_
  rintro r w' ⟨A', n', c', rfl, h1, h2, h3, h4, h5, h6, _⟩
  have H1 := Lib.hid h1
  have H2 := Lib.hid h2
  have H5 := Lib.hid h5
  have H6 := Lib.hid h6
  clear h1 h2 h5 h6
  go_wp2
  go_ret
  refine ⟨w'.heap.size, rfl, H6.out.size, ⟨A', n', c', At.new _ _ _, (H2.out.below (below_new w' _)), H1.out, h3, h4, H5.out, fun h => absurd rfl h⟩, H6.out.alloc H6.out.size _⟩
end Go.Proofs.YtblgbbpbhcaodaaGreat.Nu

/- The words of layer dcode: bytes, dots and contexts that come out. -/
namespace Go.Proofs.YtblgbbpbhcaodaaGreat.Dc
open Go.ChangeShapes Go.WideShapes Go.ChangeAt Go.RowKit
set_option linter.unusedVariables false
set_option maxRecDepth 4000

theorem bel_grown {w V : World} (h : w.grownBy V (some w.heap.size)) : Below w.heap.size w V := ⟨h.os, h.tape, h.output, h.size, fun i hi => h.block i hi (fun e => by cases e; omega)⟩
theorem lies_grown {w V : World} {g : Nat} {A : Option Addr} {vs : List Value} (h : Dt.Lies w w.heap.size A vs) (hg : w.grownBy V (some g)) (hne : ∀ ad, A = some ad → ad.block ≠ g) : Dt.Lies V V.heap.size A vs := fun hl => by
  obtain ⟨ad, e, hB, hc⟩ := h hl
  refine ⟨ad, e, Nat.lt_of_lt_of_le hB hg.size, fun j u hu => ?_⟩
  rw [World.grownBy.cell_far hg (ad.add j) (by rw [Dt.block_add]; exact hB) (by rw [Dt.block_add]; intro e2; exact hne ad e (by simpa using e2))]
  exact hc j u hu
/-- dots that came out, in blocks from B0 on. -/
structure DL (B0 : Nat) (V : World) (A : Option Addr) (l : List Dot) (n c : Nat) : Prop where
  len : l.length = n
  nil : A = none → n = 0 ∧ c = 0
  cap : n ≤ c
  max : c ≤ 9223372036854775807
  dots : Dt.Dots V V.heap.size A l
  far : ∀ ad, A = some ad → B0 ≤ ad.block
theorem DL.below {B0 n c : Nat} {V U : World} {A : Option Addr} {l : List Dot} (h : DL B0 V A l n c) (hb : Below V.heap.size V U) : DL B0 U A l n c := ⟨h.len, h.nil, h.cap, h.max, h.dots.up hb, h.far⟩
theorem DL.kept {B0 n c g : Nat} {V U : World} {A : Option Addr} {l : List Dot} (h : DL B0 V A l n c) (hg : V.grownBy U (some g)) (hB : g < B0) : DL B0 U A l n c :=
  ⟨h.len, h.nil, h.cap, h.max, ⟨h.dots.1, lies_grown h.dots.2 hg (fun ad e => by have := h.far ad e; omega)⟩, h.far⟩
theorem pw_up {w W : World} {B g : Nat} {rb : Option Nat} {m : List Nat} (h : Nu.PW w B g rb m) (hb : Below w.heap.size w W) : Nu.PW W B g rb m := by
  obtain ⟨v, n, h1, h2, h3, h4⟩ := h
  exact ⟨v, n, h1.below hb h1.lt, h2, Nu.own_below h3 hb, h4⟩
end Go.Proofs.YtblgbbpbhcaodaaGreat.Dc

/- The contracts of the document's reader: what each of its methods tells, and how far it has read. For every list of bytes; nothing but the reader's own block has turned. -/
namespace Go.Proofs.YtblgbbpbhcaodaaGreat.Nu
open Go.ChangeShapes Go.WideShapes Go.ChangeAt Go.RowKit
set_option linter.unusedVariables false
set_option maxRecDepth 4000

/-- the document's reader in block h, of the bytes b at A, which lie below block B: what is left, and the first error. -/
def RR (w : World) (h B : Nat) (A : Option Addr) (n c : Nat) (b l : List Nat) (e : Nat) : Prop :=
  ∃ k : Nat, At w h 28 #[.slice A n c, .int .i64 (k : Int), .int .i64 (e : Int)] ∧ Bytes w B A b ∧ b.length = n ∧ n ≤ 9223372036854775807 ∧ n ≤ c ∧ (A = none → c = 0) ∧ k ≤ n ∧ (e = 0 → l = b.drop k) ∧ (e ≠ 0 → l = [])
def RPost (w : World) (h B : Nat) (A : Option Addr) (n c : Nat) (b : List Nat) (v : Value) (l : List Nat) (e : Nat) (r : Ending) (w' : World) : Prop :=
  r = .returned v ∧ RR w' h B A n c b l e ∧ w.grownBy w' (some h)
theorem RR.kept {w w' : World} {h B n c e : Nat} {A : Option Addr} {b l : List Nat} {row : Option Nat} (k : RR w h B A n c b l e) (hg : w.grownBy w' row) (hB : B ≤ w.heap.size) (hne : some h ≠ row) (hr : ∀ k, row = some k → B ≤ k) : RR w' h B A n c b l e := by
  obtain ⟨p, h1, h2, h3⟩ := k
  exact ⟨p, h1.kept hg hne, h2.kept hg hB hr, h3⟩
theorem RR.drewN {w : World} {h B n c e : Nat} {A : Option Addr} {b l : List Nat} (k : RR w h B A n c b l e) (m : Nat) : RR (w.drewN m) h B A n c b l e := by
  obtain ⟨p, h1, h2, h3⟩ := k
  exact ⟨p, h1, h2.below (below_drewN _ _ _), h3⟩
theorem RR.lt {w : World} {h B n c e : Nat} {A : Option Addr} {b l : List Nat} (k : RR w h B A n c b l e) : h < w.heap.size := by
  obtain ⟨p, h1, h2, h3⟩ := k
  exact h1.lt
theorem RR.small {w : World} {h B n c e : Nat} {A : Option Addr} {b l : List Nat} (k : RR w h B A n c b l e) : Small l := by
  obtain ⟨p, h1, h2, h3, h4, h5, h6, h7, h8, h9⟩ := k
  by_cases he : e = 0
  · rw [h8 he]; exact small_drop h2.1 p
  · rw [h9 he]; intro x hx; cases hx

theorem rfail_any (w : World) (h B : Nat) (A : Option Addr) (n c : Nat) (b l : List Nat) (e f : Nat) (k : RR w h B A n c b l e) (hB : B ≤ h) (hf : f ≠ 0) :
    Calls Tryz.prog 24 #[.pointer (some ⟨h, 0, none⟩), .int .i64 (f : Int)] w (RPost w h B A n c b (.tuple #[]) [] (stopE e f)) := by
  have HK := Lib.hid k
  obtain ⟨p, h1, h2, h3, h4, h5, h6, h7, h8, h9⟩ := k
  have c2 := h1.cell 2
  have f2 := h1.frozen 2
  simp at c2
  have H1 := Lib.hid h1
  have H2 := Lib.hid h2
  have H3 := Lib.hid h3
  have H6 := Lib.hid h6
  clear h1 h2 h3 h6 h8 h9
  by_cases he : e = 0
  · subst he
    go_enter Tryz.func24, Tryz.ntmps24
    go_wp2
    go_end0
    refine ⟨rfl, ⟨p, H1.out.set 2 _, H2.out.below ((Below.refl B w).setCell hB _), H3.out, h4, h5, H6.out, h7, fun h0 => absurd h0 ?_, fun _ => rfl⟩, turn_set _ _ _ _⟩
    rw [stop_zero]; exact hf
  · have heb : ((e : Int) == 0) = false := by rw [beq_eq_false_iff_ne]; omega
    go_enter Tryz.func24, Tryz.ntmps24
    go_wp2
    go_end0
    have hl : l = [] := by obtain ⟨_, _, _, _, _, _, _, _, _, h9⟩ := HK.out; exact h9 he
    refine ⟨rfl, ?_, turn_refl _ _⟩
    rw [stop_some he, ← hl]
    exact HK.out

theorem says_quiet {f : FuncId} {args : Array Value} {w : World} {n v y z : Nat} (h : Calls Tryz.prog f args (w.drewN n) (Says (w.drewN n) v y z)) :
    Calls Tryz.prog f args (w.drewN n) fun e w'' => e = .returned (.tuple #[.int .u64 (v : Int), .int .i64 (y : Int), .int .i64 (z : Int)]) ∧ ∃ m, w'' = w.drewN m := Calls.quiet_of h
theorem drop_at {b : List Nat} {p x : Nat} (h : b[p]? = some x) : b.drop p = x :: b.drop (p + 1) := by
  obtain ⟨hp, e⟩ := List.getElem?_eq_some_iff.1 h
  rw [List.drop_eq_getElem_cons hp, e]

set_option maxHeartbeats 1000000 in
theorem rnum_any (w : World) (h B : Nat) (A : Option Addr) (n c : Nat) (b l : List Nat) (e : Nat) (k : RR w h B A n c b l e) (hB : B ≤ h) :
    Calls Tryz.prog 23 #[.pointer (some ⟨h, 0, none⟩)] w (RPost w h B A n c b (.int .u64 ((numV l : Nat) : Int)) (numL l) (stopE e (numE l))) := by
  have HK := Lib.hid k
  obtain ⟨p, h1, h2, h3, h4, h5, h6, h7, h8, h9⟩ := k
  have c0 := h1.cell 0
  have c1 := h1.cell 1
  have c2 := h1.cell 2
  have f1 := h1.frozen 1
  simp at c0 c1 c2
  have H1 := Lib.hid h1
  have H2 := Lib.hid h2
  have H3 := Lib.hid h3
  have H6 := Lib.hid h6
  clear h1 h2 h3 h6
  by_cases he : e = 0
  · have hl := Lib.hid (h8 he)
    clear h8 h9
    subst he
    by_cases hp : p = n
    · subst hp
      have hl0 : Hid (l = []) := by show _ = _; rw [hl.out]; exact List.drop_eq_nil_of_le (by rw [H3.out]; exact Nat.le_refl _)
      go_enter Tryz.func23, Tryz.ntmps23
      go_wp2_with fail
      go_quiet ((go_at_call 40; exact says_quiet (rread_end _ A p c h4)))
      go_wp2_with fail
      refine (rfail_any _ h B A p c b l 0 2 (HK.out.drewN _) hB (by decide)).mono ?_
      rintro r w' ⟨rfl, hp, hg⟩
      clear c0 c1 c2 f1
      go_wp2
      go_ret
      refine ⟨?_, ?_, (turn_drewN w _ _).trans hg⟩
      · rw [hl0.out]; rfl
      · rw [hl0.out]; exact hp
    · have hpn : p < n := by omega
      obtain ⟨ad, x, rfl, hx8, hx, _⟩ := H2.out.at_ (k := p) (by rw [H3.out]; exact hpn)
      have hlx : Hid (l = x :: b.drop (p + 1)) := by show _ = _; rw [hl.out]; exact drop_at hx
      obtain ⟨v, y, f, hw⟩ := what_is x (b.drop (p + 1)) p
      obtain ⟨k1, k2, k3, k4⟩ := what_num hw
      have HX := Lib.hid hx
      have HW := Lib.hid hw
      have K1 := Lib.hid k1
      have K2 := Lib.hid k2
      have K3 := Lib.hid k3
      have K4 := Lib.hid k4
      have HB2 : Hid (∀ m, Bytes (w.drewN m) (w.drewN m).heap.size (some ad) b) := fun m => (H2.out.more (by have := H1.out.lt; show B ≤ w.heap.size; omega)).below (below_drewN _ w m)
      clear hx hw k1 k2 k3 k4
      go_enter Tryz.func23, Tryz.ntmps23
      go_wp2_with fail
      go_quiet ((go_at_call 40; exact says_quiet (rread_some _ ad b n c p x v y f H3.out h4 (HB2.out _) hpn HX.out HW.out)))
      by_cases hf : f = 0
      · obtain ⟨q1, q2, q3, q4⟩ := K3.out hf
        subst hf
        have Q2 := Lib.hid q2
        have Q3 := Lib.hid q3
        have Q4 := Lib.hid q4
        clear q1 q2 q3 q4
        go_wp2
        go_ret
        have hlen : (b.drop (p + 1)).length = n - (p + 1) := by rw [List.length_drop, H3.out]
        have e0 : stopE 0 (numE l) = 0 := by rw [hlx.out, K2.out, stop_zero]
        rw [e0]
        refine ⟨?_, ⟨y, (show At (w.drewN nq) h 28 _ from H1.out).set 1 _, (H2.out.below (below_drewN _ w nq)).below ((Below.refl B _).setCell hB _), H3.out, h4, h5, H6.out, ?_, ?_, ?_⟩, (turn_drewN w _ _).trans (turn_set _ _ _ _)⟩
        · rw [hlx.out, K1.out]; rfl
        · have := Q2.out; rw [hlen] at this; have := Q3.out; omega
        · intro _; rw [hlx.out, Q4.out, Q3.out, List.drop_drop]
        · intro h0; exact absurd rfl h0
      · obtain ⟨q1, q2⟩ := K4.out hf
        subst q1
        have Q2 := Lib.hid q2
        clear q2
        have hfb : ((f : Int) != 0) = true := by rw [bne_iff_ne]; omega
        go_wp2_with fail
        refine (rfail_any _ h B (some ad) n c b l 0 f (HK.out.drewN _) hB hf).mono ?_
        rintro r w' ⟨rfl, hp, hg⟩
        clear c0 c1 c2 f1
        go_wp2
        go_ret
        refine ⟨?_, ?_, (turn_drewN w _ _).trans hg⟩
        · rw [hlx.out, K1.out]; rfl
        · rw [hlx.out, Q2.out, K2.out]; exact hp
  · have heb : ((e : Int) != 0) = true := by rw [bne_iff_ne]; omega
    have hl := Lib.hid (h9 he)
    clear h8 h9
    go_enter Tryz.func23, Tryz.ntmps23
    go_wp2
    go_ret
    refine ⟨?_, ?_, turn_refl _ _⟩
    · rw [hl.out]; rfl
    · have := HK.out
      rw [hl.out] at this ⊢
      rw [stop_some he]
      exact this

theorem rupto_any (w : World) (h B : Nat) (A : Option Addr) (n c : Nat) (b l : List Nat) (e m : Nat) (k : RR w h B A n c b l e) (hB : B ≤ h) :
    Calls Tryz.prog 49 #[.pointer (some ⟨h, 0, none⟩), .int .u64 (m : Int)] w (RPost w h B A n c b (.int .u64 ((uptoV m l : Nat) : Int)) (uptoL m l) (uptoE m l e)) := by
  have HP := Lib.hid k
  clear k
  by_cases hm : m < numV l
  · have v1 : Hid (uptoV m l = 0) := if_pos hm
    have v2 : Hid (uptoL m l = []) := if_pos hm
    have v3 : Hid (uptoE m l e = stopE (stopE e (numE l)) 4) := if_pos hm
    go_enter Tryz.func49, Tryz.ntmps49
    go_wp2_with fail
    refine (rnum_any w h B A n c b l e HP.out hB).mono ?_
    rintro r w' ⟨rfl, hp, hg⟩
    have HP2 := Lib.hid hp
    have HG := Lib.hid hg
    have hd : decide (m < numV l) = true := decide_eq_true hm
    clear hp hg
    generalize numV l = v at *
    go_wp2_with fail
    refine (rfail_any w' h B A n c b _ _ 4 HP2.out hB (by decide)).mono ?_
    rintro r w2 ⟨rfl, hp, hg⟩
    go_wp2
    go_ret
    exact ⟨by rw [v1.out]; rfl, by rw [v2.out, v3.out]; exact hp, HG.out.trans hg⟩
  · have v1 : Hid (uptoV m l = numV l) := if_neg hm
    have v2 : Hid (uptoL m l = numL l) := if_neg hm
    have v3 : Hid (uptoE m l e = stopE e (numE l)) := if_neg hm
    go_enter Tryz.func49, Tryz.ntmps49
    go_wp2_with fail
    refine (rnum_any w h B A n c b l e HP.out hB).mono ?_
    rintro r w' ⟨rfl, hp, hg⟩
    have HP2 := Lib.hid hp
    have HG := Lib.hid hg
    have hd : decide (m < numV l) = false := decide_eq_false hm
    clear hp hg
    generalize numV l = v at *
    go_wp2
    go_ret
    exact ⟨by rw [v1.out]; rfl, by rw [v2.out, v3.out]; exact HP2.out, HG.out⟩

set_option maxHeartbeats 1000000 in
theorem rbyte_m (w : World) (h B : Nat) (A : Option Addr) (n c : Nat) (b l : List Nat) (e : Nat) (k : RR w h B A n c b l e) (hB : B ≤ h) :
    Calls Tryz.prog 32 #[.pointer (some ⟨h, 0, none⟩)] w (RPost w h B A n c b (.int .u8 ((byteV l : Nat) : Int)) (byteL l) (byteE l e)) := by
  -- stands on function 64
  have HK := Lib.hid k
  obtain ⟨p, h1, h2, h3, h4, h5, h6, h7, h8, h9⟩ := k
  have c0 := h1.cell 0
  have c1 := h1.cell 1
  have c2 := h1.cell 2
  have f1 := h1.frozen 1
  simp at c0 c1 c2
  have H1 := Lib.hid h1
  have H2 := Lib.hid h2
  have H3 := Lib.hid h3
  have H6 := Lib.hid h6
  clear h1 h2 h3 h6
  by_cases he : e = 0
  · have hl := Lib.hid (h8 he)
    clear h8 h9
    subst he
    by_cases hp : p = n
    · subst hp
      have hl0 : Hid (l = []) := by show _ = _; rw [hl.out]; exact List.drop_eq_nil_of_le (by rw [H3.out]; exact Nat.le_refl _)
      go_enter Tryz.func32, Tryz.ntmps32
      go_wp2_with fail
      go_quiet (fail)
      go_wp2_with fail
      refine (rfail_any _ h B A p c b l 0 2 (HK.out.drewN _) hB (by decide)).mono ?_
      rintro r w' ⟨rfl, hp, hg⟩
      clear c0 c1 c2 f1
      go_wp2
      go_ret
      refine ⟨?_, ?_, (turn_drewN w _ _).trans hg⟩
      · rw [hl0.out]; rfl
      · rw [hl0.out]; exact hp
    · have hpn : p < n := by omega
      obtain ⟨ad, x, rfl, hx8, hx, hcell⟩ := H2.out.at_ (k := p) (by rw [H3.out]; exact hpn)
      have hlx : Hid (l = x :: b.drop (p + 1)) := by show _ = _; rw [hl.out]; exact drop_at hx
      have hblk : Hid (ad.block < B) := by
        obtain ⟨ad', e1, hb', _⟩ := H2.out.2 (by rw [H3.out]; omega)
        obtain rfl := Option.some.inj e1
        exact hb'
      have HX := Lib.hid hx
      have HC := Lib.hid hcell
      have dg : decide ((n : Int) ≤ (p : Int)) = false := decide_eq_false (by omega)
      have dg2 : decide (n ≤ p) = false := decide_eq_false (by omega)
      clear hx hcell
      go_enter Tryz.func32, Tryz.ntmps32
      go_wp2_with fail
      go_quiet (fail)
      go_wp2_with fail
      have HA := Lib.hid ((show At (w.drewN nq) h 28 _ from H1.out).set 1 (.int .i64 ((p : Int) + 1)))
      have HB2 := Lib.hid ((H2.out.below (below_drewN _ w nq)).below ((Below.refl B _).setCell (p := ⟨h, 1, none⟩) hB (.int .i64 ((p : Int) + 1))))
      have HT := Lib.hid ((turn_drewN w nq (some h)).trans (turn_set _ h 1 (.int .i64 ((p : Int) + 1))))
      generalize (w.drewN nq).setCell ⟨h, 1, none⟩ (.int .i64 ((p : Int) + 1)) = W at *
      have d0 := HA.out.cell 0
      have d1 := HA.out.cell 1
      simp at d0 d1
      obtain ⟨ad', x', e1, _, hx', d2⟩ := HB2.out.at_ (k := p) (by rw [H3.out]; exact hpn)
      obtain rfl := Option.some.inj e1
      obtain rfl : x = x' := Option.some.inj (HX.out.symm.trans hx')
      have s1 : (p : Int) + 1 - 1 = (p : Int) := by omega
      have s2 : IntKind.i64.wrap ((p : Int) + 1 - 1) = (p : Int) := by rw [s1, IntKind.wrap_i64]; omega
      have s3 : (0 : Int) ≤ (p : Int) := by omega
      have s4 : (p : Int) < (n : Int) := by omega
      clear c0 c1 c2 f1 hx' dg dg2
      go_quiet (fail)
      go_wp2
      go_ret
      refine ⟨?_, ⟨p + 1, ?_, HB2.out.below (below_drewN _ W nq), H3.out, h4, h5, H6.out, hpn, ?_, ?_⟩, HT.out.trans (turn_drewN W _ _)⟩
      · rw [hlx.out]; rfl
      · rw [hlx.out]; exact HA.out
      · intro _; rw [hlx.out]; rfl
      · intro h0; rw [hlx.out] at h0; exact absurd rfl h0
  · have heb : ((e : Int) != 0) = true := by rw [bne_iff_ne]; omega
    have hl := Lib.hid (h9 he)
    clear h8 h9
    go_enter Tryz.func32, Tryz.ntmps32
    go_wp2
    go_ret
    refine ⟨?_, ?_, turn_refl _ _⟩
    · rw [hl.out]; rfl
    · have := HK.out
      rw [hl.out] at this ⊢
      have hb0 : byteE [] e = e := stop_some he 2
      rw [hb0]
      exact this
end Go.Proofs.YtblgbbpbhcaodaaGreat.Nu
