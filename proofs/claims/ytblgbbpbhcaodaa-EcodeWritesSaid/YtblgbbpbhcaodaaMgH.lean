/- Words and contracts that the proofs of this seat stand on, part 8 of 14. -/
import Derived.Test.YtblgbbpbhcaodaaMgG
import Derived.Test.YtblgbbpbhcaodaaMgF
import Derived.Deep.RegionHeld3
import Derived.StillTailTactics
import Derived.Deep.Cut
import Derived.Deep.DeepCutAuto
import Derived.Test.YtblgbbpbhcaodaaMgC

/- Events as bytes, going on: one event, and many. Plain. -/
namespace Go.Proofs.Ytblgbbpbhcaodaa.Ec
open Go.ChangeShapes Go.WideShapes Go.ChangeAt Go.RowKit Go.Proofs.Ytblgbbpbhcaodaa.Dc
set_option linter.unusedVariables false
set_option maxRecDepth 4000

/-! ### One event -/
def evtB (x : Evt) : List Nat := dotB x.dot ++ ([x.kind] ++ (Nu.enc x.cid ++ ([x.fld] ++ (Nu.enc x.txt.size ++ (Nu.sb x.txt ++ dotsB (someD x.kills))))))
def e1 (s : St) : St := (dotR s).2
def e2 (s : St) : St := byteS (e1 s)
def e3 (s : St) : St := numS (e2 s)
def e4 (s : St) : St := byteS (e3 s)
def e5 (s : St) : St := textS 60 (e4 s)
def e6 (s : St) : St := (dotsR 256 (e5 s)).2
/-- what stands there, as an event. -/
def evtN (s : St) : Evt := ⟨(dotR s).1, byteN (e1 s), numN (e2 s), byteN (e3 s), textN 60 (e4 s), (dotsR 256 (e5 s)).1⟩
def evtZ : Evt := ⟨(0, 0), 0, 0, 0, ⟨#[]⟩, []⟩
def evtR (s : St) : Evt × St := if (e6 s).2 = 0 ∧ Ev.goodE (evtN s) = true then (evtN s, e6 s) else (evtZ, failS 4 (e6 s))
theorem e6_sound {s : St} (h : Sound s) : Sound (e6 s) := dotsR_sound (text_sound (byte_sound (num_sound (byte_sound (dotR_sound h)))))
theorem e1_small {s : St} (h : Nu.Small s.1) : Nu.Small (e1 s).1 := dotR_small h
theorem e2_small {s : St} (h : Nu.Small s.1) : Nu.Small (e2 s).1 := byte_small (e1_small h)
theorem e3_small {s : St} (h : Nu.Small s.1) : Nu.Small (e3 s).1 := num_small (e2_small h)
theorem e4_small {s : St} (h : Nu.Small s.1) : Nu.Small (e4 s).1 := byte_small (e3_small h)
theorem e5_small {s : St} (h : Nu.Small s.1) : Nu.Small (e5 s).1 := text_small 60 (e4_small h)
theorem e6_small {s : St} (h : Nu.Small s.1) : Nu.Small (e6 s).1 := dotsR_small (e5_small h)
theorem e5_len (s : St) : (e5 s).1.length ≤ s.1.length := Nat.le_trans (textS_len _ _) (Nat.le_trans (byteS_len _) (Nat.le_trans (numS_len _) (Nat.le_trans (byteS_len _) (dotR_len s).1)))
theorem evtR_sound {s : St} (h : Sound s) : Sound (evtR s).2 := by
  unfold evtR
  split
  · exact e6_sound h
  · exact fail_sound _ _
theorem evtR_small {s : St} (h : Nu.Small s.1) : Nu.Small (evtR s).2.1 := by
  unfold evtR
  split
  · exact e6_small h
  · intro x hx; cases hx
/-- numbers of an event that was read fit. -/
theorem evtN_fits {s : St} (h : Nu.Small s.1) : Ev.Fits (evtN s) :=
  ⟨dotR_fit h, byteN_lt (e1_small h), Nu.numV_lt (e2_small h), byteN_lt (e3_small h), Nat.le_trans (text_short 60 (e4_small h)) (by decide)⟩
theorem evtZ_fits : Ev.Fits evtZ := ⟨⟨by decide, by decide⟩, by decide, by decide, by decide, show (0 : Nat) ≤ 140737488355328 by decide⟩
theorem evtZ_bad : Ev.goodE evtZ = false := by
  unfold Ev.goodE
  rw [show Dt.mayD evtZ.dot = false from by decide]
  simp
theorem evtR_fits {s : St} (h : Nu.Small s.1) : Ev.Fits (evtR s).1 := by
  unfold evtR
  split
  · exact evtN_fits h
  · exact evtZ_fits
theorem evtN_kills {s : St} (h : Nu.Small s.1) : (evtN s).kills.length ≤ 256 := dotsR_max (e5_small h)
theorem evtR_ok {s : St} (h : (evtR s).2.2 = 0) : (e6 s).2 = 0 ∧ Ev.goodE (evtN s) = true ∧ evtR s = (evtN s, e6 s) := by
  unfold evtR at h ⊢
  by_cases hc : (e6 s).2 = 0 ∧ Ev.goodE (evtN s) = true
  · rw [if_pos hc]; exact ⟨hc.1, hc.2, rfl⟩
  · rw [if_neg hc] at h
    exact absurd h (stop_ne (by decide))
theorem evtR_bad {s : St} (h : (evtR s).2.2 ≠ 0) : (evtR s).1 = evtZ := by
  unfold evtR at h ⊢
  by_cases hc : (e6 s).2 = 0 ∧ Ev.goodE (evtN s) = true
  · rw [if_pos hc] at h; exact absurd hc.1 h
  · rw [if_neg hc]
/-- of an event that may be: its parts. -/
theorem good_kills {x : Evt} (h : Ev.goodE x = true) : (∀ d ∈ x.kills, Dt.mayD d = true) ∧ Dt.Ord x.kills ∧ x.kills.length ≤ 256 ∧ Dt.mayD x.dot = true := by
  unfold Ev.goodE at h
  simp only [Bool.and_eq_true, decide_eq_true_eq, List.all_eq_true] at h
  obtain ⟨⟨⟨⟨⟨⟨_, h1⟩, _⟩, h2⟩, h3⟩, h4⟩, _⟩ := h
  exact ⟨h2, (Dt.rise_ord _).1 h4, h3, h1⟩
theorem good_text {x : Evt} (h : Ev.goodE x = true) : x.txt.size ≤ 60 := by
  unfold Ev.goodE at h
  simp only [Bool.and_eq_true] at h
  have h2 := h.1.1.1.1.2
  unfold Ev.headB at h2
  split at h2
  · simp only [Bool.and_eq_true] at h2
    have h3 := h2.2
    unfold Fd.textB at h3
    simp only [Bool.and_eq_true, decide_eq_true_eq] at h3
    have h4 := h3.2
    rw [Array.length_toList] at h4
    exact h4
  · split at h2
    · simp only [Bool.and_eq_true, decide_eq_true_eq] at h2
      rw [h2.2]
      exact Nat.zero_le _
    · cases h2
/-- WHAT IS WRITTEN IS READ. -/
theorem evt_back {x : Evt} (hg : Ev.goodE x = true) (hf : Ev.Fits x) (hk : Dt.Fit x.kills) (r : List Nat) : evtR (evtB x ++ r, 0) = (x, (r, 0)) := by
  obtain ⟨g1, g2, g3, g4⟩ := good_kills hg
  have ht := good_text hg
  have hsome : someD x.kills = x.kills := some_self g1 g2
  have e : evtB x ++ r = dotB x.dot ++ ([x.kind] ++ (Nu.enc x.cid ++ ([x.fld] ++ (Nu.enc x.txt.size ++ (Nu.sb x.txt ++ (dotsB x.kills ++ r)))))) := by
    unfold evtB
    rw [hsome]
    simp only [List.append_assoc]
  have d1 := dot_back g4 hf.dot.1 hf.dot.2 ([x.kind] ++ (Nu.enc x.cid ++ ([x.fld] ++ (Nu.enc x.txt.size ++ (Nu.sb x.txt ++ (dotsB x.kills ++ r))))))
  rw [← e] at d1
  have q1 : e1 (evtB x ++ r, 0) = ([x.kind] ++ (Nu.enc x.cid ++ ([x.fld] ++ (Nu.enc x.txt.size ++ (Nu.sb x.txt ++ (dotsB x.kills ++ r))))), 0) := by unfold e1; rw [d1]
  obtain ⟨b1, b2⟩ := byte_back x.kind (Nu.enc x.cid ++ ([x.fld] ++ (Nu.enc x.txt.size ++ (Nu.sb x.txt ++ (dotsB x.kills ++ r)))))
  have q2 : e2 (evtB x ++ r, 0) = (Nu.enc x.cid ++ ([x.fld] ++ (Nu.enc x.txt.size ++ (Nu.sb x.txt ++ (dotsB x.kills ++ r)))), 0) := by unfold e2; rw [q1, b2]
  obtain ⟨c1, c2⟩ := numS_back hf.cid ([x.fld] ++ (Nu.enc x.txt.size ++ (Nu.sb x.txt ++ (dotsB x.kills ++ r))))
  have q3 : e3 (evtB x ++ r, 0) = ([x.fld] ++ (Nu.enc x.txt.size ++ (Nu.sb x.txt ++ (dotsB x.kills ++ r))), 0) := by unfold e3; rw [q2, c2]
  obtain ⟨f1, f2⟩ := byte_back x.fld (Nu.enc x.txt.size ++ (Nu.sb x.txt ++ (dotsB x.kills ++ r)))
  have q4 : e4 (evtB x ++ r, 0) = (Nu.enc x.txt.size ++ (Nu.sb x.txt ++ (dotsB x.kills ++ r)), 0) := by unfold e4; rw [q3, f2]
  obtain ⟨t1, t2⟩ := text_back (m := 60) ht (show x.txt.size < 18446744073709551616 by omega) (dotsB x.kills ++ r)
  have q5 : e5 (evtB x ++ r, 0) = (dotsB x.kills ++ r, 0) := by unfold e5; rw [q4, t2]
  have k1 := dots_back (most := 256) (fun d hd => ⟨g1 d hd, hk d hd⟩) g2 g3 (show x.kills.length < 18446744073709551616 by omega) r
  have q6 : e6 (evtB x ++ r, 0) = (r, 0) := by unfold e6; rw [q5, k1]
  have hN : evtN (evtB x ++ r, 0) = x := by
    unfold evtN
    rw [d1, q1, q2, q3, q4, q5, b1, c1, f1, t1, k1]
  unfold evtR
  rw [hN, q6, if_pos ⟨rfl, hg⟩]
/-- WHAT IS READ AS AN EVENT HAS BEEN WRITTEN SO. -/
theorem evt_in {s : St} (hs : Nu.Small s.1) (h : (evtR s).2.2 = 0) : s.2 = 0 ∧ s.1 = evtB (evtR s).1 ++ (evtR s).2.1 ∧ Ev.goodE (evtR s).1 = true ∧ Dt.Fit (evtR s).1.kills := by
  obtain ⟨h1, h2, h3⟩ := evtR_ok h
  obtain ⟨k1, k2, k3, k4, k5⟩ := dots_in (e5_small hs) h1
  obtain ⟨t1, _⟩ := textS_ok k1
  have t2 := text_in (e4_small hs) k1
  obtain ⟨f1, f2⟩ := byteS_ok t1
  obtain ⟨c1, _⟩ := numS_in (e2_small hs) f1
  have c2 := (numS_ok f1).1
  obtain ⟨b1, b2⟩ := byteS_ok c2
  obtain ⟨d1, d2, d3⟩ := dot_in hs b1
  rw [h3]
  refine ⟨d1, ?_, h2, fun d hd => (k4 d hd).2⟩
  have hsome : someD (evtN s).kills = (evtN s).kills := some_self (fun d hd => (k4 d hd).1) k3
  unfold evtB
  rw [hsome]
  have w5 : (e5 s).1 = dotsB (evtN s).kills ++ (e6 s).1 := k2
  have w4 : (e4 s).1 = Nu.enc (evtN s).txt.size ++ (Nu.sb (evtN s).txt ++ (e5 s).1) := t2
  have w3 : (e3 s).1 = [(evtN s).fld] ++ (e4 s).1 := f2
  have w2 : (e2 s).1 = Nu.enc (evtN s).cid ++ (e3 s).1 := c1
  have w1 : (e1 s).1 = [(evtN s).kind] ++ (e2 s).1 := b2
  have w0 : s.1 = dotB (evtN s).dot ++ (e1 s).1 := d2
  show s.1 = _ ++ (e6 s).1
  simp only [List.append_assoc]
  rw [← w5, ← w4, ← w3, ← w2, ← w1]
  exact w0
theorem evtB_small {x : Evt} (hf : Ev.Fits x) : Nu.Small (evtB x) := by
  unfold evtB
  refine Nu.small_append (dotB_small _) (Nu.small_append ?_ (Nu.small_append (Nu.enc_small _) (Nu.small_append ?_ (Nu.small_append (Nu.enc_small _) (Nu.small_append (Nu.sb_small _) (dotsB_small _))))))
  · intro y hy
    obtain rfl := List.mem_singleton.1 hy
    exact hf.kind
  · intro y hy
    obtain rfl := List.mem_singleton.1 hy
    exact hf.fld
theorem evtB_len (x : Evt) : (evtB x).length ≤ 56 + x.txt.size + x.kills.length * 18 := by
  have h1 := dotB_le x.dot
  have h2 := enc_le x.cid
  have h3 := enc_le x.txt.size
  have h4 := Nu.sb_length x.txt
  have h5 := dotsB_len (someD x.kills)
  have h6 := some_len x.kills
  unfold evtB
  simp only [List.length_append, List.length_singleton]
  omega
theorem evtR_len (s : St) : (evtR s).2.1.length ≤ s.1.length ∧ ((evtR s).2.2 = 0 → (evtR s).2.1.length + 2 ≤ s.1.length) := by
  have h1 := e5_len s
  have h2 : (e6 s).1.length ≤ (e5 s).1.length := dotsR_len 256 (e5 s)
  refine ⟨?_, fun h => ?_⟩
  · unfold evtR
    split
    · exact Nat.le_trans h2 h1
    · exact Nat.zero_le _
  · obtain ⟨g1, _, g3⟩ := evtR_ok h
    rw [g3]
    show (e6 s).1.length + 2 ≤ _
    have k0 : (dotsR 256 (e5 s)).2.2 = 0 := g1
    have k1 : (e5 s).2 = 0 := by
      rcases Nat.eq_zero_or_pos (e5 s).2 with h0 | h0
      · exact h0
      · exfalso
        have hF : (dotsF 256 (e5 s)).2 ≠ 0 := by
          unfold dotsF
          split
          · exact stop_ne (by decide)
          · intro h9; have := (numS_ok h9).1; omega
        unfold dotsR at k0
        rw [dotsL_bad hF] at k0
        split at k0
        · rename_i h8; exact hF h8
        · exact hF k0
    have t1 := (textS_ok k1).1
    have f1 := (byteS_ok t1).1
    have c1 := (numS_ok f1).1
    have b1 := (byteS_ok c1).1
    have d1 := (dotR_len s).2 b1
    have d2 : (e2 s).1.length ≤ (e1 s).1.length := byteS_len _
    have d3 : (e3 s).1.length ≤ (e2 s).1.length := numS_len _
    have d4 : (e4 s).1.length ≤ (e3 s).1.length := byteS_len _
    have d5 : (e5 s).1.length ≤ (e4 s).1.length := textS_len _ _
    have d0 : (e1 s).1.length + 2 ≤ s.1.length := d1
    omega
def endN (s : St) : Nat := Nu.endE s.1 s.2
def decE (b : List Nat) : Evt × Nat := if endN (evtR (b, 0)).2 = 0 then ((evtR (b, 0)).1, 0) else (evtZ, endN (evtR (b, 0)).2)
theorem end_zero {s : St} (hs : Sound s) (h : endN s = 0) : s = ([], 0) := by
  obtain ⟨l, e⟩ := s
  have h' : Nu.endE l e = 0 := h
  unfold Nu.endE at h'
  by_cases hl : l = []
  · rw [if_pos hl] at h'
    rw [hl, h']
  · rw [if_neg hl] at h'
    exact absurd h' (stop_ne (by decide))
/-- what is decoded: just what was encoded. -/
theorem dec_in {b : List Nat} (hb : Nu.Small b) (h : (decE b).2 = 0) : b = evtB (decE b).1 ∧ Ev.goodE (decE b).1 = true := by
  unfold decE at h ⊢
  by_cases he : endN (evtR (b, 0)).2 = 0
  · rw [if_pos he]
    have hz := end_zero (evtR_sound (fun h => absurd rfl h)) he
    obtain ⟨_, h2, h3, _⟩ := evt_in (s := (b, 0)) hb (by rw [hz])
    refine ⟨?_, h3⟩
    rw [hz] at h2
    simpa using h2
  · rw [if_neg he] at h; exact absurd h he

/-! ### Many -/
def stepsE (o : List Evt) (x : Evt) : Bool := match o.getLast? with | none => true | some y => Dt.aheadD y.dot x.dot
def evtsS (o : List Evt) (s : St) : St := if (evtR s).2.2 = 0 ∧ stepsE o (evtR s).1 = false then failS 4 (evtR s).2 else (evtR s).2
def evtsL : Nat → List Evt → St → List Evt × St
  | 0, o, s => (o, s)
  | k + 1, o, s => if s.2 = 0 then evtsL k (o ++ [(evtR s).1]) (evtsS o s) else (o, s)
def evtsR (most : Nat) (s : St) : List Evt × St := if (evtsL (numN s) [] (dotsF most s)).2.2 = 0 then evtsL (numN s) [] (dotsF most s) else ([], (evtsL (numN s) [] (dotsF most s)).2)
def evtsB (l : List Evt) : List Nat := Nu.enc l.length ++ l.flatMap evtB
theorem evtsS_sound {o : List Evt} {s : St} (h : Sound s) : Sound (evtsS o s) := by
  unfold evtsS
  split
  · exact fail_sound _ _
  · exact evtR_sound h
theorem evtsL_bad {k : Nat} {o : List Evt} {s : St} (h : s.2 ≠ 0) : evtsL k o s = (o, s) := by
  cases k with
  | zero => rfl
  | succ k => unfold evtsL; rw [if_neg h]
theorem evtsL_sound : ∀ (k : Nat) (o : List Evt) (s : St), Sound s → Sound (evtsL k o s).2
  | 0, o, s, h => h
  | k + 1, o, s, h => by
    unfold evtsL
    split
    · exact evtsL_sound k _ _ (evtsS_sound h)
    · exact h
theorem evts_loop : ∀ (q o : List Evt) (r : List Nat), (∀ x ∈ q, Ev.goodE x = true ∧ Ev.Fits x ∧ Dt.Fit x.kills) → Ev.OrdE (o ++ q) → evtsL q.length o (q.flatMap evtB ++ r, 0) = (o ++ q, (r, 0))
  | [], o, r, _, _ => by simp [evtsL]
  | x :: q, o, r, hq, ho => by
    have hx := hq x (List.mem_cons_self ..)
    have e : (x :: q).flatMap evtB ++ r = evtB x ++ (q.flatMap evtB ++ r) := by rw [List.flatMap_cons, List.append_assoc]
    have hr := evt_back hx.1 hx.2.1 hx.2.2 (q.flatMap evtB ++ r)
    have hs : stepsE o x = true := by
      unfold stepsE
      cases hg : o.getLast? with
      | none => rfl
      | some y =>
        have hy : y ∈ o := List.mem_of_getLast? hg
        exact (List.pairwise_append.1 ho).2.2 y hy x (List.mem_cons_self ..)
    show evtsL (q.length + 1) o _ = _
    unfold evtsL
    rw [e, if_pos rfl]
    unfold evtsS
    rw [hr, hs]
    simp only [Bool.true_eq_false, and_false, if_false]
    have ih := evts_loop q (o ++ [x]) r (fun y hy => hq y (List.mem_cons_of_mem _ hy)) (by rw [List.append_assoc]; exact ho)
    rw [ih, List.append_assoc]
    rfl
theorem evts_back {l : List Evt} {most : Nat} (hl : ∀ x ∈ l, Ev.goodE x = true ∧ Ev.Fits x ∧ Dt.Fit x.kills) (ho : Ev.OrdE l) (hm : l.length ≤ most) (hb : l.length < big) (r : List Nat) : evtsR most (evtsB l ++ r, 0) = (l, (r, 0)) := by
  have e : evtsB l ++ r = Nu.enc l.length ++ (l.flatMap evtB ++ r) := by unfold evtsB; rw [List.append_assoc]
  obtain ⟨h1, h2⟩ := numS_back hb (l.flatMap evtB ++ r)
  have hF : dotsF most (evtsB l ++ r, 0) = (l.flatMap evtB ++ r, 0) := by
    unfold dotsF
    rw [e, h1, h2, if_neg (by omega)]
  unfold evtsR
  rw [hF, e, h1, evts_loop l [] r hl (by simpa using ho)]
  rfl
theorem evtsS_len {L : Nat} (o : List Evt) (s : St) (h : (evtsS o s).2 = 0) (hl : o.length + s.1.length ≤ L) : o.length + 1 + (evtsS o s).1.length ≤ L := by
  have h1 := evtR_len s
  unfold evtsS at h ⊢
  split
  · rename_i hc
    rw [if_pos hc] at h
    exact absurd h (stop_ne (by decide))
  · rename_i hc
    rw [if_neg hc] at h
    have := h1.2 h
    omega
theorem evts_step {num k : Nat} {o : List Evt} {s s0 : St} (hk : k < num) (he : s.2 = 0) (hL : evtsL num [] s0 = evtsL (num - k) o s) : evtsL num [] s0 = evtsL (num - (k + 1)) (o ++ [(evtR s).1]) (evtsS o s) := by
  rw [hL, show num - k = num - (k + 1) + 1 by omega]
  conv => lhs; unfold evtsL
  rw [if_pos he]
/-! ### How long -/
def Slim (x : Evt) : Prop := x.kills.length ≤ 300 ∧ x.txt.size ≤ 200
theorem evtsB_len {l : List Evt} (h : ∀ x ∈ l, Slim x) : (l.flatMap evtB).length ≤ l.length * 6000 := by
  induction l with
  | nil => exact Nat.le_refl _
  | cons x l ih =>
    have h1 := h x (List.mem_cons_self ..)
    have h2 := evtB_len x
    have h3 := ih (fun y hy => h y (List.mem_cons_of_mem _ hy))
    have h4 := h1.1
    have h5 := h1.2
    rw [List.flatMap_cons, List.length_append, List.length_cons, Nat.add_mul]
    omega
theorem evts_next {l : List Nat} {U : List Evt} {k : Nat} {x : Evt} (h : U[k]? = some x) : l ++ Nu.enc U.length ++ (U.take (k + 1)).flatMap evtB = l ++ Nu.enc U.length ++ (U.take k).flatMap evtB ++ evtB x := by
  rw [flat_snoc h, List.append_assoc (l ++ Nu.enc U.length)]
theorem evts_all (l : List Nat) {U : List Evt} {n : Nat} (h : U.length = n) : l ++ Nu.enc U.length ++ (U.take n).flatMap evtB = l ++ evtsB U := by
  rw [List.take_of_length_le (by omega)]
  unfold evtsB
  rw [List.append_assoc]
theorem upto_len {l : List Nat} {U : List Evt} {k n : Nat} (hl : l.length = n) (h : ∀ x ∈ U, Slim x) : (l ++ Nu.enc U.length ++ (U.take k).flatMap evtB).length ≤ n + 9 + U.length * 6000 := by
  have h1 := enc_le U.length
  have h2 := evtsB_len (l := U.take k) (fun x hx => h x (List.mem_of_mem_take hx))
  have h3 : (U.take k).length ≤ U.length := by rw [List.length_take]; omega
  have h4 : (U.take k).length * 6000 ≤ U.length * 6000 := Nat.mul_le_mul_right _ h3
  rw [List.length_append, List.length_append, hl]
  omega
end Go.Proofs.Ytblgbbpbhcaodaa.Ec

/- The contracts of the document's PutDot and PutDots of layer dcode. -/
namespace Go.Proofs.Ytblgbbpbhcaodaa.Dc
open Go.ChangeShapes Go.WideShapes Go.ChangeAt Go.RowKit
set_option linter.unusedVariables false
set_option maxRecDepth 4000

theorem below_new (w : World) (o : Obj) : Below w.heap.size w (w.alloc o) := (Below.refl _ _).alloc (Nat.le_refl _) o
theorem alloc_size (w : World) (o : Obj) : (w.alloc o).heap.size = w.heap.size + 1 := by simp
theorem bel_drew {w W : World} {B : Nat} (h : Below B w W) : Below B w W.drew := h.drew
theorem bel_alloc {w W : World} (o : Obj) (h : Below w.heap.size w W) : Below w.heap.size w (W.alloc o) := h.alloc h.size o
/-- bytes in memory. -/
structure BL (w : World) (A : Option Addr) (l : List Nat) (n c : Nat) : Prop where
  len : l.length = n
  nil : A = none → n = 0 ∧ c = 0
  cap : n ≤ c
  max : c ≤ 9223372036854775807
  at_ : Nu.Bytes w w.heap.size A l
theorem BL.up {w W : World} {A : Option Addr} {l : List Nat} {n c : Nat} (h : BL w A l n c) (hW : Below w.heap.size w W) : BL W A l n c := ⟨h.len, h.nil, h.cap, h.max, h.at_.up hW⟩
theorem BL.none_ (w : World) : BL w none [] 0 0 := ⟨rfl, fun _ => ⟨rfl, rfl⟩, Nat.le_refl _, by decide, Nu.Bytes.none_ _ _ _⟩
/-- bytes come out. -/
def BPost (w : World) (m : List Nat) (e : Ending) (w' : World) : Prop := ∃ A n c, e = .returned (.slice A n c) ∧ BL w' A m n c ∧ Below w.heap.size w w'
theorem post_bytes {w w' : World} {m : List Nat} {e : Ending} (hs : Nu.Small m) (h : Nu.AppPost w m e w') : BPost w m e w' := by
  obtain ⟨g, cap, n, rfl, hn, hg, ho, hb⟩ := h
  obtain ⟨h1, h2, h3⟩ := Dt.own_len ho
  exact ⟨_, n, cap, rfl, ⟨hn, h3, h1, h2, Nu.bytes_own ho hs⟩, hb⟩
/-- a number more, met later. -/
theorem app_later {w W : World} {A : Option Addr} {l : List Nat} {n c v : Nat} (h : BL w A l n c) (hn : n ≤ 140737488351232) (hv : v < big) (hW : Below w.heap.size w W) :
    Calls Try.prog 23 #[.slice A n c, .int .u64 (v : Int)] W fun e V => ∃ A' n' c', e = .returned (.slice A' n' c') ∧ BL V A' (l ++ Nu.enc v) n' c' ∧ Below w.heap.size w V := by
  refine (Nu.rappend_any W A l n c v h.len h.nil (h.up hW).at_ hn hv).mono ?_
  intro e V hp
  obtain ⟨A', n', c', rfl, h1, h2⟩ := post_bytes (Nu.small_append h.at_.1 (Nu.enc_small _)) hp
  exact ⟨A', n', c', rfl, h1, hW.trans (h2.mono hW.size)⟩
/-- a number more behind what another call made, both told from the same world on. -/
theorem app_from {w1 V W : World} {A : Option Addr} {l : List Nat} {n c v : Nat} (h : BL V A l n c) (hB : Below w1.heap.size w1 V) (hn : n ≤ 140737488351232) (hv : v < big) (hW : Below V.heap.size V W) :
    Calls Try.prog 23 #[.slice A n c, .int .u64 (v : Int)] W fun e U => ∃ A' n' c', e = .returned (.slice A' n' c') ∧ BL U A' (l ++ Nu.enc v) n' c' ∧ Below w1.heap.size w1 U := by
  refine (app_later h hn hv hW).mono ?_
  rintro e U ⟨A', n', c', rfl, h1, h2⟩
  exact ⟨A', n', c', rfl, h1, hB.trans (h2.mono hB.size)⟩
theorem len_more {l : List Nat} {n n' v : Nat} (h : l.length = n) (h2 : (l ++ Nu.enc v).length = n') (hn : n ≤ 70368744177664) : n' ≤ 140737488351232 := by
  have := enc_le v
  rw [List.length_append] at h2
  omega
/-- a dot's box. -/
abbrev dbox (d : Dot) : Obj := .cells #[.int .u16 (d.1 : Int), .int .u64 (d.2 : Int)] 37
abbrev dval (d : Dot) : Value := .agg #[.int .u16 (d.1 : Int), .int .u64 (d.2 : Int)]
theorem dbox_new (w : World) (d : Dot) (V : World) (hb : Below (w.heap.size + 1) (w.alloc (dbox d)) V) : V.cell? ⟨w.heap.size, 0, none⟩ = some (.int .u16 (d.1 : Int)) ∧ V.cell? ⟨w.heap.size, 1, none⟩ = some (.int .u64 (d.2 : Int)) :=
  ⟨(hb.cell (p := ⟨w.heap.size, 0, none⟩) (Nat.lt_succ_self _)).trans (by rw [World.cell?_alloc_mark]; rfl), (hb.cell (p := ⟨w.heap.size, 1, none⟩) (Nat.lt_succ_self _)).trans (by rw [World.cell?_alloc_mark]; rfl)⟩

set_option maxHeartbeats 4000000 in
theorem rputdot_any (w : World) (A : Option Addr) (l : List Nat) (n c : Nat) (d : Dot) (h : BL w A l n c) (hn : n ≤ 70368744177664) (hd : d.1 < 65536) (hd2 : d.2 < big) :
    Calls Try.prog 28 #[.slice A n c, dval d] w (BPost w (l ++ dotB d)) := by
  have HB := Lib.hid (below_new w (dbox d))
  have H := Lib.hid (h.up HB.out)
  have hw : (IntKind.u64.wrap (d.1 : Int)) = (d.1 : Int) := by rw [IntKind.wrap_u64]; omega
  have HK : Hid (∀ V, Below (w.alloc (dbox d)).heap.size (w.alloc (dbox d)) V → V.cell? ⟨w.heap.size, 0, none⟩ = some (.int .u16 (d.1 : Int)) ∧ V.cell? ⟨w.heap.size, 1, none⟩ = some (.int .u64 (d.2 : Int))) := Lib.hid (fun V hV => dbox_new w d V (by rw [alloc_size] at hV; exact hV))
  clear h
  go_enter Try.func28, Try.ntmps28
  go_wp2_with fail
  generalize w.alloc (dbox d) = w1 at *
  obtain ⟨k0, k1⟩ := HK.out w1 (Below.refl _ _)
  have hb1 : d.1 < big := by show d.1 < 18446744073709551616; omega
  have C1 := fun W (hW : Below w1.heap.size w1 W) => app_later H.out (by omega) hb1 hW
  have hnn : n ≤ 70368744177664 := hn
  have hln := Lib.hid H.out.len
  clear H
  go_region_held3 (fun V => V.cell? ⟨w.heap.size, 0, none⟩ = some (.int .u16 (d.1 : Int)) ∧ V.cell? ⟨w.heap.size, 1, none⟩ = some (.int .u64 (d.2 : Int))) (first | go_keep | assumption | exact HK.out _ (by (repeat (first | exact Below.refl _ _ | assumption | apply bel_drew)))) (first
    | (go_at_call 23; (with_reducible refine (C1 _ ?_).mono ?_); (repeat (first | exact Below.refl _ _ | assumption | apply bel_drew)); rintro e V ⟨A', n', c', rfl, hV, bv⟩; have k2 := HK.out V bv)
    | (go_at_call 23; (with_reducible refine (app_from hV bv (len_more hln.out hV.len hnn) hd2 ?_).mono ?_); (repeat (first | exact Below.refl _ _ | assumption | apply bel_drew)); rintro e U ⟨A2, n2, c2, rfl, hU, bu⟩; have k3 := HK.out U bu))
  all_goals
    go_wp2
    go_ret
    exact ⟨A2, n2, c2, rfl, by unfold dotB; rw [← List.append_assoc]; exact hU, HB.out.trans (bu.mono HB.out.size)⟩

theorem some_next {l : List Dot} {k : Nat} {x : Dot} (h : l[k]? = some x) : someD (l.take (k + 1)) = if Dt.mayD x = true then Dt.putD (someD (l.take k)) x else someD (l.take k) := by
  unfold someD Dt.sortD
  rw [Dt.filter_next _ h, List.foldl_append]
  by_cases hm : Dt.mayD x = true
  · rw [if_pos hm, if_pos hm]; rfl
  · rw [if_neg hm, if_neg hm]; rfl
theorem some_fit {l : List Dot} (h : Dt.Fit l) (k : Nat) : Dt.Fit (someD (l.take k)) ∧ (someD (l.take k)).length ≤ k := by
  refine ⟨fun x hx => ?_, ?_⟩
  · have h2 := (Dt.sort_mem ((l.take k).filter Dt.mayD) x).1 hx
    exact h x (List.mem_of_mem_take (List.mem_filter.1 h2).1)
  · have := some_len (l.take k)
    rw [List.length_take] at this
    omega
theorem p_skip {w1 wr V : World} {n k m c : Nat} {A : Option Addr} {f : Nat → List Dot} (hk : k < n) (hs : f (k + 1) = f k) (hm : (f k).length = m) (ho : wr.ownsRow w1.heap.size 37 2 (.slice A m c) m (Dt.dv (f k))) (hb : Below w1.heap.size w1 wr) (hV : Below wr.heap.size wr V) :
    Dt.PRel w1 n f (.slice A m c) (.int .i64 ((k : Int) + 1)) V :=
  ⟨k + 1, m, A, c, hk, rfl, by go_num, by rw [hs]; exact hm, by rw [hs]; exact Dt.own_kept ho hV, hb.trans (hV.mono hb.size)⟩

/-- what stands between two rounds of PutDots. -/
theorem dots_next {l : List Nat} {U : List Dot} {k : Nat} {x : Dot} (h : U[k]? = some x) : l ++ Nu.enc U.length ++ (U.take (k + 1)).flatMap dotB = l ++ Nu.enc U.length ++ (U.take k).flatMap dotB ++ dotB x := by
  rw [flat_snoc h, List.append_assoc (l ++ Nu.enc U.length)]
theorem put_len {l : List Nat} {U : List Dot} {k n n3 : Nat} (h : l.length = n) (h2 : (l ++ Nu.enc U.length ++ (U.take k).flatMap dotB).length = n3) (hn : n ≤ 1099511627776) (hU : U.length ≤ 1099511627776) : n3 ≤ 70368744177664 := by
  have h3 := enc_le U.length
  have h4 := flat_le (f := dotB) (k := 18) dotB_le (U.take k)
  have h5 : (U.take k).length ≤ U.length := by rw [List.length_take]; omega
  rw [List.length_append, List.length_append] at h2
  omega
set_option maxHeartbeats 8000000 in
theorem rputdots_any (w : World) (A : Option Addr) (l : List Nat) (n c : Nat) (A0 : Option Addr) (L : List Dot) (n0 c0 : Nat) (h : BL w A l n c) (hn : n ≤ 1099511627776) (hl : L.length = n0) (hd : Dt.Dots w w.heap.size A0 L) (h40 : n0 ≤ 1099511627776) :
    Calls Try.prog 30 #[.slice A n c, .slice A0 n0 c0] w (BPost w (l ++ dotsB (someD L))) := by
  have H := Lib.hid h
  have HL := Lib.hid hl
  have H1 := Lib.hid hd
  have HF := Lib.hid (fun k => some_fit hd.1 k)
  clear h hl hd
  go_enter Try.func30, Try.ntmps30
  go_wp2_with fail
  go_loopw [5, 6] (fun v i wr => Dt.PRel w n0 (fun k => someD (L.take k)) v i wr) (fun _ i _ => n0 - (intOf i).toNat)
  case atStart => exact ⟨0, 0, none, 0, Nat.zero_le _, rfl, rfl, rfl, World.ownsRow_nil _ _ _ _, Below.refl _ _⟩
  case round =>
    obtain ⟨k, m, A1, c1, hk, rfl, rfl, hm, ho, hw⟩ := hrel
    have hmk : m ≤ k := by rw [← hm]; exact (HF.out k).2
    have HM := Lib.hid hm
    have HO := Lib.hid ho
    have HW := Lib.hid hw
    clear hm ho hw
    by_cases hlt : k < n0
    · obtain ⟨ad, x, rfl, hB, hlx, hx1, hx2, hcx⟩ := H1.out.cells (k := k) (by rw [HL.out]; exact hlt)
      have HN := Lib.hid (some_next hlx)
      clear hlx
      obtain ⟨d1, d2⟩ := hcx wr HW.out
      obtain ⟨e1, e2⟩ := hcx (wr.alloc (dbox x)) (bel_alloc _ HW.out)
      have HG := Lib.hid (Dt.rgood_any wr x.1 x.2)
      clear hcx
      cases hmx : Dt.mayD x with
      | false =>
        have HN2 : Hid (someD (L.take (k + 1)) = someD (L.take k)) := Lib.hid (by rw [HN.out, hmx]; rfl)
        rw [show Dt.mayD (x.1, x.2) = false from hmx] at HG
        go_wp2_with fail
        refine HG.out.mono ?_
        rintro e V ⟨rfl, rfl⟩
        have HR := Lib.hid (p_skip (f := fun k => someD (L.take k)) hlt HN2.out HM.out HO.out HW.out (below_new wr (dbox x)))
        clear d1 d2 e1 e2
        go_wp2
        go_roundw
        case rel => exact HR.out
        case measure => simp [intOf]; omega
      | true =>
        have HN2 : Hid (someD (L.take (k + 1)) = Dt.putD (someD (L.take k)) x) := Lib.hid (by rw [HN.out, hmx]; rfl)
        rw [show Dt.mayD (x.1, x.2) = true from hmx] at HG
        have HB1 := Lib.hid (below_new wr (dbox x))
        have HP := Lib.hid (Dt.rput_any (wr.alloc (dbox x)) A1 (someD (L.take k)) m c1 x HM.out (Dt.dots_own (Dt.own_kept HO.out HB1.out) (HF.out k).1) (by omega))
        go_wp2_with fail
        refine HG.out.mono ?_
        rintro e V ⟨rfl, rfl⟩
        clear d1 d2
        go_wp2_with fail
        refine HP.out.mono ?_
        rintro e V ⟨A3, m3, c3, rfl, hm3, ho3, hb3⟩
        have HW3 := HW.out.trans ((HB1.out.trans (hb3.mono HB1.out.size)).mono HW.out.size)
        have HR := Lib.hid (Dt.p_rel (f := fun k => someD (L.take k)) hlt HN2.out hm3 (Dt.own_less ho3 (Nat.le_trans HW.out.size HB1.out.size)) HW3)
        clear hm3 ho3 hb3 e1 e2 HW3
        go_wp2
        go_roundw
        case rel => exact HR.out
        case measure => simp [intOf]; omega
    · obtain rfl : n0 = k := by omega
      have e : Hid (L.take n0 = L) := Lib.hid (List.take_of_length_le (by rw [HL.out]; exact Nat.le_refl _))
      have HF2 := Lib.hid (HF.out n0)
      simp only [e.out] at HM HO HF2
      obtain ⟨U, hU⟩ : ∃ U, someD L = U := ⟨_, rfl⟩
      rw [hU] at HM HO HF2
      have HU := Lib.hid hU
      clear hU HF e H1 HL
      have HD := Lib.hid (Dt.dots_own HO.out HF2.out.1)
      have hul : U.length ≤ 1099511627776 := by have := HF2.out.2; omega
      have hmb : m < big := by show m < 18446744073709551616; omega
      have hwr : IntKind.u64.wrap (m : Int) = (m : Int) := by rw [IntKind.wrap_u64]; omega
      have CA := app_later (v := m) (H.out.up HW.out) (by omega) hmb (Below.refl _ wr)
      go_wp2_with fail
      refine CA.mono ?_
      rintro e V ⟨A2, n2, c2, rfl, hV, hbV⟩
      have HV := Lib.hid hV
      have HBV := Lib.hid hbV
      clear hV hbV CA
      go_wp2_with fail
      go_loopw [7, 8] (fun v i wq => ∃ (k : Nat) (A3 : Option Addr) (n3 c3 : Nat), k ≤ m ∧ i = .int .i64 (k : Int) ∧ v = .slice A3 n3 c3 ∧ BL wq A3 (l ++ Nu.enc U.length ++ (U.take k).flatMap dotB) n3 c3 ∧ Below wr.heap.size wr wq) (fun _ i _ => m - (intOf i).toNat)
      case atStart => exact ⟨0, A2, n2, c2, Nat.zero_le _, rfl, rfl, by rw [List.take_zero, List.flatMap_nil, List.append_nil, HM.out]; exact HV.out, HBV.out⟩
      case round =>
        clear HV HBV
        obtain ⟨k, A3, n3, c3, hk3, rfl, rfl, h3, hb3⟩ := hrel
        have H3 := Lib.hid h3
        have HB3 := Lib.hid hb3
        clear h3 hb3
        by_cases hlt2 : k < m
        · obtain ⟨ad, x, rfl, hB, hlx, hx1, hx2, hcx⟩ := HD.out.cells (k := k) (by rw [HM.out]; exact hlt2)
          have HN := Lib.hid (dots_next (l := l) hlx)
          clear hlx
          obtain ⟨d1, d2⟩ := hcx wr HB3.out
          have CP := rputdot_any wr A3 _ n3 c3 x H3.out (put_len H.out.len H3.out.len hn hul) hx1 hx2
          clear hcx
          go_wp2_with fail
          refine CP.mono ?_
          rintro e V ⟨A4, n4, c4, rfl, h4, hb4⟩
          have H4 := Lib.hid h4
          have HB4 := Lib.hid (HB3.out.trans (hb4.mono HB3.out.size))
          clear h4 hb4 CP d1 d2
          go_wp2
          go_roundw
          case rel => exact ⟨k + 1, A4, n4, c4, hlt2, by go_num, rfl, by rw [HN.out]; exact H4.out, HB4.out⟩
          case measure => simp [intOf]; omega
        · obtain rfl : k = m := by omega
          go_wp2
          go_ret
          rw [HU.out]
          refine ⟨A3, n3, c3, rfl, ?_, HW.out.trans (HB3.out.mono HW.out.size)⟩
          have h := H3.out
          rw [List.take_of_length_le (by rw [HM.out]; exact Nat.le_refl _)] at h
          unfold dotsB
          rw [← List.append_assoc]
          exact h
end Go.Proofs.Ytblgbbpbhcaodaa.Dc

/- The contracts of pack's writer, going on: Bytes; the law's own example; and every method of a nil writer and of a nil reader. -/
namespace Go.Proofs.Ytblgbbpbhcaodaa.Nu
open Go.ChangeShapes Go.WideShapes Go.ChangeAt Go.RowKit
set_option linter.unusedVariables false
set_option maxRecDepth 4000

theorem below_two {w w' : World} {B g : Nat} {rb : Option Nat} (h : Two w w' g rb) (hg : B ≤ g) (hr : ∀ k, rb = some k → B ≤ k) (hB : B ≤ w.heap.size) : Below B w w' :=
  ⟨h.os, h.tape, h.output, h.size, fun k hk => h.block k (by omega) (by omega) (fun e => by have := hr k e.symm; omega)⟩
theorem PW.row {w : World} {B g : Nat} {rb : Option Nat} {m : List Nat} (h : PW w B g rb m) : ∀ k, rb = some k → B ≤ k ∧ k < w.heap.size := by
  obtain ⟨v, n, h1, rfl, h3, _⟩ := h
  exact h3.lt
theorem PW.base {w : World} {B g : Nat} {rb : Option Nat} {m : List Nat} (h : PW w B g rb m) : B ≤ g ∧ g < w.heap.size := by
  obtain ⟨v, n, h1, rfl, h3, _, _, h6⟩ := h
  exact ⟨h6, h1.lt⟩
theorem PW.small {w : World} {B g : Nat} {rb : Option Nat} {m : List Nat} (h : PW w B g rb m) : Small m := by
  obtain ⟨v, n, h1, rfl, h3, _, h5, h6⟩ := h
  exact h5
theorem PW.new (w : World) : PW (w.alloc (.cells #[.slice none 0 0] 27)) w.heap.size w.heap.size none [] :=
  ⟨.slice none 0 0, 0, At.new _ _ _, rfl, World.ownsRow_nil _ _ _ _, rfl, fun x hx => (by cases hx), Nat.le_refl _⟩
theorem wbytes_any (w : World) (B g : Nat) (rb : Option Nat) (m : List Nat) (h : PW w B g rb m) (hm : m.length ≤ 140737488355328) :
    Calls Try.prog 9 #[.pointer (some ⟨g, 0, none⟩)] w (ClonePost w m) := by
  obtain ⟨v, n, h1, h1b, h3, h4, h5, h6⟩ := h
  have c0 := h1.cell 0
  simp at c0
  rcases h3.2 with ⟨rfl, rfl⟩ | ⟨g1, cap, cur, rfl, _⟩
  · obtain rfl := List.eq_nil_of_length_eq_zero h4
    clear h1 h1b h3 h4 h5
    go_enter Try.func9, Try.ntmps9
    go_wp2_with fail
    refine (clone_any w none [] 0 0 rfl (fun _ => ⟨rfl, rfl⟩) (Bytes.none_ _ _ _) (by omega)).mono ?_
    rintro r w' ⟨A, n, c, rfl, hp⟩
    have HP := Lib.hid hp
    clear hp
    go_wp2
    go_ret
    exact ⟨A, n, c, rfl, HP.out⟩
  · have HB := Lib.hid (bytes_own h3 h5)
    have H4 := Lib.hid h4
    rw [h4] at hm
    clear h1 h1b h3 h4 h5
    go_enter Try.func9, Try.ntmps9
    go_wp2_with fail
    refine (clone_any w (some ⟨g1, 0, none⟩) m n cap H4.out (fun h => (by cases h)) HB.out hm).mono ?_
    rintro r w' ⟨A, n', c, rfl, hp⟩
    have HP := Lib.hid hp
    clear hp
    go_wp2
    go_ret
    exact ⟨A, n', c, rfl, HP.out⟩

def ab : ByteArray := ⟨#[97, 98]⟩
theorem ex_bytes : ([] ++ enc 258) ++ (enc ab.size ++ sb ab) = [2, 1, 2, 1, 2, 97, 98] := by decide

theorem nil25 (w : World) (x : Int) : Calls Try.prog 21 #[.pointer none, .int .u64 x] w fun r w' => r = .returned (.tuple #[]) ∧ w = w' := by
  go_enter Try.func21, Try.ntmps21
  go_wp2
  refine bodyPost_ret (results_none rfl _ _ _) rfl ?_
  exact ⟨rfl, rfl⟩
theorem nil27 (w : World) (x : Int) : Calls Try.prog 25 #[.pointer none, .int .u8 x] w fun r w' => r = .returned (.tuple #[]) ∧ w = w' := by
  -- stands on function 26
  go_enter Try.func25, Try.ntmps25
  go_wp2
  refine bodyPost_ret (results_none rfl _ _ _) rfl ?_
  exact ⟨rfl, rfl⟩
theorem nil30 (w : World) (s : ByteArray) : Calls Try.prog 26 #[.pointer none, .string s] w fun r w' => r = .returned (.tuple #[]) ∧ w = w' := by
  go_enter Try.func26, Try.ntmps26
  go_wp2
  refine bodyPost_ret (results_none rfl _ _ _) rfl ?_
  exact ⟨rfl, rfl⟩
theorem nil17 (w : World) (x : Int) : Calls Try.prog 41 #[.pointer none, .int .i64 x] w fun r w' => r = .returned (.tuple #[]) ∧ w = w' := by
  go_enter Try.func41, Try.ntmps41
  go_wp2
  refine bodyPost_ret (results_none rfl _ _ _) rfl ?_
  exact ⟨rfl, rfl⟩
theorem nil33 (w : World) : Calls Try.prog 9 #[.pointer none] w fun r w' => r = .returned (.slice none 0 0) ∧ w = w' := by
  go_enter Try.func9, Try.ntmps9
  go_wp2
  go_ret
  exact ⟨rfl, rfl⟩
theorem nil7 (w : World) : Calls Try.prog 40 #[.pointer none] w fun r w' => r = .returned (.int .u64 0) ∧ w = w' := by
  go_enter Try.func40, Try.ntmps40
  go_wp2
  go_ret
  exact ⟨rfl, rfl⟩
theorem nil9 (w : World) (x : Int) : Calls Try.prog 99 #[.pointer none, .int .u64 x] w fun r w' => r = .returned (.int .u64 0) ∧ w = w' := by
  go_enter Try.func99, Try.ntmps99
  go_wp2
  go_ret
  exact ⟨rfl, rfl⟩
theorem nil11 (w : World) : Calls Try.prog 73 #[.pointer none] w fun r w' => r = .returned (.int .u8 0) ∧ w = w' := by
  -- stands on function 84
  go_enter Try.func73, Try.ntmps73
  go_wp2
  go_ret
  exact ⟨rfl, rfl⟩
theorem nil15 (w : World) (x : Int) : Calls Try.prog 74 #[.pointer none, .int .i64 x] w fun r w' => r = .returned (.string ⟨#[]⟩) ∧ w = w' := by
  go_enter Try.func74, Try.ntmps74
  go_wp2
  go_ret
  exact ⟨rfl, rfl⟩
theorem nil23 (w : World) : Calls Try.prog 42 #[.pointer none] w fun r w' => r = .returned (.int .i64 1) ∧ w = w' := by
  go_enter Try.func42, Try.ntmps42
  go_wp2
  go_ret
  exact ⟨rfl, rfl⟩
theorem nil19 (w : World) : Calls Try.prog 20 #[.pointer none] w fun r w' => r = .returned (.int .i64 1) ∧ w = w' := by
  go_enter Try.func20, Try.ntmps20
  go_wp2
  go_ret
  exact ⟨rfl, rfl⟩
end Go.Proofs.Ytblgbbpbhcaodaa.Nu

/- The contract of pack's New: a reader of these bytes in a new block. -/
namespace Go.Proofs.Ytblgbbpbhcaodaa.Nu
open Go.ChangeShapes Go.WideShapes Go.ChangeAt Go.RowKit
set_option linter.unusedVariables false
set_option maxRecDepth 4000

/-- a new reader of these bytes. -/
def NewPost (w : World) (l : List Nat) (r : Ending) (w' : World) : Prop :=
  ∃ g, r = .returned (.pointer (some ⟨g, 0, none⟩)) ∧ w.heap.size ≤ g ∧ PR w' g g l 0 ∧ Below w.heap.size w w'
theorem new_any (w : World) (A : Option Addr) (l : List Nat) (n c : Nat) (hn : l.length = n) (hA : A = none → n = 0 ∧ c = 0) (hb : Bytes w w.heap.size A l) (hl : n ≤ 140737488355328) :
    Calls Try.prog 17 #[.slice A n c] w (NewPost w l) := by
  have hB := Lib.hid hb
  have HN := Lib.hid hn
  have HA := Lib.hid hA
  clear hb hn hA
  go_enter Try.func17, Try.ntmps17
  go_wp2_with fail
  refine (clone_any w A l n c HN.out HA.out hB.out hl).mono ?_
  rintro r w' ⟨A', n', c', rfl, h1, h2, h3, h4, h5, h6, _⟩
  have H1 := Lib.hid h1
  have H2 := Lib.hid h2
  have H5 := Lib.hid h5
  have H6 := Lib.hid h6
  clear h1 h2 h5 h6
  go_wp2
  go_ret
  refine ⟨w'.heap.size, rfl, H6.out.size, ⟨A', n', c', At.new _ _ _, (H2.out.below (below_new w' _)), H1.out, h3, h4, H5.out, fun h => absurd rfl h⟩, H6.out.alloc H6.out.size _⟩
end Go.Proofs.Ytblgbbpbhcaodaa.Nu

/- The words of layer dcode: bytes, dots and contexts that come out. -/
namespace Go.Proofs.Ytblgbbpbhcaodaa.Dc
open Go.ChangeShapes Go.WideShapes Go.ChangeAt Go.RowKit
set_option linter.unusedVariables false
set_option maxRecDepth 4000

theorem bel_grown {w V : World} (h : w.grownBy V (some w.heap.size)) : Below w.heap.size w V := ⟨h.os, h.tape, h.output, h.size, fun i hi => h.block i hi (fun e => by cases e; omega)⟩
theorem lies_grown {w V : World} {g : Nat} {A : Option Addr} {vs : List Value} (h : Dt.Lies w w.heap.size A vs) (hg : w.grownBy V (some g)) (hne : ∀ ad, A = some ad → ad.block ≠ g) : Dt.Lies V V.heap.size A vs := fun hl => by
  obtain ⟨ad, e, hB, hc⟩ := h hl
  refine ⟨ad, e, Nat.lt_of_lt_of_le hB hg.size, fun j u hu => ?_⟩
  rw [World.grownBy.cell_far hg (ad.add j) (by rw [Dt.block_add]; exact hB) (by rw [Dt.block_add]; intro e2; exact hne ad e (by simpa using e2))]
  exact hc j u hu
/-- dots that came out, in blocks from B0 on. -/
structure DL (B0 : Nat) (V : World) (A : Option Addr) (l : List Dot) (n c : Nat) : Prop where
  len : l.length = n
  nil : A = none → n = 0 ∧ c = 0
  cap : n ≤ c
  max : c ≤ 9223372036854775807
  dots : Dt.Dots V V.heap.size A l
  far : ∀ ad, A = some ad → B0 ≤ ad.block
theorem DL.below {B0 n c : Nat} {V U : World} {A : Option Addr} {l : List Dot} (h : DL B0 V A l n c) (hb : Below V.heap.size V U) : DL B0 U A l n c := ⟨h.len, h.nil, h.cap, h.max, h.dots.up hb, h.far⟩
theorem DL.kept {B0 n c g : Nat} {V U : World} {A : Option Addr} {l : List Dot} (h : DL B0 V A l n c) (hg : V.grownBy U (some g)) (hB : g < B0) : DL B0 U A l n c :=
  ⟨h.len, h.nil, h.cap, h.max, ⟨h.dots.1, lies_grown h.dots.2 hg (fun ad e => by have := h.far ad e; omega)⟩, h.far⟩
theorem pw_up {w W : World} {B g : Nat} {rb : Option Nat} {m : List Nat} (h : Nu.PW w B g rb m) (hb : Below w.heap.size w W) : Nu.PW W B g rb m := by
  obtain ⟨v, n, h1, h2, h3, h4⟩ := h
  exact ⟨v, n, h1.below hb h1.lt, h2, Nu.own_below h3 hb, h4⟩
end Go.Proofs.Ytblgbbpbhcaodaa.Dc

/- The contracts of the document's reader: what each of its methods tells, and how far it has read. For every list of bytes; nothing but the reader's own block has turned. -/
namespace Go.Proofs.Ytblgbbpbhcaodaa.Nu
open Go.ChangeShapes Go.WideShapes Go.ChangeAt Go.RowKit
set_option linter.unusedVariables false
set_option maxRecDepth 4000

theorem says_quiet {f : FuncId} {args : Array Value} {w : World} {n v y z : Nat} (h : Calls Try.prog f args (w.drewN n) (Says (w.drewN n) v y z)) :
    Calls Try.prog f args (w.drewN n) fun e w'' => e = .returned (.tuple #[.int .u64 (v : Int), .int .i64 (y : Int), .int .i64 (z : Int)]) ∧ ∃ m, w'' = w.drewN m := Calls.quiet_of h
theorem drop_at {b : List Nat} {p x : Nat} (h : b[p]? = some x) : b.drop p = x :: b.drop (p + 1) := by
  obtain ⟨hp, e⟩ := List.getElem?_eq_some_iff.1 h
  rw [List.drop_eq_getElem_cons hp, e]

end Go.Proofs.Ytblgbbpbhcaodaa.Nu

/- The contracts of the document's reader, going on: Flag, Text, End, Left. -/
namespace Go.Proofs.Ytblgbbpbhcaodaa.Nu
open Go.ChangeShapes Go.WideShapes Go.ChangeAt Go.RowKit
set_option linter.unusedVariables false
set_option maxRecDepth 4000

end Go.Proofs.Ytblgbbpbhcaodaa.Nu

/- The contracts of the document's Dot and Dots of layer dcode. -/
namespace Go.Proofs.Ytblgbbpbhcaodaa.Dc
open Go.ChangeShapes Go.WideShapes Go.ChangeAt Go.RowKit
set_option linter.unusedVariables false
set_option maxRecDepth 4000

theorem grown_new {w V : World} {row : Option Nat} (h : w.grownBy V row) (o : Obj) : w.grownBy (V.alloc o) row := h.trans (Nu.turn_below (below_new V o) row)
theorem grown_below {w V U : World} {row : Option Nat} (h : w.grownBy V row) (hb : Below V.heap.size V U) : w.grownBy U row := h.trans (Nu.turn_below hb row)
theorem grown_set {w V : World} {row : Option Nat} (h : w.grownBy V row) {g : Nat} (hg : w.heap.size ≤ g) (i : Nat) (u : Value) : w.grownBy (V.setCell ⟨g, i, none⟩ u) row := by
  refine ⟨h.os, h.tape, h.output, by simpa [World.setCell] using h.size, fun k hk hne => ?_⟩
  exact (Below.heap_setCell V ⟨g, i, none⟩ u k (fun e => by have e : g = k := e.symm; omega)).trans (h.block k hk hne)
theorem dotR_good {s : St} (h : (dotS s).2 = 0) (hm : Dt.mayD (dotN s) = true) : dotR s = (dotN s, dotS s) := if_pos ⟨h, hm⟩
theorem dotR_no {s : St} (h : ¬ ((dotS s).2 = 0 ∧ Dt.mayD (dotN s) = true)) : dotR s = ((0, 0), failS 4 (dotS s)) := if_neg h

end Go.Proofs.Ytblgbbpbhcaodaa.Dc

/- The contract of the document's Dots of layer dcode. -/
namespace Go.Proofs.Ytblgbbpbhcaodaa.Dc
open Go.ChangeShapes Go.WideShapes Go.ChangeAt Go.RowKit
set_option linter.unusedVariables false
set_option maxRecDepth 4000

theorem own_far {w V : World} {h m c size : Nat} {e : TypeId} {A : Option Addr} {xs : List Value} (ho : V.ownsRow w.heap.size e size (.slice A m c) m xs) (hh : h < w.heap.size) : (Value.slice A m c).ownBlock = none ∨ (Value.slice A m c).ownBlock ≠ some h := by
  right
  intro e2
  have := (ho.lt h e2).1
  omega
theorem dotsS_len {L : Nat} (o : List Dot) (s : St) : ((dotsS o s).2 = 0 → o.length + s.1.length ≤ L → o.length + 1 + (dotsS o s).1.length ≤ L) := by
  intro h hl
  unfold dotsS at h ⊢
  by_cases hc : (dotR s).2.2 = 0 ∧ stepsB o (dotR s).1 = false
  · rw [if_pos hc] at h
    exact absurd h (stop_ne (by decide))
  · rw [if_neg hc] at h ⊢
    have := (dotR_len s).2 h
    omega
theorem steps_last {o : List Dot} {j : Nat} {x d : Dot} (hl : o.length = j + 1) (hx : o[j]? = some x) : stepsB o d = Dt.aheadD x d := by
  unfold stepsB
  have : o.getLast? = some x := by rw [List.getLast?_eq_getElem?, hl]; exact hx
  rw [this]
theorem cmp_ge (x d : Dot) : decide (0 ≤ Dt.cmpD x d) = !Dt.aheadD x d := by
  have h := Dt.cmp_neg x d
  cases ha : Dt.aheadD x d with
  | true => rw [ha] at h; have := of_decide_eq_true h; simp; omega
  | false => rw [ha] at h; have := of_decide_eq_false h; simp; omega

end Go.Proofs.Ytblgbbpbhcaodaa.Dc

/- Words for reading an event: a reader of whatever kind, the event's box, the result's box. -/
namespace Go.Proofs.Ytblgbbpbhcaodaa.Ec
open Go.ChangeShapes Go.WideShapes Go.ChangeAt Go.RowKit Go.Proofs.Ytblgbbpbhcaodaa.Dc
set_option linter.unusedVariables false
set_option maxRecDepth 4000

/-- a reader in block h: it stays where other blocks turn. -/
structure Rdr (R : World → St → Prop) (h B : Nat) : Prop where
  le : B ≤ h
  lt : ∀ {V : World} {s : St}, R V s → h < V.heap.size
  kept : ∀ {V U : World} {s : St} {row : Option Nat}, R V s → V.grownBy U row → some h ≠ row → (∀ k, row = some k → B ≤ k) → R U s
theorem Rdr.new {R : World → St → Prop} {h B : Nat} (r : Rdr R h B) {V : World} {s : St} (k : R V s) (o : Obj) : R (V.alloc o) s := r.kept k (Nu.turn_below (below_new V o) none) (by simp) (fun q e => by cases e)
theorem Rdr.below {R : World → St → Prop} {h B : Nat} (r : Rdr R h B) {V U : World} {s : St} (k : R V s) (hb : Below V.heap.size V U) : R U s := r.kept k (Nu.turn_below hb none) (by simp) (fun q e => by cases e)
theorem Rdr.set {R : World → St → Prop} {h B : Nat} (r : Rdr R h B) {V : World} {s : St} (k : R V s) {g : Nat} (hg : h < g) (i : Nat) (u : Value) : R (V.setCell ⟨g, i, none⟩ u) s :=
  r.kept k (Nu.turn_set V g i u) (fun e => by cases e; omega) (fun q e => by cases e; have := r.le; omega)
theorem Rdr.row {R : World → St → Prop} {h B : Nat} (r : Rdr R h B) {V U : World} {s : St} (k : R V s) {row : Option Nat} (hg : V.grownBy U row) (hr : ∀ q, row = some q → h < q) : R U s :=
  r.kept k hg (fun e => by have := hr h e.symm; omega) (fun q e => by have := hr q e; have := r.le; omega)
theorem fail_self' {s : St} (hs : Sound s) (h : s.2 ≠ 0) : failS 4 s = s := by
  obtain ⟨a, e⟩ := s
  show ([], Nu.stopE e 4) = (a, e)
  rw [show a = [] from hs h, stop_nz h]
theorem grown_row2 {w V U : World} {row row2 : Option Nat} (h : w.grownBy V row) (hg : V.grownBy U row2) (hr : ∀ q, row2 = some q → w.heap.size ≤ q) : w.grownBy U row :=
  ⟨hg.os.trans h.os, hg.tape.trans h.tape, hg.output.trans h.output, Nat.le_trans h.size hg.size, fun q hq hne => (hg.block q (Nat.lt_of_lt_of_le hq h.size) (fun e => by have := hr q e.symm; omega)).trans (h.block q hq hne)⟩
/-- an event's cells as they are made. -/
abbrev zcells : Array Value := #[.int .u16 0, .int .u64 0, .int .u8 0, .int .u64 0, .int .u8 0, .string ⟨#[]⟩, .slice none 0 0]
abbrev zbox : Obj := .cells #[.int .u16 0, .int .u64 0, .int .u8 0, .int .u64 0, .int .u8 0, .string ⟨#[]⟩, .slice none 0 0] 40
/-- a reader, a result that is empty yet, and the event's box. -/
structure GK (R : World → St → Prop) (w : World) (h g : Nat) (cs : Array Value) (s : St) (V : World) : Prop where
  rr : R V s
  gr : w.grownBy V (some h)
  res : Nu.At V w.heap.size 40 zcells
  box : Nu.At V g 40 cs
theorem GK.read {R : World → St → Prop} {w V U : World} {h g : Nat} {cs : Array Value} {s s' : St} (k : GK R w h g cs s V) (hh : h < w.heap.size) (hg : w.heap.size < g) (hr : R U s') (hu : V.grownBy U (some h)) : GK R w h g cs s' U :=
  ⟨hr, k.gr.trans hu, k.res.kept hu (fun e => by cases e; omega), k.box.kept hu (fun e => by cases e; omega)⟩
theorem GK.put {R : World → St → Prop} {w V : World} {h B g : Nat} {cs : Array Value} {s : St} (k : GK R w h g cs s V) (r : Rdr R h B) (hh : h < w.heap.size) (hg : w.heap.size < g) (i : Nat) (u : Value) : GK R w h g (cs.setIfInBounds i u) s (V.setCell ⟨g, i, none⟩ u) :=
  ⟨r.set k.rr (by omega) i u, grown_set k.gr (by omega) i u, k.res.kept (Nu.turn_set V g i u) (fun e => by cases e; omega), k.box.set i u⟩
theorem GK.below {R : World → St → Prop} {w V U : World} {h B g : Nat} {cs : Array Value} {s : St} (k : GK R w h g cs s V) (r : Rdr R h B) (hb : Below V.heap.size V U) : GK R w h g cs s U :=
  ⟨r.below k.rr hb, grown_below k.gr hb, k.res.below hb k.res.lt, k.box.below hb k.box.lt⟩
/-- an event that came out, its dots in a block of their own. -/
structure EO (B0 : Nat) (V : World) (q : Ev.EV) (x : Evt) : Prop where
  is : Ev.EventIs V V.heap.size q x
  far : ∀ ad, q.adr = some ad → B0 ≤ ad.block
theorem EO.below {B0 : Nat} {V U : World} {q : Ev.EV} {x : Evt} (k : EO B0 V q x) (hb : Below V.heap.size V U) : EO B0 U q x := ⟨k.is.up hb, k.far⟩
theorem EO.less {B0 B1 : Nat} {V : World} {q : Ev.EV} {x : Evt} (k : EO B0 V q x) (h : B1 ≤ B0) : EO B1 V q x := ⟨k.is, fun ad e => Nat.le_trans h (k.far ad e)⟩
/-- a list of dots stays where another block turns. -/
theorem dots_turn {n c : Nat} {V U : World} {A : Option Addr} {l : List Dot} {row : Option Nat} (h : Ev.DotsAt V V.heap.size A l n c) (hg : V.grownBy U row) (hne : ∀ ad, A = some ad → some ad.block ≠ row) : Ev.DotsAt U U.heap.size A l n c := by
  refine ⟨h.len, h.nil, h.cap, h.max, h.wide, h.dots.1, fun hl => ?_⟩
  obtain ⟨ad, e, hB, hc⟩ := h.dots.2 hl
  refine ⟨ad, e, Nat.lt_of_lt_of_le hB hg.size, fun j u hu => ?_⟩
  rw [World.cell?_of_block (w := V) (hg.block _ (by rw [Dt.block_add]; exact hB) (by rw [Dt.block_add]; exact hne ad e))]
  exact hc j u hu
theorem EO.turn {B0 : Nat} {V U : World} {q : Ev.EV} {x : Evt} {row : Option Nat} (k : EO B0 V q x) (hg : V.grownBy U row) (hr : ∀ b, row = some b → b < B0) : EO B0 U q x :=
  ⟨⟨k.is.dev, k.is.num, k.is.kind, k.is.cid, k.is.fld, k.is.txt, k.is.fits, dots_turn k.is.kills hg (fun ad e e2 => by have h1 := k.far ad e; have := hr _ e2.symm; omega)⟩, k.far⟩
/-- what Get answers. -/
def EvtGot (R : World → St → Prop) (w : World) (h : Nat) (x : Evt) (s : St) (r : Ending) (V : World) : Prop :=
  ∃ q : Ev.EV, r = .returned q.val ∧ EO w.heap.size V q x ∧ R V s ∧ w.grownBy V (some h)
theorem EO.none_ (B0 : Nat) (V : World) : EO B0 V ⟨0, 0, 0, 0, 0, ⟨#[]⟩, none, 0, 0⟩ evtZ :=
  ⟨⟨rfl, rfl, rfl, rfl, rfl, rfl, evtZ_fits, Ev.DotsAt.none_ _ _⟩, fun ad e => by cases e⟩
/-- the dots that were read, told with the event. -/
theorem eo_made {w V U : World} {A : Option Addr} {m c : Nat} {x : Evt} (hf : Ev.Fits x) (hd : DL V.heap.size U A x.kills m c) (hm : x.kills.length ≤ 256) (hw : w.heap.size ≤ V.heap.size) : EO w.heap.size U ⟨x.dot.1, x.dot.2, x.kind, x.cid, x.fld, x.txt, A, m, c⟩ x :=
  ⟨⟨rfl, rfl, rfl, rfl, rfl, rfl, hf, hd.len, hd.nil, hd.cap, hd.max, by show m ≤ 8796093022208; have := hd.len; omega, hd.dots⟩, fun ad e => Nat.le_trans hw (hd.far ad e)⟩
/-- the result's cells, filled. -/
theorem GK.done {R : World → St → Prop} {w V : World} {h B g : Nat} {cs : Array Value} {s : St} (k : GK R w h g cs s V) (r : Rdr R h B) (hh : h < w.heap.size) {q : Ev.EV} {x : Evt} (o : EO (w.heap.size + 1) V q x) (u0 u1 u2 u3 u4 u5 u6 : Value) :
    EvtGot R w h x s (.returned q.val) (((((((V.setCell ⟨w.heap.size, 0, none⟩ u0).setCell ⟨w.heap.size, 1, none⟩ u1).setCell ⟨w.heap.size, 2, none⟩ u2).setCell ⟨w.heap.size, 3, none⟩ u3).setCell ⟨w.heap.size, 4, none⟩ u4).setCell ⟨w.heap.size, 5, none⟩ u5).setCell ⟨w.heap.size, 6, none⟩ u6) := by
  have st : ∀ (V : World) (i : Nat) (u : Value), R V s → w.grownBy V (some h) → EO (w.heap.size + 1) V q x → R (V.setCell ⟨w.heap.size, i, none⟩ u) s ∧ w.grownBy (V.setCell ⟨w.heap.size, i, none⟩ u) (some h) ∧ EO (w.heap.size + 1) (V.setCell ⟨w.heap.size, i, none⟩ u) q x :=
    fun V i u h1 h2 h3 => ⟨r.set h1 hh i u, grown_set h2 (Nat.le_refl _) i u, h3.turn (Nu.turn_set V w.heap.size i u) (fun b e => by cases e; omega)⟩
  obtain ⟨a0, b0, c0⟩ := st _ 0 u0 k.rr k.gr o
  obtain ⟨a1, b1, c1⟩ := st _ 1 u1 a0 b0 c0
  obtain ⟨a2, b2, c2⟩ := st _ 2 u2 a1 b1 c1
  obtain ⟨a3, b3, c3⟩ := st _ 3 u3 a2 b2 c2
  obtain ⟨a4, b4, c4⟩ := st _ 4 u4 a3 b3 c3
  obtain ⟨a5, b5, c5⟩ := st _ 5 u5 a4 b4 c4
  obtain ⟨a6, b6, c6⟩ := st _ 6 u6 a5 b5 c5
  exact ⟨q, rfl, c6.less (Nat.le_succ _), a6, b6⟩
end Go.Proofs.Ytblgbbpbhcaodaa.Ec
