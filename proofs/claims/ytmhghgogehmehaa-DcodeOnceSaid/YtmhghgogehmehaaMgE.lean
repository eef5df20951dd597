/- Words and contracts that the proofs of this seat stand on, part 5 of 14. -/
import Derived.Test.YtmhghgogehmehaaMgA
import Derived.Lib.SliceRun
import Derived.Deep.RegionHeld3
import Derived.Deep.RegionLaw
import Derived.Lib.AppendStr
import Derived.Test.YtmhghgogehmehaaMgD
import Derived.Test.YtmhghgogehmehaaMgB
import Derived.WalkSmall
import Derived.Test.YtmhghgogehmehaaMgC
import Derived.StillTailTactics
import Derived.Deep.Cut
import Derived.Deep.DeepCutAuto

/- The contracts of pack's reader: what each of its methods tells, and what is left to it. For every list of bytes that it holds and every error that it had; nothing but the reader's own block has turned. -/
namespace Go.Proofs.Ytmhghgogehmehaa.Nu
open Go.ChangeShapes Go.WideShapes Go.ChangeAt Go.RowKit
set_option linter.unusedVariables false
set_option maxRecDepth 4000

/-- a reader in block g: the bytes that are left, which lie below block B, and the first error. -/
def PR (w : World) (g B : Nat) (l : List Nat) (e : Nat) : Prop :=
  ∃ A n c, At w g 52 #[.slice A n c, .int .i64 (e : Int)] ∧ Bytes w B A l ∧ l.length = n ∧ n ≤ c ∧ c ≤ 9223372036854775807 ∧ (A = none → c = 0) ∧ (e ≠ 0 → l = [])
/-- a call that answers v, and leaves this reader. -/
def PPost (w : World) (g B : Nat) (v : Value) (l : List Nat) (e : Nat) (r : Ending) (w' : World) : Prop :=
  r = .returned v ∧ PR w' g B l e ∧ w.grownBy w' (some g)
theorem PR.kept {w w' : World} {g B : Nat} {l : List Nat} {e : Nat} {row : Option Nat} (h : PR w g B l e) (hg : w.grownBy w' row) (hB : B ≤ w.heap.size) (hne : some g ≠ row) (hr : ∀ k, row = some k → B ≤ k) : PR w' g B l e := by
  obtain ⟨A, n, c, h1, h2, h3⟩ := h
  exact ⟨A, n, c, h1.kept hg hne, h2.kept hg hB hr, h3⟩
theorem PR.drewN {w : World} {g B : Nat} {l : List Nat} {e : Nat} (h : PR w g B l e) (k : Nat) : PR (w.drewN k) g B l e := by
  obtain ⟨A, n, c, h1, h2, h3⟩ := h
  exact ⟨A, n, c, h1, h2.below (below_drewN _ _ _), h3⟩
theorem PR.lt {w : World} {g B : Nat} {l : List Nat} {e : Nat} (h : PR w g B l e) : g < w.heap.size := by
  obtain ⟨A, n, c, h1, _⟩ := h
  exact h1.lt

theorem stop_same (w : World) (g : Nat) (A : Option Addr) (n c e f : Nat) (h : At w g 52 #[.slice A n c, .int .i64 (e : Int)]) (he : e ≠ 0) :
    Calls Try.prog 19 #[.pointer (some ⟨g, 0, none⟩), .int .i64 (f : Int)] w fun r w' => r = .returned (.tuple #[]) ∧ w = w' := by
  have c1 := h.cell 1
  simp at c1
  clear h
  have heb : ((e : Int) != 0) = true := by rw [bne_iff_ne]; omega
  go_enter Try.func19, Try.ntmps19
  go_wp2
  exact bodyPost_ret (results_none rfl _ _ _) rfl ⟨rfl, rfl⟩
theorem stop_new (w : World) (g : Nat) (A : Option Addr) (n c f : Nat) (h : At w g 52 #[.slice A n c, .int .i64 0]) (hf : f ≠ 0) :
    Calls Try.prog 19 #[.pointer (some ⟨g, 0, none⟩), .int .i64 (f : Int)] w fun r w' => r = .returned (.tuple #[]) ∧ (w.setCell ⟨g, 1, none⟩ (.int .i64 (f : Int))).setCell ⟨g, 0, none⟩ (.slice none 0 0) = w' := by
  have c0 := h.cell 0
  have c1 := h.cell 1
  have f0 := h.frozen 0
  have f1 := h.frozen 1
  simp at c0 c1
  clear h
  have hfb : ((f : Int) == 0) = false := by rw [beq_eq_false_iff_ne]; omega
  go_enter Try.func19, Try.ntmps19
  go_wp2
  go_end0
  exact ⟨rfl, rfl⟩
/-- stop: the first error stays; with an error nothing is left. -/
theorem stop_any (w : World) (g B : Nat) (l : List Nat) (e f : Nat) (h : PR w g B l e) (hB : B ≤ g) (hf : f ≠ 0) :
    Calls Try.prog 19 #[.pointer (some ⟨g, 0, none⟩), .int .i64 (f : Int)] w (PPost w g B (.tuple #[]) [] (stopE e f)) := by
  obtain ⟨A, n, c, h1, h2, h3, h4, h5, h6, h7⟩ := h
  by_cases he : e = 0
  · subst he
    refine (stop_new w g A n c f h1 hf).mono ?_
    rintro r w' ⟨rfl, rfl⟩
    rw [stop_zero]
    refine ⟨rfl, ⟨none, 0, 0, ?_, Bytes.none_ _ _ _, rfl, Nat.le_refl _, by omega, fun _ => rfl, fun _ => rfl⟩, (turn_set w g 1 _).trans (turn_set _ g 0 _)⟩
    exact (h1.set 1 (.int .i64 (f : Int))).set 0 (.slice none 0 0)
  · refine (stop_same w g A n c e f h1 he).mono ?_
    rintro r w' ⟨rfl, rfl⟩
    rw [stop_some he]
    obtain rfl := h7 he
    exact ⟨rfl, ⟨A, n, c, h1, h2, h3, h4, h5, h6, h7⟩, turn_refl _ _⟩

theorem cut_bytes {w : World} {B : Nat} {ad : Addr} {l : List Nat} {c k : Nat} (h : Bytes w B (some ad) l) (hk : l.length ≤ c) : Bytes w B (if c = k then some ad else some (ad.add k)) (l.drop k) := by
  by_cases hc : c = k
  · exact Bytes.empty (by rw [List.length_drop]; omega)
  · rw [if_neg hc]
    exact h.drop k
/-- what a reader is behind a cut. -/
theorem PR.cut {w : World} {g B : Nat} {ad : Addr} {l l' : List Nat} {n c k e n' c' : Nat} {A' : Option Addr} (h1 : At w g 52 #[.slice (some ad) n c, .int .i64 (e : Int)]) (h2 : Bytes w B (some ad) l) (h3 : l.length = n) (h4 : n ≤ c) (h5 : c ≤ 9223372036854775807) (h7 : e ≠ 0 → l = []) (hB : B ≤ g) (hk : k ≤ n)
    (hA : A' = if c = k then some ad else some (ad.add k)) (hn : n' = n - k) (hc : c' = c - k) (hl : l' = l.drop k) : PR (w.setCell ⟨g, 0, none⟩ (.slice A' n' c')) g B l' e := by
  subst hA hn hc hl
  refine ⟨_, _, _, h1.set 0 _, (cut_bytes h2 (by omega)).below ((Below.refl B w).setCell hB _), by rw [List.length_drop]; omega, by omega, by omega, ?_, fun he => by rw [h7 he, List.drop_nil]⟩
  intro h
  split at h <;> cases h

set_option maxHeartbeats 1000000 in
theorem takeNum_any (w : World) (g B : Nat) (l : List Nat) (e : Nat) (h : PR w g B l e) (hB : B ≤ g) :
    Calls Try.prog 24 #[.pointer (some ⟨g, 0, none⟩)] w (PPost w g B (.int .u64 ((numV l : Nat) : Int)) (numL l) (stopE e (numE l))) := by
  have HP := Lib.hid h
  obtain ⟨A, n, c, h1, h2, h3, h4, h5, h6, h7⟩ := h
  have c0 := h1.cell 0
  have f0 := h1.frozen 0
  simp at c0
  have H1 := Lib.hid h1
  have H2 := Lib.hid h2
  have H3 := Lib.hid h3
  have H6 := Lib.hid h6
  have H7 := Lib.hid h7
  clear h1 h2 h3 h6 h7
  cases l with
  | nil =>
    obtain rfl : n = 0 := H3.out.symm
    go_enter Try.func24, Try.ntmps24
    go_wp2_with fail
    refine (read_end w A 0 c (by omega)).mono ?_
    rintro r w' ⟨rfl, m, rfl⟩
    go_wp2_with fail
    refine (stop_any (w.drewN m) g B [] e 2 (HP.out.drewN m) hB (by decide)).mono ?_
    rintro r w' ⟨rfl, hp, hg⟩
    clear c0 f0
    go_wp2
    go_ret
    exact ⟨rfl, hp, (turn_drewN w m _).trans hg⟩
  | cons x r =>
    have hx : 0 < n := by have := H3.out; simp at this; omega
    obtain ⟨ad, hA, _⟩ := H2.out.2 (by simp)
    subst hA
    obtain ⟨v, y, f, hw⟩ := what_is x r 0
    obtain ⟨k1, k2, k3, k4⟩ := what_num hw
    have HW := Lib.hid hw
    have K3 := Lib.hid k3
    have K4 := Lib.hid k4
    rw [k1, k2]
    clear hw k1 k2 k3 k4
    go_enter Try.func24, Try.ntmps24
    go_wp2_with fail
    refine (read_some w ad (x :: r) n c 0 x v y f H3.out h4 (by omega) (H2.out.more (by have := H1.out.lt; omega)) hx rfl HW.out).mono ?_
    rintro r' w' ⟨rfl, m, rfl⟩
    by_cases hf : f = 0
    · obtain ⟨q1, q2, q3, q4⟩ := K3.out hf
      have he : e = 0 := by
        rcases Nat.eq_zero_or_pos e with h0 | h0
        · exact h0
        · have := H7.out (by omega); cases this
      subst hf he
      have hyn : y ≤ n := by have := H3.out; simp at this; omega
      have y0 : (0 : Int) ≤ (y : Int) := by omega
      have y1 : (y : Int) ≤ (n : Int) := by omega
      have Q : Hid (r.drop x = (x :: r).drop y) := by show _ = _; rw [q3, show 0 + 1 + x = x + 1 by omega]; rfl
      have Q4 := Lib.hid q4
      clear q1 q2 q3 q4
      by_cases hcy : c = y
      · go_wp2
        go_ret
        exact ⟨rfl, PR.cut (k := y) (A' := some ad) H1.out (H2.out.below (below_drewN _ w m)) H3.out h4 h5 (fun h => absurd rfl h) hB hyn (if_pos hcy).symm rfl (by omega) (Q4.out.trans Q.out), (turn_drewN w m _).trans (turn_set _ g 0 _)⟩
      · go_wp2
        go_ret
        exact ⟨rfl, PR.cut (k := y) (A' := some (ad.add y)) H1.out (H2.out.below (below_drewN _ w m)) H3.out h4 h5 (fun h => absurd rfl h) hB hyn (if_neg hcy).symm rfl rfl (Q4.out.trans Q.out), (turn_drewN w m _).trans (turn_set _ g 0 _)⟩
    · obtain ⟨q1, q2⟩ := K4.out hf
      subst q1
      have Q2 := Lib.hid q2
      clear q2
      have hfb : ((f : Int) != 0) = true := by rw [bne_iff_ne]; omega
      go_wp2_with fail
      refine (stop_any (w.drewN m) g B (x :: r) e f (HP.out.drewN m) hB hf).mono ?_
      rintro r w' ⟨rfl, hp, hg⟩
      clear c0 f0
      go_wp2
      go_ret
      exact ⟨rfl, by rw [Q2.out]; exact hp, (turn_drewN w m _).trans hg⟩
end Go.Proofs.Ytmhghgogehmehaa.Nu

/- The contracts of pack's reader, going on: take, takeByte, and the methods that tell. -/
namespace Go.Proofs.Ytmhghgogehmehaa.Nu
open Go.ChangeShapes Go.WideShapes Go.ChangeAt Go.RowKit
set_option linter.unusedVariables false
set_option maxRecDepth 4000

/-- bytes that are told, and the reader that is left. -/
def TakePost (w : World) (g B : Nat) (m l : List Nat) (e : Nat) (r : Ending) (w' : World) : Prop :=
  ∃ A n c, r = .returned (.slice A n c) ∧ m.length = n ∧ Bytes w' B A m ∧ PR w' g B l e ∧ w.grownBy w' (some g)

theorem num_any (w : World) (g B : Nat) (l : List Nat) (e : Nat) (h : PR w g B l e) (hB : B ≤ g) :
    Calls Try.prog 15 #[.pointer (some ⟨g, 0, none⟩)] w (PPost w g B (.int .u64 ((numV l : Nat) : Int)) (numL l) (stopE e (numE l))) := by
  have HP := Lib.hid h
  clear h
  go_enter Try.func15, Try.ntmps15
  go_wp2_with fail
  refine (takeNum_any w g B l e HP.out hB).mono ?_
  rintro r w' ⟨rfl, hp, hg⟩
  go_wp2
  go_ret
  exact ⟨rfl, hp, hg⟩
theorem small_of {w : World} {g B : Nat} {l : List Nat} {e : Nat} (h : PR w g B l e) : Small l := by
  obtain ⟨_, _, _, _, h2, _⟩ := h
  exact h2.1
theorem upto_any (w : World) (g B : Nat) (l : List Nat) (e m : Nat) (h : PR w g B l e) (hB : B ≤ g) :
    Calls Try.prog 33 #[.pointer (some ⟨g, 0, none⟩), .int .u64 (m : Int)] w (PPost w g B (.int .u64 ((uptoV m l : Nat) : Int)) (uptoL m l) (uptoE m l e)) := by
  have HP := Lib.hid h
  clear h
  by_cases hm : m < numV l
  · have v1 : Hid (uptoV m l = 0) := if_pos hm
    have v2 : Hid (uptoL m l = []) := if_pos hm
    have v3 : Hid (uptoE m l e = stopE (stopE e (numE l)) 4) := if_pos hm
    go_enter Try.func33, Try.ntmps33
    go_wp2_with fail
    refine (takeNum_any w g B l e HP.out hB).mono ?_
    rintro r w' ⟨rfl, hp, hg⟩
    have HP2 := Lib.hid hp
    have HG := Lib.hid hg
    have hd : decide (m < numV l) = true := decide_eq_true hm
    clear hp hg
    generalize numV l = v at *
    go_wp2_with fail
    refine (stop_any w' g B _ _ 4 HP2.out hB (by decide)).mono ?_
    rintro r w2 ⟨rfl, hp, hg⟩
    go_wp2
    go_ret
    exact ⟨by rw [v1.out]; rfl, by rw [v2.out, v3.out]; exact hp, HG.out.trans hg⟩
  · have v1 : Hid (uptoV m l = numV l) := if_neg hm
    have v2 : Hid (uptoL m l = numL l) := if_neg hm
    have v3 : Hid (uptoE m l e = stopE e (numE l)) := if_neg hm
    go_enter Try.func33, Try.ntmps33
    go_wp2_with fail
    refine (takeNum_any w g B l e HP.out hB).mono ?_
    rintro r w' ⟨rfl, hp, hg⟩
    have HP2 := Lib.hid hp
    have HG := Lib.hid hg
    have hd : decide (m < numV l) = false := decide_eq_false hm
    clear hp hg
    generalize numV l = v at *
    go_wp2
    go_ret
    exact ⟨by rw [v1.out]; rfl, by rw [v2.out, v3.out]; exact HP2.out, HG.out⟩
theorem fail_any (w : World) (g B : Nat) (l : List Nat) (e f : Nat) (h : PR w g B l e) (hB : B ≤ g) (hf : f ≠ 0) :
    Calls Try.prog 18 #[.pointer (some ⟨g, 0, none⟩), .int .i64 (f : Int)] w (PPost w g B (.tuple #[]) [] (stopE e f)) := by
  have HP := Lib.hid h
  clear h
  go_enter Try.func18, Try.ntmps18
  go_wp2_with fail
  refine (stop_any w g B l e f HP.out hB hf).mono ?_
  rintro r w' ⟨rfl, hp, hg⟩
  go_wp2
  go_end0
  exact ⟨rfl, hp, hg⟩
theorem err_any (w : World) (g B : Nat) (l : List Nat) (e : Nat) (h : PR w g B l e) :
    Calls Try.prog 23 #[.pointer (some ⟨g, 0, none⟩)] w fun r w' => r = .returned (.int .i64 (e : Int)) ∧ w = w' := by
  obtain ⟨A, n, c, h1, h2, h3, h4, h5, h6, h7⟩ := h
  have c1 := h1.cell 1
  simp at c1
  clear h1 h2 h3 h6 h7
  go_enter Try.func23, Try.ntmps23
  go_wp2
  go_ret
  exact ⟨rfl, rfl⟩
theorem end_any (w : World) (g B : Nat) (l : List Nat) (e : Nat) (h : PR w g B l e) (hB : B ≤ g) :
    Calls Try.prog 10 #[.pointer (some ⟨g, 0, none⟩)] w (PPost w g B (.int .i64 ((endE l e : Nat) : Int)) [] (endE l e)) := by
  have HP := Lib.hid h
  obtain ⟨A, n, c, h1, h2, h3, h4, h5, h6, h7⟩ := h
  have c0 := h1.cell 0
  have c1 := h1.cell 1
  simp at c0 c1
  have H3 := Lib.hid h3
  clear h1 h2 h3 h6 h7
  by_cases hl : l = []
  · have v1 : Hid (endE l e = e) := if_pos hl
    have hn : n = 0 := by rw [← H3.out, hl]; rfl
    subst hn
    have HL := Lib.hid hl
    clear hl
    go_enter Try.func10, Try.ntmps10
    go_wp2
    go_ret
    exact ⟨by rw [v1.out]; rfl, by have := HP.out; rw [HL.out] at this; rw [v1.out]; exact this, turn_refl _ _⟩
  · have v1 : Hid (endE l e = stopE e 4) := if_neg hl
    have hn : 0 < n := by rw [← H3.out]; exact List.length_pos_iff.2 hl
    clear hl c1
    go_enter Try.func10, Try.ntmps10
    go_wp2_with fail
    refine (stop_any w g B l e 4 HP.out hB (by decide)).mono ?_
    rintro r w' ⟨rfl, hp, hg⟩
    have HP2 := Lib.hid hp
    obtain ⟨A', n', c', k1, _⟩ := hp
    have c1 := k1.cell 1
    simp at c1
    clear c0 k1
    go_wp2
    go_ret
    exact ⟨by rw [v1.out]; rfl, by rw [v1.out]; exact HP2.out, hg⟩
end Go.Proofs.Ytmhghgogehmehaa.Nu

/- The contracts of pack's reader, going on: Text, New, and what slices.Clone answers. -/
namespace Go.Proofs.Ytmhghgogehmehaa.Nu
open Go.ChangeShapes Go.WideShapes Go.ChangeAt Go.RowKit
set_option linter.unusedVariables false
set_option maxRecDepth 4000

theorem str_nil : str [] = ⟨#[]⟩ := rfl
theorem takeV_small {k : Nat} {l : List Nat} (h : Small l) : Small (takeV k l) := by
  unfold takeV
  split
  · exact small_take h k
  · intro x hx; cases hx

theorem run_nil (w : World) (a : Option Addr) (n c : Nat) : (binOp .eql 22 (.slice a n c) (.slice none 0 0)).run Try.prog w = .ok (.bool a.isNone) w := Lib.run_eql_slice_nil w _ _ a n c 0 0 Try.underlying22
/-- a copy: nil, or a new list of the same bytes. -/
def ClonePost (w : World) (m : List Nat) (r : Ending) (w' : World) : Prop :=
  ∃ A n c, r = .returned (.slice A n c) ∧ m.length = n ∧ Bytes w' w'.heap.size A m ∧ n ≤ c ∧ c ≤ 9223372036854775807 ∧ (A = none → c = 0) ∧ Below w.heap.size w w' ∧ w'.ownsRow w.heap.size 5 1 (.slice A n c) n (vals m)
theorem clone_any (w : World) (A : Option Addr) (l : List Nat) (n c : Nat) (hn : l.length = n) (hA : A = none → n = 0 ∧ c = 0) (hb : Bytes w w.heap.size A l) (hl : n ≤ 140737488355328) :
    Calls Try.prog 13 #[.slice A n c] w (ClonePost w l) := by
  obtain ⟨i0, hi0, hz0, hz1, hz2⟩ := info_parts byte_info
  have hB := Lib.hid hb
  have HN := Lib.hid hn
  clear hb hn
  cases A with
  | none =>
    obtain ⟨rfl, rfl⟩ := hA rfl
    have hnil := run_nil w none 0 0
    go_enter Try.func13, Try.ntmps13
    go_wp2
    go_ret
    exact ⟨none, 0, 0, rfl, HN.out, by rw [List.eq_nil_of_length_eq_zero HN.out]; exact Bytes.none_ _ _ _, Nat.le_refl _, by omega, fun _ => rfl, Below.refl _ _, by rw [List.eq_nil_of_length_eq_zero HN.out]; exact World.ownsRow_nil _ _ _ _⟩
  | some ad =>
    clear hA
    have hnil := run_nil w (some ad) n c
    have HC : Hid (∀ j u, (vals l)[j]? = some u → (w.alloc (.cells #[] 5)).cell? (ad.add j) = some u) := by
      intro j u hu
      rw [vals_get] at hu
      obtain ⟨x, hx, rfl⟩ := Option.map_eq_some_iff.1 hu
      have hjl : j < l.length := (List.getElem?_eq_some_iff.1 hx).1
      obtain ⟨ad', e, hadb, hc⟩ := hB.out.2 (by omega)
      obtain rfl := Option.some.inj e
      exact (World.cell?_alloc_lt _ _ _ (by rw [block_add]; exact hadb)).trans (hc j x hx)
    go_enter Try.func13, Try.ntmps13
    go_wp2_with (
      (at_builtin
       refine wpList_append_own _ rfl (.tmp 5) (.tmp 6) 22 rfl w.heap.size 5 i0 (.int .u8 0) 1 1 Try.underlying22 hi0 hz0 hz1 hz2 rfl (by decide) (.slice (some ⟨w.heap.size, 0, none⟩) 0 0) 0 [] rfl (World.ownsRow_lit w #[] 0 (Nat.le_refl _) (by simp [maxLen]) rfl) ad n c (vals l) rfl (by rw [vals_length, HN.out, Nat.mul_one]) HC.out (vals_one l) (by simp only [maxLen]; omega) (by omega) (by simp) ?_
       intro v1 w2 hown1 hg1 hat1))
    simp only [Nat.zero_add, List.nil_append] at hown1
    obtain ⟨g0, cap0, rfl, hgw0⟩ := own_shape (w := w) hown1 (.inr (fun h => by simp at hat1; exact hat1 h))
    have hbel : Below w.heap.size w w2 := (below_new w _).grown hg1 (by simp) (fun k hk => by simp [Value.ownBlock] at hk; omega)
    have HO := Lib.hid hown1
    have HB := Lib.hid hbel
    clear hown1 hg1 hat1 hbel HC
    go_wp2
    go_ret
    refine ⟨some ⟨g0, 0, none⟩, n, cap0, rfl, HN.out, bytes_own HO.out hB.out.1, ?_, ?_, fun h => (by cases h), HB.out, HO.out⟩
    · rcases HO.out.2 with ⟨h, _⟩ | ⟨_, _, _, h, _, _, h1, _⟩
      · cases h
      · cases h; exact h1
    · rcases HO.out.2 with ⟨h, _⟩ | ⟨_, _, _, h, _, _, _, h1, _⟩
      · cases h
      · cases h; exact h1
end Go.Proofs.Ytmhghgogehmehaa.Nu

/- The contracts of pack's writer: what each of its methods puts behind what it has. For every list of bytes; nothing has turned but the writer's own block and its row. -/
namespace Go.Proofs.Ytmhghgogehmehaa.Nu
open Go.ChangeShapes Go.WideShapes Go.ChangeAt Go.RowKit
set_option linter.unusedVariables false
set_option maxRecDepth 4000

/-- a writer in block g that has these bytes, in a row of its own above B. -/
def PW (w : World) (B g : Nat) (rb : Option Nat) (m : List Nat) : Prop :=
  ∃ v n, At w g 44 #[v] ∧ v.ownBlock = rb ∧ w.ownsRow B 5 1 v n (vals m) ∧ m.length = n ∧ Small m ∧ B ≤ g
/-- nothing has turned but block g and the row rb. -/
structure Two (w w' : World) (g : Nat) (rb : Option Nat) : Prop where
  os : w'.os = w.os
  tape : w'.tape = w.tape
  output : w'.output = w.output
  size : w.heap.size ≤ w'.heap.size
  block : ∀ k, k < w.heap.size → k ≠ g → some k ≠ rb → w'.heap[k]? = w.heap[k]?
def WPost (w : World) (B g : Nat) (rb : Option Nat) (m : List Nat) (r : Ending) (w' : World) : Prop :=
  r = .returned (.tuple #[]) ∧ ∃ rb', PW w' B g rb' m ∧ (rb' = rb ∨ ∀ k, rb' = some k → w.heap.size ≤ k) ∧ Two w w' g rb

theorem below_undrew {w w' : World} (h : Below w.drew.heap.size w.drew w') : Below w.heap.size w w' := ⟨h.os, h.tape, h.output, h.size, h.block⟩
theorem own_below {w w' : World} {B n : Nat} {v : Value} {xs : List Value} (h : w.ownsRow B 5 1 v n xs) (hb : Below w.heap.size w w') : w'.ownsRow B 5 1 v n xs :=
  h.kept (turn_below hb none) (by cases v.ownBlock <;> simp)
theorem own_ne {w : World} {B g n : Nat} {v : Value} {xs : List Value} {cs : Array Value} (h : At w g 44 cs) (o : w.ownsRow B 5 1 v n xs) : some g ≠ v.ownBlock := by
  rcases o.2 with ⟨rfl, _⟩ | ⟨k, cap, cur, rfl, _, hk, _⟩
  · simp [Value.ownBlock]
  · intro e
    have e' : g = k := by simpa [Value.ownBlock] using e
    subst e'
    unfold At at h
    rw [h] at hk
    cases hk
theorem own_bound {w : World} {B n : Nat} {v : Value} {xs : List Value} (o : w.ownsRow B 5 1 v n xs) {g : Nat} (h : v.ownBlock = some g) : B ≤ g := (o.lt g h).1
/-- what a writer is behind an append and the store. -/
theorem wrote {w w1 w2 : World} {B g n n2 cap2 g2 : Nat} {v : Value} {m y : List Nat} (h1 : At w g 44 #[v]) (h3 : w.ownsRow B 5 1 v n (vals m)) (hs : Small (m ++ y)) (h6 : B ≤ g) (hb : Below w.heap.size w w1) (hg : w1.grownBy w2 v.ownBlock)
    (ho : w2.ownsRow B 5 1 (.slice (some ⟨g2, 0, none⟩) n2 cap2) n2 (vals m ++ vals y)) (hat : v.ownBlock = some g2 ∨ g2 = w1.heap.size) (hl : (m ++ y).length = n2) :
    WPost w B g v.ownBlock (m ++ y) (.returned (.tuple #[])) (w2.setCell ⟨g, 0, none⟩ (.slice (some ⟨g2, 0, none⟩) n2 cap2)) := by
  have k1 : At w1 g 44 #[v] := h1.below hb h1.lt
  have k2 : At w2 g 44 #[v] := k1.kept hg (own_ne k1 (own_below h3 hb))
  have hne : g ≠ g2 := by
    rcases ho.2 with ⟨e, _⟩ | ⟨k, cap, cur, e, _, hk, _⟩
    · cases e
    · cases e
      rintro rfl
      unfold At at k2
      rw [k2] at hk
      cases hk
  refine ⟨rfl, some g2, ⟨_, n2, k2.set 0 _, rfl, ?_, hl, hs, h6⟩, ?_, ?_⟩
  · rw [vals_append]
    exact ho.kept (turn_set w2 g 0 _) (.inr (by simp [Value.ownBlock]; exact fun e => hne e.symm))
  · rcases hat with e | e
    · exact .inl e.symm
    · refine .inr fun k hk => ?_
      cases hk
      rw [e]; exact hb.size
  · refine ⟨?_, ?_, ?_, ?_, fun k hk hkg hkr => ?_⟩
    · exact (turn_set w2 g 0 _).os.trans (hg.os.trans hb.os)
    · exact (turn_set w2 g 0 _).tape.trans (hg.tape.trans hb.tape)
    · exact (turn_set w2 g 0 _).output.trans (hg.output.trans hb.output)
    · exact Nat.le_trans hb.size (Nat.le_trans hg.size (turn_set w2 g 0 _).size)
    · rw [Below.heap_setCell _ _ _ _ (by exact hkg), hg.block k (Nat.lt_of_lt_of_le hk hb.size) hkr, hb.block k hk]

set_option maxHeartbeats 2000000 in
theorem wnum_any (w : World) (B g : Nat) (rb : Option Nat) (m : List Nat) (x : Nat) (h : PW w B g rb m) (hx : x < 18446744073709551616) (hm : m.length ≤ 70368744177664) :
    Calls Try.prog 21 #[.pointer (some ⟨g, 0, none⟩), .int .u64 (x : Int)] w (WPost w B g rb (m ++ enc x)) := by
  obtain ⟨i0, hi0, hz0, hz1, hz2⟩ := info_parts byte_info
  obtain ⟨v, n, h1, rfl, h3, h4, h5, h6⟩ := h
  have c0 := h1.cell 0
  have f0 := h1.frozen 0
  have hgl := h1.lt
  simp at c0
  rw [h4] at hm
  have H1 := Lib.hid h1
  have H3 := Lib.hid h3
  have H4 := Lib.hid h4
  have H5 := Lib.hid h5
  have hel : (enc x).length ≤ 9 := by have := blen_le x; rw [enc_length]; omega
  have hel0 : 0 < (enc x).length := by rw [enc_length]; omega
  obtain ⟨q, hq⟩ : ∃ q, (enc x).length = q := ⟨_, rfl⟩
  rw [hq] at hel hel0
  have HQ := Lib.hid hq
  clear h1 h3 h4 h5 hq
  go_enter Try.func21, Try.ntmps21
  go_wp2_with fail
  go_region_law (first
    | (refine step_append_lies _ rfl (.tmp 10) (.tmp 12) 22 rfl B 5 i0 (.int .u8 0) 1 1 Try.underlying22 hi0 hz0 hz1 hz2 rfl (by decide) v n (vals m) rfl (own_below H3.out HB1.out) ⟨g1, 0, none⟩ q cap1 (vals (enc x)) rfl (by rw [vals_length, HQ.out, Nat.mul_one]) (HO1.out.cells rfl) (vals_one _) hel0 (by simp only [maxLen]; omega) (by omega) (Nat.le_trans (by omega) HB1.out.size) _ rfl ?_
       intro g2 cap2 w2 hown2 hgrow2 hat2 hlt2
       have k2 : At w2 g 44 #[v] := (H1.out.below HB1.out hgl).kept hgrow2 (own_ne (H1.out.below HB1.out hgl) (own_below H3.out HB1.out))
       have e2 := k2.cell 0
       have z2 := k2.frozen 0
       simp at e2
       have HO2 := Lib.hid hown2
       have HG2 := Lib.hid hgrow2
       have HA2 := Lib.hid hat2
       clear k2 hown2 hgrow2 hat2)
    | (go_simp; go_at_call 31; refine (append_any _ none [] 0 0 x rfl (Bytes.none_ _ _ _) (by omega) hx).mono ?_; rintro r w1 ⟨g1, cap1, n1, rfl, hn1, hg1, ho1, hb1⟩
       obtain rfl : q = n1 := HQ.out.symm.trans hn1
       have hb2 := below_undrew hb1
       have k1 : At w1 g 44 #[v] := H1.out.below hb2 hgl
       have e1 := k1.cell 0
       have z1 := k1.frozen 0
       simp at e1
       have HO1 := Lib.hid ho1
       have HB1 := Lib.hid hb2
       clear hn1 ho1 hb1 k1 hg1 hb2))
  all_goals
    go_end0
    exact wrote H1.out H3.out (small_append H5.out (enc_small x)) h6 HB1.out HG2.out HO2.out HA2.out (by rw [List.length_append, H4.out, HQ.out])

/-- a text's bytes. -/
def sb (s : ByteArray) : List Nat := s.data.toList.map UInt8.toNat
theorem sb_length (s : ByteArray) : (sb s).length = s.size := by unfold sb; rw [List.length_map, Array.length_toList]; rfl
theorem sb_small (s : ByteArray) : Small (sb s) := by
  intro x hx
  obtain ⟨y, _, rfl⟩ := List.mem_map.1 hx
  exact y.toNat_lt
theorem vals_sb (s : ByteArray) : vals (sb s) = Lib.strCells s := by unfold vals sb Lib.strCells; rw [List.map_map]; rfl
/-- append of a text, and where the new row lies. -/
theorem str_lies (w : World) (B g n cap : Nat) (xs : List Value) (s : ByteArray) (ho : w.ownsRow B 5 1 (.slice (some ⟨g, 0, none⟩) n cap) n xs) (hl : n + s.size ≤ 140737488355328) (hB : B ≤ w.heap.size) :
    ∃ g2 cap2 w', (Builtin.append_ #[22, 9] 22 #[.slice (some ⟨g, 0, none⟩) n cap, .string s]).run Try.prog w = .ok (.slice (some ⟨g2, 0, none⟩) (n + s.size) cap2) w' ∧
      w'.ownsRow B 5 1 (.slice (some ⟨g2, 0, none⟩) (n + s.size) cap2) (n + s.size) (xs ++ Lib.strCells s) ∧ w.grownBy w' (some g) ∧ (some g = some g2 ∨ g2 = w.heap.size) := by
  obtain ⟨i0, hi0, hz0, hz1, hz2⟩ := info_parts byte_info
  obtain ⟨v', w', hr, h2, h3, _⟩ := Lib.run_append_own_string (P := Try.prog) w B 22 9 22 5 i0 Try.underlying22 Try.underlying9 hi0 hz0 hz1 hz2 _ n xs ho s (by simp only [maxLen]; omega) hl hB
  have hc := ho.cells (g := g) rfl
  have hx := ho.1
  rcases ho.2 with ⟨e, _⟩ | ⟨g', cap', cur, e, hbg, hg, hnc, hcm, hcs, htake⟩
  · cases e
  cases e
  by_cases hroom : n + s.size ≤ cap
  · have hr2 := Lib.run_append_room_string (P := Try.prog) w 22 9 22 5 i0 Try.underlying22 Try.underlying9 hi0 hz1 g n cap cur hg s hroom (by omega)
    rw [hr] at hr2
    cases hr2
    exact ⟨g, cap, _, hr, h2, h3, .inl rfl⟩
  · have hr2 := Lib.run_append_grow_string (P := Try.prog) w 22 9 22 5 i0 (.int .u8 0) Try.underlying22 Try.underlying9 hi0 hz0 ⟨g, 0, none⟩ n cap xs (by rw [hz1]; exact hx) hc s (by omega) (by omega) (by rw [hz2]; exact growslice_fits (by omega) (by omega))
    rw [hr] at hr2
    cases hr2
    exact ⟨w.heap.size, _, _, hr, h2, h3, .inr rfl⟩
theorem wpList_str_lies {ops : Array Oper} {rest : List Oper} {o : Oper} {a : Act} {Q : Exit → Act → World → Prop} (hgd : o.guard = none) (sl x : Operand) (hop : o.op = .call { callee := .builtin .append, args := #[sl, x], argTypes := #[22, 9] }) (hty : o.type = 22)
    (w : World) (B g n cap : Nat) (xs : List Value) (s : ByteArray) (hs : a.eval sl = .slice (some ⟨g, 0, none⟩) n cap) (hx : a.eval x = .string s) (ho : w.ownsRow B 5 1 (.slice (some ⟨g, 0, none⟩) n cap) n xs) (hl : n + s.size ≤ 140737488355328) (hB : B ≤ w.heap.size)
    (h : ∀ g2 cap2 w', w'.ownsRow B 5 1 (.slice (some ⟨g2, 0, none⟩) (n + s.size) cap2) (n + s.size) (xs ++ Lib.strCells s) → w.grownBy w' (some g) → (some g = some g2 ∨ g2 = w.heap.size) → wpList Try.prog ops Q rest (a.put o.dst (.slice (some ⟨g2, 0, none⟩) (n + s.size) cap2)) w') :
    wpList Try.prog ops Q (o :: rest) a w := by
  refine wpList_plain hgd fun K hK => ?_
  obtain ⟨g2, cap2, w', hr, h2, h3, h4⟩ := str_lies w B g n cap xs s ho hl hB
  rw [← hty] at hr
  unfold Oper.wp execOp
  simp only [hop, resolve, invoke, builtin, Sem.run_bind, Sem.run_pure, Result.andThen_ok, List.map_toArray, List.map_cons, List.map_nil, hs, hx]
  rw [hty] at hr ⊢
  rw [hr]
  exact hK _ _ (h g2 cap2 w' h2 h3 h4)
theorem enc_pos (x : Nat) : 0 < (enc x).length := by rw [enc_length]; omega
theorem two_trans {w w1 w2 : World} {g : Nat} {rb rb1 : Option Nat} (h : Two w w1 g rb) (k : Two w1 w2 g rb1) (hr : rb1 = rb ∨ ∀ k, rb1 = some k → w.heap.size ≤ k) : Two w w2 g rb := by
  refine ⟨k.os.trans h.os, k.tape.trans h.tape, k.output.trans h.output, Nat.le_trans h.size k.size, fun i hi hg hrb => ?_⟩
  rw [k.block i (Nat.lt_of_lt_of_le hi h.size) hg ?_, h.block i hi hg hrb]
  intro e
  rcases hr with e1 | e1
  · exact hrb (e.trans e1)
  · have := e1 i e.symm; omega

end Go.Proofs.Ytmhghgogehmehaa.Nu

/- The contracts of the document's PutDot and PutDots of layer dcode. -/
namespace Go.Proofs.Ytmhghgogehmehaa.Dc
open Go.ChangeShapes Go.WideShapes Go.ChangeAt Go.RowKit
set_option linter.unusedVariables false
set_option maxRecDepth 4000

theorem below_new (w : World) (o : Obj) : Below w.heap.size w (w.alloc o) := (Below.refl _ _).alloc (Nat.le_refl _) o
theorem alloc_size (w : World) (o : Obj) : (w.alloc o).heap.size = w.heap.size + 1 := by simp
theorem bel_drew {w W : World} {B : Nat} (h : Below B w W) : Below B w W.drew := h.drew
theorem bel_alloc {w W : World} (o : Obj) (h : Below w.heap.size w W) : Below w.heap.size w (W.alloc o) := h.alloc h.size o
/-- bytes in memory. -/
structure BL (w : World) (A : Option Addr) (l : List Nat) (n c : Nat) : Prop where
  len : l.length = n
  nil : A = none → n = 0 ∧ c = 0
  cap : n ≤ c
  max : c ≤ 9223372036854775807
  at_ : Nu.Bytes w w.heap.size A l
theorem BL.up {w W : World} {A : Option Addr} {l : List Nat} {n c : Nat} (h : BL w A l n c) (hW : Below w.heap.size w W) : BL W A l n c := ⟨h.len, h.nil, h.cap, h.max, h.at_.up hW⟩
theorem BL.none_ (w : World) : BL w none [] 0 0 := ⟨rfl, fun _ => ⟨rfl, rfl⟩, Nat.le_refl _, by decide, Nu.Bytes.none_ _ _ _⟩
/-- bytes come out. -/
def BPost (w : World) (m : List Nat) (e : Ending) (w' : World) : Prop := ∃ A n c, e = .returned (.slice A n c) ∧ BL w' A m n c ∧ Below w.heap.size w w'
theorem post_bytes {w w' : World} {m : List Nat} {e : Ending} (hs : Nu.Small m) (h : Nu.AppPost w m e w') : BPost w m e w' := by
  obtain ⟨g, cap, n, rfl, hn, hg, ho, hb⟩ := h
  obtain ⟨h1, h2, h3⟩ := Dt.own_len ho
  exact ⟨_, n, cap, rfl, ⟨hn, h3, h1, h2, Nu.bytes_own ho hs⟩, hb⟩
theorem len_more {l : List Nat} {n n' v : Nat} (h : l.length = n) (h2 : (l ++ Nu.enc v).length = n') (hn : n ≤ 70368744177664) : n' ≤ 140737488351232 := by
  have := enc_le v
  rw [List.length_append] at h2
  omega
abbrev dval (d : Dot) : Value := .agg #[.int .u16 (d.1 : Int), .int .u64 (d.2 : Int)]
theorem some_next {l : List Dot} {k : Nat} {x : Dot} (h : l[k]? = some x) : someD (l.take (k + 1)) = if Dt.mayD x = true then Dt.putD (someD (l.take k)) x else someD (l.take k) := by
  unfold someD Dt.sortD
  rw [Dt.filter_next _ h, List.foldl_append]
  by_cases hm : Dt.mayD x = true
  · rw [if_pos hm, if_pos hm]; rfl
  · rw [if_neg hm, if_neg hm]; rfl
theorem some_fit {l : List Dot} (h : Dt.Fit l) (k : Nat) : Dt.Fit (someD (l.take k)) ∧ (someD (l.take k)).length ≤ k := by
  refine ⟨fun x hx => ?_, ?_⟩
  · have h2 := (Dt.sort_mem ((l.take k).filter Dt.mayD) x).1 hx
    exact h x (List.mem_of_mem_take (List.mem_filter.1 h2).1)
  · have := some_len (l.take k)
    rw [List.length_take] at this
    omega
/-- what stands between two rounds of PutDots. -/
theorem dots_next {l : List Nat} {U : List Dot} {k : Nat} {x : Dot} (h : U[k]? = some x) : l ++ Nu.enc U.length ++ (U.take (k + 1)).flatMap dotB = l ++ Nu.enc U.length ++ (U.take k).flatMap dotB ++ dotB x := by
  rw [flat_snoc h, List.append_assoc (l ++ Nu.enc U.length)]
theorem put_len {l : List Nat} {U : List Dot} {k n n3 : Nat} (h : l.length = n) (h2 : (l ++ Nu.enc U.length ++ (U.take k).flatMap dotB).length = n3) (hn : n ≤ 1099511627776) (hU : U.length ≤ 1099511627776) : n3 ≤ 70368744177664 := by
  have h3 := enc_le U.length
  have h4 := flat_le (f := dotB) (k := 18) dotB_le (U.take k)
  have h5 : (U.take k).length ≤ U.length := by rw [List.length_take]; omega
  rw [List.length_append, List.length_append] at h2
  omega
end Go.Proofs.Ytmhghgogehmehaa.Dc

/- The contracts of pack's writer, going on: Bytes; the law's own example; and every method of a nil writer and of a nil reader. -/
namespace Go.Proofs.Ytmhghgogehmehaa.Nu
open Go.ChangeShapes Go.WideShapes Go.ChangeAt Go.RowKit
set_option linter.unusedVariables false
set_option maxRecDepth 4000

theorem below_two {w w' : World} {B g : Nat} {rb : Option Nat} (h : Two w w' g rb) (hg : B ≤ g) (hr : ∀ k, rb = some k → B ≤ k) (hB : B ≤ w.heap.size) : Below B w w' :=
  ⟨h.os, h.tape, h.output, h.size, fun k hk => h.block k (by omega) (by omega) (fun e => by have := hr k e.symm; omega)⟩
theorem PW.row {w : World} {B g : Nat} {rb : Option Nat} {m : List Nat} (h : PW w B g rb m) : ∀ k, rb = some k → B ≤ k ∧ k < w.heap.size := by
  obtain ⟨v, n, h1, rfl, h3, _⟩ := h
  exact h3.lt
theorem PW.base {w : World} {B g : Nat} {rb : Option Nat} {m : List Nat} (h : PW w B g rb m) : B ≤ g ∧ g < w.heap.size := by
  obtain ⟨v, n, h1, rfl, h3, _, _, h6⟩ := h
  exact ⟨h6, h1.lt⟩
theorem PW.small {w : World} {B g : Nat} {rb : Option Nat} {m : List Nat} (h : PW w B g rb m) : Small m := by
  obtain ⟨v, n, h1, rfl, h3, _, h5, h6⟩ := h
  exact h5
theorem PW.new (w : World) : PW (w.alloc (.cells #[.slice none 0 0] 44)) w.heap.size w.heap.size none [] :=
  ⟨.slice none 0 0, 0, At.new _ _ _, rfl, World.ownsRow_nil _ _ _ _, rfl, fun x hx => (by cases hx), Nat.le_refl _⟩
theorem wbytes_any (w : World) (B g : Nat) (rb : Option Nat) (m : List Nat) (h : PW w B g rb m) (hm : m.length ≤ 140737488355328) :
    Calls Try.prog 12 #[.pointer (some ⟨g, 0, none⟩)] w (ClonePost w m) := by
  obtain ⟨v, n, h1, h1b, h3, h4, h5, h6⟩ := h
  have c0 := h1.cell 0
  simp at c0
  rcases h3.2 with ⟨rfl, rfl⟩ | ⟨g1, cap, cur, rfl, _⟩
  · obtain rfl := List.eq_nil_of_length_eq_zero h4
    clear h1 h1b h3 h4 h5
    go_enter Try.func12, Try.ntmps12
    go_wp2_with fail
    refine (clone_any w none [] 0 0 rfl (fun _ => ⟨rfl, rfl⟩) (Bytes.none_ _ _ _) (by omega)).mono ?_
    rintro r w' ⟨A, n, c, rfl, hp⟩
    have HP := Lib.hid hp
    clear hp
    go_wp2
    go_ret
    exact ⟨A, n, c, rfl, HP.out⟩
  · have HB := Lib.hid (bytes_own h3 h5)
    have H4 := Lib.hid h4
    rw [h4] at hm
    clear h1 h1b h3 h4 h5
    go_enter Try.func12, Try.ntmps12
    go_wp2_with fail
    refine (clone_any w (some ⟨g1, 0, none⟩) m n cap H4.out (fun h => (by cases h)) HB.out hm).mono ?_
    rintro r w' ⟨A, n', c, rfl, hp⟩
    have HP := Lib.hid hp
    clear hp
    go_wp2
    go_ret
    exact ⟨A, n', c, rfl, HP.out⟩

def ab : ByteArray := ⟨#[97, 98]⟩
theorem ex_bytes : ([] ++ enc 258) ++ (enc ab.size ++ sb ab) = [2, 1, 2, 1, 2, 97, 98] := by decide

theorem nil25 (w : World) (x : Int) : Calls Try.prog 21 #[.pointer none, .int .u64 x] w fun r w' => r = .returned (.tuple #[]) ∧ w = w' := by
  go_enter Try.func21, Try.ntmps21
  go_wp2
  refine bodyPost_ret (results_none rfl _ _ _) rfl ?_
  exact ⟨rfl, rfl⟩
theorem nil17 (w : World) (x : Int) : Calls Try.prog 18 #[.pointer none, .int .i64 x] w fun r w' => r = .returned (.tuple #[]) ∧ w = w' := by
  go_enter Try.func18, Try.ntmps18
  go_wp2
  refine bodyPost_ret (results_none rfl _ _ _) rfl ?_
  exact ⟨rfl, rfl⟩
theorem nil33 (w : World) : Calls Try.prog 12 #[.pointer none] w fun r w' => r = .returned (.slice none 0 0) ∧ w = w' := by
  go_enter Try.func12, Try.ntmps12
  go_wp2
  go_ret
  exact ⟨rfl, rfl⟩
theorem nil7 (w : World) : Calls Try.prog 15 #[.pointer none] w fun r w' => r = .returned (.int .u64 0) ∧ w = w' := by
  go_enter Try.func15, Try.ntmps15
  go_wp2
  go_ret
  exact ⟨rfl, rfl⟩
theorem nil9 (w : World) (x : Int) : Calls Try.prog 33 #[.pointer none, .int .u64 x] w fun r w' => r = .returned (.int .u64 0) ∧ w = w' := by
  go_enter Try.func33, Try.ntmps33
  go_wp2
  go_ret
  exact ⟨rfl, rfl⟩
theorem nil23 (w : World) : Calls Try.prog 23 #[.pointer none] w fun r w' => r = .returned (.int .i64 1) ∧ w = w' := by
  go_enter Try.func23, Try.ntmps23
  go_wp2
  go_ret
  exact ⟨rfl, rfl⟩
theorem nil19 (w : World) : Calls Try.prog 10 #[.pointer none] w fun r w' => r = .returned (.int .i64 1) ∧ w = w' := by
  go_enter Try.func10, Try.ntmps10
  go_wp2
  go_ret
  exact ⟨rfl, rfl⟩
end Go.Proofs.Ytmhghgogehmehaa.Nu

/- The contract of pack's New: a reader of these bytes in a new block. -/
namespace Go.Proofs.Ytmhghgogehmehaa.Nu
open Go.ChangeShapes Go.WideShapes Go.ChangeAt Go.RowKit
set_option linter.unusedVariables false
set_option maxRecDepth 4000

/-- a new reader of these bytes. -/
def NewPost (w : World) (l : List Nat) (r : Ending) (w' : World) : Prop :=
  ∃ g, r = .returned (.pointer (some ⟨g, 0, none⟩)) ∧ w.heap.size ≤ g ∧ PR w' g g l 0 ∧ Below w.heap.size w w'
theorem new_any (w : World) (A : Option Addr) (l : List Nat) (n c : Nat) (hn : l.length = n) (hA : A = none → n = 0 ∧ c = 0) (hb : Bytes w w.heap.size A l) (hl : n ≤ 140737488355328) :
    Calls Try.prog 8 #[.slice A n c] w (NewPost w l) := by
  have hB := Lib.hid hb
  have HN := Lib.hid hn
  have HA := Lib.hid hA
  clear hb hn hA
  go_enter Try.func8, Try.ntmps8
  go_wp2_with fail
  refine (clone_any w A l n c HN.out HA.out hB.out hl).mono ?_
  rintro r w' ⟨A', n', c', rfl, h1, h2, h3, h4, h5, h6, _⟩
  have H1 := Lib.hid h1
  have H2 := Lib.hid h2
  have H5 := Lib.hid h5
  have H6 := Lib.hid h6
  clear h1 h2 h5 h6
  go_wp2
  go_ret
  refine ⟨w'.heap.size, rfl, H6.out.size, ⟨A', n', c', At.new _ _ _, (H2.out.below (below_new w' _)), H1.out, h3, h4, H5.out, fun h => absurd rfl h⟩, H6.out.alloc H6.out.size _⟩
end Go.Proofs.Ytmhghgogehmehaa.Nu

/- The contract of the document's 'set': what two lists of runs come to. Condition: at most 32768 runs on either side. -/
namespace Go.Proofs.Ytmhghgogehmehaa.Ru
open Go.ChangeShapes Go.WideShapes Go.ChangeAt Go.RowKit
set_option linter.unusedVariables false

theorem addR_length (o : List Run) (p q : Nat) : (addR o p q).length ≤ o.length + 1 := by
  unfold addR
  split
  · rename_i r h
    split
    · have hne : o ≠ [] := fun e => by rw [e] at h; simp at h
      rw [List.length_append, List.length_dropLast, List.length_singleton]
      have : 0 < o.length := List.length_pos_iff.2 hne
      omega
    · rw [List.length_append]; simp
  · simp
theorem stF_length (a b : List Run) (how : Int) (P : List Nat) (k : Nat) : (stF a b how P k).length ≤ k := by
  induction k with
  | zero => simp [stF]
  | succ k ih =>
    rw [stF_succ]
    unfold stS
    split
    · have := addR_length (stF a b how P k) (P.getD k 0) (P.getD (k + 1) 0)
      omega
    · omega
theorem getD_some {P : List Nat} {i p : Nat} (h : P[i]? = some p) : P.getD i 0 = p := by
  rw [List.getD_eq_getElem?_getD, h]; rfl

theorem putL_bound {l : List Nat} {n : Nat} (C : Nat → Prop) (hl : ∀ x ∈ l, C x) (hn : C n) : ∀ x ∈ putL l n, C x := by
  have key : ∀ (l : List Nat), (∀ x ∈ l, C x) → ∀ s : List Nat × Bool, (∀ x ∈ s.1, C x) → ∀ x ∈ (l.foldl (putS n) s).1, C x := by
    intro l
    induction l with
    | nil => intro _ s hs; exact hs
    | cons y l ih =>
      intro h s hs
      rw [List.foldl_cons]
      refine ih (fun x hx => h x (by simp [hx])) _ ?_
      have hy : C y := h y (by simp)
      unfold putS
      intro x hx
      split at hx <;> split at hx <;> simp at hx
      all_goals (first
        | (rcases hx with hx | rfl | rfl <;> first | exact hs x hx | exact hn | exact hy)
        | (rcases hx with hx | rfl <;> first | exact hs x hx | exact hn | exact hy)
        | exact hs x hx)
  have h1 := key l hl ([], false) (fun x hx => by cases hx)
  unfold putL
  split
  · exact h1
  · intro x hx
    rcases List.mem_append.1 hx with hx | hx
    · exact h1 x hx
    · obtain rfl := List.mem_singleton.1 hx
      exact hn
/-- points lie from 1 to 2^48. -/
theorem ptL_bound (l : List Run) : ∀ x ∈ ptL l, 1 ≤ x ∧ x ≤ 281474976710656 := by
  suffices h : ∀ o : List Nat, (∀ x ∈ o, 1 ≤ x ∧ x ≤ 281474976710656) → ∀ x ∈ l.foldl ptS o, 1 ≤ x ∧ x ≤ 281474976710656 from h [] (fun x hx => by cases hx)
  induction l with
  | nil => intro o ho; exact ho
  | cons r l ih =>
    intro o ho
    rw [List.foldl_cons]
    refine ih _ ?_
    unfold ptS
    split
    · rename_i hm
      have := of_decide_eq_true hm
      exact putL_bound _ (putL_bound _ ho (by omega)) (by omega)
    · exact ho

def RunPost (w : World) (m : List Run) (e : Ending) (w' : World) : Prop :=
  ∃ A n c, e = .returned (.slice A n c) ∧ m.length = n ∧ w'.ownsRow w.heap.size 35 2 (.slice A n c) n (rv m) ∧ Below w.heap.size w w'
theorem bel_drew {w W : World} (h : Below w.heap.size w W) : Below w.heap.size w W.drew := h.drew

def Low (o : List Run) : Prop := ∀ r ∈ o, r.1 ≤ 281474976710656 ∧ r.2 ≤ 281474976710656
theorem addR_nil (p q : Nat) : addR [] p q = [(p, q - 1)] := rfl
theorem addR_last (o : List Run) (lo hi p q : Nat) : addR (o ++ [(lo, hi)]) p q = if hi + 1 = p then o ++ [(lo, q - 1)] else o ++ [(lo, hi)] ++ [(p, q - 1)] := by
  unfold addR
  rw [List.getLast?_append]
  simp only [List.getLast?_singleton, Option.some_or, List.dropLast_concat]
theorem last_of {o : List Run} {z : Nat} (h : o.length = z + 1) : ∃ o' lo hi, o = o' ++ [(lo, hi)] ∧ o'.length = z := by
  have hne : o ≠ [] := fun e => by rw [e] at h; simp at h
  refine ⟨o.dropLast, (o.getLast hne).1, (o.getLast hne).2, (List.dropLast_concat_getLast hne).symm, by rw [List.length_dropLast]; omega⟩
theorem low_last {o : List Run} {lo hi : Nat} (h : Low (o ++ [(lo, hi)])) : lo ≤ 281474976710656 ∧ hi ≤ 281474976710656 := h (lo, hi) (by simp)
theorem low_snoc {o : List Run} {lo hi : Nat} (h : Low o) (h1 : lo ≤ 281474976710656) (h2 : hi ≤ 281474976710656) : Low (o ++ [(lo, hi)]) := fun r hr => by
  rcases List.mem_append.1 hr with hr | hr
  · exact h r hr
  · obtain rfl := List.mem_singleton.1 hr
    exact ⟨h1, h2⟩
theorem low_init {o : List Run} {r : Run} (h : Low (o ++ [r])) : Low o := fun x hx => h x (List.mem_append_left _ hx)
theorem rv_snoc (o : List Run) (lo hi : Nat) : rv (o ++ [(lo, hi)]) = rv o ++ [.int .u64 (lo : Int), .int .u64 (hi : Int)] := rv_append o [(lo, hi)]
theorem rv_set_last (o : List Run) (lo hi v z : Nat) (h : o.length = z) : (rv (o ++ [(lo, hi)])).set (z * 2 + 1) (.int .u64 (v : Int)) = rv (o ++ [(lo, v)]) := by
  have hl : (rv o).length = z * 2 := by rw [rv_length, h]
  rw [rv_snoc, rv_snoc, List.set_append, if_neg (by omega), hl]
  have e : z * 2 + 1 - z * 2 = 1 := by omega
  rw [e]
  rfl
theorem rv_last (o : List Run) (lo hi z : Nat) (h : o.length = z) : (rv (o ++ [(lo, hi)]))[z * 2]? = some (.int .u64 (lo : Int)) ∧ (rv (o ++ [(lo, hi)]))[z * 2 + 1]? = some (.int .u64 (hi : Int)) := by
  refine rv_get (l := o ++ [(lo, hi)]) (r := (lo, hi)) ?_
  rw [List.getElem?_append_right (by omega), h]
  simp
def StRel (w : World) (a b : List Run) (how : Int) (P : List Nat) (len : Nat) (o i : Value) (wr : World) : Prop :=
  ∃ (k m : Nat) (A : Option Addr) (c : Nat), k ≤ len - 1 ∧ i = .int .i64 (k : Int) ∧ o = .slice A m c ∧ (stF a b how P k).length = m ∧ Low (stF a b how P k) ∧ wr.ownsRow w.heap.size 35 2 (.slice A m c) m (rv (stF a b how P k)) ∧ Below w.heap.size w wr
theorem st_rel {w wr : World} {a b : List Run} {how : Int} {P : List Nat} {len k m : Nat} {A : Option Addr} {c : Nat} {o : List Run} (hk : k < len - 1) (hs : stF a b how P (k + 1) = o) (hm : o.length = m) (hf : Low o) (ho : wr.ownsRow w.heap.size 35 2 (.slice A m c) m (rv o)) (hb : Below w.heap.size w wr) :
    StRel w a b how P len (.slice A m c) (.int .i64 ((k : Int) + 1)) wr :=
  ⟨k + 1, m, A, c, hk, by go_num, rfl, by rw [hs]; exact hm, by rw [hs]; exact hf, by rw [hs]; exact ho, hb⟩
theorem st_drewN {w V : World} {a b : List Run} {how : Int} {P : List Nat} {len : Nat} {o i : Value} (h : StRel w a b how P len o i V) (n : Nat) : StRel w a b how P len o i (V.drewN n) := by
  obtain ⟨k, m, A, c, h1, h2, h3, h4, h5, h6, h7⟩ := h
  exact ⟨k, m, A, c, h1, h2, h3, h4, h5, h6, Go.below_drewN h7 n⟩
theorem news_run (W : World) (p q : Nat) (z : Int) (h : z = (q : Int)) : ∀ (j : Nat) (u : Value), (rv [(p, q)])[j]? = some u → (W.alloc (.cells #[.int .u64 (p : Int), .int .u64 z] 35)).cell? ((⟨W.heap.size, 0, none⟩ : Addr).add j) = some u := by
  subst h
  intro j u hu
  rw [zero_add, World.cell?_alloc_new]
  simpa [rv] using hu
theorem run_grown {w wr w2 : World} {v : Value} {m : Nat} {xs : List Value} {o : Obj} (ho : wr.ownsRow w.heap.size 35 2 v m xs) (hb : Below w.heap.size w wr) (hg : (wr.alloc o).grownBy w2 v.ownBlock) : Below w.heap.size w w2 :=
  (hb.alloc hb.size _).grown hg (Nat.le_trans hb.size (by simp)) (fun k hk => (ho.lt k hk).1)
theorem own_drewN {V : World} {B n size : Nat} {e : TypeId} {v : Value} {xs : List Value} (h : V.ownsRow B e size v n xs) (k : Nat) : (V.drewN k).ownsRow B e size v n xs := h
theorem own_drewS {V : World} {B n size : Nat} {e : TypeId} {v : Value} {xs : List Value} (h : V.ownsRow B e size v n xs) (k : Nat) : ((V.drewN k).drew).ownsRow B e size v n xs := h
theorem low_drewS {w V : World} (h : Below w.heap.size w V) (k : Nat) : Below w.heap.size w ((V.drewN k).drew) := (Go.below_drewN h k).drew
theorem lies_num {w : World} {B n c : Nat} {A : Option Addr} {m : List Nat} (h : w.ownsRow B 33 1 (.slice A n c) n (nv m)) (hf : FitN m) : Nums w w.heap.size A m := ⟨hf, lies_any (by decide) h⟩

end Go.Proofs.Ytmhghgogehmehaa.Ru

/- The contracts of the document's answers for layer runs: Join, Meet, Minus, Norm, Eq, Good, Size, First, Last, Of. Condition: at most 32768 runs (16384 on either side where two lists meet are more than the laws ask), at most 32768 numbers. -/
namespace Go.Proofs.Ytmhghgogehmehaa.Ru
open Go.ChangeShapes Go.WideShapes Go.ChangeAt Go.RowKit
set_option linter.unusedVariables false
set_option maxRecDepth 4000

theorem fit_order {l : List Run} (h : InOrder l) : Fit l := fun r hr => by
  have := (may_iff r).1 (h.1 r hr)
  omega
theorem runs_own {w : World} {B n c : Nat} {A : Option Addr} {m : List Run} (h : w.ownsRow B 35 2 (.slice A n c) n (rv m)) (hf : Fit m) : Runs w w.heap.size A m := ⟨hf, lies_any (by decide) h⟩
/-- what a list that came out is to the walks behind it. -/
theorem post_runs {w w' : World} {m : List Run} {e : Ending} (h : RunPost w m e w') (hf : Fit m) : ∃ A n c, e = .returned (.slice A n c) ∧ m.length = n ∧ (A = none → n = 0 ∧ c = 0) ∧ n ≤ c ∧ c ≤ 9223372036854775807 ∧ Runs w' w'.heap.size A m ∧ w'.ownsRow w.heap.size 35 2 (.slice A n c) n (rv m) ∧ Below w.heap.size w w' := by
  obtain ⟨A, n, c, rfl, hn, ho, hb⟩ := h
  obtain ⟨h1, h2, h3⟩ := own_len ho
  exact ⟨A, n, c, rfl, hn, h3, h1, h2, runs_own ho hf, ho, hb⟩

/-- the list in order of the same numbers. -/
def normL (l : List Run) : List Run := setL l [] 0
theorem norm_spec (l : List Run) : InOrder (normL l) ∧ ∀ n, has (normL l) n = has l n := by
  obtain ⟨h1, h2⟩ := set_spec l [] 0
  exact ⟨h1, fun n => by rw [show normL l = setL l [] 0 from rfl, h2 n, inB_zero, has_nil, Bool.or_false]⟩
theorem take_more {l m : List Run} {k : Nat} {x : Run} (h : l.take k = m.take k) (h1 : l[k]? = some x) (h2 : m[k]? = some x) : l.take (k + 1) = m.take (k + 1) := by
  rw [List.take_add_one, List.take_add_one, h, h1, h2]
theorem ne_at {l m : List Run} {k : Nat} {x y : Run} (h1 : l[k]? = some x) (h2 : m[k]? = some y) (hn : x ≠ y) : l ≠ m := by
  intro e
  rw [e, h2] at h1
  exact hn (Option.some.inj h1).symm
end Go.Proofs.Ytmhghgogehmehaa.Ru

/- The contracts of the document's Size and First for layer runs. Condition: at most 32768 runs. -/
namespace Go.Proofs.Ytmhghgogehmehaa.Ru
open Go.ChangeShapes Go.WideShapes Go.ChangeAt Go.RowKit
set_option linter.unusedVariables false
set_option maxRecDepth 4000

theorem below_drewK {B : Nat} {a w : World} (h : Below B a w) (n : Nat) : Below B a (w.drewN n) := Go.below_drewN h n

theorem sizeR_append (a b : List Run) : sizeR (a ++ b) = sizeR a + sizeR b := by
  induction a with
  | nil => simp [sizeR]
  | cons r a ih => simp only [List.cons_append, sizeR, ih]; omega
theorem sizeR_take {l : List Run} {k lo hi : Nat} (h : l[k]? = some (lo, hi)) : sizeR (l.take (k + 1)) = sizeR (l.take k) + (hi - lo + 1) := by
  rw [List.take_add_one, h, sizeR_append]
  rfl
theorem sizeR_le (l : List Run) (k : Nat) : sizeR (l.take k) ≤ sizeR l := by
  have := sizeR_append (l.take k) (l.drop k)
  rw [List.take_append_drop] at this
  omega

end Go.Proofs.Ytmhghgogehmehaa.Ru

/- What ctx knows by the name VPut lies in dot's DPut. -/
namespace Go.Proofs.Ytmhghgogehmehaa.Dt
end Go.Proofs.Ytmhghgogehmehaa.Dt

/- The contracts of the document's Flag and Text: a new list of the bytes that came in and the thing's bytes behind them; nothing that was there has changed. Condition: at most 2^46 bytes come out. -/
namespace Go.Proofs.Ytmhghgogehmehaa.Nu
open Go.ChangeShapes Go.WideShapes Go.ChangeAt Go.RowKit
set_option linter.unusedVariables false
set_option maxRecDepth 4000

/-- append of any bytes to a new list without one. -/
theorem run_out (w : World) (B h : Nat) (A : Option Addr) (m : List Nat) (n c : Nat) (ho : w.ownsRow B 5 1 (.slice (some ⟨h, 0, none⟩) 0 0) 0 []) (hA : A = none → n = 0 ∧ c = 0) (hb : Bytes w w.heap.size A m) (hl : m.length = n)
    (hn : n ≤ 140737488355328) (hB : B ≤ w.heap.size) :
    ∃ g2 cap2 w', (Builtin.append_ #[22, 22] 22 #[.slice (some ⟨h, 0, none⟩) 0 0, .slice A n c]).run Try.prog w = .ok (.slice (some ⟨g2, 0, none⟩) n cap2) w' ∧
      w'.ownsRow B 5 1 (.slice (some ⟨g2, 0, none⟩) n cap2) n (vals m) ∧ w.grownBy w' (some h) ∧ B ≤ g2 := by
  obtain ⟨i0, hi0, hz0, hz1, hz2⟩ := info_parts byte_info
  cases A with
  | none =>
    obtain ⟨rfl, rfl⟩ := hA rfl
    obtain rfl := List.eq_nil_of_length_eq_zero hl
    exact ⟨h, 0, w, run_append_owned_none (P := Try.prog) (w := w) B 22 22 5 i0 1 Try.underlying22 hi0 _ 0 [] ho, ho, turn_refl _ _, (ho.lt h rfl).1⟩
  | some ad =>
    have hc : ∀ j u, (vals m)[j]? = some u → w.cell? (ad.add j) = some u := by
      intro j u hu
      rw [vals_get] at hu
      obtain ⟨x, hx, rfl⟩ := Option.map_eq_some_iff.1 hu
      have hjl : j < m.length := (List.getElem?_eq_some_iff.1 hx).1
      obtain ⟨ad', e, hadb, hc⟩ := hb.2 (by omega)
      obtain rfl := Option.some.inj e
      exact hc j x hx
    obtain ⟨v', w', hr, h2, h3, hat, h5⟩ := run_append_own_at (P := Try.prog) w B 22 22 5 i0 (.int .u8 0) 1 1 Try.underlying22 hi0 hz0 hz1 hz2 rfl (by decide) _ 0 [] ho ad n c (vals m) (by rw [vals_length, hl, Nat.mul_one]) hc (vals_one m) (by simp only [maxLen]; omega) (by omega) hB
    simp only [Nat.zero_add, List.nil_append] at h2
    obtain ⟨g2, cap2, rfl, hg2⟩ := own_shape (w := w) h2 (.inr (fun h => by simp at hat; exact hat h))
    exact ⟨g2, cap2, w', hr, h2, h3, hg2⟩
theorem wp_out {o : Oper} {a : Act} {K : Act → World → Prop} {Q : Exit → Act → World → Prop} (s x : Operand) (ho : o.op = .call { callee := .builtin .append, args := #[s, x], argTypes := #[22, 22] }) (hty : o.type = 22)
    (w : World) (B h : Nat) (A : Option Addr) (m : List Nat) (n c : Nat) (hs : a.eval s = .slice (some ⟨h, 0, none⟩) 0 0) (hx : a.eval x = .slice A n c) (hw : w.ownsRow B 5 1 (.slice (some ⟨h, 0, none⟩) 0 0) 0 []) (hA : A = none → n = 0 ∧ c = 0) (hb : Bytes w w.heap.size A m) (hl : m.length = n)
    (hn : n ≤ 140737488355328) (hB : B ≤ w.heap.size)
    (hK : ∀ g2 cap2 w', w'.ownsRow B 5 1 (.slice (some ⟨g2, 0, none⟩) n cap2) n (vals m) → w.grownBy w' (some h) → B ≤ g2 → K (a.put o.dst (.slice (some ⟨g2, 0, none⟩) n cap2)) w') : o.wp Try.prog a w K Q := by
  obtain ⟨g2, cap2, w', hr, h2, h3, h4⟩ := run_out w B h A m n c hw hA hb hl hn hB
  rw [← hty] at hr
  unfold Oper.wp execOp
  simp only [ho, resolve, invoke, builtin, Sem.run_bind, Sem.run_pure, Result.andThen_ok, List.map_toArray, List.map_cons, List.map_nil, hs, hx]
  rw [hty] at hr ⊢
  rw [hr]
  exact hK _ _ _ h2 h3 h4
theorem wpList_out {ops : Array Oper} {rest : List Oper} {o : Oper} {a : Act} {Q : Exit → Act → World → Prop} (hgd : o.guard = none) (s x : Operand) (ho : o.op = .call { callee := .builtin .append, args := #[s, x], argTypes := #[22, 22] }) (hty : o.type = 22)
    (w : World) (B h : Nat) (A : Option Addr) (m : List Nat) (n c : Nat) (hs : a.eval s = .slice (some ⟨h, 0, none⟩) 0 0) (hx : a.eval x = .slice A n c) (hw : w.ownsRow B 5 1 (.slice (some ⟨h, 0, none⟩) 0 0) 0 []) (hA : A = none → n = 0 ∧ c = 0) (hb : Bytes w w.heap.size A m) (hl : m.length = n)
    (hn : n ≤ 140737488355328) (hB : B ≤ w.heap.size)
    (hK : ∀ g2 cap2 w', w'.ownsRow B 5 1 (.slice (some ⟨g2, 0, none⟩) n cap2) n (vals m) → w.grownBy w' (some h) → B ≤ g2 → wpList Try.prog ops Q rest (a.put o.dst (.slice (some ⟨g2, 0, none⟩) n cap2)) w') : wpList Try.prog ops Q (o :: rest) a w :=
  wpList_plain hgd fun _ hQ => wp_out s x ho hty w B h A m n c hs hx hw hA hb hl hn hB fun g2 cap2 w' h2 h3 h4 => hQ _ _ (hK g2 cap2 w' h2 h3 h4)
theorem step_out {ops : Array Oper} {o : Oper} {a : Act} {K : Act → World → Prop} {Q : Exit → Act → World → Prop} {E : Prop} (hgd : o.guard = none) (s x : Operand) (ho : o.op = .call { callee := .builtin .append, args := #[s, x], argTypes := #[22, 22] }) (hty : o.type = 22)
    (w : World) (B h : Nat) (A : Option Addr) (m : List Nat) (n c : Nat) (hs : a.eval s = .slice (some ⟨h, 0, none⟩) 0 0) (hx : a.eval x = .slice A n c) (hw : w.ownsRow B 5 1 (.slice (some ⟨h, 0, none⟩) 0 0) 0 []) (hA : A = none → n = 0 ∧ c = 0) (hb : Bytes w w.heap.size A m) (hl : m.length = n)
    (hn : n ≤ 140737488355328) (hB : B ≤ w.heap.size)
    (hK : ∀ g2 cap2 w', w'.ownsRow B 5 1 (.slice (some ⟨g2, 0, none⟩) n cap2) n (vals m) → w.grownBy w' (some h) → B ≤ g2 → K (a.put o.dst (.slice (some ⟨g2, 0, none⟩) n cap2)) w') :
    if Region.wanted o (yielded ops a.tmps) = true then Oper.wp Try.prog o a w K Q else E := by
  have hw' : Region.wanted o (yielded ops a.tmps) = true := by simp [Region.wanted, hgd]
  rw [if_pos hw']
  exact wp_out s x ho hty w B h A m n c hs hx hw hA hb hl hn hB hK

/-- a new list without a byte. -/
theorem out_new (w : World) : (w.alloc (.cells #[] 5)).ownsRow w.heap.size 5 1 (.slice (some ⟨w.heap.size, 0, none⟩) 0 0) 0 [] := World.ownsRow_lit w #[] 0 (Nat.le_refl _) (by simp [maxLen]) rfl
theorem app_done {w w2 : World} {l m : List Nat} {g cap n : Nat} (ho : w2.ownsRow w.heap.size 5 1 (.slice (some ⟨g, 0, none⟩) n cap) n (vals l ++ vals m)) (hl : (l ++ m).length = n) (hb : Below w.heap.size w w2) : AppPost w (l ++ m) (.returned (.slice (some ⟨g, 0, none⟩) n cap)) w2 :=
  ⟨g, cap, n, rfl, hl, (ho.lt g rfl).1, by rw [vals_append]; exact ho, hb⟩

/-- what holds at each round's head: so many of the text's bytes stand behind. -/
def TextRel (w : World) (l : List Nat) (s : ByteArray) (o i : Value) (wr : World) : Prop :=
  ∃ (k g cap n : Nat), k ≤ s.size ∧ i = .int .i64 (k : Int) ∧ o = .slice (some ⟨g, 0, none⟩) n cap ∧ (l ++ (sb s).take k).length = n ∧ wr.ownsRow w.heap.size 5 1 (.slice (some ⟨g, 0, none⟩) n cap) n (vals (l ++ (sb s).take k)) ∧ Below w.heap.size w wr
theorem sb_get {s : ByteArray} {k : Nat} (h : k < s.size) : (sb s)[k]? = some (s[k]'h).toNat := by
  unfold sb
  rw [List.getElem?_map]
  simp [h]
  rfl
theorem text_rel {w wr : World} {l : List Nat} {s : ByteArray} {k g cap n x : Nat} (hk : k < s.size) (hx : x = (s[k]'hk).toNat) (hn : (l ++ (sb s).take k).length = n) (ho : wr.ownsRow w.heap.size 5 1 (.slice (some ⟨g, 0, none⟩) (n + 1) cap) (n + 1) (vals (l ++ (sb s).take k) ++ vals [x])) (hb : Below w.heap.size w wr) :
    TextRel w l s (.slice (some ⟨g, 0, none⟩) (n + 1) cap) (.int .i64 ((k : Int) + 1)) wr := by
  have e : (sb s).take (k + 1) = (sb s).take k ++ [x] := by rw [hx]; exact take_snoc (sb_get hk)
  refine ⟨k + 1, g, cap, n + 1, hk, rfl, rfl, ?_, ?_, hb⟩
  · rw [e, ← List.append_assoc, List.length_append, hn]; rfl
  · rw [e, ← List.append_assoc, vals_append]; exact ho

end Go.Proofs.Ytmhghgogehmehaa.Nu

/- The contracts of the document's reader: what each of its methods tells, and how far it has read. For every list of bytes; nothing but the reader's own block has turned. -/
namespace Go.Proofs.Ytmhghgogehmehaa.Nu
open Go.ChangeShapes Go.WideShapes Go.ChangeAt Go.RowKit
set_option linter.unusedVariables false
set_option maxRecDepth 4000

theorem says_quiet {f : FuncId} {args : Array Value} {w : World} {n v y z : Nat} (h : Calls Try.prog f args (w.drewN n) (Says (w.drewN n) v y z)) :
    Calls Try.prog f args (w.drewN n) fun e w'' => e = .returned (.tuple #[.int .u64 (v : Int), .int .i64 (y : Int), .int .i64 (z : Int)]) ∧ ∃ m, w'' = w.drewN m := Calls.quiet_of h
theorem drop_at {b : List Nat} {p x : Nat} (h : b[p]? = some x) : b.drop p = x :: b.drop (p + 1) := by
  obtain ⟨hp, e⟩ := List.getElem?_eq_some_iff.1 h
  rw [List.drop_eq_getElem_cons hp, e]

end Go.Proofs.Ytmhghgogehmehaa.Nu

/- The contracts of the document's reader, going on: Flag, Text, End, Left. -/
namespace Go.Proofs.Ytmhghgogehmehaa.Nu
open Go.ChangeShapes Go.WideShapes Go.ChangeAt Go.RowKit
set_option linter.unusedVariables false
set_option maxRecDepth 4000

end Go.Proofs.Ytmhghgogehmehaa.Nu

/- The contracts of the document's Dot and Dots of layer dcode. -/
namespace Go.Proofs.Ytmhghgogehmehaa.Dc
open Go.ChangeShapes Go.WideShapes Go.ChangeAt Go.RowKit
set_option linter.unusedVariables false
set_option maxRecDepth 4000

theorem grown_new {w V : World} {row : Option Nat} (h : w.grownBy V row) (o : Obj) : w.grownBy (V.alloc o) row := h.trans (Nu.turn_below (below_new V o) row)
theorem grown_below {w V U : World} {row : Option Nat} (h : w.grownBy V row) (hb : Below V.heap.size V U) : w.grownBy U row := h.trans (Nu.turn_below hb row)
theorem grown_set {w V : World} {row : Option Nat} (h : w.grownBy V row) {g : Nat} (hg : w.heap.size ≤ g) (i : Nat) (u : Value) : w.grownBy (V.setCell ⟨g, i, none⟩ u) row := by
  refine ⟨h.os, h.tape, h.output, by simpa [World.setCell] using h.size, fun k hk hne => ?_⟩
  exact (Below.heap_setCell V ⟨g, i, none⟩ u k (fun e => by have e : g = k := e.symm; omega)).trans (h.block k hk hne)
theorem dotR_good {s : St} (h : (dotS s).2 = 0) (hm : Dt.mayD (dotN s) = true) : dotR s = (dotN s, dotS s) := if_pos ⟨h, hm⟩
theorem dotR_no {s : St} (h : ¬ ((dotS s).2 = 0 ∧ Dt.mayD (dotN s) = true)) : dotR s = ((0, 0), failS 4 (dotS s)) := if_neg h

end Go.Proofs.Ytmhghgogehmehaa.Dc

/- The contract of the document's Dots of layer dcode. -/
namespace Go.Proofs.Ytmhghgogehmehaa.Dc
open Go.ChangeShapes Go.WideShapes Go.ChangeAt Go.RowKit
set_option linter.unusedVariables false
set_option maxRecDepth 4000

theorem own_far {w V : World} {h m c size : Nat} {e : TypeId} {A : Option Addr} {xs : List Value} (ho : V.ownsRow w.heap.size e size (.slice A m c) m xs) (hh : h < w.heap.size) : (Value.slice A m c).ownBlock = none ∨ (Value.slice A m c).ownBlock ≠ some h := by
  right
  intro e2
  have := (ho.lt h e2).1
  omega
theorem dotsS_len {L : Nat} (o : List Dot) (s : St) : ((dotsS o s).2 = 0 → o.length + s.1.length ≤ L → o.length + 1 + (dotsS o s).1.length ≤ L) := by
  intro h hl
  unfold dotsS at h ⊢
  by_cases hc : (dotR s).2.2 = 0 ∧ stepsB o (dotR s).1 = false
  · rw [if_pos hc] at h
    exact absurd h (stop_ne (by decide))
  · rw [if_neg hc] at h ⊢
    have := (dotR_len s).2 h
    omega
theorem steps_last {o : List Dot} {j : Nat} {x d : Dot} (hl : o.length = j + 1) (hx : o[j]? = some x) : stepsB o d = Dt.aheadD x d := by
  unfold stepsB
  have : o.getLast? = some x := by rw [List.getLast?_eq_getElem?, hl]; exact hx
  rw [this]
theorem cmp_ge (x d : Dot) : decide (0 ≤ Dt.cmpD x d) = !Dt.aheadD x d := by
  have h := Dt.cmp_neg x d
  cases ha : Dt.aheadD x d with
  | true => rw [ha] at h; have := of_decide_eq_true h; simp; omega
  | false => rw [ha] at h; have := of_decide_eq_false h; simp; omega

end Go.Proofs.Ytmhghgogehmehaa.Dc
