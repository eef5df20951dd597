/- The contracts of pack's reader: what each of its methods tells, and what is left to it. For every list of bytes that it holds and every error that it had; nothing but the reader's own block has turned. -/
import Derived.Test.YtpleafcjacbkkaaCells
namespace Go.Proofs.Ytpleafcjacbkkaa.Nu
open Go.ChangeShapes Go.WideShapes Go.ChangeAt Go.RowKit
set_option linter.unusedVariables false

/-- a reader in block g: the bytes that are left, which lie below block B, and the first error. -/
def PR (w : World) (g B : Nat) (l : List Nat) (e : Nat) : Prop :=
  ∃ A n c, At w g 61 #[.slice A n c, .int .i64 (e : Int)] ∧ Bytes w B A l ∧ l.length = n ∧ n ≤ c ∧ c ≤ 9223372036854775807 ∧ (A = none → c = 0) ∧ (e ≠ 0 → l = [])
/-- a call that answers v, and leaves this reader. -/
def PPost (w : World) (g B : Nat) (v : Value) (l : List Nat) (e : Nat) (r : Ending) (w' : World) : Prop :=
  r = .returned v ∧ PR w' g B l e ∧ w.grownBy w' (some g)
theorem PR.kept {w w' : World} {g B : Nat} {l : List Nat} {e : Nat} {row : Option Nat} (h : PR w g B l e) (hg : w.grownBy w' row) (hB : B ≤ w.heap.size) (hne : some g ≠ row) (hr : ∀ k, row = some k → B ≤ k) : PR w' g B l e := by
  obtain ⟨A, n, c, h1, h2, h3⟩ := h
  exact ⟨A, n, c, h1.kept hg hne, h2.kept hg hB hr, h3⟩
theorem PR.drewN {w : World} {g B : Nat} {l : List Nat} {e : Nat} (h : PR w g B l e) (k : Nat) : PR (w.drewN k) g B l e := by
  obtain ⟨A, n, c, h1, h2, h3⟩ := h
  exact ⟨A, n, c, h1, h2.below (below_drewN _ _ _), h3⟩
theorem PR.lt {w : World} {g B : Nat} {l : List Nat} {e : Nat} (h : PR w g B l e) : g < w.heap.size := by
  obtain ⟨A, n, c, h1, _⟩ := h
  exact h1.lt

theorem stop_same (w : World) (g : Nat) (A : Option Addr) (n c e f : Nat) (h : At w g 61 #[.slice A n c, .int .i64 (e : Int)]) (he : e ≠ 0) :
    Calls Try.prog 37 #[.pointer (some ⟨g, 0, none⟩), .int .i64 (f : Int)] w fun r w' => r = .returned (.tuple #[]) ∧ w = w' := by
  have c1 := h.cell 1
  simp at c1
  clear h
  have heb : ((e : Int) != 0) = true := by rw [bne_iff_ne]; omega
  go_enter Try.func37, Try.ntmps37
  go_wp2
  exact bodyPost_ret (results_none rfl _ _ _) rfl ⟨rfl, rfl⟩
theorem stop_new (w : World) (g : Nat) (A : Option Addr) (n c f : Nat) (h : At w g 61 #[.slice A n c, .int .i64 0]) (hf : f ≠ 0) :
    Calls Try.prog 37 #[.pointer (some ⟨g, 0, none⟩), .int .i64 (f : Int)] w fun r w' => r = .returned (.tuple #[]) ∧ (w.setCell ⟨g, 1, none⟩ (.int .i64 (f : Int))).setCell ⟨g, 0, none⟩ (.slice none 0 0) = w' := by
  have c0 := h.cell 0
  have c1 := h.cell 1
  have f0 := h.frozen 0
  have f1 := h.frozen 1
  simp at c0 c1
  clear h
  have hfb : ((f : Int) == 0) = false := by rw [beq_eq_false_iff_ne]; omega
  go_enter Try.func37, Try.ntmps37
  go_wp2
  go_end0
  exact ⟨rfl, rfl⟩
/-- stop: the first error stays; with an error nothing is left. -/
theorem stop_any (w : World) (g B : Nat) (l : List Nat) (e f : Nat) (h : PR w g B l e) (hB : B ≤ g) (hf : f ≠ 0) :
    Calls Try.prog 37 #[.pointer (some ⟨g, 0, none⟩), .int .i64 (f : Int)] w (PPost w g B (.tuple #[]) [] (stopE e f)) := by
  obtain ⟨A, n, c, h1, h2, h3, h4, h5, h6, h7⟩ := h
  by_cases he : e = 0
  · subst he
    refine (stop_new w g A n c f h1 hf).mono ?_
    rintro r w' ⟨rfl, rfl⟩
    rw [stop_zero]
    refine ⟨rfl, ⟨none, 0, 0, ?_, Bytes.none_ _ _ _, rfl, Nat.le_refl _, by omega, fun _ => rfl, fun _ => rfl⟩, (turn_set w g 1 _).trans (turn_set _ g 0 _)⟩
    exact (h1.set 1 (.int .i64 (f : Int))).set 0 (.slice none 0 0)
  · refine (stop_same w g A n c e f h1 he).mono ?_
    rintro r w' ⟨rfl, rfl⟩
    rw [stop_some he]
    obtain rfl := h7 he
    exact ⟨rfl, ⟨A, n, c, h1, h2, h3, h4, h5, h6, h7⟩, turn_refl _ _⟩

theorem cut_bytes {w : World} {B : Nat} {ad : Addr} {l : List Nat} {c k : Nat} (h : Bytes w B (some ad) l) (hk : l.length ≤ c) : Bytes w B (if c = k then some ad else some (ad.add k)) (l.drop k) := by
  by_cases hc : c = k
  · exact Bytes.empty (by rw [List.length_drop]; omega)
  · rw [if_neg hc]
    exact h.drop k
/-- what a reader is behind a cut. -/
theorem PR.cut {w : World} {g B : Nat} {ad : Addr} {l l' : List Nat} {n c k e n' c' : Nat} {A' : Option Addr} (h1 : At w g 61 #[.slice (some ad) n c, .int .i64 (e : Int)]) (h2 : Bytes w B (some ad) l) (h3 : l.length = n) (h4 : n ≤ c) (h5 : c ≤ 9223372036854775807) (h7 : e ≠ 0 → l = []) (hB : B ≤ g) (hk : k ≤ n)
    (hA : A' = if c = k then some ad else some (ad.add k)) (hn : n' = n - k) (hc : c' = c - k) (hl : l' = l.drop k) : PR (w.setCell ⟨g, 0, none⟩ (.slice A' n' c')) g B l' e := by
  subst hA hn hc hl
  refine ⟨_, _, _, h1.set 0 _, (cut_bytes h2 (by omega)).below ((Below.refl B w).setCell hB _), by rw [List.length_drop]; omega, by omega, by omega, ?_, fun he => by rw [h7 he, List.drop_nil]⟩
  intro h
  split at h <;> cases h

set_option maxHeartbeats 1000000 in
theorem takeNum_any (w : World) (g B : Nat) (l : List Nat) (e : Nat) (h : PR w g B l e) (hB : B ≤ g) :
    Calls Try.prog 35 #[.pointer (some ⟨g, 0, none⟩)] w (PPost w g B (.int .u64 ((numV l : Nat) : Int)) (numL l) (stopE e (numE l))) := by
  have HP := Lib.hid h
  obtain ⟨A, n, c, h1, h2, h3, h4, h5, h6, h7⟩ := h
  have c0 := h1.cell 0
  have f0 := h1.frozen 0
  simp at c0
  have H1 := Lib.hid h1
  have H2 := Lib.hid h2
  have H3 := Lib.hid h3
  have H6 := Lib.hid h6
  have H7 := Lib.hid h7
  clear h1 h2 h3 h6 h7
  cases l with
  | nil =>
    obtain rfl : n = 0 := H3.out.symm
    go_enter Try.func35, Try.ntmps35
    go_wp2_with fail
    refine (read_end w A 0 c (by omega)).mono ?_
    rintro r w' ⟨rfl, m, rfl⟩
    go_wp2_with fail
    refine (stop_any (w.drewN m) g B [] e 2 (HP.out.drewN m) hB (by decide)).mono ?_
    rintro r w' ⟨rfl, hp, hg⟩
    clear c0 f0
    go_wp2
    go_ret
    exact ⟨rfl, hp, (turn_drewN w m _).trans hg⟩
  | cons x r =>
    have hx : 0 < n := by have := H3.out; simp at this; omega
    obtain ⟨ad, hA, _⟩ := H2.out.2 (by simp)
    subst hA
    obtain ⟨v, y, f, hw⟩ := what_is x r 0
    obtain ⟨k1, k2, k3, k4⟩ := what_num hw
    have HW := Lib.hid hw
    have K3 := Lib.hid k3
    have K4 := Lib.hid k4
    rw [k1, k2]
    clear hw k1 k2 k3 k4
    go_enter Try.func35, Try.ntmps35
    go_wp2_with fail
    refine (read_some w ad (x :: r) n c 0 x v y f H3.out h4 (by omega) (H2.out.more (by have := H1.out.lt; omega)) hx rfl HW.out).mono ?_
    rintro r' w' ⟨rfl, m, rfl⟩
    by_cases hf : f = 0
    · obtain ⟨q1, q2, q3, q4⟩ := K3.out hf
      have he : e = 0 := by
        rcases Nat.eq_zero_or_pos e with h0 | h0
        · exact h0
        · have := H7.out (by omega); cases this
      subst hf he
      have hyn : y ≤ n := by have := H3.out; simp at this; omega
      have y0 : (0 : Int) ≤ (y : Int) := by omega
      have y1 : (y : Int) ≤ (n : Int) := by omega
      have Q : Hid (r.drop x = (x :: r).drop y) := by show _ = _; rw [q3, show 0 + 1 + x = x + 1 by omega]; rfl
      have Q4 := Lib.hid q4
      clear q1 q2 q3 q4
      by_cases hcy : c = y
      · go_wp2
        go_ret
        exact ⟨rfl, PR.cut (k := y) (A' := some ad) H1.out (H2.out.below (below_drewN _ w m)) H3.out h4 h5 (fun h => absurd rfl h) hB hyn (if_pos hcy).symm rfl (by omega) (Q4.out.trans Q.out), (turn_drewN w m _).trans (turn_set _ g 0 _)⟩
      · go_wp2
        go_ret
        exact ⟨rfl, PR.cut (k := y) (A' := some (ad.add y)) H1.out (H2.out.below (below_drewN _ w m)) H3.out h4 h5 (fun h => absurd rfl h) hB hyn (if_neg hcy).symm rfl rfl (Q4.out.trans Q.out), (turn_drewN w m _).trans (turn_set _ g 0 _)⟩
    · obtain ⟨q1, q2⟩ := K4.out hf
      subst q1
      have Q2 := Lib.hid q2
      clear q2
      have hfb : ((f : Int) != 0) = true := by rw [bne_iff_ne]; omega
      go_wp2_with fail
      refine (stop_any (w.drewN m) g B (x :: r) e f (HP.out.drewN m) hB hf).mono ?_
      rintro r w' ⟨rfl, hp, hg⟩
      clear c0 f0
      go_wp2
      go_ret
      exact ⟨rfl, by rw [Q2.out]; exact hp, (turn_drewN w m _).trans hg⟩
end Go.Proofs.Ytpleafcjacbkkaa.Nu
