/- Words and contracts that the proofs of this seat stand on, part 7 of 14. -/
import Derived.Test.YtblgbbpbhcaodaaMgE
import Derived.Lib.SliceRun
import Derived.Deep.RegionHeld3
import Derived.Deep.RegionLaw
import Derived.Lib.AppendStr
import Derived.Test.YtblgbbpbhcaodaaMgF

/- The contracts of pack's reader: what each of its methods tells, and what is left to it. For every list of bytes that it holds and every error that it had; nothing but the reader's own block has turned. -/
namespace Go.Proofs.Ytblgbbpbhcaodaa.Nu
open Go.ChangeShapes Go.WideShapes Go.ChangeAt Go.RowKit
set_option linter.unusedVariables false
set_option maxRecDepth 4000

/-- a reader in block g: the bytes that are left, which lie below block B, and the first error. -/
def PR (w : World) (g B : Nat) (l : List Nat) (e : Nat) : Prop :=
  ∃ A n c, At w g 78 #[.slice A n c, .int .i64 (e : Int)] ∧ Bytes w B A l ∧ l.length = n ∧ n ≤ c ∧ c ≤ 9223372036854775807 ∧ (A = none → c = 0) ∧ (e ≠ 0 → l = [])
/-- a call that answers v, and leaves this reader. -/
def PPost (w : World) (g B : Nat) (v : Value) (l : List Nat) (e : Nat) (r : Ending) (w' : World) : Prop :=
  r = .returned v ∧ PR w' g B l e ∧ w.grownBy w' (some g)
theorem PR.kept {w w' : World} {g B : Nat} {l : List Nat} {e : Nat} {row : Option Nat} (h : PR w g B l e) (hg : w.grownBy w' row) (hB : B ≤ w.heap.size) (hne : some g ≠ row) (hr : ∀ k, row = some k → B ≤ k) : PR w' g B l e := by
  obtain ⟨A, n, c, h1, h2, h3⟩ := h
  exact ⟨A, n, c, h1.kept hg hne, h2.kept hg hB hr, h3⟩
theorem PR.drewN {w : World} {g B : Nat} {l : List Nat} {e : Nat} (h : PR w g B l e) (k : Nat) : PR (w.drewN k) g B l e := by
  obtain ⟨A, n, c, h1, h2, h3⟩ := h
  exact ⟨A, n, c, h1, h2.below (below_drewN _ _ _), h3⟩
theorem PR.lt {w : World} {g B : Nat} {l : List Nat} {e : Nat} (h : PR w g B l e) : g < w.heap.size := by
  obtain ⟨A, n, c, h1, _⟩ := h
  exact h1.lt

theorem stop_same (w : World) (g : Nat) (A : Option Addr) (n c e f : Nat) (h : At w g 78 #[.slice A n c, .int .i64 (e : Int)]) (he : e ≠ 0) :
    Calls Try.prog 45 #[.pointer (some ⟨g, 0, none⟩), .int .i64 (f : Int)] w fun r w' => r = .returned (.tuple #[]) ∧ w = w' := by
  have c1 := h.cell 1
  simp at c1
  clear h
  have heb : ((e : Int) != 0) = true := by rw [bne_iff_ne]; omega
  go_enter Try.func45, Try.ntmps45
  go_wp2
  exact bodyPost_ret (results_none rfl _ _ _) rfl ⟨rfl, rfl⟩
theorem stop_new (w : World) (g : Nat) (A : Option Addr) (n c f : Nat) (h : At w g 78 #[.slice A n c, .int .i64 0]) (hf : f ≠ 0) :
    Calls Try.prog 45 #[.pointer (some ⟨g, 0, none⟩), .int .i64 (f : Int)] w fun r w' => r = .returned (.tuple #[]) ∧ (w.setCell ⟨g, 1, none⟩ (.int .i64 (f : Int))).setCell ⟨g, 0, none⟩ (.slice none 0 0) = w' := by
  have c0 := h.cell 0
  have c1 := h.cell 1
  have f0 := h.frozen 0
  have f1 := h.frozen 1
  simp at c0 c1
  clear h
  have hfb : ((f : Int) == 0) = false := by rw [beq_eq_false_iff_ne]; omega
  go_enter Try.func45, Try.ntmps45
  go_wp2
  go_end0
  exact ⟨rfl, rfl⟩
/-- stop: the first error stays; with an error nothing is left. -/
theorem stop_any (w : World) (g B : Nat) (l : List Nat) (e f : Nat) (h : PR w g B l e) (hB : B ≤ g) (hf : f ≠ 0) :
    Calls Try.prog 45 #[.pointer (some ⟨g, 0, none⟩), .int .i64 (f : Int)] w (PPost w g B (.tuple #[]) [] (stopE e f)) := by
  obtain ⟨A, n, c, h1, h2, h3, h4, h5, h6, h7⟩ := h
  by_cases he : e = 0
  · subst he
    refine (stop_new w g A n c f h1 hf).mono ?_
    rintro r w' ⟨rfl, rfl⟩
    rw [stop_zero]
    refine ⟨rfl, ⟨none, 0, 0, ?_, Bytes.none_ _ _ _, rfl, Nat.le_refl _, by omega, fun _ => rfl, fun _ => rfl⟩, (turn_set w g 1 _).trans (turn_set _ g 0 _)⟩
    exact (h1.set 1 (.int .i64 (f : Int))).set 0 (.slice none 0 0)
  · refine (stop_same w g A n c e f h1 he).mono ?_
    rintro r w' ⟨rfl, rfl⟩
    rw [stop_some he]
    obtain rfl := h7 he
    exact ⟨rfl, ⟨A, n, c, h1, h2, h3, h4, h5, h6, h7⟩, turn_refl _ _⟩

theorem cut_bytes {w : World} {B : Nat} {ad : Addr} {l : List Nat} {c k : Nat} (h : Bytes w B (some ad) l) (hk : l.length ≤ c) : Bytes w B (if c = k then some ad else some (ad.add k)) (l.drop k) := by
  by_cases hc : c = k
  · exact Bytes.empty (by rw [List.length_drop]; omega)
  · rw [if_neg hc]
    exact h.drop k
/-- what a reader is behind a cut. -/
theorem PR.cut {w : World} {g B : Nat} {ad : Addr} {l l' : List Nat} {n c k e n' c' : Nat} {A' : Option Addr} (h1 : At w g 78 #[.slice (some ad) n c, .int .i64 (e : Int)]) (h2 : Bytes w B (some ad) l) (h3 : l.length = n) (h4 : n ≤ c) (h5 : c ≤ 9223372036854775807) (h7 : e ≠ 0 → l = []) (hB : B ≤ g) (hk : k ≤ n)
    (hA : A' = if c = k then some ad else some (ad.add k)) (hn : n' = n - k) (hc : c' = c - k) (hl : l' = l.drop k) : PR (w.setCell ⟨g, 0, none⟩ (.slice A' n' c')) g B l' e := by
  subst hA hn hc hl
  refine ⟨_, _, _, h1.set 0 _, (cut_bytes h2 (by omega)).below ((Below.refl B w).setCell hB _), by rw [List.length_drop]; omega, by omega, by omega, ?_, fun he => by rw [h7 he, List.drop_nil]⟩
  intro h
  split at h <;> cases h

set_option maxHeartbeats 1000000 in
theorem takeNum_any (w : World) (g B : Nat) (l : List Nat) (e : Nat) (h : PR w g B l e) (hB : B ≤ g) :
    Calls Try.prog 58 #[.pointer (some ⟨g, 0, none⟩)] w (PPost w g B (.int .u64 ((numV l : Nat) : Int)) (numL l) (stopE e (numE l))) := by
  have HP := Lib.hid h
  obtain ⟨A, n, c, h1, h2, h3, h4, h5, h6, h7⟩ := h
  have c0 := h1.cell 0
  have f0 := h1.frozen 0
  simp at c0
  have H1 := Lib.hid h1
  have H2 := Lib.hid h2
  have H3 := Lib.hid h3
  have H6 := Lib.hid h6
  have H7 := Lib.hid h7
  clear h1 h2 h3 h6 h7
  cases l with
  | nil =>
    obtain rfl : n = 0 := H3.out.symm
    go_enter Try.func58, Try.ntmps58
    go_wp2_with fail
    refine (read_end w A 0 c (by omega)).mono ?_
    rintro r w' ⟨rfl, m, rfl⟩
    go_wp2_with fail
    refine (stop_any (w.drewN m) g B [] e 2 (HP.out.drewN m) hB (by decide)).mono ?_
    rintro r w' ⟨rfl, hp, hg⟩
    clear c0 f0
    go_wp2
    go_ret
    exact ⟨rfl, hp, (turn_drewN w m _).trans hg⟩
  | cons x r =>
    have hx : 0 < n := by have := H3.out; simp at this; omega
    obtain ⟨ad, hA, _⟩ := H2.out.2 (by simp)
    subst hA
    obtain ⟨v, y, f, hw⟩ := what_is x r 0
    obtain ⟨k1, k2, k3, k4⟩ := what_num hw
    have HW := Lib.hid hw
    have K3 := Lib.hid k3
    have K4 := Lib.hid k4
    rw [k1, k2]
    clear hw k1 k2 k3 k4
    go_enter Try.func58, Try.ntmps58
    go_wp2_with fail
    refine (read_some w ad (x :: r) n c 0 x v y f H3.out h4 (by omega) (H2.out.more (by have := H1.out.lt; omega)) hx rfl HW.out).mono ?_
    rintro r' w' ⟨rfl, m, rfl⟩
    by_cases hf : f = 0
    · obtain ⟨q1, q2, q3, q4⟩ := K3.out hf
      have he : e = 0 := by
        rcases Nat.eq_zero_or_pos e with h0 | h0
        · exact h0
        · have := H7.out (by omega); cases this
      subst hf he
      have hyn : y ≤ n := by have := H3.out; simp at this; omega
      have y0 : (0 : Int) ≤ (y : Int) := by omega
      have y1 : (y : Int) ≤ (n : Int) := by omega
      have Q : Hid (r.drop x = (x :: r).drop y) := by show _ = _; rw [q3, show 0 + 1 + x = x + 1 by omega]; rfl
      have Q4 := Lib.hid q4
      clear q1 q2 q3 q4
      by_cases hcy : c = y
      · go_wp2
        go_ret
        exact ⟨rfl, PR.cut (k := y) (A' := some ad) H1.out (H2.out.below (below_drewN _ w m)) H3.out h4 h5 (fun h => absurd rfl h) hB hyn (if_pos hcy).symm rfl (by omega) (Q4.out.trans Q.out), (turn_drewN w m _).trans (turn_set _ g 0 _)⟩
      · go_wp2
        go_ret
        exact ⟨rfl, PR.cut (k := y) (A' := some (ad.add y)) H1.out (H2.out.below (below_drewN _ w m)) H3.out h4 h5 (fun h => absurd rfl h) hB hyn (if_neg hcy).symm rfl rfl (Q4.out.trans Q.out), (turn_drewN w m _).trans (turn_set _ g 0 _)⟩
    · obtain ⟨q1, q2⟩ := K4.out hf
      subst q1
      have Q2 := Lib.hid q2
      clear q2
      have hfb : ((f : Int) != 0) = true := by rw [bne_iff_ne]; omega
      go_wp2_with fail
      refine (stop_any (w.drewN m) g B (x :: r) e f (HP.out.drewN m) hB hf).mono ?_
      rintro r w' ⟨rfl, hp, hg⟩
      clear c0 f0
      go_wp2
      go_ret
      exact ⟨rfl, by rw [Q2.out]; exact hp, (turn_drewN w m _).trans hg⟩
end Go.Proofs.Ytblgbbpbhcaodaa.Nu

/- The contracts of pack's reader, going on: take, takeByte, and the methods that tell. -/
namespace Go.Proofs.Ytblgbbpbhcaodaa.Nu
open Go.ChangeShapes Go.WideShapes Go.ChangeAt Go.RowKit
set_option linter.unusedVariables false
set_option maxRecDepth 4000

/-- bytes that are told, and the reader that is left. -/
def TakePost (w : World) (g B : Nat) (m l : List Nat) (e : Nat) (r : Ending) (w' : World) : Prop :=
  ∃ A n c, r = .returned (.slice A n c) ∧ m.length = n ∧ Bytes w' B A m ∧ PR w' g B l e ∧ w.grownBy w' (some g)

set_option maxHeartbeats 1000000 in
theorem take_any (w : World) (g B : Nat) (l : List Nat) (e k : Nat) (h : PR w g B l e) (hB : B ≤ g) (hk : k < 18446744073709551616) :
    Calls Try.prog 84 #[.pointer (some ⟨g, 0, none⟩), .int .u64 (k : Int)] w (TakePost w g B (takeV k l) (takeL k l) (takeE k l e)) := by
  have HP := Lib.hid h
  obtain ⟨A, n, c, h1, h2, h3, h4, h5, h6, h7⟩ := h
  have c0 := h1.cell 0
  have f0 := h1.frozen 0
  simp at c0
  have H1 := Lib.hid h1
  have H2 := Lib.hid h2
  have H3 := Lib.hid h3
  have H7 := Lib.hid h7
  clear h1 h2 h3 h7
  by_cases hl : k ≤ n
  · have hd : decide (n < k) = false := decide_eq_false (by omega)
    have v1 : Hid (takeV k l = l.take k) := if_pos (by rw [H3.out]; exact hl)
    have v2 : Hid (takeL k l = l.drop k) := if_pos (by rw [H3.out]; exact hl)
    have v3 : Hid (takeE k l e = e) := if_pos (by rw [H3.out]; exact hl)
    have y0 : (0 : Int) ≤ (k : Int) := by omega
    have y1 : (k : Int) ≤ (n : Int) := by omega
    have y2 : (k : Int) ≤ (c : Int) := by omega
    cases A with
    | none =>
      obtain rfl := h6 rfl
      obtain rfl : n = 0 := by omega
      obtain rfl : k = 0 := by omega
      have hln : Hid (l = []) := List.eq_nil_of_length_eq_zero H3.out
      clear h6 y1 y2
      go_enter Try.func84, Try.ntmps84
      go_wp2
      go_ret
      refine ⟨none, 0, 0, rfl, by rw [v1.out]; rfl, by rw [v1.out]; exact Bytes.none_ _ _ _, ⟨none, 0, 0, H1.out.set 0 _, ?_, ?_, Nat.le_refl _, h5, fun _ => rfl, ?_⟩, turn_set _ g 0 _⟩
      · rw [v2.out, hln.out]; exact Bytes.none_ _ _ _
      · rw [v2.out, hln.out]; rfl
      · intro _; rw [v2.out, hln.out]; rfl
    | some ad =>
      clear h6
      by_cases hck : c = k
      · go_enter Try.func84, Try.ntmps84
        go_wp2
        go_ret
        exact ⟨some ad, k, k, rfl, by rw [v1.out, List.length_take, H3.out]; omega, by rw [v1.out]; exact (H2.out.take k).below ((Below.refl B w).setCell hB _),
          by rw [v3.out]; exact PR.cut (k := k) (A' := some ad) H1.out H2.out H3.out h4 h5 H7.out hB hl (if_pos hck).symm rfl (by omega) v2.out, turn_set _ g 0 _⟩
      · go_enter Try.func84, Try.ntmps84
        go_wp2
        go_ret
        exact ⟨some ad, k, c, rfl, by rw [v1.out, List.length_take, H3.out]; omega, by rw [v1.out]; exact (H2.out.take k).below ((Below.refl B w).setCell hB _),
          by rw [v3.out]; exact PR.cut (k := k) (A' := some (ad.add k)) H1.out H2.out H3.out h4 h5 H7.out hB hl (if_neg hck).symm rfl rfl v2.out, turn_set _ g 0 _⟩
  · have hd : decide (n < k) = true := decide_eq_true (by omega)
    have v1 : Hid (takeV k l = []) := if_neg (by rw [H3.out]; exact hl)
    have v2 : Hid (takeL k l = []) := if_neg (by rw [H3.out]; exact hl)
    have v3 : Hid (takeE k l e = stopE e 2) := if_neg (by rw [H3.out]; exact hl)
    clear h6
    go_enter Try.func84, Try.ntmps84
    go_wp2_with fail
    refine (stop_any w g B l e 2 HP.out hB (by decide)).mono ?_
    rintro r w' ⟨rfl, hp, hg⟩
    clear c0 f0
    go_wp2
    go_ret
    exact ⟨none, 0, 0, rfl, by rw [v1.out]; rfl, by rw [v1.out]; exact Bytes.none_ _ _ _, by rw [v2.out, v3.out]; exact hp, hg⟩

theorem takeByte_any (w : World) (g B : Nat) (l : List Nat) (e : Nat) (h : PR w g B l e) (hB : B ≤ g) :
    Calls Try.prog 83 #[.pointer (some ⟨g, 0, none⟩)] w (PPost w g B (.int .u8 ((byteV l : Nat) : Int)) (byteL l) (byteE l e)) := by
  -- stands on function 84
  have HP := Lib.hid h
  clear h
  cases l with
  | nil =>
    go_enter Try.func83, Try.ntmps83
    go_wp2_with fail
    refine (take_any w g B [] e 1 HP.out hB (by decide)).mono ?_
    rintro r w' ⟨A, n, c, rfl, hn, hb, hp, hg⟩
    obtain rfl : n = 0 := hn.symm
    clear hb hn
    go_wp2
    go_ret
    exact ⟨rfl, hp, hg⟩
  | cons x r =>
    go_enter Try.func83, Try.ntmps83
    go_wp2_with fail
    refine (take_any w g B (x :: r) e 1 HP.out hB (by decide)).mono ?_
    rintro r' w' ⟨A, n, c, rfl, hn, hb, hp, hg⟩
    have t1 : takeV 1 (x :: r) = [x] := by simp [takeV]
    have t2 : takeL 1 (x :: r) = r := by simp [takeL]
    have t3 : takeE 1 (x :: r) e = e := by simp [takeE]
    rw [t1] at hn hb
    rw [t2, t3] at hp
    obtain rfl : n = 1 := hn.symm
    obtain ⟨ad, x', rfl, hx, hlx, hcell⟩ := hb.at_ (k := 0) (by simp)
    obtain rfl : x = x' := by simpa using hlx
    have hc0 : w'.cell? ad = some (.int .u8 (x : Int)) := by simpa [Addr.add] using hcell
    have HP2 := Lib.hid hp
    have HG := Lib.hid hg
    clear hb hn hlx hcell t1 t2 t3 hp hg
    go_wp2
    go_ret
    exact ⟨rfl, HP2.out, HG.out⟩

theorem num_any (w : World) (g B : Nat) (l : List Nat) (e : Nat) (h : PR w g B l e) (hB : B ≤ g) :
    Calls Try.prog 40 #[.pointer (some ⟨g, 0, none⟩)] w (PPost w g B (.int .u64 ((numV l : Nat) : Int)) (numL l) (stopE e (numE l))) := by
  have HP := Lib.hid h
  clear h
  go_enter Try.func40, Try.ntmps40
  go_wp2_with fail
  refine (takeNum_any w g B l e HP.out hB).mono ?_
  rintro r w' ⟨rfl, hp, hg⟩
  go_wp2
  go_ret
  exact ⟨rfl, hp, hg⟩
theorem byte_m (w : World) (g B : Nat) (l : List Nat) (e : Nat) (h : PR w g B l e) (hB : B ≤ g) :
    Calls Try.prog 73 #[.pointer (some ⟨g, 0, none⟩)] w (PPost w g B (.int .u8 ((byteV l : Nat) : Int)) (byteL l) (byteE l e)) := by
  -- stands on function 84
  have HP := Lib.hid h
  clear h
  go_enter Try.func73, Try.ntmps73
  go_wp2_with fail
  refine (takeByte_any w g B l e HP.out hB).mono ?_
  rintro r w' ⟨rfl, hp, hg⟩
  go_wp2
  go_ret
  exact ⟨rfl, hp, hg⟩
theorem small_of {w : World} {g B : Nat} {l : List Nat} {e : Nat} (h : PR w g B l e) : Small l := by
  obtain ⟨_, _, _, _, h2, _⟩ := h
  exact h2.1
theorem upto_any (w : World) (g B : Nat) (l : List Nat) (e m : Nat) (h : PR w g B l e) (hB : B ≤ g) :
    Calls Try.prog 99 #[.pointer (some ⟨g, 0, none⟩), .int .u64 (m : Int)] w (PPost w g B (.int .u64 ((uptoV m l : Nat) : Int)) (uptoL m l) (uptoE m l e)) := by
  have HP := Lib.hid h
  clear h
  by_cases hm : m < numV l
  · have v1 : Hid (uptoV m l = 0) := if_pos hm
    have v2 : Hid (uptoL m l = []) := if_pos hm
    have v3 : Hid (uptoE m l e = stopE (stopE e (numE l)) 4) := if_pos hm
    go_enter Try.func99, Try.ntmps99
    go_wp2_with fail
    refine (takeNum_any w g B l e HP.out hB).mono ?_
    rintro r w' ⟨rfl, hp, hg⟩
    have HP2 := Lib.hid hp
    have HG := Lib.hid hg
    have hd : decide (m < numV l) = true := decide_eq_true hm
    clear hp hg
    generalize numV l = v at *
    go_wp2_with fail
    refine (stop_any w' g B _ _ 4 HP2.out hB (by decide)).mono ?_
    rintro r w2 ⟨rfl, hp, hg⟩
    go_wp2
    go_ret
    exact ⟨by rw [v1.out]; rfl, by rw [v2.out, v3.out]; exact hp, HG.out.trans hg⟩
  · have v1 : Hid (uptoV m l = numV l) := if_neg hm
    have v2 : Hid (uptoL m l = numL l) := if_neg hm
    have v3 : Hid (uptoE m l e = stopE e (numE l)) := if_neg hm
    go_enter Try.func99, Try.ntmps99
    go_wp2_with fail
    refine (takeNum_any w g B l e HP.out hB).mono ?_
    rintro r w' ⟨rfl, hp, hg⟩
    have HP2 := Lib.hid hp
    have HG := Lib.hid hg
    have hd : decide (m < numV l) = false := decide_eq_false hm
    clear hp hg
    generalize numV l = v at *
    go_wp2
    go_ret
    exact ⟨by rw [v1.out]; rfl, by rw [v2.out, v3.out]; exact HP2.out, HG.out⟩
theorem fail_any (w : World) (g B : Nat) (l : List Nat) (e f : Nat) (h : PR w g B l e) (hB : B ≤ g) (hf : f ≠ 0) :
    Calls Try.prog 41 #[.pointer (some ⟨g, 0, none⟩), .int .i64 (f : Int)] w (PPost w g B (.tuple #[]) [] (stopE e f)) := by
  have HP := Lib.hid h
  clear h
  go_enter Try.func41, Try.ntmps41
  go_wp2_with fail
  refine (stop_any w g B l e f HP.out hB hf).mono ?_
  rintro r w' ⟨rfl, hp, hg⟩
  go_wp2
  go_end0
  exact ⟨rfl, hp, hg⟩
theorem err_any (w : World) (g B : Nat) (l : List Nat) (e : Nat) (h : PR w g B l e) :
    Calls Try.prog 42 #[.pointer (some ⟨g, 0, none⟩)] w fun r w' => r = .returned (.int .i64 (e : Int)) ∧ w = w' := by
  obtain ⟨A, n, c, h1, h2, h3, h4, h5, h6, h7⟩ := h
  have c1 := h1.cell 1
  simp at c1
  clear h1 h2 h3 h6 h7
  go_enter Try.func42, Try.ntmps42
  go_wp2
  go_ret
  exact ⟨rfl, rfl⟩
theorem end_any (w : World) (g B : Nat) (l : List Nat) (e : Nat) (h : PR w g B l e) (hB : B ≤ g) :
    Calls Try.prog 20 #[.pointer (some ⟨g, 0, none⟩)] w (PPost w g B (.int .i64 ((endE l e : Nat) : Int)) [] (endE l e)) := by
  have HP := Lib.hid h
  obtain ⟨A, n, c, h1, h2, h3, h4, h5, h6, h7⟩ := h
  have c0 := h1.cell 0
  have c1 := h1.cell 1
  simp at c0 c1
  have H3 := Lib.hid h3
  clear h1 h2 h3 h6 h7
  by_cases hl : l = []
  · have v1 : Hid (endE l e = e) := if_pos hl
    have hn : n = 0 := by rw [← H3.out, hl]; rfl
    subst hn
    have HL := Lib.hid hl
    clear hl
    go_enter Try.func20, Try.ntmps20
    go_wp2
    go_ret
    exact ⟨by rw [v1.out]; rfl, by have := HP.out; rw [HL.out] at this; rw [v1.out]; exact this, turn_refl _ _⟩
  · have v1 : Hid (endE l e = stopE e 4) := if_neg hl
    have hn : 0 < n := by rw [← H3.out]; exact List.length_pos_iff.2 hl
    clear hl c1
    go_enter Try.func20, Try.ntmps20
    go_wp2_with fail
    refine (stop_any w g B l e 4 HP.out hB (by decide)).mono ?_
    rintro r w' ⟨rfl, hp, hg⟩
    have HP2 := Lib.hid hp
    obtain ⟨A', n', c', k1, _⟩ := hp
    have c1 := k1.cell 1
    simp at c1
    clear c0 k1
    go_wp2
    go_ret
    exact ⟨by rw [v1.out]; rfl, by rw [v1.out]; exact HP2.out, hg⟩
end Go.Proofs.Ytblgbbpbhcaodaa.Nu

/- The contracts of pack's reader, going on: Text, New, and what slices.Clone answers. -/
namespace Go.Proofs.Ytblgbbpbhcaodaa.Nu
open Go.ChangeShapes Go.WideShapes Go.ChangeAt Go.RowKit
set_option linter.unusedVariables false
set_option maxRecDepth 4000

theorem str_nil : str [] = ⟨#[]⟩ := rfl
theorem takeV_small {k : Nat} {l : List Nat} (h : Small l) : Small (takeV k l) := by
  unfold takeV
  split
  · exact small_take h k
  · intro x hx; cases hx

set_option maxHeartbeats 1000000 in
theorem text_any (w : World) (g B : Nat) (l : List Nat) (e : Nat) (m : Int) (h : PR w g B l e) (hB : B ≤ g) (m0 : -9223372036854775808 ≤ m) (m1 : m ≤ 9223372036854775807) :
    Calls Try.prog 74 #[.pointer (some ⟨g, 0, none⟩), .int .i64 m] w (PPost w g B (.string (str (textV m l))) (textL m l) (textE m l e)) := by
  have hs := Lib.hid (small_of h)
  have HP := Lib.hid h
  clear h
  have hv := numV_lt hs.out
  by_cases hm : m.toNat < numV l
  · have v1 : Hid (textV m l = []) := if_pos hm
    have v2 : Hid (textL m l = []) := if_pos hm
    have v3 : Hid (textE m l e = stopE (stopE e (numE l)) 3) := if_pos hm
    go_enter Try.func74, Try.ntmps74
    go_wp2_with fail
    refine (takeNum_any w g B l e HP.out hB).mono ?_
    rintro r w' ⟨rfl, hp, hg⟩
    have HP2 := Lib.hid hp
    have HG := Lib.hid hg
    clear hp hg
    generalize numV l = v at *
    by_cases hm0 : m < 0
    · have d : decide (0 < v) = true := decide_eq_true (by omega)
      clear hm
      go_wp2_with fail
      refine (stop_any w' g B _ _ 3 HP2.out hB (by decide)).mono ?_
      rintro r w2 ⟨rfl, hp, hg⟩
      go_wp2
      go_ret
      exact ⟨by rw [v1.out]; rfl, by rw [v2.out, v3.out]; exact hp, HG.out.trans hg⟩
    · obtain ⟨k, rfl⟩ := Int.eq_ofNat_of_zero_le (by omega : 0 ≤ m)
      rw [Int.toNat_natCast] at hm
      have d : decide (k < v) = true := decide_eq_true hm
      have d2 : ¬ (k : Int) < 0 := hm0
      go_wp2_with fail
      refine (stop_any w' g B _ _ 3 HP2.out hB (by decide)).mono ?_
      rintro r w2 ⟨rfl, hp, hg⟩
      go_wp2
      go_ret
      exact ⟨by rw [v1.out]; rfl, by rw [v2.out, v3.out]; exact hp, HG.out.trans hg⟩
  · have v1 : Hid (textV m l = takeV (numV l) (numL l)) := if_neg hm
    have v2 : Hid (textL m l = takeL (numV l) (numL l)) := if_neg hm
    have v3 : Hid (textE m l e = takeE (numV l) (numL l) (stopE e (numE l))) := if_neg hm
    go_enter Try.func74, Try.ntmps74
    go_wp2_with fail
    refine (takeNum_any w g B l e HP.out hB).mono ?_
    rintro r w' ⟨rfl, hp, hg⟩
    have HP2 := Lib.hid hp
    have HG := Lib.hid hg
    clear hp hg
    generalize numV l = v at *
    by_cases hm0 : m < 0
    · have d : decide (0 < v) = false := decide_eq_false (by omega)
      clear hm
      go_wp2_with fail
      refine (take_any w' g B _ _ v HP2.out hB hv).mono ?_
      rintro r w2 ⟨A, n, c, rfl, hn, hb, hp, hg⟩
      have hcv := conv hb n c hn
      have H2 := Lib.hid hp
      have HG2 := Lib.hid hg
      clear hb hn hp hg
      go_wp2
      go_ret
      exact ⟨by rw [v1.out]; rfl, by rw [v2.out, v3.out]; exact H2.out, HG.out.trans HG2.out⟩
    · obtain ⟨k, rfl⟩ := Int.eq_ofNat_of_zero_le (by omega : 0 ≤ m)
      rw [Int.toNat_natCast] at hm
      have d : decide (k < v) = false := decide_eq_false hm
      have d2 : ¬ (k : Int) < 0 := hm0
      go_wp2_with fail
      refine (take_any w' g B _ _ v HP2.out hB hv).mono ?_
      rintro r w2 ⟨A, n, c, rfl, hn, hb, hp, hg⟩
      have hcv := conv hb n c hn
      have H2 := Lib.hid hp
      have HG2 := Lib.hid hg
      clear hb hn hp hg
      go_wp2
      go_ret
      exact ⟨by rw [v1.out]; rfl, by rw [v2.out, v3.out]; exact H2.out, HG.out.trans HG2.out⟩

theorem run_nil (w : World) (a : Option Addr) (n c : Nat) : (binOp .eql 25 (.slice a n c) (.slice none 0 0)).run Try.prog w = .ok (.bool a.isNone) w := Lib.run_eql_slice_nil w _ _ a n c 0 0 Try.underlying25
/-- a copy: nil, or a new list of the same bytes. -/
def ClonePost (w : World) (m : List Nat) (r : Ending) (w' : World) : Prop :=
  ∃ A n c, r = .returned (.slice A n c) ∧ m.length = n ∧ Bytes w' w'.heap.size A m ∧ n ≤ c ∧ c ≤ 9223372036854775807 ∧ (A = none → c = 0) ∧ Below w.heap.size w w' ∧ w'.ownsRow w.heap.size 5 1 (.slice A n c) n (vals m)
theorem clone_any (w : World) (A : Option Addr) (l : List Nat) (n c : Nat) (hn : l.length = n) (hA : A = none → n = 0 ∧ c = 0) (hb : Bytes w w.heap.size A l) (hl : n ≤ 140737488355328) :
    Calls Try.prog 22 #[.slice A n c] w (ClonePost w l) := by
  obtain ⟨i0, hi0, hz0, hz1, hz2⟩ := info_parts byte_info
  have hB := Lib.hid hb
  have HN := Lib.hid hn
  clear hb hn
  cases A with
  | none =>
    obtain ⟨rfl, rfl⟩ := hA rfl
    have hnil := run_nil w none 0 0
    go_enter Try.func22, Try.ntmps22
    go_wp2
    go_ret
    exact ⟨none, 0, 0, rfl, HN.out, by rw [List.eq_nil_of_length_eq_zero HN.out]; exact Bytes.none_ _ _ _, Nat.le_refl _, by omega, fun _ => rfl, Below.refl _ _, by rw [List.eq_nil_of_length_eq_zero HN.out]; exact World.ownsRow_nil _ _ _ _⟩
  | some ad =>
    clear hA
    have hnil := run_nil w (some ad) n c
    have HC : Hid (∀ j u, (vals l)[j]? = some u → (w.alloc (.cells #[] 5)).cell? (ad.add j) = some u) := by
      intro j u hu
      rw [vals_get] at hu
      obtain ⟨x, hx, rfl⟩ := Option.map_eq_some_iff.1 hu
      have hjl : j < l.length := (List.getElem?_eq_some_iff.1 hx).1
      obtain ⟨ad', e, hadb, hc⟩ := hB.out.2 (by omega)
      obtain rfl := Option.some.inj e
      exact (World.cell?_alloc_lt _ _ _ (by rw [block_add]; exact hadb)).trans (hc j x hx)
    go_enter Try.func22, Try.ntmps22
    go_wp2_with (
      (at_builtin
       refine wpList_append_own _ rfl (.tmp 5) (.tmp 6) 25 rfl w.heap.size 5 i0 (.int .u8 0) 1 1 Try.underlying25 hi0 hz0 hz1 hz2 rfl (by decide) (.slice (some ⟨w.heap.size, 0, none⟩) 0 0) 0 [] rfl (World.ownsRow_lit w #[] 0 (Nat.le_refl _) (by simp [maxLen]) rfl) ad n c (vals l) rfl (by rw [vals_length, HN.out, Nat.mul_one]) HC.out (vals_one l) (by simp only [maxLen]; omega) (by omega) (by simp) ?_
       intro v1 w2 hown1 hg1 hat1))
    simp only [Nat.zero_add, List.nil_append] at hown1
    obtain ⟨g0, cap0, rfl, hgw0⟩ := own_shape (w := w) hown1 (.inr (fun h => by simp at hat1; exact hat1 h))
    have hbel : Below w.heap.size w w2 := (below_new w _).grown hg1 (by simp) (fun k hk => by simp [Value.ownBlock] at hk; omega)
    have HO := Lib.hid hown1
    have HB := Lib.hid hbel
    clear hown1 hg1 hat1 hbel HC
    go_wp2
    go_ret
    refine ⟨some ⟨g0, 0, none⟩, n, cap0, rfl, HN.out, bytes_own HO.out hB.out.1, ?_, ?_, fun h => (by cases h), HB.out, HO.out⟩
    · rcases HO.out.2 with ⟨h, _⟩ | ⟨_, _, _, h, _, _, h1, _⟩
      · cases h
      · cases h; exact h1
    · rcases HO.out.2 with ⟨h, _⟩ | ⟨_, _, _, h, _, _, _, h1, _⟩
      · cases h
      · cases h; exact h1
end Go.Proofs.Ytblgbbpbhcaodaa.Nu

/- The contracts of pack's writer: what each of its methods puts behind what it has. For every list of bytes; nothing has turned but the writer's own block and its row. -/
namespace Go.Proofs.Ytblgbbpbhcaodaa.Nu
open Go.ChangeShapes Go.WideShapes Go.ChangeAt Go.RowKit
set_option linter.unusedVariables false
set_option maxRecDepth 4000

/-- a writer in block g that has these bytes, in a row of its own above B. -/
def PW (w : World) (B g : Nat) (rb : Option Nat) (m : List Nat) : Prop :=
  ∃ v n, At w g 27 #[v] ∧ v.ownBlock = rb ∧ w.ownsRow B 5 1 v n (vals m) ∧ m.length = n ∧ Small m ∧ B ≤ g
/-- nothing has turned but block g and the row rb. -/
structure Two (w w' : World) (g : Nat) (rb : Option Nat) : Prop where
  os : w'.os = w.os
  tape : w'.tape = w.tape
  output : w'.output = w.output
  size : w.heap.size ≤ w'.heap.size
  block : ∀ k, k < w.heap.size → k ≠ g → some k ≠ rb → w'.heap[k]? = w.heap[k]?
def WPost (w : World) (B g : Nat) (rb : Option Nat) (m : List Nat) (r : Ending) (w' : World) : Prop :=
  r = .returned (.tuple #[]) ∧ ∃ rb', PW w' B g rb' m ∧ (rb' = rb ∨ ∀ k, rb' = some k → w.heap.size ≤ k) ∧ Two w w' g rb

theorem below_undrew {w w' : World} (h : Below w.drew.heap.size w.drew w') : Below w.heap.size w w' := ⟨h.os, h.tape, h.output, h.size, h.block⟩
theorem own_below {w w' : World} {B n : Nat} {v : Value} {xs : List Value} (h : w.ownsRow B 5 1 v n xs) (hb : Below w.heap.size w w') : w'.ownsRow B 5 1 v n xs :=
  h.kept (turn_below hb none) (by cases v.ownBlock <;> simp)
theorem own_ne {w : World} {B g n : Nat} {v : Value} {xs : List Value} {cs : Array Value} (h : At w g 27 cs) (o : w.ownsRow B 5 1 v n xs) : some g ≠ v.ownBlock := by
  rcases o.2 with ⟨rfl, _⟩ | ⟨k, cap, cur, rfl, _, hk, _⟩
  · simp [Value.ownBlock]
  · intro e
    have e' : g = k := by simpa [Value.ownBlock] using e
    subst e'
    unfold At at h
    rw [h] at hk
    cases hk
theorem own_bound {w : World} {B n : Nat} {v : Value} {xs : List Value} (o : w.ownsRow B 5 1 v n xs) {g : Nat} (h : v.ownBlock = some g) : B ≤ g := (o.lt g h).1
/-- what a writer is behind an append and the store. -/
theorem wrote {w w1 w2 : World} {B g n n2 cap2 g2 : Nat} {v : Value} {m y : List Nat} (h1 : At w g 27 #[v]) (h3 : w.ownsRow B 5 1 v n (vals m)) (hs : Small (m ++ y)) (h6 : B ≤ g) (hb : Below w.heap.size w w1) (hg : w1.grownBy w2 v.ownBlock)
    (ho : w2.ownsRow B 5 1 (.slice (some ⟨g2, 0, none⟩) n2 cap2) n2 (vals m ++ vals y)) (hat : v.ownBlock = some g2 ∨ g2 = w1.heap.size) (hl : (m ++ y).length = n2) :
    WPost w B g v.ownBlock (m ++ y) (.returned (.tuple #[])) (w2.setCell ⟨g, 0, none⟩ (.slice (some ⟨g2, 0, none⟩) n2 cap2)) := by
  have k1 : At w1 g 27 #[v] := h1.below hb h1.lt
  have k2 : At w2 g 27 #[v] := k1.kept hg (own_ne k1 (own_below h3 hb))
  have hne : g ≠ g2 := by
    rcases ho.2 with ⟨e, _⟩ | ⟨k, cap, cur, e, _, hk, _⟩
    · cases e
    · cases e
      rintro rfl
      unfold At at k2
      rw [k2] at hk
      cases hk
  refine ⟨rfl, some g2, ⟨_, n2, k2.set 0 _, rfl, ?_, hl, hs, h6⟩, ?_, ?_⟩
  · rw [vals_append]
    exact ho.kept (turn_set w2 g 0 _) (.inr (by simp [Value.ownBlock]; exact fun e => hne e.symm))
  · rcases hat with e | e
    · exact .inl e.symm
    · refine .inr fun k hk => ?_
      cases hk
      rw [e]; exact hb.size
  · refine ⟨?_, ?_, ?_, ?_, fun k hk hkg hkr => ?_⟩
    · exact (turn_set w2 g 0 _).os.trans (hg.os.trans hb.os)
    · exact (turn_set w2 g 0 _).tape.trans (hg.tape.trans hb.tape)
    · exact (turn_set w2 g 0 _).output.trans (hg.output.trans hb.output)
    · exact Nat.le_trans hb.size (Nat.le_trans hg.size (turn_set w2 g 0 _).size)
    · rw [Below.heap_setCell _ _ _ _ (by exact hkg), hg.block k (Nat.lt_of_lt_of_le hk hb.size) hkr, hb.block k hk]

set_option maxHeartbeats 2000000 in
theorem wnum_any (w : World) (B g : Nat) (rb : Option Nat) (m : List Nat) (x : Nat) (h : PW w B g rb m) (hx : x < 18446744073709551616) (hm : m.length ≤ 70368744177664) :
    Calls Try.prog 21 #[.pointer (some ⟨g, 0, none⟩), .int .u64 (x : Int)] w (WPost w B g rb (m ++ enc x)) := by
  obtain ⟨i0, hi0, hz0, hz1, hz2⟩ := info_parts byte_info
  obtain ⟨v, n, h1, rfl, h3, h4, h5, h6⟩ := h
  have c0 := h1.cell 0
  have f0 := h1.frozen 0
  have hgl := h1.lt
  simp at c0
  rw [h4] at hm
  have H1 := Lib.hid h1
  have H3 := Lib.hid h3
  have H4 := Lib.hid h4
  have H5 := Lib.hid h5
  have hel : (enc x).length ≤ 9 := by have := blen_le x; rw [enc_length]; omega
  have hel0 : 0 < (enc x).length := by rw [enc_length]; omega
  obtain ⟨q, hq⟩ : ∃ q, (enc x).length = q := ⟨_, rfl⟩
  rw [hq] at hel hel0
  have HQ := Lib.hid hq
  clear h1 h3 h4 h5 hq
  go_enter Try.func21, Try.ntmps21
  go_wp2_with fail
  go_region_law (first
    | (refine step_append_lies _ rfl (.tmp 10) (.tmp 12) 25 rfl B 5 i0 (.int .u8 0) 1 1 Try.underlying25 hi0 hz0 hz1 hz2 rfl (by decide) v n (vals m) rfl (own_below H3.out HB1.out) ⟨g1, 0, none⟩ q cap1 (vals (enc x)) rfl (by rw [vals_length, HQ.out, Nat.mul_one]) (HO1.out.cells rfl) (vals_one _) hel0 (by simp only [maxLen]; omega) (by omega) (Nat.le_trans (by omega) HB1.out.size) _ rfl ?_
       intro g2 cap2 w2 hown2 hgrow2 hat2 hlt2
       have k2 : At w2 g 27 #[v] := (H1.out.below HB1.out hgl).kept hgrow2 (own_ne (H1.out.below HB1.out hgl) (own_below H3.out HB1.out))
       have e2 := k2.cell 0
       have z2 := k2.frozen 0
       simp at e2
       have HO2 := Lib.hid hown2
       have HG2 := Lib.hid hgrow2
       have HA2 := Lib.hid hat2
       clear k2 hown2 hgrow2 hat2)
    | (go_simp; go_at_call 46; refine (append_any _ none [] 0 0 x rfl (Bytes.none_ _ _ _) (by omega) hx).mono ?_; rintro r w1 ⟨g1, cap1, n1, rfl, hn1, hg1, ho1, hb1⟩
       obtain rfl : q = n1 := HQ.out.symm.trans hn1
       have hb2 := below_undrew hb1
       have k1 : At w1 g 27 #[v] := H1.out.below hb2 hgl
       have e1 := k1.cell 0
       have z1 := k1.frozen 0
       simp at e1
       have HO1 := Lib.hid ho1
       have HB1 := Lib.hid hb2
       clear hn1 ho1 hb1 k1 hg1 hb2))
  all_goals
    go_end0
    exact wrote H1.out H3.out (small_append H5.out (enc_small x)) h6 HB1.out HG2.out HO2.out HA2.out (by rw [List.length_append, H4.out, HQ.out])

set_option maxHeartbeats 1000000 in
theorem wbyte_any (w : World) (B g : Nat) (rb : Option Nat) (m : List Nat) (x : Nat) (h : PW w B g rb m) (hx : x < 256) (hm : m.length ≤ 70368744177664) :
    Calls Try.prog 25 #[.pointer (some ⟨g, 0, none⟩), .int .u8 (x : Int)] w (WPost w B g rb (m ++ [x])) := by
  -- stands on function 26
  obtain ⟨i0, hi0, hz0, hz1, hz2⟩ := info_parts byte_info
  obtain ⟨v, n, h1, rfl, h3, h4, h5, h6⟩ := h
  have c0 := h1.cell 0
  have f0 := h1.frozen 0
  have hgl := h1.lt
  simp at c0
  rw [h4] at hm
  have H1 := Lib.hid h1
  have H3 := Lib.hid h3
  have H4 := Lib.hid h4
  have H5 := Lib.hid h5
  clear h1 h3 h4 h5
  have HB1 : Hid (Below w.heap.size w (w.alloc (.cells #[.int .u8 (x : Int)] 5))) := below_new w _
  go_enter Try.func25, Try.ntmps25
  go_wp2_with (
    (at_builtin
     (refine wpList_append_lies _ rfl (.tmp 10) (.tmp 12) 25 rfl B 5 i0 (.int .u8 0) 1 1 Try.underlying25 hi0 hz0 hz1 hz2 rfl (by decide) v n (vals m) rfl (H3.out.alloc _) ⟨w.heap.size, 0, none⟩ 1 1 (vals [x]) rfl rfl (cell_one w _ 5) (vals_one _) (by decide) (by simp only [maxLen]; omega) (by omega) (by simp; omega) _ rfl ?_
      intro g2 cap2 w2 hown2 hgrow2 hat2 hlt2
      have k2 : At w2 g 27 #[v] := (H1.out.below HB1.out hgl).kept hgrow2 (own_ne (H1.out.below HB1.out hgl) (own_below H3.out HB1.out))
      have e2 := k2.cell 0
      have z2 := k2.frozen 0
      simp at e2
      have HO2 := Lib.hid hown2
      have HG2 := Lib.hid hgrow2
      have HA2 := Lib.hid hat2
      clear k2 hown2 hgrow2 hat2)))
  go_end0
  exact wrote H1.out H3.out (small_append H5.out (fun y hy => by simp at hy; omega)) h6 HB1.out HG2.out HO2.out HA2.out (by rw [List.length_append, H4.out]; rfl)
/-- a text's bytes. -/
def sb (s : ByteArray) : List Nat := s.data.toList.map UInt8.toNat
theorem sb_length (s : ByteArray) : (sb s).length = s.size := by unfold sb; rw [List.length_map, Array.length_toList]; rfl
theorem sb_small (s : ByteArray) : Small (sb s) := by
  intro x hx
  obtain ⟨y, _, rfl⟩ := List.mem_map.1 hx
  exact y.toNat_lt
theorem vals_sb (s : ByteArray) : vals (sb s) = Lib.strCells s := by unfold vals sb Lib.strCells; rw [List.map_map]; rfl
/-- append of a text, and where the new row lies. -/
theorem str_lies (w : World) (B g n cap : Nat) (xs : List Value) (s : ByteArray) (ho : w.ownsRow B 5 1 (.slice (some ⟨g, 0, none⟩) n cap) n xs) (hl : n + s.size ≤ 140737488355328) (hB : B ≤ w.heap.size) :
    ∃ g2 cap2 w', (Builtin.append_ #[25, 9] 25 #[.slice (some ⟨g, 0, none⟩) n cap, .string s]).run Try.prog w = .ok (.slice (some ⟨g2, 0, none⟩) (n + s.size) cap2) w' ∧
      w'.ownsRow B 5 1 (.slice (some ⟨g2, 0, none⟩) (n + s.size) cap2) (n + s.size) (xs ++ Lib.strCells s) ∧ w.grownBy w' (some g) ∧ (some g = some g2 ∨ g2 = w.heap.size) := by
  obtain ⟨i0, hi0, hz0, hz1, hz2⟩ := info_parts byte_info
  obtain ⟨v', w', hr, h2, h3, _⟩ := Lib.run_append_own_string (P := Try.prog) w B 25 9 25 5 i0 Try.underlying25 Try.underlying9 hi0 hz0 hz1 hz2 _ n xs ho s (by simp only [maxLen]; omega) hl hB
  have hc := ho.cells (g := g) rfl
  have hx := ho.1
  rcases ho.2 with ⟨e, _⟩ | ⟨g', cap', cur, e, hbg, hg, hnc, hcm, hcs, htake⟩
  · cases e
  cases e
  by_cases hroom : n + s.size ≤ cap
  · have hr2 := Lib.run_append_room_string (P := Try.prog) w 25 9 25 5 i0 Try.underlying25 Try.underlying9 hi0 hz1 g n cap cur hg s hroom (by omega)
    rw [hr] at hr2
    cases hr2
    exact ⟨g, cap, _, hr, h2, h3, .inl rfl⟩
  · have hr2 := Lib.run_append_grow_string (P := Try.prog) w 25 9 25 5 i0 (.int .u8 0) Try.underlying25 Try.underlying9 hi0 hz0 ⟨g, 0, none⟩ n cap xs (by rw [hz1]; exact hx) hc s (by omega) (by omega) (by rw [hz2]; exact growslice_fits (by omega) (by omega))
    rw [hr] at hr2
    cases hr2
    exact ⟨w.heap.size, _, _, hr, h2, h3, .inr rfl⟩
theorem wpList_str_lies {ops : Array Oper} {rest : List Oper} {o : Oper} {a : Act} {Q : Exit → Act → World → Prop} (hgd : o.guard = none) (sl x : Operand) (hop : o.op = .call { callee := .builtin .append, args := #[sl, x], argTypes := #[25, 9] }) (hty : o.type = 25)
    (w : World) (B g n cap : Nat) (xs : List Value) (s : ByteArray) (hs : a.eval sl = .slice (some ⟨g, 0, none⟩) n cap) (hx : a.eval x = .string s) (ho : w.ownsRow B 5 1 (.slice (some ⟨g, 0, none⟩) n cap) n xs) (hl : n + s.size ≤ 140737488355328) (hB : B ≤ w.heap.size)
    (h : ∀ g2 cap2 w', w'.ownsRow B 5 1 (.slice (some ⟨g2, 0, none⟩) (n + s.size) cap2) (n + s.size) (xs ++ Lib.strCells s) → w.grownBy w' (some g) → (some g = some g2 ∨ g2 = w.heap.size) → wpList Try.prog ops Q rest (a.put o.dst (.slice (some ⟨g2, 0, none⟩) (n + s.size) cap2)) w') :
    wpList Try.prog ops Q (o :: rest) a w := by
  refine wpList_plain hgd fun K hK => ?_
  obtain ⟨g2, cap2, w', hr, h2, h3, h4⟩ := str_lies w B g n cap xs s ho hl hB
  rw [← hty] at hr
  unfold Oper.wp execOp
  simp only [hop, resolve, invoke, builtin, Sem.run_bind, Sem.run_pure, Result.andThen_ok, List.map_toArray, List.map_cons, List.map_nil, hs, hx]
  rw [hty] at hr ⊢
  rw [hr]
  exact hK _ _ (h g2 cap2 w' h2 h3 h4)
theorem enc_pos (x : Nat) : 0 < (enc x).length := by rw [enc_length]; omega
theorem two_trans {w w1 w2 : World} {g : Nat} {rb rb1 : Option Nat} (h : Two w w1 g rb) (k : Two w1 w2 g rb1) (hr : rb1 = rb ∨ ∀ k, rb1 = some k → w.heap.size ≤ k) : Two w w2 g rb := by
  refine ⟨k.os.trans h.os, k.tape.trans h.tape, k.output.trans h.output, Nat.le_trans h.size k.size, fun i hi hg hrb => ?_⟩
  rw [k.block i (Nat.lt_of_lt_of_le hi h.size) hg ?_, h.block i hi hg hrb]
  intro e
  rcases hr with e1 | e1
  · exact hrb (e.trans e1)
  · have := e1 i e.symm; omega

set_option maxHeartbeats 1000000 in
theorem wtext_any (w : World) (B g : Nat) (rb : Option Nat) (m : List Nat) (s : ByteArray) (h : PW w B g rb m) (hm : m.length + s.size ≤ 70368744177000) :
    Calls Try.prog 26 #[.pointer (some ⟨g, 0, none⟩), .string s] w (WPost w B g rb (m ++ (enc s.size ++ sb s))) := by
  have H := Lib.hid h
  clear h
  go_enter Try.func26, Try.ntmps26
  go_wp2_with fail
  refine (wnum_any w B g rb m s.size H.out (by omega) (by omega)).mono ?_
  rintro r w1 ⟨rfl, rb1, hp, hrb, h2⟩
  obtain ⟨v, n, h1, h1b, h3, h4, h5, h6⟩ := hp
  have hel : (enc s.size).length ≤ 9 := by have := blen_le s.size; rw [enc_length]; omega
  have hn : 0 < n := by rw [← h4, List.length_append]; have := enc_pos s.size; omega
  have hn2 : n ≤ m.length + 9 := by rw [← h4, List.length_append]; omega
  obtain ⟨g1, cap1, rfl, _, _⟩ := h3.form hn
  have hsz : B ≤ w1.heap.size := by have := h1.lt; omega
  have c0 := h1.cell 0
  simp at c0
  have H1 := Lib.hid h1
  have H2 := Lib.hid h2
  have H3 := Lib.hid h3
  have H4 := Lib.hid h4
  have H5 := Lib.hid h5
  have H1b := Lib.hid h1b
  have HRB := Lib.hid hrb
  clear h1 h2 h3 h4 h5 h1b hrb hel hn
  go_wp2_with (
    (at_builtin
     (refine wpList_str_lies rfl (.tmp 15) (.tmp 16) rfl rfl w1 B g1 n cap1 _ s rfl rfl H3.out (by omega) hsz ?_
      intro g2 cap2 w2 ho2 hg2 hat2
      have k2 : At w2 g 27 _ := H1.out.kept hg2 (own_ne H1.out H3.out)
      have e2 := k2.cell 0
      have z2 := k2.frozen 0
      simp at e2
      have HO2 := Lib.hid ho2
      have HG2 := Lib.hid hg2
      have HA2 := Lib.hid hat2
      clear ho2 hg2 hat2 k2)))
  go_end0
  have hw := wrote (y := sb s) H1.out H3.out (small_append H5.out (sb_small s)) h6 (Below.refl _ _) HG2.out (by rw [vals_sb]; exact HO2.out) HA2.out (by rw [List.length_append, H4.out, sb_length])
  obtain ⟨_, rb2, hp2, hrb2, ht2⟩ := hw
  rw [List.append_assoc] at hp2
  have e1 : (Value.slice (some ⟨g1, 0, none⟩) n cap1).ownBlock = rb1 := H1b.out
  rw [e1] at hrb2 ht2
  refine ⟨rfl, rb2, hp2, ?_, two_trans H2.out ht2 HRB.out⟩
  rcases hrb2 with e | e
  · subst e; exact HRB.out
  · exact .inr fun k hk => Nat.le_trans H2.out.size (e k hk)
end Go.Proofs.Ytblgbbpbhcaodaa.Nu

/- Events as bytes, and what a reader makes of any bytes. Plain: nothing is asked of a program. -/
namespace Go.Proofs.Ytblgbbpbhcaodaa.Ec
open Go.ChangeShapes Go.WideShapes Go.ChangeAt Go.RowKit Go.Proofs.Ytblgbbpbhcaodaa.Dc
set_option linter.unusedVariables false
set_option maxRecDepth 4000

abbrev Evt := Ev.Evt

/-! ### A byte, a text -/
def byteN (s : St) : Nat := Nu.byteV s.1
def byteS (s : St) : St := (Nu.byteL s.1, Nu.byteE s.1 s.2)
def textN (m : Nat) (s : St) : ByteArray := Nu.str (Nu.textV (m : Int) s.1)
def textS (m : Nat) (s : St) : St := (Nu.textL (m : Int) s.1, Nu.textE (m : Int) s.1 s.2)
theorem byte_sound {s : St} (h : Sound s) : Sound (byteS s) := fun hn => by
  obtain ⟨l, e⟩ := s
  cases l with
  | nil => rfl
  | cons x r =>
    have h1 : Nu.byteE (x :: r) e = e := if_neg (fun h => by cases h)
    have h2 : e ≠ 0 := fun h0 => hn (h1.trans h0)
    have h3 := h h2
    cases h3
theorem byteS_ok {s : St} (h : (byteS s).2 = 0) : s.2 = 0 ∧ s.1 = byteN s :: (byteS s).1 := by
  obtain ⟨l, e⟩ := s
  cases l with
  | nil =>
    have h1 : Nu.byteE [] e = Nu.stopE e 2 := if_pos rfl
    exact absurd (h1.symm.trans h) (stop_ne (by decide))
  | cons x r =>
    have h1 : Nu.byteE (x :: r) e = e := if_neg (fun h => by cases h)
    exact ⟨h1.symm.trans h, rfl⟩
theorem byte_small {s : St} (h : Nu.Small s.1) : Nu.Small (byteS s).1 := by
  obtain ⟨l, e⟩ := s
  cases l with
  | nil => exact h
  | cons x r => exact fun y hy => h y (List.mem_cons_of_mem _ hy)
theorem byteN_lt {s : St} (h : Nu.Small s.1) : byteN s < 256 := Nu.byteV_lt h
theorem byte_back (x : Nat) (r : List Nat) : byteN ([x] ++ r, 0) = x ∧ byteS ([x] ++ r, 0) = (r, 0) := by
  refine ⟨rfl, ?_⟩
  have h1 : Nu.byteE (x :: r) 0 = 0 := if_neg (fun h => by cases h)
  show (Nu.byteL (x :: r), Nu.byteE (x :: r) 0) = _
  rw [h1]
  rfl
theorem byteS_len (s : St) : (byteS s).1.length ≤ s.1.length := by
  obtain ⟨l, e⟩ := s
  cases l with
  | nil => exact Nat.le_refl _
  | cons x r => exact Nat.le_succ _
theorem str_sb (s : ByteArray) : Nu.str (Nu.sb s) = s := by
  apply ByteArray.ext
  apply Array.ext'
  have h := Nu.str_toList (Nu.sb s)
  rw [ByteArray.toList_eq] at h
  rw [h]
  unfold Nu.sb
  rw [List.map_map]
  have : (UInt8.ofNat ∘ UInt8.toNat) = id := by funext x; simp
  rw [this, List.map_id]
theorem sb_str {l : List Nat} (h : Nu.Small l) : Nu.sb (Nu.str l) = l := by
  have h1 := Nu.str_toList l
  rw [ByteArray.toList_eq] at h1
  unfold Nu.sb
  rw [h1, List.map_map]
  refine (List.map_congr_left (g := id) (fun x hx => ?_)).trans (List.map_id _)
  have := h x hx
  show (UInt8.ofNat x).toNat = x
  rw [UInt8.toNat_ofNat']
  omega
theorem str_size {l : List Nat} (h : Nu.Small l) : (Nu.str l).size = l.length := by rw [← Nu.sb_length, sb_str h]
theorem textV_in (m : Nat) (l : List Nat) : (Nu.textV (m : Int) l).length ≤ m := by
  unfold Nu.textV
  rw [Int.toNat_natCast]
  split
  · exact Nat.zero_le _
  · unfold Nu.takeV
    split
    · rw [List.length_take]; omega
    · exact Nat.zero_le _
theorem textV_small {l : List Nat} (m : Nat) (h : Nu.Small l) : Nu.Small (Nu.textV (m : Int) l) := by
  unfold Nu.textV
  split
  · intro x hx; cases hx
  · unfold Nu.takeV
    split
    · exact Nu.small_take (small_numL h) _
    · intro x hx; cases hx
theorem text_short {s : St} (m : Nat) (h : Nu.Small s.1) : (textN m s).size ≤ m := by
  show (Nu.str (Nu.textV (m : Int) s.1)).size ≤ m
  rw [str_size (textV_small m h)]
  exact textV_in m s.1
theorem text_small {s : St} (m : Nat) (h : Nu.Small s.1) : Nu.Small (textS m s).1 := by
  show Nu.Small (Nu.textL (m : Int) s.1)
  unfold Nu.textL
  split
  · intro x hx; cases hx
  · unfold Nu.takeL
    split
    · exact Nu.small_drop (small_numL h) _
    · intro x hx; cases hx
theorem textS_len (m : Nat) (s : St) : (textS m s).1.length ≤ s.1.length := by
  show (Nu.textL (m : Int) s.1).length ≤ _
  unfold Nu.textL
  split
  · exact Nat.zero_le _
  · unfold Nu.takeL
    split
    · rw [List.length_drop]; have := (num_shorter s.1).1; omega
    · exact Nat.zero_le _
theorem textS_ok {m : Nat} {s : St} (h : (textS m s).2 = 0) : s.2 = 0 ∧ (numS s).2 = 0 ∧ numN s ≤ m ∧ numN s ≤ (numS s).1.length ∧ Nu.textV (m : Int) s.1 = (numS s).1.take (numN s) ∧ (textS m s).1 = (numS s).1.drop (numN s) := by
  have h1 : Nu.textE (m : Int) s.1 s.2 = 0 := h
  unfold Nu.textE at h1
  rw [Int.toNat_natCast] at h1
  by_cases hm : m < Nu.numV s.1
  · rw [if_pos hm] at h1
    exact absurd h1 (stop_ne (by decide))
  · rw [if_neg hm] at h1
    unfold Nu.takeE at h1
    by_cases hk : Nu.numV s.1 ≤ (Nu.numL s.1).length
    · rw [if_pos hk] at h1
      refine ⟨(stop_iff.1 h1).1, h1, by show Nu.numV s.1 ≤ m; omega, hk, ?_, ?_⟩
      · unfold Nu.textV Nu.takeV
        rw [Int.toNat_natCast, if_neg hm, if_pos hk]
        rfl
      · show Nu.textL (m : Int) s.1 = _
        unfold Nu.textL Nu.takeL
        rw [Int.toNat_natCast, if_neg hm, if_pos hk]
        rfl
    · rw [if_neg hk] at h1
      exact absurd h1 (stop_ne (by decide))
theorem text_sound {m : Nat} {s : St} (h : Sound s) : Sound (textS m s) := fun hn => by
  have h1 : Nu.textE (m : Int) s.1 s.2 ≠ 0 := hn
  show Nu.textL (m : Int) s.1 = []
  unfold Nu.textE at h1
  unfold Nu.textL
  by_cases hm : (m : Int).toNat < Nu.numV s.1
  · rw [if_pos hm]
  · rw [if_neg hm] at h1 ⊢
    unfold Nu.takeE at h1
    unfold Nu.takeL
    by_cases hk : Nu.numV s.1 ≤ (Nu.numL s.1).length
    · rw [if_pos hk] at h1 ⊢
      have h2 : Nu.numL s.1 = [] := num_sound h h1
      rw [h2, List.drop_nil]
    · rw [if_neg hk]
theorem text_in {m : Nat} {s : St} (hs : Nu.Small s.1) (h : (textS m s).2 = 0) : s.1 = Nu.enc (textN m s).size ++ (Nu.sb (textN m s) ++ (textS m s).1) := by
  obtain ⟨h1, h2, h3, h4, h5, h6⟩ := textS_ok h
  obtain ⟨a1, a2⟩ := numS_in hs h2
  have hv := textV_small m hs
  have h7 : Nu.sb (textN m s) = (numS s).1.take (numN s) := (sb_str hv).trans h5
  have h8 : (textN m s).size = numN s := by
    show (Nu.str (Nu.textV (m : Int) s.1)).size = _
    rw [str_size hv, h5, List.length_take]
    omega
  rw [h7, h8, h6, List.take_append_drop]
  exact a1
theorem text_back {m : Nat} {t : ByteArray} (ht : t.size ≤ m) (hb : t.size < big) (r : List Nat) : textN m (Nu.enc t.size ++ (Nu.sb t ++ r), 0) = t ∧ textS m (Nu.enc t.size ++ (Nu.sb t ++ r), 0) = (r, 0) := by
  obtain ⟨h1, h2, h3⟩ := num_back hb (Nu.sb t ++ r)
  have hl : (Nu.sb t).length = t.size := Nu.sb_length t
  have hk : t.size ≤ (Nu.sb t ++ r).length := by rw [List.length_append, hl]; omega
  have hm : ¬ (m : Int).toNat < t.size := by rw [Int.toNat_natCast]; omega
  have e1 : (Nu.sb t ++ r).take t.size = Nu.sb t := by rw [← hl]; exact List.take_left
  have e2 : (Nu.sb t ++ r).drop t.size = r := by rw [← hl]; exact List.drop_left
  refine ⟨?_, ?_⟩
  · show Nu.str (Nu.textV (m : Int) _) = t
    unfold Nu.textV Nu.takeV
    rw [h1, h2, if_neg hm, if_pos hk, e1, str_sb]
  · show (Nu.textL (m : Int) _, Nu.textE (m : Int) _ 0) = _
    unfold Nu.textL Nu.takeL Nu.textE Nu.takeE
    rw [h1, h2, h3, if_neg hm, if_pos hk, if_neg hm, if_pos hk, e2]
    rfl

/-! ### Dots that are read -/
theorem ord_snoc {o : List Dot} {d : Dot} (ho : Dt.Ord o) (h : stepsB o d = true) : Dt.Ord (o ++ [d]) := by
  rcases List.eq_nil_or_concat o with rfl | ⟨l, x, rfl⟩
  · exact List.pairwise_singleton _ _
  · rw [List.concat_eq_append] at ho h ⊢
    unfold stepsB at h
    rw [List.getLast?_concat] at h
    rw [← Dt.rise_ord, Dt.riseB_snoc, (Dt.rise_ord _).2 ho]
    exact h
theorem dotsS_ok {o : List Dot} {s : St} (h : (dotsS o s).2 = 0) : (dotR s).2.2 = 0 ∧ stepsB o (dotR s).1 = true ∧ dotsS o s = (dotR s).2 := by
  unfold dotsS at h ⊢
  by_cases hc : (dotR s).2.2 = 0 ∧ stepsB o (dotR s).1 = false
  · rw [if_pos hc] at h
    exact absurd h (stop_ne (by decide))
  · rw [if_neg hc] at h ⊢
    refine ⟨h, ?_, rfl⟩
    cases hb : stepsB o (dotR s).1 with
    | true => rfl
    | false => exact absurd ⟨h, hb⟩ hc
theorem dotsL_in : ∀ (k : Nat) (o : List Dot) (s : St), Nu.Small s.1 → Dt.Ord o → (dotsL k o s).2.2 = 0 →
    s.2 = 0 ∧ ∃ q, (dotsL k o s).1 = o ++ q ∧ q.length = k ∧ s.1 = q.flatMap dotB ++ (dotsL k o s).2.1 ∧ (∀ x ∈ q, Dt.mayD x = true ∧ x.1 < 65536 ∧ x.2 < big) ∧ Dt.Ord (o ++ q)
  | 0, o, s, _, ho, h => ⟨h, [], by simp [dotsL], rfl, by simp [dotsL], (fun x hx => by cases hx), by simpa using ho⟩
  | k + 1, o, s, hs, ho, h => by
    by_cases h0 : s.2 = 0
    · have e : dotsL (k + 1) o s = dotsL k (o ++ [(dotR s).1]) (dotsS o s) := by
        conv => lhs; unfold dotsL
        rw [if_pos h0]
      rw [e] at h ⊢
      have hk0 : (dotsS o s).2 = 0 := by
        rcases Nat.eq_zero_or_pos (dotsS o s).2 with h2 | h2
        · exact h2
        · rw [dotsL_bad (by omega)] at h
          exact h
      obtain ⟨g1, g2, g3⟩ := dotsS_ok hk0
      obtain ⟨_, a2, a3⟩ := dot_in hs g1
      have hsm : Nu.Small (dotsS o s).1 := by rw [g3]; exact dotR_small hs
      obtain ⟨_, q, b1, b2, b3, b4, b5⟩ := dotsL_in k _ _ hsm (ord_snoc ho g2) h
      refine ⟨h0, (dotR s).1 :: q, by rw [b1, List.append_assoc]; rfl, by rw [List.length_cons, b2], ?_, fun x hx => ?_, by rw [List.append_assoc] at b5; exact b5⟩
      · rw [List.flatMap_cons, List.append_assoc, ← b3, g3]
        exact a2
      · rcases List.mem_cons.1 hx with rfl | hx
        · exact ⟨a3, dotR_fit hs⟩
        · exact b4 x hx
    · rw [dotsL_bad h0] at h
      exact absurd h h0
/-- WHAT IS READ AS DOTS HAS BEEN WRITTEN SO. -/
theorem dots_in {most : Nat} {s : St} (hs : Nu.Small s.1) (h : (dotsR most s).2.2 = 0) : s.2 = 0 ∧ s.1 = dotsB (dotsR most s).1 ++ (dotsR most s).2.1 ∧ Dt.Ord (dotsR most s).1 ∧ (∀ x ∈ (dotsR most s).1, Dt.mayD x = true ∧ x.1 < 65536 ∧ x.2 < big) ∧ (dotsR most s).1.length ≤ most := by
  by_cases hz : (dotsL (numN s) [] (dotsF most s)).2.2 = 0
  · have e : dotsR most s = dotsL (numN s) [] (dotsF most s) := if_pos hz
    have hF : Nu.Small (dotsF most s).1 := by
      unfold dotsF
      split
      · intro x hx; cases hx
      · exact num_small hs
    obtain ⟨h1, q, b1, b2, b3, b4, b5⟩ := dotsL_in _ _ _ hF List.Pairwise.nil hz
    have hm : ¬ most < numN s := fun hm => by
      have : dotsF most s = failS 3 (numS s) := if_pos hm
      rw [this] at h1
      exact stop_ne (by decide) h1
    have eF : dotsF most s = numS s := if_neg hm
    rw [eF] at h1
    obtain ⟨a1, a2⟩ := numS_in hs h1
    have hq : (dotsR most s).1 = q := by rw [e, b1, List.nil_append]
    refine ⟨(numS_ok h1).1, ?_, by rw [hq]; simpa using b5, by rw [hq]; exact b4, by rw [hq, b2]; omega⟩
    unfold dotsB
    rw [hq, b2, List.append_assoc, e, ← b3, eF]
    exact a1
  · have e : dotsR most s = ([], (dotsL (numN s) [] (dotsF most s)).2) := if_neg hz
    rw [e] at h
    exact absurd h hz
theorem dotsR_sound {most : Nat} {s : St} (h : Sound s) : Sound (dotsR most s).2 := by
  have h1 := dotsL_sound (numN s) [] _ (dotsF_sound (most := most) h)
  unfold dotsR
  split
  · exact h1
  · exact h1
theorem dotsL_small : ∀ (k : Nat) (o : List Dot) (s : St), Nu.Small s.1 → Nu.Small (dotsL k o s).2.1
  | 0, o, s, h => h
  | k + 1, o, s, h => by
    unfold dotsL
    split
    · refine dotsL_small k _ _ ?_
      unfold dotsS
      split
      · intro x hx; cases hx
      · exact dotR_small h
    · exact h
theorem dotsR_small {most : Nat} {s : St} (h : Nu.Small s.1) : Nu.Small (dotsR most s).2.1 := by
  have hF : Nu.Small (dotsF most s).1 := by
    unfold dotsF
    split
    · intro x hx; cases hx
    · exact num_small h
  have h1 := dotsL_small (numN s) [] _ hF
  unfold dotsR
  split
  · exact h1
  · exact h1
theorem dotsR_max {most : Nat} {s : St} (h : Nu.Small s.1) : (dotsR most s).1.length ≤ most := by
  by_cases hz : (dotsR most s).2.2 = 0
  · exact (dots_in h hz).2.2.2.2
  · unfold dotsR at hz ⊢
    split
    · rename_i h2; rw [if_pos h2] at hz; exact absurd h2 hz
    · exact Nat.zero_le _
theorem dotsR_bad {most : Nat} {s : St} (h : (dotsR most s).2.2 ≠ 0) : (dotsR most s).1 = [] := by
  unfold dotsR at h ⊢
  split
  · rename_i h2; rw [if_pos h2] at h; exact absurd h2 h
  · rfl
theorem dotsR_len (most : Nat) (s : St) : (dotsR most s).2.1.length ≤ s.1.length := by
  have hF : (dotsF most s).1.length ≤ s.1.length := by
    unfold dotsF
    split
    · exact Nat.zero_le _
    · exact numS_len s
  have h1 : ∀ (k : Nat) (o : List Dot) (s : St), (dotsL k o s).2.1.length ≤ s.1.length := by
    intro k
    induction k with
    | zero => intro o s; exact Nat.le_refl _
    | succ k ih =>
      intro o s
      unfold dotsL
      split
      · refine Nat.le_trans (ih _ _) ?_
        unfold dotsS
        split
        · exact Nat.zero_le _
        · exact (dotR_len s).1
      · exact Nat.le_refl _
  have h2 := Nat.le_trans (h1 (numN s) [] (dotsF most s)) hF
  unfold dotsR
  split
  · exact h2
  · exact h2
end Go.Proofs.Ytblgbbpbhcaodaa.Ec
