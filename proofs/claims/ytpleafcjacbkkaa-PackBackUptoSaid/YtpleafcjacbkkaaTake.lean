/- The contracts of pack's reader, going on: take, takeByte, and the methods that tell. -/
import Derived.Test.YtpleafcjacbkkaaStop
namespace Go.Proofs.Ytpleafcjacbkkaa.Nu
open Go.ChangeShapes Go.WideShapes Go.ChangeAt Go.RowKit
set_option linter.unusedVariables false

/-- bytes that are told, and the reader that is left. -/
def TakePost (w : World) (g B : Nat) (m l : List Nat) (e : Nat) (r : Ending) (w' : World) : Prop :=
  ∃ A n c, r = .returned (.slice A n c) ∧ m.length = n ∧ Bytes w' B A m ∧ PR w' g B l e ∧ w.grownBy w' (some g)

set_option maxHeartbeats 1000000 in
theorem take_any (w : World) (g B : Nat) (l : List Nat) (e k : Nat) (h : PR w g B l e) (hB : B ≤ g) (hk : k < 18446744073709551616) :
    Calls Try.prog 39 #[.pointer (some ⟨g, 0, none⟩), .int .u64 (k : Int)] w (TakePost w g B (takeV k l) (takeL k l) (takeE k l e)) := by
  have HP := Lib.hid h
  obtain ⟨A, n, c, h1, h2, h3, h4, h5, h6, h7⟩ := h
  have c0 := h1.cell 0
  have f0 := h1.frozen 0
  simp at c0
  have H1 := Lib.hid h1
  have H2 := Lib.hid h2
  have H3 := Lib.hid h3
  have H7 := Lib.hid h7
  clear h1 h2 h3 h7
  by_cases hl : k ≤ n
  · have hd : decide (n < k) = false := decide_eq_false (by omega)
    have v1 : Hid (takeV k l = l.take k) := if_pos (by rw [H3.out]; exact hl)
    have v2 : Hid (takeL k l = l.drop k) := if_pos (by rw [H3.out]; exact hl)
    have v3 : Hid (takeE k l e = e) := if_pos (by rw [H3.out]; exact hl)
    have y0 : (0 : Int) ≤ (k : Int) := by omega
    have y1 : (k : Int) ≤ (n : Int) := by omega
    have y2 : (k : Int) ≤ (c : Int) := by omega
    cases A with
    | none =>
      obtain rfl := h6 rfl
      obtain rfl : n = 0 := by omega
      obtain rfl : k = 0 := by omega
      have hln : Hid (l = []) := List.eq_nil_of_length_eq_zero H3.out
      clear h6 y1 y2
      go_enter Try.func39, Try.ntmps39
      go_wp2
      go_ret
      refine ⟨none, 0, 0, rfl, by rw [v1.out]; rfl, by rw [v1.out]; exact Bytes.none_ _ _ _, ⟨none, 0, 0, H1.out.set 0 _, ?_, ?_, Nat.le_refl _, h5, fun _ => rfl, ?_⟩, turn_set _ g 0 _⟩
      · rw [v2.out, hln.out]; exact Bytes.none_ _ _ _
      · rw [v2.out, hln.out]; rfl
      · intro _; rw [v2.out, hln.out]; rfl
    | some ad =>
      clear h6
      by_cases hck : c = k
      · go_enter Try.func39, Try.ntmps39
        go_wp2
        go_ret
        exact ⟨some ad, k, k, rfl, by rw [v1.out, List.length_take, H3.out]; omega, by rw [v1.out]; exact (H2.out.take k).below ((Below.refl B w).setCell hB _),
          by rw [v3.out]; exact PR.cut (k := k) (A' := some ad) H1.out H2.out H3.out h4 h5 H7.out hB hl (if_pos hck).symm rfl (by omega) v2.out, turn_set _ g 0 _⟩
      · go_enter Try.func39, Try.ntmps39
        go_wp2
        go_ret
        exact ⟨some ad, k, c, rfl, by rw [v1.out, List.length_take, H3.out]; omega, by rw [v1.out]; exact (H2.out.take k).below ((Below.refl B w).setCell hB _),
          by rw [v3.out]; exact PR.cut (k := k) (A' := some (ad.add k)) H1.out H2.out H3.out h4 h5 H7.out hB hl (if_neg hck).symm rfl rfl v2.out, turn_set _ g 0 _⟩
  · have hd : decide (n < k) = true := decide_eq_true (by omega)
    have v1 : Hid (takeV k l = []) := if_neg (by rw [H3.out]; exact hl)
    have v2 : Hid (takeL k l = []) := if_neg (by rw [H3.out]; exact hl)
    have v3 : Hid (takeE k l e = stopE e 2) := if_neg (by rw [H3.out]; exact hl)
    clear h6
    go_enter Try.func39, Try.ntmps39
    go_wp2_with fail
    refine (stop_any w g B l e 2 HP.out hB (by decide)).mono ?_
    rintro r w' ⟨rfl, hp, hg⟩
    clear c0 f0
    go_wp2
    go_ret
    exact ⟨none, 0, 0, rfl, by rw [v1.out]; rfl, by rw [v1.out]; exact Bytes.none_ _ _ _, by rw [v2.out, v3.out]; exact hp, hg⟩

theorem takeByte_any (w : World) (g B : Nat) (l : List Nat) (e : Nat) (h : PR w g B l e) (hB : B ≤ g) :
    Calls Try.prog 38 #[.pointer (some ⟨g, 0, none⟩)] w (PPost w g B (.int .u8 ((byteV l : Nat) : Int)) (byteL l) (byteE l e)) := by
  have HP := Lib.hid h
  clear h
  cases l with
  | nil =>
    go_enter Try.func38, Try.ntmps38
    go_wp2_with fail
    refine (take_any w g B [] e 1 HP.out hB (by decide)).mono ?_
    rintro r w' ⟨A, n, c, rfl, hn, hb, hp, hg⟩
    obtain rfl : n = 0 := hn.symm
    clear hb hn
    go_wp2
    go_ret
    exact ⟨rfl, hp, hg⟩
  | cons x r =>
    go_enter Try.func38, Try.ntmps38
    go_wp2_with fail
    refine (take_any w g B (x :: r) e 1 HP.out hB (by decide)).mono ?_
    rintro r' w' ⟨A, n, c, rfl, hn, hb, hp, hg⟩
    have t1 : takeV 1 (x :: r) = [x] := by simp [takeV]
    have t2 : takeL 1 (x :: r) = r := by simp [takeL]
    have t3 : takeE 1 (x :: r) e = e := by simp [takeE]
    rw [t1] at hn hb
    rw [t2, t3] at hp
    obtain rfl : n = 1 := hn.symm
    obtain ⟨ad, x', rfl, hx, hlx, hcell⟩ := hb.at_ (k := 0) (by simp)
    obtain rfl : x = x' := by simpa using hlx
    have hc0 : w'.cell? ad = some (.int .u8 (x : Int)) := by simpa [Addr.add] using hcell
    have HP2 := Lib.hid hp
    have HG := Lib.hid hg
    clear hb hn hlx hcell t1 t2 t3 hp hg
    go_wp2
    go_ret
    exact ⟨rfl, HP2.out, HG.out⟩

theorem num_any (w : World) (g B : Nat) (l : List Nat) (e : Nat) (h : PR w g B l e) (hB : B ≤ g) :
    Calls Try.prog 7 #[.pointer (some ⟨g, 0, none⟩)] w (PPost w g B (.int .u64 ((numV l : Nat) : Int)) (numL l) (stopE e (numE l))) := by
  have HP := Lib.hid h
  clear h
  go_enter Try.func7, Try.ntmps7
  go_wp2_with fail
  refine (takeNum_any w g B l e HP.out hB).mono ?_
  rintro r w' ⟨rfl, hp, hg⟩
  go_wp2
  go_ret
  exact ⟨rfl, hp, hg⟩
theorem byte_m (w : World) (g B : Nat) (l : List Nat) (e : Nat) (h : PR w g B l e) (hB : B ≤ g) :
    Calls Try.prog 11 #[.pointer (some ⟨g, 0, none⟩)] w (PPost w g B (.int .u8 ((byteV l : Nat) : Int)) (byteL l) (byteE l e)) := by
  have HP := Lib.hid h
  clear h
  go_enter Try.func11, Try.ntmps11
  go_wp2_with fail
  refine (takeByte_any w g B l e HP.out hB).mono ?_
  rintro r w' ⟨rfl, hp, hg⟩
  go_wp2
  go_ret
  exact ⟨rfl, hp, hg⟩
theorem small_of {w : World} {g B : Nat} {l : List Nat} {e : Nat} (h : PR w g B l e) : Small l := by
  obtain ⟨_, _, _, _, h2, _⟩ := h
  exact h2.1
theorem upto_any (w : World) (g B : Nat) (l : List Nat) (e m : Nat) (h : PR w g B l e) (hB : B ≤ g) :
    Calls Try.prog 9 #[.pointer (some ⟨g, 0, none⟩), .int .u64 (m : Int)] w (PPost w g B (.int .u64 ((uptoV m l : Nat) : Int)) (uptoL m l) (uptoE m l e)) := by
  have HP := Lib.hid h
  clear h
  by_cases hm : m < numV l
  · have v1 : Hid (uptoV m l = 0) := if_pos hm
    have v2 : Hid (uptoL m l = []) := if_pos hm
    have v3 : Hid (uptoE m l e = stopE (stopE e (numE l)) 4) := if_pos hm
    go_enter Try.func9, Try.ntmps9
    go_wp2_with fail
    refine (takeNum_any w g B l e HP.out hB).mono ?_
    rintro r w' ⟨rfl, hp, hg⟩
    have HP2 := Lib.hid hp
    have HG := Lib.hid hg
    have hd : decide (m < numV l) = true := decide_eq_true hm
    clear hp hg
    generalize numV l = v at *
    go_wp2_with fail
    refine (stop_any w' g B _ _ 4 HP2.out hB (by decide)).mono ?_
    rintro r w2 ⟨rfl, hp, hg⟩
    go_wp2
    go_ret
    exact ⟨by rw [v1.out]; rfl, by rw [v2.out, v3.out]; exact hp, HG.out.trans hg⟩
  · have v1 : Hid (uptoV m l = numV l) := if_neg hm
    have v2 : Hid (uptoL m l = numL l) := if_neg hm
    have v3 : Hid (uptoE m l e = stopE e (numE l)) := if_neg hm
    go_enter Try.func9, Try.ntmps9
    go_wp2_with fail
    refine (takeNum_any w g B l e HP.out hB).mono ?_
    rintro r w' ⟨rfl, hp, hg⟩
    have HP2 := Lib.hid hp
    have HG := Lib.hid hg
    have hd : decide (m < numV l) = false := decide_eq_false hm
    clear hp hg
    generalize numV l = v at *
    go_wp2
    go_ret
    exact ⟨by rw [v1.out]; rfl, by rw [v2.out, v3.out]; exact HP2.out, HG.out⟩
theorem flag_any (w : World) (g B : Nat) (l : List Nat) (e : Nat) (h : PR w g B l e) (hB : B ≤ g) :
    Calls Try.prog 13 #[.pointer (some ⟨g, 0, none⟩)] w (PPost w g B (.bool (flagV l)) (flagL l) (flagE l e)) := by
  have HP := Lib.hid h
  clear h
  by_cases hm : byteV l ≤ 1
  · have v2 : Hid (flagL l = byteL l) := if_pos hm
    have v3 : Hid (flagE l e = byteE l e) := if_pos hm
    have v1 : Hid (flagV l = decide (byteV l = 1)) := rfl
    go_enter Try.func13, Try.ntmps13
    go_wp2_with fail
    refine (takeByte_any w g B l e HP.out hB).mono ?_
    rintro r w' ⟨rfl, hp, hg⟩
    have HP2 := Lib.hid hp
    have HG := Lib.hid hg
    clear hp hg
    generalize byteV l = v at *
    rcases Nat.eq_zero_or_pos v with h0 | h0
    · subst h0
      go_wp2
      go_ret
      exact ⟨by rw [v1.out]; rfl, by rw [v2.out, v3.out]; exact HP2.out, HG.out⟩
    · obtain rfl : v = 1 := by omega
      go_wp2
      go_ret
      exact ⟨by rw [v1.out]; rfl, by rw [v2.out, v3.out]; exact HP2.out, HG.out⟩
  · have v2 : Hid (flagL l = []) := if_neg hm
    have v3 : Hid (flagE l e = stopE (byteE l e) 4) := if_neg hm
    have v1 : Hid (flagV l = decide (byteV l = 1)) := rfl
    go_enter Try.func13, Try.ntmps13
    go_wp2_with fail
    refine (takeByte_any w g B l e HP.out hB).mono ?_
    rintro r w' ⟨rfl, hp, hg⟩
    have HP2 := Lib.hid hp
    have HG := Lib.hid hg
    clear hp hg
    generalize byteV l = v at *
    have d0 : ((v : Int) != 0) = true := by rw [bne_iff_ne]; omega
    have d1 : ((v : Int) != 1) = true := by rw [bne_iff_ne]; omega
    have d2 : ((v : Int) == 1) = false := by rw [beq_eq_false_iff_ne]; omega
    go_wp2_with fail
    refine (stop_any w' g B _ _ 4 HP2.out hB (by decide)).mono ?_
    rintro r w2 ⟨rfl, hp, hg⟩
    go_wp2
    go_ret
    exact ⟨by rw [v1.out, decide_eq_false (by omega)]; rfl, by rw [v2.out, v3.out]; exact hp, HG.out.trans hg⟩
theorem fail_any (w : World) (g B : Nat) (l : List Nat) (e f : Nat) (h : PR w g B l e) (hB : B ≤ g) (hf : f ≠ 0) :
    Calls Try.prog 17 #[.pointer (some ⟨g, 0, none⟩), .int .i64 (f : Int)] w (PPost w g B (.tuple #[]) [] (stopE e f)) := by
  have HP := Lib.hid h
  clear h
  go_enter Try.func17, Try.ntmps17
  go_wp2_with fail
  refine (stop_any w g B l e f HP.out hB hf).mono ?_
  rintro r w' ⟨rfl, hp, hg⟩
  go_wp2
  go_end0
  exact ⟨rfl, hp, hg⟩
theorem left_any (w : World) (g B : Nat) (l : List Nat) (e : Nat) (h : PR w g B l e) :
    Calls Try.prog 21 #[.pointer (some ⟨g, 0, none⟩)] w fun r w' => r = .returned (.int .i64 ((l.length : Nat) : Int)) ∧ w = w' := by
  obtain ⟨A, n, c, h1, h2, h3, h4, h5, h6, h7⟩ := h
  have c0 := h1.cell 0
  simp at c0
  subst h3
  clear h1 h2 h6 h7
  go_enter Try.func21, Try.ntmps21
  go_wp2
  go_ret
  exact ⟨rfl, rfl⟩
theorem err_any (w : World) (g B : Nat) (l : List Nat) (e : Nat) (h : PR w g B l e) :
    Calls Try.prog 23 #[.pointer (some ⟨g, 0, none⟩)] w fun r w' => r = .returned (.int .i64 (e : Int)) ∧ w = w' := by
  obtain ⟨A, n, c, h1, h2, h3, h4, h5, h6, h7⟩ := h
  have c1 := h1.cell 1
  simp at c1
  clear h1 h2 h3 h6 h7
  go_enter Try.func23, Try.ntmps23
  go_wp2
  go_ret
  exact ⟨rfl, rfl⟩
theorem end_any (w : World) (g B : Nat) (l : List Nat) (e : Nat) (h : PR w g B l e) (hB : B ≤ g) :
    Calls Try.prog 19 #[.pointer (some ⟨g, 0, none⟩)] w (PPost w g B (.int .i64 ((endE l e : Nat) : Int)) [] (endE l e)) := by
  have HP := Lib.hid h
  obtain ⟨A, n, c, h1, h2, h3, h4, h5, h6, h7⟩ := h
  have c0 := h1.cell 0
  have c1 := h1.cell 1
  simp at c0 c1
  have H3 := Lib.hid h3
  clear h1 h2 h3 h6 h7
  by_cases hl : l = []
  · have v1 : Hid (endE l e = e) := if_pos hl
    have hn : n = 0 := by rw [← H3.out, hl]; rfl
    subst hn
    have HL := Lib.hid hl
    clear hl
    go_enter Try.func19, Try.ntmps19
    go_wp2
    go_ret
    exact ⟨by rw [v1.out]; rfl, by have := HP.out; rw [HL.out] at this; rw [v1.out]; exact this, turn_refl _ _⟩
  · have v1 : Hid (endE l e = stopE e 4) := if_neg hl
    have hn : 0 < n := by rw [← H3.out]; exact List.length_pos_iff.2 hl
    clear hl c1
    go_enter Try.func19, Try.ntmps19
    go_wp2_with fail
    refine (stop_any w g B l e 4 HP.out hB (by decide)).mono ?_
    rintro r w' ⟨rfl, hp, hg⟩
    have HP2 := Lib.hid hp
    obtain ⟨A', n', c', k1, _⟩ := hp
    have c1 := k1.cell 1
    simp at c1
    clear c0 k1
    go_wp2
    go_ret
    exact ⟨by rw [v1.out]; rfl, by rw [v1.out]; exact HP2.out, hg⟩
end Go.Proofs.Ytpleafcjacbkkaa.Nu
