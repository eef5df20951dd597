/- The contracts of the document's reader, going on: Flag, Text, End, Left. -/
import Derived.Test.YtpleafcjacbkkaaRef
namespace Go.Proofs.Ytpleafcjacbkkaa.Nu
open Go.ChangeShapes Go.WideShapes Go.ChangeAt Go.RowKit
set_option linter.unusedVariables false

theorem RR.bad {w : World} {h B n c e : Nat} {A : Option Addr} {b l : List Nat} (k : RR w h B A n c b l e) : w.cell? ⟨h, 2, none⟩ = some (.int .i64 (e : Int)) := by
  obtain ⟨p, h1, _⟩ := k
  have := h1.cell 2
  simpa using this
theorem RR.nil_of {w : World} {h B n c e : Nat} {A : Option Addr} {b l : List Nat} (k : RR w h B A n c b l e) (he : e ≠ 0) : l = [] := by
  obtain ⟨p, _, _, _, _, _, _, _, _, h9⟩ := k
  exact h9 he

theorem rflag_any (w : World) (h B : Nat) (A : Option Addr) (n c : Nat) (b l : List Nat) (e : Nat) (k : RR w h B A n c b l e) (hB : B ≤ h) :
    Calls Try.prog 14 #[.pointer (some ⟨h, 0, none⟩)] w (RPost w h B A n c b (.bool (flagV l)) (flagL l) (flagE l e)) := by
  have HP := Lib.hid k
  clear k
  by_cases hm : byteV l ≤ 1
  · have v2 : Hid (flagL l = byteL l) := if_pos hm
    have v3 : Hid (flagE l e = byteE l e) := if_pos hm
    have v1 : Hid (flagV l = decide (byteV l = 1)) := rfl
    have v4 : Hid (byteV l = 1 → byteE l e = 0) := by
      intro h1
      cases l with
      | nil => cases h1
      | cons x r =>
        have he : e = 0 := by
          rcases Nat.eq_zero_or_pos e with h0 | h0
          · exact h0
          · have := HP.out.nil_of (by omega); cases this
        rw [he]; rfl
    go_enter Try.func14, Try.ntmps14
    go_wp2_with fail
    refine (rbyte_m w h B A n c b l e HP.out hB).mono ?_
    rintro r w' ⟨rfl, hp, hg⟩
    have HP2 := Lib.hid hp
    have HG := Lib.hid hg
    have c2 := hp.bad
    clear hp hg
    generalize byteV l = v at *
    rcases Nat.eq_zero_or_pos v with h0 | h0
    · subst h0
      by_cases he : byteE l e = 0
      · rw [he] at c2
        clear he
        go_wp2
        go_ret
        exact ⟨by rw [v1.out]; rfl, by rw [v2.out, v3.out]; exact HP2.out, HG.out⟩
      · have heb : (((byteE l e : Nat) : Int) == 0) = false := by rw [beq_eq_false_iff_ne]; omega
        clear he
        generalize byteE l e = e1 at *
        go_wp2
        go_ret
        exact ⟨by rw [v1.out]; rfl, by rw [v2.out, v3.out]; exact HP2.out, HG.out⟩
    · obtain rfl : v = 1 := by omega
      have he := v4.out rfl
      rw [he] at c2
      clear he
      go_wp2
      go_ret
      exact ⟨by rw [v1.out]; rfl, by rw [v2.out, v3.out]; exact HP2.out, HG.out⟩
  · have v2 : Hid (flagL l = []) := if_neg hm
    have v3 : Hid (flagE l e = stopE (byteE l e) 4) := if_neg hm
    have v1 : Hid (flagV l = decide (byteV l = 1)) := rfl
    go_enter Try.func14, Try.ntmps14
    go_wp2_with fail
    refine (rbyte_m w h B A n c b l e HP.out hB).mono ?_
    rintro r w' ⟨rfl, hp, hg⟩
    have HP2 := Lib.hid hp
    have HG := Lib.hid hg
    clear hp hg
    generalize byteV l = v at *
    have d0 : decide ((1 : Int) < (v : Int)) = true := decide_eq_true (by omega)
    go_wp2_with fail
    refine (rfail_any w' h B A n c b _ _ 4 HP2.out hB (by decide)).mono ?_
    rintro r w2 ⟨rfl, hp, hg⟩
    have c2 := hp.bad
    have HP3 := Lib.hid hp
    have HG3 := Lib.hid hg
    have hne : (((stopE (byteE l e) 4 : Nat) : Int) == 0) = false := by
      rw [beq_eq_false_iff_ne]
      unfold stopE
      split <;> omega
    clear hp hg
    generalize stopE (byteE l e) 4 = e2 at *
    go_wp2
    go_ret
    exact ⟨by rw [v1.out, decide_eq_false (by omega)]; rfl, by rw [v2.out, v3.out]; exact HP3.out, HG.out.trans HG3.out⟩

/-- Left: nothing turns but what is drawn. -/
theorem rleft_any (w : World) (h B : Nat) (A : Option Addr) (n c : Nat) (b l : List Nat) (e : Nat) (k : RR w h B A n c b l e) :
    Calls Try.prog 22 #[.pointer (some ⟨h, 0, none⟩)] w fun r w' => r = .returned (.int .i64 ((l.length : Nat) : Int)) ∧ ∃ m, w' = w.drewN m := by
  obtain ⟨p, h1, h2, h3, h4, h5, h6, h7, h8, h9⟩ := k
  have c0 := h1.cell 0
  have c1 := h1.cell 1
  have c2 := h1.cell 2
  simp at c0 c1 c2
  by_cases he : e = 0
  · obtain ⟨q, hq⟩ : ∃ q, l.length = q := ⟨_, rfl⟩
    have hl := h8 he
    subst he
    have hn : n = p + q := by rw [hl, List.length_drop] at hq; omega
    rw [hq]
    have s1 : (n : Int) - (p : Int) = (q : Int) := by omega
    have s2 : IntKind.i64.wrap ((n : Int) - (p : Int)) = (q : Int) := by rw [s1, IntKind.wrap_i64]; omega
    clear h1 h2 h3 h6 h8 h9 hl hq hn
    go_enter Try.func22, Try.ntmps22
    go_wp2_with fail
    go_quiet (fail)
    go_wp2
    go_ret
    exact ⟨rfl, _, rfl⟩
  · have heb : ((e : Int) != 0) = true := by rw [bne_iff_ne]; omega
    have hl := h9 he
    rw [hl]
    clear h1 h2 h3 h6 h8 h9 hl
    go_enter Try.func22, Try.ntmps22
    go_wp2
    go_ret
    exact ⟨rfl, 0, rfl⟩

theorem rend_any (w : World) (h B : Nat) (A : Option Addr) (n c : Nat) (b l : List Nat) (e : Nat) (k : RR w h B A n c b l e) (hB : B ≤ h) :
    Calls Try.prog 20 #[.pointer (some ⟨h, 0, none⟩)] w (RPost w h B A n c b (.int .i64 ((endE l e : Nat) : Int)) [] (endE l e)) := by
  have HP := Lib.hid k
  clear k
  have c2 := HP.out.bad
  by_cases hl : l = []
  · have v1 : Hid (endE l e = e) := if_pos hl
    have hn : l.length = 0 := by rw [hl]; rfl
    have HL := Lib.hid hl
    clear hl
    go_enter Try.func20, Try.ntmps20
    go_wp2_with fail
    refine (rleft_any w h B A n c b l e HP.out).mono ?_
    rintro r w' ⟨rfl, m, rfl⟩
    rw [hn]
    clear hn
    go_wp2
    go_ret
    exact ⟨by rw [v1.out]; rfl, by have := HP.out.drewN m; rw [HL.out] at this; rw [v1.out]; exact this, turn_drewN _ _ _⟩
  · have v1 : Hid (endE l e = stopE e 4) := if_neg hl
    have hn : 0 < l.length := List.length_pos_iff.2 hl
    clear hl c2
    go_enter Try.func20, Try.ntmps20
    go_wp2_with fail
    refine (rleft_any w h B A n c b l e HP.out).mono ?_
    rintro r w' ⟨rfl, m, rfl⟩
    obtain ⟨q, hq⟩ : ∃ q, l.length = q := ⟨_, rfl⟩
    rw [hq] at hn ⊢
    clear hq
    go_wp2_with fail
    refine (rfail_any _ h B A n c b l e 4 (HP.out.drewN m) hB (by decide)).mono ?_
    rintro r w2 ⟨rfl, hp, hg⟩
    have HP2 := Lib.hid hp
    have HG := Lib.hid hg
    have c2 := hp.bad
    clear hp hg
    go_wp2
    go_ret
    exact ⟨by rw [v1.out]; rfl, by rw [v1.out]; exact HP2.out, (turn_drewN _ _ _).trans HG.out⟩
end Go.Proofs.Ytpleafcjacbkkaa.Nu
