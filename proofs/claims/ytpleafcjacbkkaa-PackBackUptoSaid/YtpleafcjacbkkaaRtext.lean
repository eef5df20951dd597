/- The contract of the document's reader: Text. -/
import Derived.Test.YtpleafcjacbkkaaRef2
namespace Go.Proofs.Ytpleafcjacbkkaa.Nu
open Go.ChangeShapes Go.WideShapes Go.ChangeAt Go.RowKit
set_option linter.unusedVariables false

theorem wrap_sub (n p q : Nat) (h : n = p + q) (hn : n ≤ 9223372036854775807) : IntKind.i64.wrap ((n : Int) - (p : Int)) = (q : Int) := by
  rw [IntKind.wrap_i64]; omega
theorem stop_ne {e f : Nat} (hf : f ≠ 0) : stopE e f ≠ 0 := by
  unfold stopE
  split
  · exact hf
  · assumption
/-- the bytes from one place to another, as a text. -/
theorem rtext_done {W : World} {B n c p v : Nat} {ad : Addr} {b l : List Nat} (hb : Bytes W B (some ad) b) (hn : b.length = n) (hc : n ≤ c) (hpv : p + v ≤ n) (hl : l = b.drop p) :
    (c = p → ∀ m, (convert 22 9 (.slice (some ad) 0 0)).run Try.prog (W.drewN m) = .ok (.string (str (l.take 0))) (W.drewN m)) ∧
    (¬ c = p → ∀ m, (convert 22 9 (.slice (some (ad.add p)) v (c - p))).run Try.prog (W.drewN m) = .ok (.string (str (l.take v))) (W.drewN m)) := by
  refine ⟨fun _ m => conv (l := []) (Bytes.none_ _ B _) 0 0 rfl, fun _ m => conv (B := B) ?_ v (c - p) ?_⟩
  · rw [hl]; exact ((hb.below (below_drewN _ W m)).drop p).take v
  · rw [hl, List.length_take, List.length_drop]; omega
theorem rtext_end {W : World} {h B n c p v : Nat} {ad : Addr} {b l : List Nat} (h1 : At W h 27 (#[.slice (some ad) n c, .int .i64 (p : Int), .int .i64 ((0 : Nat) : Int)].setIfInBounds 1 (.int .i64 ((p : Int) + (v : Int)))))
    (hb : Bytes W B (some ad) b) (hn : b.length = n) (h4 : n ≤ 9223372036854775807) (hc : n ≤ c) (hpv : p + v ≤ n) (hl : l = b.drop p) : RR W h B (some ad) n c b (l.drop v) 0 :=
  ⟨p + v, by simpa using h1, hb, hn, h4, hc, fun h => (by cases h), hpv, fun _ => by rw [hl, List.drop_drop], fun h => absurd rfl h⟩
/-- when nothing was read, nothing is told. -/
theorem num_bad {w : World} {h B n c e : Nat} {A : Option Addr} {b l : List Nat} (k : RR w h B A n c b l e) (he : stopE e (numE l) ≠ 0) : numV l = 0 ∧ numL l = [] := by
  by_cases h0 : e = 0
  · subst h0
    rw [stop_zero] at he
    exact ⟨(numL_bad he).2, (numL_bad he).1⟩
  · rw [k.nil_of h0]; exact ⟨rfl, rfl⟩
theorem num_good {w : World} {h B n c e : Nat} {A : Option Addr} {b l : List Nat} (k : RR w h B A n c b l e) (he : stopE e (numE l) = 0) : ∃ ad, A = some ad := by
  obtain ⟨p, h1, h2, h3, h4, h5, h6, h7, h8, h9⟩ := k
  by_cases h0 : e = 0
  · subst h0
    rw [stop_zero] at he
    have hl := h8 rfl
    cases A with
    | some ad => exact ⟨ad, rfl⟩
    | none =>
      have hc := h6 rfl
      have hb : b = [] := List.eq_nil_of_length_eq_zero (by omega)
      rw [hl, hb, List.drop_nil] at he
      cases he
  · rw [stop_some h0] at he; exact absurd he h0

set_option maxHeartbeats 2000000 in
theorem rtext_any (w : World) (h B : Nat) (A : Option Addr) (n c : Nat) (b l : List Nat) (e : Nat) (m : Int) (k : RR w h B A n c b l e) (hB : B ≤ h) (hc : c ≤ 9223372036854775807) (m0 : -9223372036854775808 ≤ m) (m1 : m ≤ 9223372036854775807) :
    Calls Try.prog 16 #[.pointer (some ⟨h, 0, none⟩), .int .i64 m] w (RPost w h B A n c b (.string (str (textV m l))) (textL m l) (textE m l e)) := by
  have HP := Lib.hid k
  clear k
  have hs := Lib.hid HP.out.small
  have hv := numV_lt hs.out
  have hbad := Lib.hid (num_bad HP.out)
  have hgood := Lib.hid (num_good HP.out)
  by_cases hm : m.toNat < numV l
  · have v1 : Hid (textV m l = []) := if_pos hm
    have v2 : Hid (textL m l = []) := if_pos hm
    have v3 : Hid (textE m l e = stopE (stopE e (numE l)) 3) := if_pos hm
    have hne : (((stopE (stopE e (numE l)) 3 : Nat) : Int) == 0) = false := by
      rw [beq_eq_false_iff_ne]; have := stop_ne (e := stopE e (numE l)) (show 3 ≠ 0 by decide); omega
    have hnb : (((stopE (stopE e (numE l)) 3 : Nat) : Int) != 0) = true := by
      rw [bne_iff_ne]; have := stop_ne (e := stopE e (numE l)) (show 3 ≠ 0 by decide); omega
    have hnd : decide (m < 0) = true ∨ decide (m < 0) = false := by cases decide (m < 0) <;> simp
    go_enter Try.func16, Try.ntmps16
    go_wp2_with fail
    refine (rnum_any w h B A n c b l e HP.out hB).mono ?_
    rintro r w' ⟨rfl, hp, hg⟩
    have HP2 := Lib.hid hp
    have HG := Lib.hid hg
    clear hp hg
    generalize numV l = v at *
    by_cases hm0 : m < 0
    · have d : decide (0 < v) = true := decide_eq_true (by omega)
      clear hm hnd
      go_wp2_with fail
      refine (rfail_any w' h B A n c b _ _ 3 HP2.out hB (by decide)).mono ?_
      rintro r w2 ⟨rfl, hp, hg⟩
      have c2 := hp.bad
      have HP3 := Lib.hid hp
      have HG3 := Lib.hid hg
      clear hp hg
      generalize stopE (stopE e (numE l)) 3 = e2 at *
      go_wp2_with fail
      go_quiet (fail)
      go_wp2
      go_ret
      exact ⟨by rw [v1.out]; rfl, by rw [v2.out, v3.out]; exact HP3.out.drewN _, (HG.out.trans HG3.out).trans (turn_drewN _ _ _)⟩
    · obtain ⟨j, rfl⟩ := Int.eq_ofNat_of_zero_le (by omega : 0 ≤ m)
      rw [Int.toNat_natCast] at hm
      have d : decide (j < v) = true := decide_eq_true hm
      have d2 : ¬ (j : Int) < 0 := hm0
      clear hnd
      go_wp2_with fail
      refine (rfail_any w' h B A n c b _ _ 3 HP2.out hB (by decide)).mono ?_
      rintro r w2 ⟨rfl, hp, hg⟩
      have c2 := hp.bad
      have HP3 := Lib.hid hp
      have HG3 := Lib.hid hg
      clear hp hg
      generalize stopE (stopE e (numE l)) 3 = e2 at *
      go_wp2_with fail
      go_quiet (fail)
      go_wp2
      go_ret
      exact ⟨by rw [v1.out]; rfl, by rw [v2.out, v3.out]; exact HP3.out.drewN _, (HG.out.trans HG3.out).trans (turn_drewN _ _ _)⟩
  · have v1 : Hid (textV m l = takeV (numV l) (numL l)) := if_neg hm
    have v2 : Hid (textL m l = takeL (numV l) (numL l)) := if_neg hm
    have v3 : Hid (textE m l e = takeE (numV l) (numL l) (stopE e (numE l))) := if_neg hm
    go_enter Try.func16, Try.ntmps16
    go_wp2_with fail
    refine (rnum_any w h B A n c b l e HP.out hB).mono ?_
    rintro r w' ⟨rfl, hp, hg⟩
    have HP2 := Lib.hid hp
    have HG := Lib.hid hg
    have c2 := hp.bad
    clear hp hg
    generalize numV l = v at *
    generalize numL l = l1 at *
    generalize stopE e (numE l) = e1 at *
    have hd : Hid ((m < 0 ∧ decide (0 < v) = false) ∨ ∃ j : Nat, m = j ∧ decide (j < v) = false) := by
      by_cases hm0 : m < 0
      · exact .inl ⟨hm0, decide_eq_false (by omega)⟩
      · obtain ⟨j, rfl⟩ := Int.eq_ofNat_of_zero_le (by omega : 0 ≤ m)
        rw [Int.toNat_natCast] at hm
        exact .inr ⟨j, rfl, decide_eq_false hm⟩
    clear hm
    by_cases he1 : e1 = 0
    · subst he1
      obtain ⟨ad, rfl⟩ := hgood.out rfl
      obtain ⟨p, h1, h2, h3, h4, h5, h6, h7, h8, h9⟩ := HP2.out
      have c0 := h1.cell 0
      have c1 := h1.cell 1
      have f1 := h1.frozen 1
      simp at c0 c1
      obtain ⟨q, hq⟩ : ∃ q, n = p + q := ⟨n - p, by omega⟩
      have hl1 := h8 rfl
      have hlen : l1.length = q := by rw [hl1, List.length_drop]; omega
      have s1 : (n : Int) - (p : Int) = (q : Int) := by omega
      have s2 := wrap_sub n p q hq h4
      have HL := Lib.hid hlen
      have HL1 := Lib.hid hl1
      have H1 := Lib.hid h1
      have H2 := Lib.hid h2
      have H3 := Lib.hid h3
      have HQ := Lib.hid hq
      have hqn : q ≤ 9223372036854775807 := by omega
      clear h1 h2 h3 h6 h8 h9 hl1 hlen hq
      by_cases hvq : v ≤ q
      · have dq : decide (q < v) = false := decide_eq_false (by omega)
        have hpq : p + v ≤ n := by have := HQ.out; omega
        have t1 : Hid (takeV v l1 = l1.take v) := if_pos (by rw [HL.out]; exact hvq)
        have t2 : Hid (takeL v l1 = l1.drop v) := if_pos (by rw [HL.out]; exact hvq)
        have t3 : Hid (takeE v l1 0 = 0) := if_pos (by rw [HL.out]; exact hvq)
        rcases hd.out with ⟨hm0, d⟩ | ⟨j, rfl, d⟩
        · go_wp2_with fail
          go_quiet (fail)
          go_wp2_with fail
          have HA := Lib.hid ((show At (w'.drewN nq) h 27 _ from H1.out).set 1 (.int .i64 ((p : Int) + (v : Int))))
          have HB2 := Lib.hid ((H2.out.below (below_drewN _ w' nq)).below ((Below.refl B _).setCell (p := ⟨h, 1, none⟩) hB (.int .i64 ((p : Int) + (v : Int)))))
          have HT := Lib.hid ((turn_drewN w' nq (some h)).trans (turn_set _ h 1 (.int .i64 ((p : Int) + (v : Int)))))
          generalize (w'.drewN nq).setCell ⟨h, 1, none⟩ (.int .i64 ((p : Int) + (v : Int))) = W at *
          have d0 := HA.out.cell 0
          have d1 := HA.out.cell 1
          simp at d0 d1
          have s3 : (0 : Int) ≤ (p : Int) := by omega
          have s4 : (p : Int) ≤ (p : Int) + (v : Int) := by omega
          have s5 : (p : Int) + (v : Int) ≤ (c : Int) := by omega
          have s6 : ((p : Int) + (v : Int)).toNat - p = v := by omega
          have s7 : (0 : Int) ≤ (p : Int) + (v : Int) := by omega
          have s8 : ((p : Int) + (v : Int)).toNat = p + v := by omega
          have HV := Lib.hid (rtext_done HB2.out H3.out h5 hpq HL1.out)
          clear c0 c1 c2 f1
          by_cases hcp : c = p
          · obtain rfl : v = 0 := by omega
            have hcv := HV.out.1 hcp
            subst hcp
            go_quiet (fail)
            go_wp2
            go_ret
            exact ⟨by rw [v1.out, t1.out]; rfl, by rw [v2.out, v3.out, t2.out, t3.out]; exact (rtext_end HA.out HB2.out H3.out h4 h5 hpq HL1.out).drewN _, HG.out.trans (HT.out.trans (turn_drewN _ _ _))⟩
          · have hcv := HV.out.2 hcp
            go_quiet (fail)
            go_wp2
            go_ret
            exact ⟨by rw [v1.out, t1.out]; rfl, by rw [v2.out, v3.out, t2.out, t3.out]; exact (rtext_end HA.out HB2.out H3.out h4 h5 hpq HL1.out).drewN _, HG.out.trans (HT.out.trans (turn_drewN _ _ _))⟩
        · go_wp2_with fail
          go_quiet (fail)
          go_wp2_with fail
          have HA := Lib.hid ((show At (w'.drewN nq) h 27 _ from H1.out).set 1 (.int .i64 ((p : Int) + (v : Int))))
          have HB2 := Lib.hid ((H2.out.below (below_drewN _ w' nq)).below ((Below.refl B _).setCell (p := ⟨h, 1, none⟩) hB (.int .i64 ((p : Int) + (v : Int)))))
          have HT := Lib.hid ((turn_drewN w' nq (some h)).trans (turn_set _ h 1 (.int .i64 ((p : Int) + (v : Int)))))
          generalize (w'.drewN nq).setCell ⟨h, 1, none⟩ (.int .i64 ((p : Int) + (v : Int))) = W at *
          have d0 := HA.out.cell 0
          have d1 := HA.out.cell 1
          simp at d0 d1
          have s3 : (0 : Int) ≤ (p : Int) := by omega
          have s4 : (p : Int) ≤ (p : Int) + (v : Int) := by omega
          have s5 : (p : Int) + (v : Int) ≤ (c : Int) := by omega
          have s6 : ((p : Int) + (v : Int)).toNat - p = v := by omega
          have s7 : (0 : Int) ≤ (p : Int) + (v : Int) := by omega
          have s8 : ((p : Int) + (v : Int)).toNat = p + v := by omega
          have HV := Lib.hid (rtext_done HB2.out H3.out h5 hpq HL1.out)
          clear c0 c1 c2 f1
          by_cases hcp : c = p
          · obtain rfl : v = 0 := by omega
            have hcv := HV.out.1 hcp
            subst hcp
            go_quiet (fail)
            go_wp2
            go_ret
            exact ⟨by rw [v1.out, t1.out]; rfl, by rw [v2.out, v3.out, t2.out, t3.out]; exact (rtext_end HA.out HB2.out H3.out h4 h5 hpq HL1.out).drewN _, HG.out.trans (HT.out.trans (turn_drewN _ _ _))⟩
          · have hcv := HV.out.2 hcp
            go_quiet (fail)
            go_wp2
            go_ret
            exact ⟨by rw [v1.out, t1.out]; rfl, by rw [v2.out, v3.out, t2.out, t3.out]; exact (rtext_end HA.out HB2.out H3.out h4 h5 hpq HL1.out).drewN _, HG.out.trans (HT.out.trans (turn_drewN _ _ _))⟩
      · have dq : decide (q < v) = true := decide_eq_true (by omega)
        have t1 : Hid (takeV v l1 = []) := if_neg (by rw [HL.out]; exact hvq)
        have t2 : Hid (takeL v l1 = []) := if_neg (by rw [HL.out]; exact hvq)
        have t3 : Hid (takeE v l1 0 = 2) := if_neg (by rw [HL.out]; exact hvq)
        rcases hd.out with ⟨hm0, d⟩ | ⟨j, rfl, d⟩
        · go_wp2_with fail
          go_quiet (fail)
          go_wp2_with fail
          refine (rfail_any _ h B (some ad) n c b _ _ 2 (HP2.out.drewN _) hB (by decide)).mono ?_
          rintro r w2 ⟨rfl, hp, hg⟩
          have c2' := hp.bad
          rw [stop_zero] at c2'
          have HP3 := Lib.hid hp
          have HG3 := Lib.hid hg
          clear hp hg c0 c1 c2 f1
          go_wp2
          go_ret
          exact ⟨by rw [v1.out, t1.out]; rfl, by rw [v2.out, v3.out, t2.out, t3.out]; exact HP3.out, HG.out.trans ((turn_drewN _ _ _).trans HG3.out)⟩
        · go_wp2_with fail
          go_quiet (fail)
          go_wp2_with fail
          refine (rfail_any _ h B (some ad) n c b _ _ 2 (HP2.out.drewN _) hB (by decide)).mono ?_
          rintro r w2 ⟨rfl, hp, hg⟩
          have c2' := hp.bad
          rw [stop_zero] at c2'
          have HP3 := Lib.hid hp
          have HG3 := Lib.hid hg
          clear hp hg c0 c1 c2 f1
          go_wp2
          go_ret
          exact ⟨by rw [v1.out, t1.out]; rfl, by rw [v2.out, v3.out, t2.out, t3.out]; exact HP3.out, HG.out.trans ((turn_drewN _ _ _).trans HG3.out)⟩
    · obtain ⟨rfl, rfl⟩ := hbad.out he1
      have hne : ((e1 : Int) == 0) = false := by rw [beq_eq_false_iff_ne]; omega
      have hnb : ((e1 : Int) != 0) = true := by rw [bne_iff_ne]; omega
      rcases hd.out with ⟨hm0, d⟩ | ⟨j, rfl, d⟩
      · go_wp2_with fail
        go_quiet (fail)
        go_wp2
        go_ret
        exact ⟨by rw [v1.out]; rfl, by rw [v2.out, v3.out]; exact HP2.out.drewN _, HG.out.trans (turn_drewN _ _ _)⟩
      · go_wp2_with fail
        go_quiet (fail)
        go_wp2
        go_ret
        exact ⟨by rw [v1.out]; rfl, by rw [v2.out, v3.out]; exact HP2.out.drewN _, HG.out.trans (turn_drewN _ _ _)⟩
end Go.Proofs.Ytpleafcjacbkkaa.Nu
