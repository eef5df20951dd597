/- The contracts of the document's reader: what each of its methods tells, and how far it has read. For every list of bytes; nothing but the reader's own block has turned. -/
import Derived.Test.YtpleafcjacbkkaaText
namespace Go.Proofs.Ytpleafcjacbkkaa.Nu
open Go.ChangeShapes Go.WideShapes Go.ChangeAt Go.RowKit
set_option linter.unusedVariables false

/-- the document's reader in block h, of the bytes b at A, which lie below block B: what is left, and the first error. -/
def RR (w : World) (h B : Nat) (A : Option Addr) (n c : Nat) (b l : List Nat) (e : Nat) : Prop :=
  ∃ k : Nat, At w h 27 #[.slice A n c, .int .i64 (k : Int), .int .i64 (e : Int)] ∧ Bytes w B A b ∧ b.length = n ∧ n ≤ 9223372036854775807 ∧ n ≤ c ∧ (A = none → c = 0) ∧ k ≤ n ∧ (e = 0 → l = b.drop k) ∧ (e ≠ 0 → l = [])
def RPost (w : World) (h B : Nat) (A : Option Addr) (n c : Nat) (b : List Nat) (v : Value) (l : List Nat) (e : Nat) (r : Ending) (w' : World) : Prop :=
  r = .returned v ∧ RR w' h B A n c b l e ∧ w.grownBy w' (some h)
theorem RR.kept {w w' : World} {h B n c e : Nat} {A : Option Addr} {b l : List Nat} {row : Option Nat} (k : RR w h B A n c b l e) (hg : w.grownBy w' row) (hB : B ≤ w.heap.size) (hne : some h ≠ row) (hr : ∀ k, row = some k → B ≤ k) : RR w' h B A n c b l e := by
  obtain ⟨p, h1, h2, h3⟩ := k
  exact ⟨p, h1.kept hg hne, h2.kept hg hB hr, h3⟩
theorem RR.drewN {w : World} {h B n c e : Nat} {A : Option Addr} {b l : List Nat} (k : RR w h B A n c b l e) (m : Nat) : RR (w.drewN m) h B A n c b l e := by
  obtain ⟨p, h1, h2, h3⟩ := k
  exact ⟨p, h1, h2.below (below_drewN _ _ _), h3⟩
theorem RR.lt {w : World} {h B n c e : Nat} {A : Option Addr} {b l : List Nat} (k : RR w h B A n c b l e) : h < w.heap.size := by
  obtain ⟨p, h1, h2, h3⟩ := k
  exact h1.lt
theorem RR.small {w : World} {h B n c e : Nat} {A : Option Addr} {b l : List Nat} (k : RR w h B A n c b l e) : Small l := by
  obtain ⟨p, h1, h2, h3, h4, h5, h6, h7, h8, h9⟩ := k
  by_cases he : e = 0
  · rw [h8 he]; exact small_drop h2.1 p
  · rw [h9 he]; intro x hx; cases hx

theorem rfail_any (w : World) (h B : Nat) (A : Option Addr) (n c : Nat) (b l : List Nat) (e f : Nat) (k : RR w h B A n c b l e) (hB : B ≤ h) (hf : f ≠ 0) :
    Calls Try.prog 18 #[.pointer (some ⟨h, 0, none⟩), .int .i64 (f : Int)] w (RPost w h B A n c b (.tuple #[]) [] (stopE e f)) := by
  have HK := Lib.hid k
  obtain ⟨p, h1, h2, h3, h4, h5, h6, h7, h8, h9⟩ := k
  have c2 := h1.cell 2
  have f2 := h1.frozen 2
  simp at c2
  have H1 := Lib.hid h1
  have H2 := Lib.hid h2
  have H3 := Lib.hid h3
  have H6 := Lib.hid h6
  clear h1 h2 h3 h6 h8 h9
  by_cases he : e = 0
  · subst he
    go_enter Try.func18, Try.ntmps18
    go_wp2
    go_end0
    refine ⟨rfl, ⟨p, H1.out.set 2 _, H2.out.below ((Below.refl B w).setCell hB _), H3.out, h4, h5, H6.out, h7, fun h0 => absurd h0 ?_, fun _ => rfl⟩, turn_set _ _ _ _⟩
    rw [stop_zero]; exact hf
  · have heb : ((e : Int) == 0) = false := by rw [beq_eq_false_iff_ne]; omega
    go_enter Try.func18, Try.ntmps18
    go_wp2
    go_end0
    have hl : l = [] := by obtain ⟨_, _, _, _, _, _, _, _, _, h9⟩ := HK.out; exact h9 he
    refine ⟨rfl, ?_, turn_refl _ _⟩
    rw [stop_some he, ← hl]
    exact HK.out

theorem says_quiet {f : FuncId} {args : Array Value} {w : World} {n v y z : Nat} (h : Calls Try.prog f args (w.drewN n) (Says (w.drewN n) v y z)) :
    Calls Try.prog f args (w.drewN n) fun e w'' => e = .returned (.tuple #[.int .u64 (v : Int), .int .i64 (y : Int), .int .i64 (z : Int)]) ∧ ∃ m, w'' = w.drewN m := Calls.quiet_of h
theorem drop_at {b : List Nat} {p x : Nat} (h : b[p]? = some x) : b.drop p = x :: b.drop (p + 1) := by
  obtain ⟨hp, e⟩ := List.getElem?_eq_some_iff.1 h
  rw [List.drop_eq_getElem_cons hp, e]

set_option maxHeartbeats 1000000 in
theorem rnum_any (w : World) (h B : Nat) (A : Option Addr) (n c : Nat) (b l : List Nat) (e : Nat) (k : RR w h B A n c b l e) (hB : B ≤ h) :
    Calls Try.prog 8 #[.pointer (some ⟨h, 0, none⟩)] w (RPost w h B A n c b (.int .u64 ((numV l : Nat) : Int)) (numL l) (stopE e (numE l))) := by
  have HK := Lib.hid k
  obtain ⟨p, h1, h2, h3, h4, h5, h6, h7, h8, h9⟩ := k
  have c0 := h1.cell 0
  have c1 := h1.cell 1
  have c2 := h1.cell 2
  have f1 := h1.frozen 1
  simp at c0 c1 c2
  have H1 := Lib.hid h1
  have H2 := Lib.hid h2
  have H3 := Lib.hid h3
  have H6 := Lib.hid h6
  clear h1 h2 h3 h6
  by_cases he : e = 0
  · have hl := Lib.hid (h8 he)
    clear h8 h9
    subst he
    by_cases hp : p = n
    · subst hp
      have hl0 : Hid (l = []) := by show _ = _; rw [hl.out]; exact List.drop_eq_nil_of_le (by rw [H3.out]; exact Nat.le_refl _)
      go_enter Try.func8, Try.ntmps8
      go_wp2_with fail
      go_quiet ((go_at_call 36; exact says_quiet (rread_end _ A p c h4)))
      go_wp2_with fail
      refine (rfail_any _ h B A p c b l 0 2 (HK.out.drewN _) hB (by decide)).mono ?_
      rintro r w' ⟨rfl, hp, hg⟩
      clear c0 c1 c2 f1
      go_wp2
      go_ret
      refine ⟨?_, ?_, (turn_drewN w _ _).trans hg⟩
      · rw [hl0.out]; rfl
      · rw [hl0.out]; exact hp
    · have hpn : p < n := by omega
      obtain ⟨ad, x, rfl, hx8, hx, _⟩ := H2.out.at_ (k := p) (by rw [H3.out]; exact hpn)
      have hlx : Hid (l = x :: b.drop (p + 1)) := by show _ = _; rw [hl.out]; exact drop_at hx
      obtain ⟨v, y, f, hw⟩ := what_is x (b.drop (p + 1)) p
      obtain ⟨k1, k2, k3, k4⟩ := what_num hw
      have HX := Lib.hid hx
      have HW := Lib.hid hw
      have K1 := Lib.hid k1
      have K2 := Lib.hid k2
      have K3 := Lib.hid k3
      have K4 := Lib.hid k4
      have HB2 : Hid (∀ m, Bytes (w.drewN m) (w.drewN m).heap.size (some ad) b) := fun m => (H2.out.more (by have := H1.out.lt; show B ≤ w.heap.size; omega)).below (below_drewN _ w m)
      clear hx hw k1 k2 k3 k4
      go_enter Try.func8, Try.ntmps8
      go_wp2_with fail
      go_quiet ((go_at_call 36; exact says_quiet (rread_some _ ad b n c p x v y f H3.out h4 (HB2.out _) hpn HX.out HW.out)))
      by_cases hf : f = 0
      · obtain ⟨q1, q2, q3, q4⟩ := K3.out hf
        subst hf
        have Q2 := Lib.hid q2
        have Q3 := Lib.hid q3
        have Q4 := Lib.hid q4
        clear q1 q2 q3 q4
        go_wp2
        go_ret
        have hlen : (b.drop (p + 1)).length = n - (p + 1) := by rw [List.length_drop, H3.out]
        have e0 : stopE 0 (numE l) = 0 := by rw [hlx.out, K2.out, stop_zero]
        rw [e0]
        refine ⟨?_, ⟨y, (show At (w.drewN nq) h 27 _ from H1.out).set 1 _, (H2.out.below (below_drewN _ w nq)).below ((Below.refl B _).setCell hB _), H3.out, h4, h5, H6.out, ?_, ?_, ?_⟩, (turn_drewN w _ _).trans (turn_set _ _ _ _)⟩
        · rw [hlx.out, K1.out]; rfl
        · have := Q2.out; rw [hlen] at this; have := Q3.out; omega
        · intro _; rw [hlx.out, Q4.out, Q3.out, List.drop_drop]
        · intro h0; exact absurd rfl h0
      · obtain ⟨q1, q2⟩ := K4.out hf
        subst q1
        have Q2 := Lib.hid q2
        clear q2
        have hfb : ((f : Int) != 0) = true := by rw [bne_iff_ne]; omega
        go_wp2_with fail
        refine (rfail_any _ h B (some ad) n c b l 0 f (HK.out.drewN _) hB hf).mono ?_
        rintro r w' ⟨rfl, hp, hg⟩
        clear c0 c1 c2 f1
        go_wp2
        go_ret
        refine ⟨?_, ?_, (turn_drewN w _ _).trans hg⟩
        · rw [hlx.out, K1.out]; rfl
        · rw [hlx.out, Q2.out, K2.out]; exact hp
  · have heb : ((e : Int) != 0) = true := by rw [bne_iff_ne]; omega
    have hl := Lib.hid (h9 he)
    clear h8 h9
    go_enter Try.func8, Try.ntmps8
    go_wp2
    go_ret
    refine ⟨?_, ?_, turn_refl _ _⟩
    · rw [hl.out]; rfl
    · have := HK.out
      rw [hl.out] at this ⊢
      rw [stop_some he]
      exact this

theorem rupto_any (w : World) (h B : Nat) (A : Option Addr) (n c : Nat) (b l : List Nat) (e m : Nat) (k : RR w h B A n c b l e) (hB : B ≤ h) :
    Calls Try.prog 10 #[.pointer (some ⟨h, 0, none⟩), .int .u64 (m : Int)] w (RPost w h B A n c b (.int .u64 ((uptoV m l : Nat) : Int)) (uptoL m l) (uptoE m l e)) := by
  have HP := Lib.hid k
  clear k
  by_cases hm : m < numV l
  · have v1 : Hid (uptoV m l = 0) := if_pos hm
    have v2 : Hid (uptoL m l = []) := if_pos hm
    have v3 : Hid (uptoE m l e = stopE (stopE e (numE l)) 4) := if_pos hm
    go_enter Try.func10, Try.ntmps10
    go_wp2_with fail
    refine (rnum_any w h B A n c b l e HP.out hB).mono ?_
    rintro r w' ⟨rfl, hp, hg⟩
    have HP2 := Lib.hid hp
    have HG := Lib.hid hg
    have hd : decide (m < numV l) = true := decide_eq_true hm
    clear hp hg
    generalize numV l = v at *
    go_wp2_with fail
    refine (rfail_any w' h B A n c b _ _ 4 HP2.out hB (by decide)).mono ?_
    rintro r w2 ⟨rfl, hp, hg⟩
    go_wp2
    go_ret
    exact ⟨by rw [v1.out]; rfl, by rw [v2.out, v3.out]; exact hp, HG.out.trans hg⟩
  · have v1 : Hid (uptoV m l = numV l) := if_neg hm
    have v2 : Hid (uptoL m l = numL l) := if_neg hm
    have v3 : Hid (uptoE m l e = stopE e (numE l)) := if_neg hm
    go_enter Try.func10, Try.ntmps10
    go_wp2_with fail
    refine (rnum_any w h B A n c b l e HP.out hB).mono ?_
    rintro r w' ⟨rfl, hp, hg⟩
    have HP2 := Lib.hid hp
    have HG := Lib.hid hg
    have hd : decide (m < numV l) = false := decide_eq_false hm
    clear hp hg
    generalize numV l = v at *
    go_wp2
    go_ret
    exact ⟨by rw [v1.out]; rfl, by rw [v2.out, v3.out]; exact HP2.out, HG.out⟩

set_option maxHeartbeats 1000000 in
theorem rbyte_m (w : World) (h B : Nat) (A : Option Addr) (n c : Nat) (b l : List Nat) (e : Nat) (k : RR w h B A n c b l e) (hB : B ≤ h) :
    Calls Try.prog 12 #[.pointer (some ⟨h, 0, none⟩)] w (RPost w h B A n c b (.int .u8 ((byteV l : Nat) : Int)) (byteL l) (byteE l e)) := by
  have HK := Lib.hid k
  obtain ⟨p, h1, h2, h3, h4, h5, h6, h7, h8, h9⟩ := k
  have c0 := h1.cell 0
  have c1 := h1.cell 1
  have c2 := h1.cell 2
  have f1 := h1.frozen 1
  simp at c0 c1 c2
  have H1 := Lib.hid h1
  have H2 := Lib.hid h2
  have H3 := Lib.hid h3
  have H6 := Lib.hid h6
  clear h1 h2 h3 h6
  by_cases he : e = 0
  · have hl := Lib.hid (h8 he)
    clear h8 h9
    subst he
    by_cases hp : p = n
    · subst hp
      have hl0 : Hid (l = []) := by show _ = _; rw [hl.out]; exact List.drop_eq_nil_of_le (by rw [H3.out]; exact Nat.le_refl _)
      go_enter Try.func12, Try.ntmps12
      go_wp2_with fail
      go_quiet (fail)
      go_wp2_with fail
      refine (rfail_any _ h B A p c b l 0 2 (HK.out.drewN _) hB (by decide)).mono ?_
      rintro r w' ⟨rfl, hp, hg⟩
      clear c0 c1 c2 f1
      go_wp2
      go_ret
      refine ⟨?_, ?_, (turn_drewN w _ _).trans hg⟩
      · rw [hl0.out]; rfl
      · rw [hl0.out]; exact hp
    · have hpn : p < n := by omega
      obtain ⟨ad, x, rfl, hx8, hx, hcell⟩ := H2.out.at_ (k := p) (by rw [H3.out]; exact hpn)
      have hlx : Hid (l = x :: b.drop (p + 1)) := by show _ = _; rw [hl.out]; exact drop_at hx
      have hblk : Hid (ad.block < B) := by
        obtain ⟨ad', e1, hb', _⟩ := H2.out.2 (by rw [H3.out]; omega)
        obtain rfl := Option.some.inj e1
        exact hb'
      have HX := Lib.hid hx
      have HC := Lib.hid hcell
      have dg : decide ((n : Int) ≤ (p : Int)) = false := decide_eq_false (by omega)
      have dg2 : decide (n ≤ p) = false := decide_eq_false (by omega)
      clear hx hcell
      go_enter Try.func12, Try.ntmps12
      go_wp2_with fail
      go_quiet (fail)
      go_wp2_with fail
      have HA := Lib.hid ((show At (w.drewN nq) h 27 _ from H1.out).set 1 (.int .i64 ((p : Int) + 1)))
      have HB2 := Lib.hid ((H2.out.below (below_drewN _ w nq)).below ((Below.refl B _).setCell (p := ⟨h, 1, none⟩) hB (.int .i64 ((p : Int) + 1))))
      have HT := Lib.hid ((turn_drewN w nq (some h)).trans (turn_set _ h 1 (.int .i64 ((p : Int) + 1))))
      generalize (w.drewN nq).setCell ⟨h, 1, none⟩ (.int .i64 ((p : Int) + 1)) = W at *
      have d0 := HA.out.cell 0
      have d1 := HA.out.cell 1
      simp at d0 d1
      obtain ⟨ad', x', e1, _, hx', d2⟩ := HB2.out.at_ (k := p) (by rw [H3.out]; exact hpn)
      obtain rfl := Option.some.inj e1
      obtain rfl : x = x' := Option.some.inj (HX.out.symm.trans hx')
      have s1 : (p : Int) + 1 - 1 = (p : Int) := by omega
      have s2 : IntKind.i64.wrap ((p : Int) + 1 - 1) = (p : Int) := by rw [s1, IntKind.wrap_i64]; omega
      have s3 : (0 : Int) ≤ (p : Int) := by omega
      have s4 : (p : Int) < (n : Int) := by omega
      clear c0 c1 c2 f1 hx' dg dg2
      go_quiet (fail)
      go_wp2
      go_ret
      refine ⟨?_, ⟨p + 1, ?_, HB2.out.below (below_drewN _ W nq), H3.out, h4, h5, H6.out, hpn, ?_, ?_⟩, HT.out.trans (turn_drewN W _ _)⟩
      · rw [hlx.out]; rfl
      · rw [hlx.out]; exact HA.out
      · intro _; rw [hlx.out]; rfl
      · intro h0; rw [hlx.out] at h0; exact absurd rfl h0
  · have heb : ((e : Int) != 0) = true := by rw [bne_iff_ne]; omega
    have hl := Lib.hid (h9 he)
    clear h8 h9
    go_enter Try.func12, Try.ntmps12
    go_wp2
    go_ret
    refine ⟨?_, ?_, turn_refl _ _⟩
    · rw [hl.out]; rfl
    · have := HK.out
      rw [hl.out] at this ⊢
      have hb0 : byteE [] e = e := stop_some he 2
      rw [hb0]
      exact this
end Go.Proofs.Ytpleafcjacbkkaa.Nu
