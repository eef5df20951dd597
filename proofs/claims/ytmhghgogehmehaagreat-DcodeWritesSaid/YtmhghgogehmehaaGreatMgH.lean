/- Words and contracts that the proofs of this seat stand on, part 8 of 20. -/
import Derived.Test.YtmhghgogehmehaaGreatMgF
import Derived.Test.YtmhghgogehmehaaGreatMgG
import Derived.StillTailTactics
import Derived.Deep.Cut
import Derived.Test.YtmhghgogehmehaaGreatMgC
import Derived.Deep.DeepCutAuto
import Derived.Test.YtmhghgogehmehaaGreatMgE
import Derived.Maps.RangeWalk
import Derived.Maps.OwnOps
import Derived.Maps.OwnSet
import Derived.Maps.Ext

/- The contracts of the document's reader: what each of its methods tells, and how far it has read. For every list of bytes; nothing but the reader's own block has turned. -/
namespace Go.Proofs.YtmhghgogehmehaaGreat.Nu
open Go.ChangeShapes Go.WideShapes Go.ChangeAt Go.RowKit
set_option linter.unusedVariables false
set_option maxRecDepth 4000

/-- the document's reader in block h, of the bytes b at A, which lie below block B: what is left, and the first error. -/
def RR (w : World) (h B : Nat) (A : Option Addr) (n c : Nat) (b l : List Nat) (e : Nat) : Prop :=
  ∃ k : Nat, At w h 49 #[.slice A n c, .int .i64 (k : Int), .int .i64 (e : Int)] ∧ Bytes w B A b ∧ b.length = n ∧ n ≤ 9223372036854775807 ∧ n ≤ c ∧ (A = none → c = 0) ∧ k ≤ n ∧ (e = 0 → l = b.drop k) ∧ (e ≠ 0 → l = [])
def RPost (w : World) (h B : Nat) (A : Option Addr) (n c : Nat) (b : List Nat) (v : Value) (l : List Nat) (e : Nat) (r : Ending) (w' : World) : Prop :=
  r = .returned v ∧ RR w' h B A n c b l e ∧ w.grownBy w' (some h)
theorem RR.kept {w w' : World} {h B n c e : Nat} {A : Option Addr} {b l : List Nat} {row : Option Nat} (k : RR w h B A n c b l e) (hg : w.grownBy w' row) (hB : B ≤ w.heap.size) (hne : some h ≠ row) (hr : ∀ k, row = some k → B ≤ k) : RR w' h B A n c b l e := by
  obtain ⟨p, h1, h2, h3⟩ := k
  exact ⟨p, h1.kept hg hne, h2.kept hg hB hr, h3⟩
theorem RR.drewN {w : World} {h B n c e : Nat} {A : Option Addr} {b l : List Nat} (k : RR w h B A n c b l e) (m : Nat) : RR (w.drewN m) h B A n c b l e := by
  obtain ⟨p, h1, h2, h3⟩ := k
  exact ⟨p, h1, h2.below (below_drewN _ _ _), h3⟩
theorem RR.lt {w : World} {h B n c e : Nat} {A : Option Addr} {b l : List Nat} (k : RR w h B A n c b l e) : h < w.heap.size := by
  obtain ⟨p, h1, h2, h3⟩ := k
  exact h1.lt
theorem RR.small {w : World} {h B n c e : Nat} {A : Option Addr} {b l : List Nat} (k : RR w h B A n c b l e) : Small l := by
  obtain ⟨p, h1, h2, h3, h4, h5, h6, h7, h8, h9⟩ := k
  by_cases he : e = 0
  · rw [h8 he]; exact small_drop h2.1 p
  · rw [h9 he]; intro x hx; cases hx

theorem rfail_any (w : World) (h B : Nat) (A : Option Addr) (n c : Nat) (b l : List Nat) (e f : Nat) (k : RR w h B A n c b l e) (hB : B ≤ h) (hf : f ≠ 0) :
    Calls Tryz.prog 47 #[.pointer (some ⟨h, 0, none⟩), .int .i64 (f : Int)] w (RPost w h B A n c b (.tuple #[]) [] (stopE e f)) := by
  have HK := Lib.hid k
  obtain ⟨p, h1, h2, h3, h4, h5, h6, h7, h8, h9⟩ := k
  have c2 := h1.cell 2
  have f2 := h1.frozen 2
  simp at c2
  have H1 := Lib.hid h1
  have H2 := Lib.hid h2
  have H3 := Lib.hid h3
  have H6 := Lib.hid h6
  clear h1 h2 h3 h6 h8 h9
  by_cases he : e = 0
  · subst he
    go_enter Tryz.func47, Tryz.ntmps47
    go_wp2
    go_end0
    refine ⟨rfl, ⟨p, H1.out.set 2 _, H2.out.below ((Below.refl B w).setCell hB _), H3.out, h4, h5, H6.out, h7, fun h0 => absurd h0 ?_, fun _ => rfl⟩, turn_set _ _ _ _⟩
    rw [stop_zero]; exact hf
  · have heb : ((e : Int) == 0) = false := by rw [beq_eq_false_iff_ne]; omega
    go_enter Tryz.func47, Tryz.ntmps47
    go_wp2
    go_end0
    have hl : l = [] := by obtain ⟨_, _, _, _, _, _, _, _, _, h9⟩ := HK.out; exact h9 he
    refine ⟨rfl, ?_, turn_refl _ _⟩
    rw [stop_some he, ← hl]
    exact HK.out

theorem says_quiet {f : FuncId} {args : Array Value} {w : World} {n v y z : Nat} (h : Calls Tryz.prog f args (w.drewN n) (Says (w.drewN n) v y z)) :
    Calls Tryz.prog f args (w.drewN n) fun e w'' => e = .returned (.tuple #[.int .u64 (v : Int), .int .i64 (y : Int), .int .i64 (z : Int)]) ∧ ∃ m, w'' = w.drewN m := Calls.quiet_of h
theorem drop_at {b : List Nat} {p x : Nat} (h : b[p]? = some x) : b.drop p = x :: b.drop (p + 1) := by
  obtain ⟨hp, e⟩ := List.getElem?_eq_some_iff.1 h
  rw [List.drop_eq_getElem_cons hp, e]

set_option maxHeartbeats 1000000 in
theorem rnum_any (w : World) (h B : Nat) (A : Option Addr) (n c : Nat) (b l : List Nat) (e : Nat) (k : RR w h B A n c b l e) (hB : B ≤ h) :
    Calls Tryz.prog 46 #[.pointer (some ⟨h, 0, none⟩)] w (RPost w h B A n c b (.int .u64 ((numV l : Nat) : Int)) (numL l) (stopE e (numE l))) := by
  have HK := Lib.hid k
  obtain ⟨p, h1, h2, h3, h4, h5, h6, h7, h8, h9⟩ := k
  have c0 := h1.cell 0
  have c1 := h1.cell 1
  have c2 := h1.cell 2
  have f1 := h1.frozen 1
  simp at c0 c1 c2
  have H1 := Lib.hid h1
  have H2 := Lib.hid h2
  have H3 := Lib.hid h3
  have H6 := Lib.hid h6
  clear h1 h2 h3 h6
  by_cases he : e = 0
  · have hl := Lib.hid (h8 he)
    clear h8 h9
    subst he
    by_cases hp : p = n
    · subst hp
      have hl0 : Hid (l = []) := by show _ = _; rw [hl.out]; exact List.drop_eq_nil_of_le (by rw [H3.out]; exact Nat.le_refl _)
      go_enter Tryz.func46, Tryz.ntmps46
      go_wp2_with fail
      go_quiet ((go_at_call 70; exact says_quiet (rread_end _ A p c h4)))
      go_wp2_with fail
      refine (rfail_any _ h B A p c b l 0 2 (HK.out.drewN _) hB (by decide)).mono ?_
      rintro r w' ⟨rfl, hp, hg⟩
      clear c0 c1 c2 f1
      go_wp2
      go_ret
      refine ⟨?_, ?_, (turn_drewN w _ _).trans hg⟩
      · rw [hl0.out]; rfl
      · rw [hl0.out]; exact hp
    · have hpn : p < n := by omega
      obtain ⟨ad, x, rfl, hx8, hx, _⟩ := H2.out.at_ (k := p) (by rw [H3.out]; exact hpn)
      have hlx : Hid (l = x :: b.drop (p + 1)) := by show _ = _; rw [hl.out]; exact drop_at hx
      obtain ⟨v, y, f, hw⟩ := what_is x (b.drop (p + 1)) p
      obtain ⟨k1, k2, k3, k4⟩ := what_num hw
      have HX := Lib.hid hx
      have HW := Lib.hid hw
      have K1 := Lib.hid k1
      have K2 := Lib.hid k2
      have K3 := Lib.hid k3
      have K4 := Lib.hid k4
      have HB2 : Hid (∀ m, Bytes (w.drewN m) (w.drewN m).heap.size (some ad) b) := fun m => (H2.out.more (by have := H1.out.lt; show B ≤ w.heap.size; omega)).below (below_drewN _ w m)
      clear hx hw k1 k2 k3 k4
      go_enter Tryz.func46, Tryz.ntmps46
      go_wp2_with fail
      go_quiet ((go_at_call 70; exact says_quiet (rread_some _ ad b n c p x v y f H3.out h4 (HB2.out _) hpn HX.out HW.out)))
      by_cases hf : f = 0
      · obtain ⟨q1, q2, q3, q4⟩ := K3.out hf
        subst hf
        have Q2 := Lib.hid q2
        have Q3 := Lib.hid q3
        have Q4 := Lib.hid q4
        clear q1 q2 q3 q4
        go_wp2
        go_ret
        have hlen : (b.drop (p + 1)).length = n - (p + 1) := by rw [List.length_drop, H3.out]
        have e0 : stopE 0 (numE l) = 0 := by rw [hlx.out, K2.out, stop_zero]
        rw [e0]
        refine ⟨?_, ⟨y, (show At (w.drewN nq) h 49 _ from H1.out).set 1 _, (H2.out.below (below_drewN _ w nq)).below ((Below.refl B _).setCell hB _), H3.out, h4, h5, H6.out, ?_, ?_, ?_⟩, (turn_drewN w _ _).trans (turn_set _ _ _ _)⟩
        · rw [hlx.out, K1.out]; rfl
        · have := Q2.out; rw [hlen] at this; have := Q3.out; omega
        · intro _; rw [hlx.out, Q4.out, Q3.out, List.drop_drop]
        · intro h0; exact absurd rfl h0
      · obtain ⟨q1, q2⟩ := K4.out hf
        subst q1
        have Q2 := Lib.hid q2
        clear q2
        have hfb : ((f : Int) != 0) = true := by rw [bne_iff_ne]; omega
        go_wp2_with fail
        refine (rfail_any _ h B (some ad) n c b l 0 f (HK.out.drewN _) hB hf).mono ?_
        rintro r w' ⟨rfl, hp, hg⟩
        clear c0 c1 c2 f1
        go_wp2
        go_ret
        refine ⟨?_, ?_, (turn_drewN w _ _).trans hg⟩
        · rw [hlx.out, K1.out]; rfl
        · rw [hlx.out, Q2.out, K2.out]; exact hp
  · have heb : ((e : Int) != 0) = true := by rw [bne_iff_ne]; omega
    have hl := Lib.hid (h9 he)
    clear h8 h9
    go_enter Tryz.func46, Tryz.ntmps46
    go_wp2
    go_ret
    refine ⟨?_, ?_, turn_refl _ _⟩
    · rw [hl.out]; rfl
    · have := HK.out
      rw [hl.out] at this ⊢
      rw [stop_some he]
      exact this

theorem rupto_any (w : World) (h B : Nat) (A : Option Addr) (n c : Nat) (b l : List Nat) (e m : Nat) (k : RR w h B A n c b l e) (hB : B ≤ h) :
    Calls Tryz.prog 45 #[.pointer (some ⟨h, 0, none⟩), .int .u64 (m : Int)] w (RPost w h B A n c b (.int .u64 ((uptoV m l : Nat) : Int)) (uptoL m l) (uptoE m l e)) := by
  have HP := Lib.hid k
  clear k
  by_cases hm : m < numV l
  · have v1 : Hid (uptoV m l = 0) := if_pos hm
    have v2 : Hid (uptoL m l = []) := if_pos hm
    have v3 : Hid (uptoE m l e = stopE (stopE e (numE l)) 4) := if_pos hm
    go_enter Tryz.func45, Tryz.ntmps45
    go_wp2_with fail
    refine (rnum_any w h B A n c b l e HP.out hB).mono ?_
    rintro r w' ⟨rfl, hp, hg⟩
    have HP2 := Lib.hid hp
    have HG := Lib.hid hg
    have hd : decide (m < numV l) = true := decide_eq_true hm
    clear hp hg
    generalize numV l = v at *
    go_wp2_with fail
    refine (rfail_any w' h B A n c b _ _ 4 HP2.out hB (by decide)).mono ?_
    rintro r w2 ⟨rfl, hp, hg⟩
    go_wp2
    go_ret
    exact ⟨by rw [v1.out]; rfl, by rw [v2.out, v3.out]; exact hp, HG.out.trans hg⟩
  · have v1 : Hid (uptoV m l = numV l) := if_neg hm
    have v2 : Hid (uptoL m l = numL l) := if_neg hm
    have v3 : Hid (uptoE m l e = stopE e (numE l)) := if_neg hm
    go_enter Tryz.func45, Tryz.ntmps45
    go_wp2_with fail
    refine (rnum_any w h B A n c b l e HP.out hB).mono ?_
    rintro r w' ⟨rfl, hp, hg⟩
    have HP2 := Lib.hid hp
    have HG := Lib.hid hg
    have hd : decide (m < numV l) = false := decide_eq_false hm
    clear hp hg
    generalize numV l = v at *
    go_wp2
    go_ret
    exact ⟨by rw [v1.out]; rfl, by rw [v2.out, v3.out]; exact HP2.out, HG.out⟩

end Go.Proofs.YtmhghgogehmehaaGreat.Nu

/- The contracts of the document's reader, going on: Flag, Text, End, Left. -/
namespace Go.Proofs.YtmhghgogehmehaaGreat.Nu
open Go.ChangeShapes Go.WideShapes Go.ChangeAt Go.RowKit
set_option linter.unusedVariables false
set_option maxRecDepth 4000

theorem RR.bad {w : World} {h B n c e : Nat} {A : Option Addr} {b l : List Nat} (k : RR w h B A n c b l e) : w.cell? ⟨h, 2, none⟩ = some (.int .i64 (e : Int)) := by
  obtain ⟨p, h1, _⟩ := k
  have := h1.cell 2
  simpa using this
theorem RR.nil_of {w : World} {h B n c e : Nat} {A : Option Addr} {b l : List Nat} (k : RR w h B A n c b l e) (he : e ≠ 0) : l = [] := by
  obtain ⟨p, _, _, _, _, _, _, _, _, h9⟩ := k
  exact h9 he

/-- Left: nothing turns but what is drawn. -/
theorem rleft_any (w : World) (h B : Nat) (A : Option Addr) (n c : Nat) (b l : List Nat) (e : Nat) (k : RR w h B A n c b l e) :
    Calls Tryz.prog 58 #[.pointer (some ⟨h, 0, none⟩)] w fun r w' => r = .returned (.int .i64 ((l.length : Nat) : Int)) ∧ ∃ m, w' = w.drewN m := by
  obtain ⟨p, h1, h2, h3, h4, h5, h6, h7, h8, h9⟩ := k
  have c0 := h1.cell 0
  have c1 := h1.cell 1
  have c2 := h1.cell 2
  simp at c0 c1 c2
  by_cases he : e = 0
  · obtain ⟨q, hq⟩ : ∃ q, l.length = q := ⟨_, rfl⟩
    have hl := h8 he
    subst he
    have hn : n = p + q := by rw [hl, List.length_drop] at hq; omega
    rw [hq]
    have s1 : (n : Int) - (p : Int) = (q : Int) := by omega
    have s2 : IntKind.i64.wrap ((n : Int) - (p : Int)) = (q : Int) := by rw [s1, IntKind.wrap_i64]; omega
    clear h1 h2 h3 h6 h8 h9 hl hq hn
    go_enter Tryz.func58, Tryz.ntmps58
    go_wp2_with fail
    go_quiet (fail)
    go_wp2
    go_ret
    exact ⟨rfl, _, rfl⟩
  · have heb : ((e : Int) != 0) = true := by rw [bne_iff_ne]; omega
    have hl := h9 he
    rw [hl]
    clear h1 h2 h3 h6 h8 h9 hl
    go_enter Tryz.func58, Tryz.ntmps58
    go_wp2
    go_ret
    exact ⟨rfl, 0, rfl⟩

theorem rend_any (w : World) (h B : Nat) (A : Option Addr) (n c : Nat) (b l : List Nat) (e : Nat) (k : RR w h B A n c b l e) (hB : B ≤ h) :
    Calls Tryz.prog 27 #[.pointer (some ⟨h, 0, none⟩)] w (RPost w h B A n c b (.int .i64 ((endE l e : Nat) : Int)) [] (endE l e)) := by
  have HP := Lib.hid k
  clear k
  have c2 := HP.out.bad
  by_cases hl : l = []
  · have v1 : Hid (endE l e = e) := if_pos hl
    have hn : l.length = 0 := by rw [hl]; rfl
    have HL := Lib.hid hl
    clear hl
    go_enter Tryz.func27, Tryz.ntmps27
    go_wp2_with fail
    refine (rleft_any w h B A n c b l e HP.out).mono ?_
    rintro r w' ⟨rfl, m, rfl⟩
    rw [hn]
    clear hn
    go_wp2
    go_ret
    exact ⟨by rw [v1.out]; rfl, by have := HP.out.drewN m; rw [HL.out] at this; rw [v1.out]; exact this, turn_drewN _ _ _⟩
  · have v1 : Hid (endE l e = stopE e 4) := if_neg hl
    have hn : 0 < l.length := List.length_pos_iff.2 hl
    clear hl c2
    go_enter Tryz.func27, Tryz.ntmps27
    go_wp2_with fail
    refine (rleft_any w h B A n c b l e HP.out).mono ?_
    rintro r w' ⟨rfl, m, rfl⟩
    obtain ⟨q, hq⟩ : ∃ q, l.length = q := ⟨_, rfl⟩
    rw [hq] at hn ⊢
    clear hq
    go_wp2_with fail
    refine (rfail_any _ h B A n c b l e 4 (HP.out.drewN m) hB (by decide)).mono ?_
    rintro r w2 ⟨rfl, hp, hg⟩
    have HP2 := Lib.hid hp
    have HG := Lib.hid hg
    have c2 := hp.bad
    clear hp hg
    go_wp2
    go_ret
    exact ⟨by rw [v1.out]; rfl, by rw [v1.out]; exact HP2.out, (turn_drewN _ _ _).trans HG.out⟩
end Go.Proofs.YtmhghgogehmehaaGreat.Nu

/- The contracts of the document's Dot and Dots of layer dcode. -/
namespace Go.Proofs.YtmhghgogehmehaaGreat.Dc
open Go.ChangeShapes Go.WideShapes Go.ChangeAt Go.RowKit
set_option linter.unusedVariables false
set_option maxRecDepth 4000

theorem grown_new {w V : World} {row : Option Nat} (h : w.grownBy V row) (o : Obj) : w.grownBy (V.alloc o) row := h.trans (Nu.turn_below (below_new V o) row)
theorem grown_below {w V U : World} {row : Option Nat} (h : w.grownBy V row) (hb : Below V.heap.size V U) : w.grownBy U row := h.trans (Nu.turn_below hb row)
theorem grown_set {w V : World} {row : Option Nat} (h : w.grownBy V row) {g : Nat} (hg : w.heap.size ≤ g) (i : Nat) (u : Value) : w.grownBy (V.setCell ⟨g, i, none⟩ u) row := by
  refine ⟨h.os, h.tape, h.output, by simpa [World.setCell] using h.size, fun k hk hne => ?_⟩
  exact (Below.heap_setCell V ⟨g, i, none⟩ u k (fun e => by have e : g = k := e.symm; omega)).trans (h.block k hk hne)
theorem rr_new {w : World} {h B n c e : Nat} {A : Option Addr} {b l : List Nat} (k : Nu.RR w h B A n c b l e) (hB : B ≤ h) (o : Obj) : Nu.RR (w.alloc o) h B A n c b l e :=
  k.kept (Nu.turn_below (below_new w o) none) (Nat.le_of_lt (Nat.lt_of_le_of_lt hB k.lt)) (by simp) (fun k hk => by cases hk)
theorem rr_below {w V : World} {h B n c e : Nat} {A : Option Addr} {b l : List Nat} (k : Nu.RR w h B A n c b l e) (hB : B ≤ h) (hb : Below w.heap.size w V) : Nu.RR V h B A n c b l e :=
  k.kept (Nu.turn_below hb none) (Nat.le_of_lt (Nat.lt_of_le_of_lt hB k.lt)) (by simp) (fun k hk => by cases hk)
theorem rr_set {w : World} {h B n c e g : Nat} {A : Option Addr} {b l : List Nat} (k : Nu.RR w h B A n c b l e) (hB : B ≤ h) (hg : h < g) (i : Nat) (u : Value) : Nu.RR (w.setCell ⟨g, i, none⟩ u) h B A n c b l e :=
  k.kept (Nu.turn_set w g i u) (Nat.le_of_lt (Nat.lt_of_le_of_lt hB k.lt)) (fun e => by cases e; omega) (fun k hk => by cases hk; omega)
theorem dotR_good {s : St} (h : (dotS s).2 = 0) (hm : Dt.mayD (dotN s) = true) : dotR s = (dotN s, dotS s) := if_pos ⟨h, hm⟩
theorem dotR_no {s : St} (h : ¬ ((dotS s).2 = 0 ∧ Dt.mayD (dotN s) = true)) : dotR s = ((0, 0), failS 4 (dotS s)) := if_neg h

set_option maxHeartbeats 8000000 in
theorem rdot_any (w : World) (h B : Nat) (A : Option Addr) (n c : Nat) (b l : List Nat) (e : Nat) (k : Nu.RR w h B A n c b l e) (hB : B ≤ h) :
    Calls Tryz.prog 19 #[.pointer (some ⟨h, 0, none⟩)] w (Nu.RPost w h B A n c b (dval (dotR (l, e)).1) (dotR (l, e)).2.1 (dotR (l, e)).2.2) := by
  have hh : h < w.heap.size := k.lt
  have HS := Lib.hid k.small
  have K0 := Lib.hid (rr_new k hB (dbox (0, 0)))
  have G0 := Lib.hid (grown_new (Nu.turn_refl w (some h)) (dbox (0, 0)))
  have R0 := Lib.hid (Nu.At.new w 25 #[.int .u16 0, .int .u64 0])
  have C1 := Nu.rupto_any (w.alloc (dbox (0, 0))) h B A n c b l e 65535 K0.out hB
  have hS : dotS (l, e) = (Nu.numL (Nu.uptoL 65535 l), Nu.stopE (Nu.uptoE 65535 l e) (Nu.numE (Nu.uptoL 65535 l))) := rfl
  have hN : dotN (l, e) = (Nu.uptoV 65535 l, Nu.numV (Nu.uptoL 65535 l)) := rfl
  have hf := dotN_fit (s := (l, e)) HS.out
  obtain ⟨D, hD⟩ : ∃ D, dotR (l, e) = D := ⟨_, rfl⟩
  have hgood := dotR_good (s := (l, e))
  have hno := dotR_no (s := (l, e))
  rw [hD, hS, hN] at hgood hno
  rw [hN] at hf
  rw [hD]
  obtain ⟨dev, hdev⟩ : ∃ dev, Nu.uptoV 65535 l = dev := ⟨_, rfl⟩
  obtain ⟨num, hnum⟩ : ∃ num, Nu.numV (Nu.uptoL 65535 l) = num := ⟨_, rfl⟩
  obtain ⟨e2, he2⟩ : ∃ e2, Nu.stopE (Nu.uptoE 65535 l e) (Nu.numE (Nu.uptoL 65535 l)) = e2 := ⟨_, rfl⟩
  rw [hdev, hnum] at hgood hno hf
  rw [he2] at hgood hno
  rw [hdev] at C1
  have HG := Lib.hid hgood
  have HNO := Lib.hid hno
  have hd1 : dev < 65536 := hf.1
  have hw16 : IntKind.u16.wrap (dev : Int) = (dev : Int) := by rw [IntKind.wrap_u16]; omega
  have HNUM := Lib.hid hnum
  have HE2 := Lib.hid he2
  clear hS hN hf hD hgood hno hdev hnum he2 k HS
  go_enter Tryz.func19, Tryz.ntmps19
  go_wp2_with fail
  refine C1.mono ?_
  rintro r w1 ⟨rfl, k1, g1⟩
  have K1 := Lib.hid k1
  have G1 := Lib.hid (G0.out.trans g1)
  have R1 := Lib.hid (R0.out.kept g1 (fun e => by cases e; omega))
  have C2 := Nu.rnum_any w1 h B A n c b _ _ K1.out hB
  rw [HNUM.out, HE2.out] at C2
  clear k1 g1 K0 G0 R0 C1
  go_wp2_with fail
  refine C2.mono ?_
  rintro r w2 ⟨rfl, k2, g2⟩
  have K2 := Lib.hid (rr_new k2 hB (dbox (dev, num)))
  have G2 := Lib.hid (grown_new (G1.out.trans g2) (dbox (dev, num)))
  have hs2 : w.heap.size < w2.heap.size := Nat.lt_of_lt_of_le R1.out.lt g2.size
  have R2 := Lib.hid ((R1.out.kept g2 (fun e => by cases e; omega)).kept (Nu.turn_below (below_new w2 (dbox (dev, num))) none) (by simp))
  have V2 := Lib.hid (dbox_new w2 (dev, num))
  have hnil : Hid (e2 ≠ 0 → Nu.numL (Nu.uptoL 65535 l) = []) := Lib.hid (fun he => k2.nil_of he)
  clear k2 g2 K1 G1 R1 C2
  generalize Nu.numL (Nu.uptoL 65535 l) = l2 at *
  obtain ⟨b0, b1⟩ := V2.out _ (by have h := Below.refl (w2.alloc (dbox (dev, num))).heap.size (w2.alloc (dbox (dev, num))); rw [alloc_size] at h; exact h)
  have c2 := K2.out.bad
  rw [show w2.heap.size + 1 = (w2.alloc (dbox (dev, num))).heap.size from (alloc_size _ _).symm] at V2
  go_upto_region 3 with fail
  generalize w2.alloc (dbox (dev, num)) = w3 at *
  by_cases he : e2 = 0
  · subst he
    have HGd := Lib.hid (Dt.rgood_any w3 dev num)
    have HBG := Lib.hid (below_new w3 (dbox (dev, num)))
    have K3 := Lib.hid (rr_new K2.out hB (dbox (dev, num)))
    have G3 := Lib.hid (grown_new G2.out (dbox (dev, num)))
    have R3 := Lib.hid (R2.out.kept (Nu.turn_below HBG.out none) (by simp))
    obtain ⟨b2, b3⟩ := V2.out _ HBG.out
    have c3 := K3.out.bad
    cases hm : Dt.mayD (dev, num) with
    | true =>
      rw [hm] at HGd
      have HD := Lib.hid (HG.out rfl hm)
      have Q3 := R3.out.set 0 (.int .u16 (dev : Int))
      have Q4 := Q3.set 1 (.int .u64 (num : Int))
      have z0 := R3.out.cell 0
      have z1 := Q3.cell 1
      have f0 := R3.out.frozen 0
      have f1 := Q3.frozen 1
      have g0 := Q4.cell 0
      have g1 := Q4.cell 1
      simp at z0 z1 g0 g1
      have KF := Lib.hid (rr_set (rr_set K3.out hB hh 0 (.int .u16 (dev : Int))) hB hh 1 (.int .u64 (num : Int)))
      have GF := Lib.hid (grown_set (grown_set G3.out (Nat.le_refl _) 0 (.int .u16 (dev : Int))) (Nat.le_refl _) 1 (.int .u64 (num : Int)))
      clear Q3 Q4 HG HNO
      go_wp2_with fail
      refine HGd.out.mono ?_
      rintro r w4 ⟨rfl, rfl⟩
      generalize w3.alloc (dbox (dev, num)) = w4 at *
      go_wp2
      refine bodyPost_ret (v := dval (dev, num)) ?_ rfl ?_
      · simp [results, Tryz.f19, go_sem, g0, g1]
      · rw [HD.out]
        exact ⟨rfl, KF.out, GF.out⟩
    | false =>
      rw [hm] at HGd
      have HD := Lib.hid (HNO.out (fun h => by rw [hm] at h; cases h.2))
      have CF := Nu.rfail_any _ h B A n c b _ _ 4 K3.out hB (by decide)
      clear HG HNO c3 b2 b3
      go_wp2_with fail
      refine HGd.out.mono ?_
      rintro r w4 ⟨rfl, rfl⟩
      go_wp2_with fail
      refine CF.mono ?_
      rintro r w5 ⟨rfl, k5, g5⟩
      have R5 := Lib.hid (R3.out.kept g5 (fun e => by cases e; omega))
      have G5 := Lib.hid (G3.out.trans g5)
      have K5 := Lib.hid k5
      have c5 := k5.bad
      have Q3 := R5.out.set 0 (.int .u16 0)
      have Q4 := Q3.set 1 (.int .u64 0)
      have z0 := R5.out.cell 0
      have z1 := Q3.cell 1
      have f0 := R5.out.frozen 0
      have f1 := Q3.frozen 1
      have g0 := Q4.cell 0
      have g1 := Q4.cell 1
      simp at z0 z1 g0 g1
      have KF := Lib.hid (rr_set (rr_set K5.out hB hh 0 (.int .u16 0)) hB hh 1 (.int .u64 0))
      have GF := Lib.hid (grown_set (grown_set G5.out (Nat.le_refl _) 0 (.int .u16 0)) (Nat.le_refl _) 1 (.int .u64 0))
      have he4 : Nu.stopE 0 4 = 4 := rfl
      rw [he4] at c5
      clear Q3 Q4 k5 g5 CF
      go_wp2
      refine bodyPost_ret (v := dval (0, 0)) ?_ rfl ?_
      · simp [results, Tryz.f19, go_sem, g0, g1]
      · rw [HD.out]
        exact ⟨rfl, KF.out, GF.out⟩
  · have hi : ((e2 : Int) == 0) = false := by rw [beq_eq_false_iff_ne]; omega
    have HD := Lib.hid (HNO.out (fun h => he h.1))
    have Q3 := R2.out.set 0 (.int .u16 0)
    have Q4 := Q3.set 1 (.int .u64 0)
    have z0 := R2.out.cell 0
    have z1 := Q3.cell 1
    have f0 := R2.out.frozen 0
    have f1 := Q3.frozen 1
    have g0 := Q4.cell 0
    have g1 := Q4.cell 1
    simp at z0 z1 g0 g1
    have KF := Lib.hid (rr_set (rr_set K2.out hB hh 0 (.int .u16 0)) hB hh 1 (.int .u64 0))
    have GF := Lib.hid (grown_set (grown_set G2.out (Nat.le_refl _) 0 (.int .u16 0)) (Nat.le_refl _) 1 (.int .u64 0))
    have HE : Hid (failS 4 (l2, e2) = (l2, e2)) := Lib.hid (by show ([], Nu.stopE e2 4) = (l2, e2); rw [hnil.out he, stop_nz he])
    clear Q3 Q4 HG HNO
    go_wp2
    refine bodyPost_ret (v := dval (0, 0)) ?_ rfl ?_
    · simp [results, Tryz.f19, go_sem, g0, g1]
    · rw [HD.out, HE.out]
      exact ⟨rfl, KF.out, GF.out⟩
end Go.Proofs.YtmhghgogehmehaaGreat.Dc

/- The contract of the document's Dots of layer dcode. -/
namespace Go.Proofs.YtmhghgogehmehaaGreat.Dc
open Go.ChangeShapes Go.WideShapes Go.ChangeAt Go.RowKit
set_option linter.unusedVariables false
set_option maxRecDepth 4000

/-- dots of one's own, beside a reader. -/
structure DK (w : World) (h B : Nat) (A : Option Addr) (n c : Nat) (b : List Nat) (V : World) (A6 : Option Addr) (m c6 : Nat) (o : List Dot) (s : St) : Prop where
  len : o.length = m
  fit : Dt.Fit o
  own : V.ownsRow w.heap.size 25 2 (.slice A6 m c6) m (Dt.dv o)
  rr : Nu.RR V h B A n c b s.1 s.2
  gr : w.grownBy V (some h)
theorem own_far {w V : World} {h m c size : Nat} {e : TypeId} {A : Option Addr} {xs : List Value} (ho : V.ownsRow w.heap.size e size (.slice A m c) m xs) (hh : h < w.heap.size) : (Value.slice A m c).ownBlock = none ∨ (Value.slice A m c).ownBlock ≠ some h := by
  right
  intro e2
  have := (ho.lt h e2).1
  omega
theorem DK.below {w V U : World} {h B n c m c6 : Nat} {A A6 : Option Addr} {b : List Nat} {o : List Dot} {s : St} (k : DK w h B A n c b V A6 m c6 o s) (hB : B ≤ h) (hb : Below V.heap.size V U) : DK w h B A n c b U A6 m c6 o s :=
  ⟨k.len, k.fit, Dt.own_kept k.own hb, rr_below k.rr hB hb, grown_below k.gr hb⟩
/-- a reader's call, beside. -/
theorem DK.read {w V U : World} {h B n c m c6 : Nat} {A A6 : Option Addr} {b : List Nat} {o : List Dot} {s s' : St} (k : DK w h B A n c b V A6 m c6 o s) (hh : h < w.heap.size) (hr : Nu.RR U h B A n c b s'.1 s'.2) (hg : V.grownBy U (some h)) : DK w h B A n c b U A6 m c6 o s' :=
  ⟨k.len, k.fit, k.own.kept hg (own_far k.own hh), hr, k.gr.trans hg⟩
theorem DK.none_ {w V : World} {h B n c m c6 : Nat} {A A6 : Option Addr} {b : List Nat} {o : List Dot} {s : St} (k : DK w h B A n c b V A6 m c6 o s) : DK w h B A n c b V none 0 0 [] s :=
  ⟨rfl, (fun x hx => by cases hx), World.ownsRow_nil _ _ _ _, k.rr, k.gr⟩
/-- what stands between two rounds of Dots. -/
def DRel (w : World) (h B : Nat) (A : Option Addr) (n c : Nat) (b : List Nat) (L num : Nat) (s1 : St) (v i : Value) (wr : World) : Prop :=
  ∃ (k m c6 : Nat) (A6 : Option Addr) (o : List Dot) (s : St), k ≤ num ∧ i = .int .u64 (k : Int) ∧ v = .slice A6 m c6 ∧ DK w h B A n c b wr A6 m c6 o s ∧ dotsL num [] s1 = dotsL (num - k) o s ∧ m ≤ L + 1 ∧ (s.2 = 0 → m + s.1.length ≤ L)
theorem dotsS_len {L : Nat} (o : List Dot) (s : St) : ((dotsS o s).2 = 0 → o.length + s.1.length ≤ L → o.length + 1 + (dotsS o s).1.length ≤ L) := by
  intro h hl
  unfold dotsS at h ⊢
  by_cases hc : (dotR s).2.2 = 0 ∧ stepsB o (dotR s).1 = false
  · rw [if_pos hc] at h
    exact absurd h (stop_ne (by decide))
  · rw [if_neg hc] at h ⊢
    have := (dotR_len s).2 h
    omega
theorem d_next {w V U : World} {h B n c L num k m c6 c3 : Nat} {A A6 A3 : Option Addr} {b : List Nat} {o : List Dot} {s s' s1 : St} {d : Dot} (hh : h < w.heap.size) (hB : B ≤ h) (hk : k < num) (he : s.2 = 0) (hV : DK w h B A n c b V A6 m c6 o s') (hd : d.1 < 65536 ∧ d.2 < big)
    (hS : dotsS o s = s') (hD : (dotR s).1 = d) (hL : dotsL num [] s1 = dotsL (num - k) o s) (hl : m + s.1.length ≤ L) (ho : U.ownsRow w.heap.size 25 2 (.slice A3 (m + 1) c3) (m + 1) (Dt.dv (o ++ [d]))) (hg : (V.alloc (dbox d)).grownBy U (Value.slice A6 m c6).ownBlock) :
    DRel w h B A n c b L num s1 (.slice A3 (m + 1) c3) (.int .u64 ((k : Int) + 1)) U := by
  have hw : w.heap.size ≤ (V.alloc (dbox d)).heap.size := by rw [alloc_size]; exact Nat.le_trans hV.gr.size (Nat.le_succ _)
  have hrow : ∀ q, (Value.slice A6 m c6).ownBlock = some q → w.heap.size ≤ q := fun q hq => (hV.own.lt q hq).1
  have hr : Nu.RR U h B A n c b s'.1 s'.2 := (rr_new hV.rr hB (dbox d)).kept hg (by omega) (fun e => by have := hrow h e.symm; omega) (fun q hq => by have := hrow q hq; omega)
  refine ⟨k + 1, m + 1, c3, A3, o ++ [d], s', hk, by go_num, rfl, ⟨by rw [List.length_append, hV.len]; rfl, ?_, ho, hr, ?_⟩, ?_, by omega, fun h0 => ?_⟩
  · intro x hx
    rcases List.mem_append.1 hx with hx | hx
    · exact hV.fit x hx
    · rw [List.mem_singleton] at hx
      rw [hx]; exact hd
  · have hb := (grown_new hV.gr (dbox d))
    refine ⟨hg.os.trans hb.os, hg.tape.trans hb.tape, hg.output.trans hb.output, Nat.le_trans hb.size hg.size, fun q hq hne => ?_⟩
    exact (hg.block q (by omega) (fun e => by have := hrow q e.symm; omega)).trans (hb.block q hq hne)
  · rw [hL, show num - k = num - (k + 1) + 1 by omega]
    conv => lhs; unfold dotsL
    rw [if_pos he, hS, hD]
  · have := dotsS_len (L := L) o s (by rw [hS]; exact h0) (by rw [hV.len]; exact hl)
    rw [hS, hV.len] at this
    exact this
/-- dots come out, and a reader's call it was. -/
def DGot (w : World) (h B : Nat) (A : Option Addr) (n c : Nat) (b : List Nat) (D : List Dot × St) (e : Ending) (w' : World) : Prop := ∃ A' m c', e = .returned (.slice A' m c') ∧ DK w h B A n c b w' A' m c' D.1 D.2
theorem sound_rr {w : World} {h B n c e : Nat} {A : Option Addr} {b l : List Nat} (k : Nu.RR w h B A n c b l e) : Sound (l, e) := fun he => k.nil_of he
theorem steps_last {o : List Dot} {j : Nat} {x d : Dot} (hl : o.length = j + 1) (hx : o[j]? = some x) : stepsB o d = Dt.aheadD x d := by
  unfold stepsB
  have : o.getLast? = some x := by rw [List.getLast?_eq_getElem?, hl]; exact hx
  rw [this]
theorem cmp_ge (x d : Dot) : decide (0 ≤ Dt.cmpD x d) = !Dt.aheadD x d := by
  have h := Dt.cmp_neg x d
  cases ha : Dt.aheadD x d with
  | true => rw [ha] at h; have := of_decide_eq_true h; simp; omega
  | false => rw [ha] at h; have := of_decide_eq_false h; simp; omega

set_option maxHeartbeats 16000000 in
theorem rdots_any (w : World) (h B : Nat) (A : Option Addr) (n c : Nat) (b l : List Nat) (e : Nat) (most : Int) (k : Nu.RR w h B A n c b l e) (hB : B ≤ h) (hl : l.length ≤ 1099511627776) (hm1 : -9223372036854775808 ≤ most) (hm2 : most < 9223372036854775808) :
    Calls Tryz.prog 22 #[.pointer (some ⟨h, 0, none⟩), .int .i64 most] w (DGot w h B A n c b (dotsR most.toNat (l, e))) := by
  have hh : h < w.heap.size := k.lt
  have hsm := k.small
  have HSO := Lib.hid (sound_rr k)
  have hS : dotsR most.toNat (l, e) = (if (dotsL (Nu.numV l) [] (dotsF most.toNat (l, e))).2.2 = 0 then dotsL (Nu.numV l) [] (dotsF most.toNat (l, e)) else ([], (dotsL (Nu.numV l) [] (dotsF most.toNat (l, e))).2)) := rfl
  have hF : dotsF most.toNat (l, e) = if most.toNat < Nu.numV l then failS 3 (Nu.numL l, Nu.stopE e (Nu.numE l)) else (Nu.numL l, Nu.stopE e (Nu.numE l)) := rfl
  have hv := Nu.numV_lt hsm
  have hle := numS_len (l, e)
  have C1 := Nu.rnum_any w h B A n c b l e k hB
  obtain ⟨s1, hs1⟩ : ∃ s1, dotsF most.toNat (l, e) = s1 := ⟨_, rfl⟩
  obtain ⟨D, hD⟩ : ∃ D, dotsR most.toNat (l, e) = D := ⟨_, rfl⟩
  obtain ⟨num, hnum⟩ : ∃ num, Nu.numV l = num := ⟨_, rfl⟩
  rw [hD] at hS ⊢
  rw [hs1] at hF hS
  rw [hnum] at hF hS hv C1
  have HS := Lib.hid hS
  have HF := Lib.hid hF
  have HLE : Hid ((Nu.numL l).length ≤ l.length) := Lib.hid hle
  have HLL := Lib.hid hl
  have hsmall : Hid (Nu.Small (Nu.numL l)) := Lib.hid (small_numL hsm)
  clear hS hF hs1 hD hnum hle k hsm hl
  obtain ⟨mo, hmo⟩ : ∃ mo, most.toNat = mo := ⟨_, rfl⟩
  rw [hmo] at HF
  have HMO := Lib.hid hmo
  have hmb : mo ≤ 9223372036854775807 := by omega
  clear hmo
  go_enter Tryz.func22, Tryz.ntmps22
  go_upto_if 11 with fail
  go_cut [1] (fun s1 wx => s1 = .int .i64 (mo : Int) ∧ wx = w)
  case first =>
    by_cases hm : most < 0
    · have h0 : Hid (mo = 0) := Lib.hid (by have := HMO.out; omega)
      go_wp2
      go_meet
      exact ⟨by rw [h0.out]; rfl, rfl⟩
    · have h0 : Hid (most = (mo : Int)) := Lib.hid (by have := HMO.out; omega)
      go_wp2
      go_meet
      exact ⟨by rw [h0.out], rfl⟩
  case rest =>
    obtain ⟨rfl, hwc⟩ := hcut
    have hwc2 := hwc.symm
    subst hwc2
    clear hwc
    go_upto_region 4 with fail
    refine C1.mono ?_
    rintro r w2 ⟨rfl, k2, g2⟩
    have K2 := Lib.hid k2
    have G2 := Lib.hid g2
    have hw64 : IntKind.u64.wrap (mo : Int) = (mo : Int) := by rw [IntKind.wrap_u64]; omega
    clear k2 g2 C1
    go_upto_if 17 with fail
    go_cut [] (fun wx => Nu.RR wx h B A n c b s1.1 s1.2 ∧ w.grownBy wx (some h))
    case first =>
      by_cases hlt : mo < num
      · have CF := Nu.rfail_any w2 h B A n c b _ _ 3 K2.out hB (by decide)
        have hs : Hid (s1 = failS 3 (Nu.numL l, Nu.stopE e (Nu.numE l))) := Lib.hid (by rw [HF.out, if_pos hlt])
        have hd : decide (mo < num) = true := decide_eq_true hlt
        go_wp2_with fail
        refine CF.mono ?_
        rintro r w3 ⟨rfl, k3, g3⟩
        go_wp2
        go_meet
        rw [hs.out]
        exact ⟨k3, G2.out.trans g3⟩
      · have hs : Hid (s1 = (Nu.numL l, Nu.stopE e (Nu.numE l))) := Lib.hid (by rw [HF.out, if_neg hlt])
        have hd : decide (mo < num) = false := decide_eq_false hlt
        go_wp2
        go_meet
        rw [hs.out]
        exact ⟨K2.out, G2.out⟩
    case rest =>
      obtain ⟨k3, g3⟩ := hcut
      have K3 := Lib.hid k3
      have G3 := Lib.hid g3
      have hlen : Hid (s1.1.length ≤ l.length) := Lib.hid (by
        rw [HF.out]
        split
        · show ([] : List Nat).length ≤ _; simp
        · exact HLE.out)
      clear k3 g3 K2 G2
      go_wp2_with fail
      go_loopw [6, 7] (fun v i wr => DRel w h B A n c b l.length num s1 v i wr) (fun _ i _ => num - (intOf i).toNat)
      case atStart => exact ⟨0, 0, 0, none, [], s1, Nat.zero_le _, rfl, rfl, ⟨rfl, (fun x hx => by cases hx), World.ownsRow_nil _ _ _ _, K3.out, G3.out⟩, rfl, Nat.zero_le _, fun _ => by rw [Nat.zero_add]; exact hlen.out⟩
      case round =>
        clear K3 G3 hlen
        obtain ⟨k, m, c6, A6, o, s, hk, rfl, rfl, hdk, hdl, hml, hbl⟩ := hrel
        have HDK := Lib.hid hdk
        have HDL := Lib.hid hdl
        have c2 := hdk.rr.bad
        clear hdk hdl
        obtain ⟨sl, se⟩ := s
        simp only at c2 hbl
        by_cases hlt : k < num
        · by_cases he : se = 0
          · subst he
            have hmm : m + sl.length ≤ l.length := hbl rfl
            have CD := rdot_any wr h B A n c b sl 0 HDK.out.rr hB
            obtain ⟨d, hd⟩ : ∃ d, (dotR (sl, 0)).1 = d := ⟨_, rfl⟩
            obtain ⟨s', hs'⟩ : ∃ s', (dotR (sl, 0)).2 = s' := ⟨_, rfl⟩
            have hfd := dotR_fit (s := (sl, 0)) HDK.out.rr.small
            have hSS : dotsS o (sl, 0) = if (dotR (sl, 0)).2.2 = 0 ∧ stepsB o (dotR (sl, 0)).1 = false then failS 4 (dotR (sl, 0)).2 else (dotR (sl, 0)).2 := rfl
            rw [hd, hs'] at hSS
            rw [hd] at hfd
            rw [hd, hs'] at CD
            have HSS := Lib.hid hSS
            have HFD := Lib.hid hfd
            have HDD := Lib.hid hd
            clear hd hs' hSS hfd
            go_upto_region 12 with fail
            refine CD.mono ?_
            rintro r w3 ⟨rfl, k3, g3⟩
            have HD4 := Lib.hid ((HDK.out.read (s' := s') hh k3 g3).below hB (below_new w3 (dbox d)))
            have V4 := Lib.hid (dbox_new w3 d)
            rw [show w3.heap.size + 1 = (w3.alloc (dbox d)).heap.size from (alloc_size _ _).symm] at V4
            have hml2 : m ≤ 1099511627776 := by have := HLL.out; omega
            have hg3 : w.heap.size ≤ w3.heap.size := Nat.le_trans HDK.out.gr.size g3.size
            clear k3 g3 CD c2 HDK
            go_upto_region 12 with fail
            generalize w3.alloc (dbox d) = w4 at *
            obtain ⟨sl', se'⟩ := s'
            go_cut [54] (fun v wx => v = .bool (decide (se' = 0) && !stepsB o d) ∧ Below w4.heap.size w4 wx)
            case first =>
              have c4 := HD4.out.rr.bad
              simp only at c4
              by_cases he' : se' = 0
              · subst he'
                by_cases hm0 : m = 0
                · subst hm0
                  have ho : o = [] := List.eq_nil_of_length_eq_zero HD4.out.len
                  have hst : Hid (stepsB o d = true) := Lib.hid (by rw [ho]; rfl)
                  clear ho
                  go_quiet (fail)
                  go_wp2
                  go_meet
                  exact ⟨by rw [hst.out]; rfl, Nu.below_drewN _ _ _⟩
                · obtain ⟨j, hjm⟩ : ∃ j, m = j + 1 := ⟨m - 1, by omega⟩
                  have hj1 : (m : Int) - 1 = (j : Int) := by omega
                  have s5 : (j : Int) < (m : Int) := by omega
                  have s3 : (0 : Int) ≤ (j : Int) := by omega
                  obtain ⟨ad, x, rfl, hadB, hlx, hx1, hx2, hcx⟩ := (Dt.dots_own HD4.out.own HD4.out.fit).cells (k := j) (by rw [HD4.out.len]; omega)
                  have hst : Hid (stepsB o d = Dt.aheadD x d) := Lib.hid (steps_last (by rw [HD4.out.len]; exact hjm) hlx)
                  clear hm0 hjm
                  have HK : Hid (∀ V, Below w4.heap.size w4 V → V.cell? ⟨h, 2, none⟩ = some (.int .i64 0) ∧ (V.cell? (ad.add (j * 2)) = some (.int .u16 (x.1 : Int)) ∧ V.cell? ⟨(ad.add (j * 2)).block, (ad.add (j * 2)).off + 1, none⟩ = some (.int .u64 (x.2 : Int))) ∧ V.cell? ⟨w3.heap.size, 0, none⟩ = some (.int .u16 (d.1 : Int)) ∧ V.cell? ⟨w3.heap.size, 1, none⟩ = some (.int .u64 (d.2 : Int))) := Lib.hid (fun V hV =>
                    ⟨(hV.cell (World.block_lt_of_cell? _ _ c4)).trans c4, hcx V hV, V4.out V hV⟩)
                  obtain ⟨q0, ⟨q1, q2⟩, q3, q4⟩ := HK.out w4 (Below.refl _ _)
                  have C1 := fun W (hW : Below w4.heap.size w4 W) => Dt.rcmp_later w4 W x d hW
                  have hwj : IntKind.i64.wrap (j : Int) = (j : Int) := by rw [IntKind.wrap_i64]; omega
                  clear hlx hcx c4
                  go_region_held3 (fun V => V.cell? ⟨h, 2, none⟩ = some (.int .i64 0) ∧ (V.cell? (ad.add (j * 2)) = some (.int .u16 (x.1 : Int)) ∧ V.cell? ⟨(ad.add (j * 2)).block, (ad.add (j * 2)).off + 1, none⟩ = some (.int .u64 (x.2 : Int))) ∧ V.cell? ⟨w3.heap.size, 0, none⟩ = some (.int .u16 (d.1 : Int)) ∧ V.cell? ⟨w3.heap.size, 1, none⟩ = some (.int .u64 (d.2 : Int))) (first | exact ⟨q0, ⟨q1, q2⟩, q3, q4⟩ | assumption | exact HK.out _ (by (repeat (first | exact Below.refl _ _ | assumption | apply bel_drew)))) (first
                    | (go_at_call 51; (with_reducible refine (C1 _ ?_).mono ?_); (repeat (first | exact Below.refl _ _ | assumption | apply bel_drew)); rintro e V ⟨rfl, bv⟩; have hcV := HK.out V bv))
                  all_goals
                    have hcg : Hid (decide (0 ≤ Dt.cmpD x d) = !Dt.aheadD x d) := Lib.hid (cmp_ge x d)
                    generalize Dt.cmpD x d = z at *
                    rw [← hj1]
                    clear hj1 hwj s5 s3 q0 q1 q2 q3 q4 hcV
                    go_wp2
                    go_meet
                    exact ⟨by rw [hst.out, hcg.out]; rfl, bv⟩
              · have hi : ((se' : Int) == 0) = false := by rw [beq_eq_false_iff_ne]; omega
                go_quiet (fail)
                go_wp2
                go_meet
                exact ⟨by rw [decide_eq_false he']; rfl, Nu.below_drewN _ _ _⟩
            case rest =>
              obtain ⟨rfl, hb⟩ := hcut
              cases hbad : (decide (se' = 0) && !stepsB o d) with
              | true =>
                have hb1 : se' = 0 ∧ stepsB o d = false := by simpa using hbad
                have HS2 : Hid (dotsS o (sl, 0) = failS 4 (sl', se')) := Lib.hid (by rw [HSS.out]; exact if_pos hb1)
                have CF := Nu.rfail_any wc h B A n c b _ _ 4 (HD4.out.below hB hb).rr hB (by decide)
                have v4 := V4.out wc hb
                have hlt4 : w3.heap.size < wc.heap.size := World.block_lt_of_cell? _ _ v4.1
                clear hbad hb1
                go_wp2_with fail
                refine CF.mono ?_
                rintro r V ⟨rfl, k5, g5⟩
                have HDV := Lib.hid ((HD4.out.below hB hb).read (s' := failS 4 (sl', se')) hh k5 g5)
                have v5 : V.cell? ⟨w3.heap.size, 0, none⟩ = some (.int .u16 (d.1 : Int)) := (World.grownBy.cell_far g5 ⟨w3.heap.size, 0, none⟩ hlt4 (fun e => by have e2 : w3.heap.size = h := (by simpa using e); omega)).trans v4.1
                have v6 : V.cell? ⟨w3.heap.size, 1, none⟩ = some (.int .u64 (d.2 : Int)) := (World.grownBy.cell_far g5 ⟨w3.heap.size, 1, none⟩ hlt4 (fun e => by have e2 : w3.heap.size = h := (by simpa using e); omega)).trans v4.2
                clear k5 g5 CF v4 hlt4
                have HLO : Hid (m + 1 ≤ 8796093022208) := Lib.hid (by omega)
                have hsz : Hid (w.heap.size ≤ (V.alloc (dbox d)).heap.size) := Lib.hid (by rw [alloc_size]; exact Nat.le_trans HDV.out.gr.size (Nat.le_succ _))
                have hw1 : IntKind.u64.wrap ((k : Int) + 1) = (k : Int) + 1 := by rw [IntKind.wrap_u64]; omega
                go_wp2_with (at_builtin; refine Dt.wpList_any rfl (.tmp 57) (.tmp 59) rfl rfl _ w.heap.size m (.slice A6 m c6) o (some ⟨V.heap.size, 0, none⟩) [d] 1 1 rfl rfl (HDV.out.own.alloc _) (fun h => by cases h) (Dt.lies_one V d) rfl HLO.out hsz.out ?_; intro A3 c3 V3 ho3 hg3; have HR := Lib.hid (d_next hh hB hlt rfl HDV.out HFD.out HS2.out HDD.out HDL.out hmm ho3 hg3); clear ho3 hg3)
                go_roundw
                case rel => exact HR.out
                case measure => simp [intOf]; omega
              | false =>
                have HS2 : Hid (dotsS o (sl, 0) = (sl', se')) := Lib.hid (by
                  rw [HSS.out]
                  refine if_neg (fun hh => ?_)
                  have h1 : se' = 0 := hh.1
                  rw [h1, hh.2] at hbad
                  cases hbad)
                have HDV := Lib.hid (HD4.out.below hB hb)
                obtain ⟨v5, v6⟩ := V4.out wc hb
                clear hbad
                have HLO : Hid (m + 1 ≤ 8796093022208) := Lib.hid (by omega)
                have hsz : Hid (w.heap.size ≤ (wc.alloc (dbox d)).heap.size) := Lib.hid (by rw [alloc_size]; exact Nat.le_trans HDV.out.gr.size (Nat.le_succ _))
                have hw1 : IntKind.u64.wrap ((k : Int) + 1) = (k : Int) + 1 := by rw [IntKind.wrap_u64]; omega
                go_wp2_with (at_builtin; refine Dt.wpList_any rfl (.tmp 57) (.tmp 59) rfl rfl _ w.heap.size m (.slice A6 m c6) o (some ⟨wc.heap.size, 0, none⟩) [d] 1 1 rfl rfl (HDV.out.own.alloc _) (fun h => by cases h) (Dt.lies_one wc d) rfl HLO.out hsz.out ?_; intro A3 c3 V3 ho3 hg3; have HR := Lib.hid (d_next hh hB hlt rfl HDV.out HFD.out HS2.out HDD.out HDL.out hmm ho3 hg3); clear ho3 hg3)
                go_roundw
                case rel => exact HR.out
                case measure => simp [intOf]; omega
          · have hi : ((se : Int) == 0) = false := by rw [beq_eq_false_iff_ne]; omega
            have HE : Hid (D = ([], (sl, se))) := Lib.hid (by rw [HS.out, HDL.out, dotsL_bad he]; exact if_neg he)
            have HF2 := Lib.hid (DK.none_ HDK.out)
            clear HDK
            go_wp2
            go_ret
            rw [HE.out]
            exact ⟨none, 0, 0, rfl, HF2.out⟩
        · obtain rfl : k = num := by omega
          have HL0 : Hid (dotsL k [] s1 = (o, (sl, se))) := Lib.hid (by rw [HDL.out, Nat.sub_self]; rfl)
          by_cases he : se = 0
          · subst he
            have HE : Hid (D = (o, (sl, 0))) := Lib.hid (by rw [HS.out, HL0.out]; rfl)
            go_wp2
            go_ret
            rw [HE.out]
            exact ⟨A6, m, c6, rfl, HDK.out⟩
          · have hi : ((se : Int) == 0) = false := by rw [beq_eq_false_iff_ne]; omega
            have HE : Hid (D = ([], (sl, se))) := Lib.hid (by rw [HS.out, HL0.out]; exact if_neg he)
            have HF2 := Lib.hid (DK.none_ HDK.out)
            clear HDK
            go_wp2
            go_ret
            rw [HE.out]
            exact ⟨none, 0, 0, rfl, HF2.out⟩
end Go.Proofs.YtmhghgogehmehaaGreat.Dc

/- Maps that tell of devices: what a map of devices and numbers holds, as arithmetic and in memory. -/
namespace Go.Proofs.YtmhghgogehmehaaGreat.Dt
open Go.ChangeShapes Go.WideShapes Go.ChangeAt Go.RowKit Go.Maps
set_option linter.unusedVariables false
set_option maxRecDepth 4000

theorem law16 : Keyed Tryz.prog 22 := int_keyed Tryz.underlying22
theorem zero64 (w : World) : (zeroValue 23).run Tryz.prog w = .ok (.int .u64 0) w := by kernel_rfl
theorem wf16 {d : Nat} (h : d < 65536) : (Lit.int .u16 (d : Int)).wf = true := by
  simp [Lit.wf, IntKind.min, IntKind.max, IntKind.bits, IntKind.signed]; omega
theorem wf64 {n : Nat} (h : n < 18446744073709551616) : (Lit.int .u64 (n : Int)).wf = true := by
  simp [Lit.wf, IntKind.min, IntKind.max, IntKind.bits, IntKind.signed]; omega
theorem un16 {x : Int} (h : (Lit.int .u16 x).wf = true) : ∃ d : Nat, x = (d : Int) ∧ d < 65536 := by
  simp [Lit.wf, IntKind.min, IntKind.max, IntKind.bits, IntKind.signed] at h
  exact ⟨x.toNat, by omega, by omega⟩
abbrev keyL (d : Nat) : Lit := .int .u16 (d : Int)
abbrev numL (n : Nat) : DataW Unit := .lit (.int .u64 (n : Int))
theorem key_is {d : Nat} (h : d < 65536) : keyOf Tryz.prog 22 (.int .u16 (d : Int)) = some (keyL d) := keyOf_int_mk Tryz.underlying22 (wf16 h)
theorem key_lit (d : Nat) : WideAt.IsKeyLit (keyL d) := trivial
theorem key_ne {d e : Nat} (h : e ≠ d) : keyL e ≠ keyL d := fun h2 => by
  injection h2 with _ h3
  exact h (by omega)
theorem same_key (d e : Nat) : (keyL e).sameKey (keyL d) = decide (e = d) := by
  by_cases h : e = d
  · subst h; simp [Lit.sameKey]
  · rw [Maps.sameKey_ne (key_ne h), decide_eq_false h]
/-- the map holds, at each device, what f says; no key but those of which f says something. -/
structure Holds (D : DataW Unit) (f : Nat → Nat) : Prop where
  at_ : ∀ d, d < 65536 → D.atKey (keyL d) (numL 0) = numL (f d)
  key : ∀ kl, Maps.has D kl = true → ∃ d, d < 65536 ∧ kl = keyL d ∧ 0 < f d
  some_ : ∀ d, 0 < f d → d < 65536 ∧ Maps.has D (keyL d) = true
theorem holds_none : Holds (.map []) (fun _ => 0) := ⟨fun d _ => rfl, (fun kl h => by cases h), (fun d h => absurd h (by omega))⟩
theorem Holds.put {D : DataW Unit} {f : Nat → Nat} (h : Holds D f) (hD : Maps.IsMap D) {d n : Nat} (hd : d < 65536) (hn : 0 < n) : Holds (D.put (keyL d) (numL n)) (fun e => if e = d then n else f e) := by
  refine ⟨fun e he => ?_, fun kl hk => ?_, fun e he => ?_⟩
  · by_cases hed : e = d
    · subst hed
      rw [Maps.atKey_put_same hD (key_lit _), if_pos rfl]
    · rw [Maps.atKey_put_other (key_ne hed), h.at_ e he, if_neg hed]
  · by_cases hed : kl = keyL d
    · exact ⟨d, hd, hed, by rw [if_pos rfl]; exact hn⟩
    · rw [Maps.has_put_other hed] at hk
      obtain ⟨e, he, rfl, hf⟩ := h.key kl hk
      have : e ≠ d := fun h2 => hed (by rw [h2])
      exact ⟨e, he, rfl, by rw [if_neg this]; exact hf⟩
  · by_cases hed : e = d
    · subst hed
      exact ⟨hd, Maps.has_put_same hD (key_lit _) _⟩
    · rw [if_neg hed] at he
      rw [Maps.has_put_other (key_ne hed)]
      exact h.some_ e he

/-- block b is a map that holds what f says, of at most n entries. -/
def MapAt (w : World) (b n : Nat) (f : Nat → Nat) : Prop := ∃ D : DataW Unit, w.ownsMap Tryz.prog 22 (plainElem Tryz.prog 23) b n D ∧ Holds D f
theorem MapAt.lt {w : World} {b n : Nat} {f : Nat → Nat} (h : MapAt w b n f) : b < w.heap.size := by
  obtain ⟨D, h1, _⟩ := h
  exact h1.lt
theorem MapAt.below {w w' : World} {B b n : Nat} {f : Nat → Nat} (h : MapAt w b n f) (hb : Below B w w') (hB : b < B) : MapAt w' b n f := by
  obtain ⟨D, ⟨es, clock, h1, h2⟩, h3⟩ := h
  exact ⟨D, ⟨es, clock, (hb.block b hB).trans h1, h2⟩, h3⟩
theorem MapAt.more {w : World} {b n n' : Nat} {f : Nat → Nat} (h : MapAt w b n f) (hn : n ≤ n') : MapAt w b n' f := by
  obtain ⟨D, h1, h2⟩ := h
  exact ⟨D, h1.mono hn, h2⟩
theorem MapAt.turn {w : World} {b n : Nat} {f g : Nat → Nat} (h : MapAt w b n f) (e : f = g) : MapAt w b n g := e ▸ h
/-- a map of devices has at most 65536 entries. -/
theorem few_nat (l : List Nat) (n : Nat) (hn : l.Nodup) (h : ∀ x ∈ l, x < n) : l.length ≤ n := by
  induction n generalizing l with
  | zero =>
    cases l with
    | nil => exact Nat.le_refl _
    | cons x l => exact absurd (h x (List.mem_cons_self ..)) (by omega)
  | succ n ih =>
    by_cases hm : n ∈ l
    · have h1 := ih (l.erase n) (hn.erase n) (fun x hx => by
        have h2 := h x (List.mem_of_mem_erase hx)
        have h3 : x ≠ n := fun e => by rw [e] at hx; exact (hn.not_mem_erase) hx
        omega)
      rw [List.length_erase_of_mem hm] at h1
      omega
    · have h1 := ih l hn (fun x hx => by
        have h2 := h x hx
        have h3 : x ≠ n := fun e => hm (e ▸ hx)
        omega)
      omega
def devL : Lit → Nat
  | .int _ x => x.toNat
  | _ => 0
theorem Holds.size {D : DataW Unit} {f : Nat → Nat} (h : Holds D f) {es : List (Lit × DataW Unit)} (hD : D = .map es) (hp : es.Pairwise (fun p q => p.1 ≠ q.1)) (hk : ∀ p ∈ es, WideAt.IsKeyLit p.1) : es.length ≤ 65536 := by
  have hd : ∀ p ∈ es, ∃ d, d < 65536 ∧ p.1 = keyL d := fun p hp1 => by
    obtain ⟨d, h1, h2, _⟩ := h.key p.1 (by
      rw [hD]
      exact List.any_eq_true.2 ⟨p, hp1, WideAt.sameKey_self (hk p hp1)⟩)
    exact ⟨d, h1, h2⟩
  have h1 := few_nat (es.map (fun p => devL p.1)) 65536 (by
    refine List.pairwise_map.2 (hp.imp_of_mem fun {p q} hp1 hq1 hne e => ?_)
    obtain ⟨d, _, e1⟩ := hd p hp1
    obtain ⟨d2, _, e2⟩ := hd q hq1
    rw [e1, e2] at e
    have : d = d2 := by simpa [devL] using e
    exact hne (by rw [e1, e2, this])) (fun x hx => by
    obtain ⟨p, hp1, rfl⟩ := List.mem_map.1 hx
    obtain ⟨d, h1, e1⟩ := hd p hp1
    rw [e1]
    simpa [devL] using h1)
  simpa using h1
theorem MapAt.tight {w : World} {b n : Nat} {f : Nat → Nat} (h : MapAt w b n f) : MapAt w b 65536 f := by
  obtain ⟨D, h1, h2⟩ := h
  obtain ⟨es, hD, hp, hk⟩ := h1.entries law16
  have hs := h2.size hD hp hk
  obtain ⟨es', clock, hb, F, _, hD'⟩ := h1
  have h3 : es.length = es'.size := by
    rw [hD'] at hD
    injection hD with hD
    rw [← hD]
    exact length_read es'
  exact ⟨D, ⟨es', clock, hb, F, by omega, hD'⟩, h2⟩
end Go.Proofs.YtmhghgogehmehaaGreat.Dt

/- What ctx knows by the name VApp lies in dot's DApp. -/
namespace Go.Proofs.YtmhghgogehmehaaGreat.Dt
end Go.Proofs.YtmhghgogehmehaaGreat.Dt

/- What tpl-ctx knows by the name PDPlain lies in dot's DSort. -/
namespace Go.Proofs.YtmhghgogehmehaaGreat.Dt
end Go.Proofs.YtmhghgogehmehaaGreat.Dt
