/- Words and contracts that the proofs of this seat stand on, part 8 of 14. -/
import Derived.Test.YtblgbbpbhcaodaaGreatMgG
import Derived.StillTailTactics
import Derived.Deep.Cut
import Derived.Test.YtblgbbpbhcaodaaGreatMgE
import Derived.Deep.DeepCutAuto
import Derived.Test.YtblgbbpbhcaodaaGreatMgC

/- The contracts of the document's reader, going on: Flag, Text, End, Left. -/
namespace Go.Proofs.YtblgbbpbhcaodaaGreat.Nu
open Go.ChangeShapes Go.WideShapes Go.ChangeAt Go.RowKit
set_option linter.unusedVariables false
set_option maxRecDepth 4000

theorem RR.bad {w : World} {h B n c e : Nat} {A : Option Addr} {b l : List Nat} (k : RR w h B A n c b l e) : w.cell? ⟨h, 2, none⟩ = some (.int .i64 (e : Int)) := by
  obtain ⟨p, h1, _⟩ := k
  have := h1.cell 2
  simpa using this
theorem RR.nil_of {w : World} {h B n c e : Nat} {A : Option Addr} {b l : List Nat} (k : RR w h B A n c b l e) (he : e ≠ 0) : l = [] := by
  obtain ⟨p, _, _, _, _, _, _, _, _, h9⟩ := k
  exact h9 he

/-- Left: nothing turns but what is drawn. -/
theorem rleft_any (w : World) (h B : Nat) (A : Option Addr) (n c : Nat) (b l : List Nat) (e : Nat) (k : RR w h B A n c b l e) :
    Calls Tryz.prog 27 #[.pointer (some ⟨h, 0, none⟩)] w fun r w' => r = .returned (.int .i64 ((l.length : Nat) : Int)) ∧ ∃ m, w' = w.drewN m := by
  obtain ⟨p, h1, h2, h3, h4, h5, h6, h7, h8, h9⟩ := k
  have c0 := h1.cell 0
  have c1 := h1.cell 1
  have c2 := h1.cell 2
  simp at c0 c1 c2
  by_cases he : e = 0
  · obtain ⟨q, hq⟩ : ∃ q, l.length = q := ⟨_, rfl⟩
    have hl := h8 he
    subst he
    have hn : n = p + q := by rw [hl, List.length_drop] at hq; omega
    rw [hq]
    have s1 : (n : Int) - (p : Int) = (q : Int) := by omega
    have s2 : IntKind.i64.wrap ((n : Int) - (p : Int)) = (q : Int) := by rw [s1, IntKind.wrap_i64]; omega
    clear h1 h2 h3 h6 h8 h9 hl hq hn
    go_enter Tryz.func27, Tryz.ntmps27
    go_wp2_with fail
    go_quiet (fail)
    go_wp2
    go_ret
    exact ⟨rfl, _, rfl⟩
  · have heb : ((e : Int) != 0) = true := by rw [bne_iff_ne]; omega
    have hl := h9 he
    rw [hl]
    clear h1 h2 h3 h6 h8 h9 hl
    go_enter Tryz.func27, Tryz.ntmps27
    go_wp2
    go_ret
    exact ⟨rfl, 0, rfl⟩

theorem rend_any (w : World) (h B : Nat) (A : Option Addr) (n c : Nat) (b l : List Nat) (e : Nat) (k : RR w h B A n c b l e) (hB : B ≤ h) :
    Calls Tryz.prog 10 #[.pointer (some ⟨h, 0, none⟩)] w (RPost w h B A n c b (.int .i64 ((endE l e : Nat) : Int)) [] (endE l e)) := by
  have HP := Lib.hid k
  clear k
  have c2 := HP.out.bad
  by_cases hl : l = []
  · have v1 : Hid (endE l e = e) := if_pos hl
    have hn : l.length = 0 := by rw [hl]; rfl
    have HL := Lib.hid hl
    clear hl
    go_enter Tryz.func10, Tryz.ntmps10
    go_wp2_with fail
    refine (rleft_any w h B A n c b l e HP.out).mono ?_
    rintro r w' ⟨rfl, m, rfl⟩
    rw [hn]
    clear hn
    go_wp2
    go_ret
    exact ⟨by rw [v1.out]; rfl, by have := HP.out.drewN m; rw [HL.out] at this; rw [v1.out]; exact this, turn_drewN _ _ _⟩
  · have v1 : Hid (endE l e = stopE e 4) := if_neg hl
    have hn : 0 < l.length := List.length_pos_iff.2 hl
    clear hl c2
    go_enter Tryz.func10, Tryz.ntmps10
    go_wp2_with fail
    refine (rleft_any w h B A n c b l e HP.out).mono ?_
    rintro r w' ⟨rfl, m, rfl⟩
    obtain ⟨q, hq⟩ : ∃ q, l.length = q := ⟨_, rfl⟩
    rw [hq] at hn ⊢
    clear hq
    go_wp2_with fail
    refine (rfail_any _ h B A n c b l e 4 (HP.out.drewN m) hB (by decide)).mono ?_
    rintro r w2 ⟨rfl, hp, hg⟩
    have HP2 := Lib.hid hp
    have HG := Lib.hid hg
    have c2 := hp.bad
    clear hp hg
    go_wp2
    go_ret
    exact ⟨by rw [v1.out]; rfl, by rw [v1.out]; exact HP2.out, (turn_drewN _ _ _).trans HG.out⟩
end Go.Proofs.YtblgbbpbhcaodaaGreat.Nu

/- The contracts of the document's Dot and Dots of layer dcode. -/
namespace Go.Proofs.YtblgbbpbhcaodaaGreat.Dc
open Go.ChangeShapes Go.WideShapes Go.ChangeAt Go.RowKit
set_option linter.unusedVariables false
set_option maxRecDepth 4000

theorem grown_new {w V : World} {row : Option Nat} (h : w.grownBy V row) (o : Obj) : w.grownBy (V.alloc o) row := h.trans (Nu.turn_below (below_new V o) row)
theorem grown_below {w V U : World} {row : Option Nat} (h : w.grownBy V row) (hb : Below V.heap.size V U) : w.grownBy U row := h.trans (Nu.turn_below hb row)
theorem grown_set {w V : World} {row : Option Nat} (h : w.grownBy V row) {g : Nat} (hg : w.heap.size ≤ g) (i : Nat) (u : Value) : w.grownBy (V.setCell ⟨g, i, none⟩ u) row := by
  refine ⟨h.os, h.tape, h.output, by simpa [World.setCell] using h.size, fun k hk hne => ?_⟩
  exact (Below.heap_setCell V ⟨g, i, none⟩ u k (fun e => by have e : g = k := e.symm; omega)).trans (h.block k hk hne)
theorem rr_new {w : World} {h B n c e : Nat} {A : Option Addr} {b l : List Nat} (k : Nu.RR w h B A n c b l e) (hB : B ≤ h) (o : Obj) : Nu.RR (w.alloc o) h B A n c b l e :=
  k.kept (Nu.turn_below (below_new w o) none) (Nat.le_of_lt (Nat.lt_of_le_of_lt hB k.lt)) (by simp) (fun k hk => by cases hk)
theorem rr_below {w V : World} {h B n c e : Nat} {A : Option Addr} {b l : List Nat} (k : Nu.RR w h B A n c b l e) (hB : B ≤ h) (hb : Below w.heap.size w V) : Nu.RR V h B A n c b l e :=
  k.kept (Nu.turn_below hb none) (Nat.le_of_lt (Nat.lt_of_le_of_lt hB k.lt)) (by simp) (fun k hk => by cases hk)
theorem rr_set {w : World} {h B n c e g : Nat} {A : Option Addr} {b l : List Nat} (k : Nu.RR w h B A n c b l e) (hB : B ≤ h) (hg : h < g) (i : Nat) (u : Value) : Nu.RR (w.setCell ⟨g, i, none⟩ u) h B A n c b l e :=
  k.kept (Nu.turn_set w g i u) (Nat.le_of_lt (Nat.lt_of_le_of_lt hB k.lt)) (fun e => by cases e; omega) (fun k hk => by cases hk; omega)
theorem dotR_good {s : St} (h : (dotS s).2 = 0) (hm : Dt.mayD (dotN s) = true) : dotR s = (dotN s, dotS s) := if_pos ⟨h, hm⟩
theorem dotR_no {s : St} (h : ¬ ((dotS s).2 = 0 ∧ Dt.mayD (dotN s) = true)) : dotR s = ((0, 0), failS 4 (dotS s)) := if_neg h

set_option maxHeartbeats 8000000 in
theorem rdot_any (w : World) (h B : Nat) (A : Option Addr) (n c : Nat) (b l : List Nat) (e : Nat) (k : Nu.RR w h B A n c b l e) (hB : B ≤ h) :
    Calls Tryz.prog 31 #[.pointer (some ⟨h, 0, none⟩)] w (Nu.RPost w h B A n c b (dval (dotR (l, e)).1) (dotR (l, e)).2.1 (dotR (l, e)).2.2) := by
  have hh : h < w.heap.size := k.lt
  have HS := Lib.hid k.small
  have K0 := Lib.hid (rr_new k hB (dbox (0, 0)))
  have G0 := Lib.hid (grown_new (Nu.turn_refl w (some h)) (dbox (0, 0)))
  have R0 := Lib.hid (Nu.At.new w 39 #[.int .u16 0, .int .u64 0])
  have C1 := Nu.rupto_any (w.alloc (dbox (0, 0))) h B A n c b l e 65535 K0.out hB
  have hS : dotS (l, e) = (Nu.numL (Nu.uptoL 65535 l), Nu.stopE (Nu.uptoE 65535 l e) (Nu.numE (Nu.uptoL 65535 l))) := rfl
  have hN : dotN (l, e) = (Nu.uptoV 65535 l, Nu.numV (Nu.uptoL 65535 l)) := rfl
  have hf := dotN_fit (s := (l, e)) HS.out
  obtain ⟨D, hD⟩ : ∃ D, dotR (l, e) = D := ⟨_, rfl⟩
  have hgood := dotR_good (s := (l, e))
  have hno := dotR_no (s := (l, e))
  rw [hD, hS, hN] at hgood hno
  rw [hN] at hf
  rw [hD]
  obtain ⟨dev, hdev⟩ : ∃ dev, Nu.uptoV 65535 l = dev := ⟨_, rfl⟩
  obtain ⟨num, hnum⟩ : ∃ num, Nu.numV (Nu.uptoL 65535 l) = num := ⟨_, rfl⟩
  obtain ⟨e2, he2⟩ : ∃ e2, Nu.stopE (Nu.uptoE 65535 l e) (Nu.numE (Nu.uptoL 65535 l)) = e2 := ⟨_, rfl⟩
  rw [hdev, hnum] at hgood hno hf
  rw [he2] at hgood hno
  rw [hdev] at C1
  have HG := Lib.hid hgood
  have HNO := Lib.hid hno
  have hd1 : dev < 65536 := hf.1
  have hw16 : IntKind.u16.wrap (dev : Int) = (dev : Int) := by rw [IntKind.wrap_u16]; omega
  have HNUM := Lib.hid hnum
  have HE2 := Lib.hid he2
  clear hS hN hf hD hgood hno hdev hnum he2 k HS
  go_enter Tryz.func31, Tryz.ntmps31
  go_wp2_with fail
  refine C1.mono ?_
  rintro r w1 ⟨rfl, k1, g1⟩
  have K1 := Lib.hid k1
  have G1 := Lib.hid (G0.out.trans g1)
  have R1 := Lib.hid (R0.out.kept g1 (fun e => by cases e; omega))
  have C2 := Nu.rnum_any w1 h B A n c b _ _ K1.out hB
  rw [HNUM.out, HE2.out] at C2
  clear k1 g1 K0 G0 R0 C1
  go_wp2_with fail
  refine C2.mono ?_
  rintro r w2 ⟨rfl, k2, g2⟩
  have K2 := Lib.hid (rr_new k2 hB (dbox (dev, num)))
  have G2 := Lib.hid (grown_new (G1.out.trans g2) (dbox (dev, num)))
  have hs2 : w.heap.size < w2.heap.size := Nat.lt_of_lt_of_le R1.out.lt g2.size
  have R2 := Lib.hid ((R1.out.kept g2 (fun e => by cases e; omega)).kept (Nu.turn_below (below_new w2 (dbox (dev, num))) none) (by simp))
  have V2 := Lib.hid (dbox_new w2 (dev, num))
  have hnil : Hid (e2 ≠ 0 → Nu.numL (Nu.uptoL 65535 l) = []) := Lib.hid (fun he => k2.nil_of he)
  clear k2 g2 K1 G1 R1 C2
  generalize Nu.numL (Nu.uptoL 65535 l) = l2 at *
  obtain ⟨b0, b1⟩ := V2.out _ (by have h := Below.refl (w2.alloc (dbox (dev, num))).heap.size (w2.alloc (dbox (dev, num))); rw [alloc_size] at h; exact h)
  have c2 := K2.out.bad
  rw [show w2.heap.size + 1 = (w2.alloc (dbox (dev, num))).heap.size from (alloc_size _ _).symm] at V2
  go_upto_region 3 with fail
  generalize w2.alloc (dbox (dev, num)) = w3 at *
  by_cases he : e2 = 0
  · subst he
    have HGd := Lib.hid (Dt.rgood_any w3 dev num)
    have HBG := Lib.hid (below_new w3 (dbox (dev, num)))
    have K3 := Lib.hid (rr_new K2.out hB (dbox (dev, num)))
    have G3 := Lib.hid (grown_new G2.out (dbox (dev, num)))
    have R3 := Lib.hid (R2.out.kept (Nu.turn_below HBG.out none) (by simp))
    obtain ⟨b2, b3⟩ := V2.out _ HBG.out
    have c3 := K3.out.bad
    cases hm : Dt.mayD (dev, num) with
    | true =>
      rw [hm] at HGd
      have HD := Lib.hid (HG.out rfl hm)
      have Q3 := R3.out.set 0 (.int .u16 (dev : Int))
      have Q4 := Q3.set 1 (.int .u64 (num : Int))
      have z0 := R3.out.cell 0
      have z1 := Q3.cell 1
      have f0 := R3.out.frozen 0
      have f1 := Q3.frozen 1
      have g0 := Q4.cell 0
      have g1 := Q4.cell 1
      simp at z0 z1 g0 g1
      have KF := Lib.hid (rr_set (rr_set K3.out hB hh 0 (.int .u16 (dev : Int))) hB hh 1 (.int .u64 (num : Int)))
      have GF := Lib.hid (grown_set (grown_set G3.out (Nat.le_refl _) 0 (.int .u16 (dev : Int))) (Nat.le_refl _) 1 (.int .u64 (num : Int)))
      clear Q3 Q4 HG HNO
      go_wp2_with fail
      refine HGd.out.mono ?_
      rintro r w4 ⟨rfl, rfl⟩
      generalize w3.alloc (dbox (dev, num)) = w4 at *
      go_wp2
      refine bodyPost_ret (v := dval (dev, num)) ?_ rfl ?_
      · simp [results, Tryz.f31, go_sem, g0, g1]
      · rw [HD.out]
        exact ⟨rfl, KF.out, GF.out⟩
    | false =>
      rw [hm] at HGd
      have HD := Lib.hid (HNO.out (fun h => by rw [hm] at h; cases h.2))
      have CF := Nu.rfail_any _ h B A n c b _ _ 4 K3.out hB (by decide)
      clear HG HNO c3 b2 b3
      go_wp2_with fail
      refine HGd.out.mono ?_
      rintro r w4 ⟨rfl, rfl⟩
      go_wp2_with fail
      refine CF.mono ?_
      rintro r w5 ⟨rfl, k5, g5⟩
      have R5 := Lib.hid (R3.out.kept g5 (fun e => by cases e; omega))
      have G5 := Lib.hid (G3.out.trans g5)
      have K5 := Lib.hid k5
      have c5 := k5.bad
      have Q3 := R5.out.set 0 (.int .u16 0)
      have Q4 := Q3.set 1 (.int .u64 0)
      have z0 := R5.out.cell 0
      have z1 := Q3.cell 1
      have f0 := R5.out.frozen 0
      have f1 := Q3.frozen 1
      have g0 := Q4.cell 0
      have g1 := Q4.cell 1
      simp at z0 z1 g0 g1
      have KF := Lib.hid (rr_set (rr_set K5.out hB hh 0 (.int .u16 0)) hB hh 1 (.int .u64 0))
      have GF := Lib.hid (grown_set (grown_set G5.out (Nat.le_refl _) 0 (.int .u16 0)) (Nat.le_refl _) 1 (.int .u64 0))
      have he4 : Nu.stopE 0 4 = 4 := rfl
      rw [he4] at c5
      clear Q3 Q4 k5 g5 CF
      go_wp2
      refine bodyPost_ret (v := dval (0, 0)) ?_ rfl ?_
      · simp [results, Tryz.f31, go_sem, g0, g1]
      · rw [HD.out]
        exact ⟨rfl, KF.out, GF.out⟩
  · have hi : ((e2 : Int) == 0) = false := by rw [beq_eq_false_iff_ne]; omega
    have HD := Lib.hid (HNO.out (fun h => he h.1))
    have Q3 := R2.out.set 0 (.int .u16 0)
    have Q4 := Q3.set 1 (.int .u64 0)
    have z0 := R2.out.cell 0
    have z1 := Q3.cell 1
    have f0 := R2.out.frozen 0
    have f1 := Q3.frozen 1
    have g0 := Q4.cell 0
    have g1 := Q4.cell 1
    simp at z0 z1 g0 g1
    have KF := Lib.hid (rr_set (rr_set K2.out hB hh 0 (.int .u16 0)) hB hh 1 (.int .u64 0))
    have GF := Lib.hid (grown_set (grown_set G2.out (Nat.le_refl _) 0 (.int .u16 0)) (Nat.le_refl _) 1 (.int .u64 0))
    have HE : Hid (failS 4 (l2, e2) = (l2, e2)) := Lib.hid (by show ([], Nu.stopE e2 4) = (l2, e2); rw [hnil.out he, stop_nz he])
    clear Q3 Q4 HG HNO
    go_wp2
    refine bodyPost_ret (v := dval (0, 0)) ?_ rfl ?_
    · simp [results, Tryz.f31, go_sem, g0, g1]
    · rw [HD.out, HE.out]
      exact ⟨rfl, KF.out, GF.out⟩
end Go.Proofs.YtblgbbpbhcaodaaGreat.Dc

/- The contract of the document's Dots of layer dcode. -/
namespace Go.Proofs.YtblgbbpbhcaodaaGreat.Dc
open Go.ChangeShapes Go.WideShapes Go.ChangeAt Go.RowKit
set_option linter.unusedVariables false
set_option maxRecDepth 4000

/-- dots of one's own, beside a reader. -/
structure DK (w : World) (h B : Nat) (A : Option Addr) (n c : Nat) (b : List Nat) (V : World) (A6 : Option Addr) (m c6 : Nat) (o : List Dot) (s : St) : Prop where
  len : o.length = m
  fit : Dt.Fit o
  own : V.ownsRow w.heap.size 39 2 (.slice A6 m c6) m (Dt.dv o)
  rr : Nu.RR V h B A n c b s.1 s.2
  gr : w.grownBy V (some h)
theorem own_far {w V : World} {h m c size : Nat} {e : TypeId} {A : Option Addr} {xs : List Value} (ho : V.ownsRow w.heap.size e size (.slice A m c) m xs) (hh : h < w.heap.size) : (Value.slice A m c).ownBlock = none ∨ (Value.slice A m c).ownBlock ≠ some h := by
  right
  intro e2
  have := (ho.lt h e2).1
  omega
theorem DK.below {w V U : World} {h B n c m c6 : Nat} {A A6 : Option Addr} {b : List Nat} {o : List Dot} {s : St} (k : DK w h B A n c b V A6 m c6 o s) (hB : B ≤ h) (hb : Below V.heap.size V U) : DK w h B A n c b U A6 m c6 o s :=
  ⟨k.len, k.fit, Dt.own_kept k.own hb, rr_below k.rr hB hb, grown_below k.gr hb⟩
/-- a reader's call, beside. -/
theorem DK.read {w V U : World} {h B n c m c6 : Nat} {A A6 : Option Addr} {b : List Nat} {o : List Dot} {s s' : St} (k : DK w h B A n c b V A6 m c6 o s) (hh : h < w.heap.size) (hr : Nu.RR U h B A n c b s'.1 s'.2) (hg : V.grownBy U (some h)) : DK w h B A n c b U A6 m c6 o s' :=
  ⟨k.len, k.fit, k.own.kept hg (own_far k.own hh), hr, k.gr.trans hg⟩
theorem DK.none_ {w V : World} {h B n c m c6 : Nat} {A A6 : Option Addr} {b : List Nat} {o : List Dot} {s : St} (k : DK w h B A n c b V A6 m c6 o s) : DK w h B A n c b V none 0 0 [] s :=
  ⟨rfl, (fun x hx => by cases hx), World.ownsRow_nil _ _ _ _, k.rr, k.gr⟩
/-- what stands between two rounds of Dots. -/
def DRel (w : World) (h B : Nat) (A : Option Addr) (n c : Nat) (b : List Nat) (L num : Nat) (s1 : St) (v i : Value) (wr : World) : Prop :=
  ∃ (k m c6 : Nat) (A6 : Option Addr) (o : List Dot) (s : St), k ≤ num ∧ i = .int .u64 (k : Int) ∧ v = .slice A6 m c6 ∧ DK w h B A n c b wr A6 m c6 o s ∧ dotsL num [] s1 = dotsL (num - k) o s ∧ m ≤ L + 1 ∧ (s.2 = 0 → m + s.1.length ≤ L)
theorem dotsS_len {L : Nat} (o : List Dot) (s : St) : ((dotsS o s).2 = 0 → o.length + s.1.length ≤ L → o.length + 1 + (dotsS o s).1.length ≤ L) := by
  intro h hl
  unfold dotsS at h ⊢
  by_cases hc : (dotR s).2.2 = 0 ∧ stepsB o (dotR s).1 = false
  · rw [if_pos hc] at h
    exact absurd h (stop_ne (by decide))
  · rw [if_neg hc] at h ⊢
    have := (dotR_len s).2 h
    omega
theorem d_next {w V U : World} {h B n c L num k m c6 c3 : Nat} {A A6 A3 : Option Addr} {b : List Nat} {o : List Dot} {s s' s1 : St} {d : Dot} (hh : h < w.heap.size) (hB : B ≤ h) (hk : k < num) (he : s.2 = 0) (hV : DK w h B A n c b V A6 m c6 o s') (hd : d.1 < 65536 ∧ d.2 < big)
    (hS : dotsS o s = s') (hD : (dotR s).1 = d) (hL : dotsL num [] s1 = dotsL (num - k) o s) (hl : m + s.1.length ≤ L) (ho : U.ownsRow w.heap.size 39 2 (.slice A3 (m + 1) c3) (m + 1) (Dt.dv (o ++ [d]))) (hg : (V.alloc (dbox d)).grownBy U (Value.slice A6 m c6).ownBlock) :
    DRel w h B A n c b L num s1 (.slice A3 (m + 1) c3) (.int .u64 ((k : Int) + 1)) U := by
  have hw : w.heap.size ≤ (V.alloc (dbox d)).heap.size := by rw [alloc_size]; exact Nat.le_trans hV.gr.size (Nat.le_succ _)
  have hrow : ∀ q, (Value.slice A6 m c6).ownBlock = some q → w.heap.size ≤ q := fun q hq => (hV.own.lt q hq).1
  have hr : Nu.RR U h B A n c b s'.1 s'.2 := (rr_new hV.rr hB (dbox d)).kept hg (by omega) (fun e => by have := hrow h e.symm; omega) (fun q hq => by have := hrow q hq; omega)
  refine ⟨k + 1, m + 1, c3, A3, o ++ [d], s', hk, by go_num, rfl, ⟨by rw [List.length_append, hV.len]; rfl, ?_, ho, hr, ?_⟩, ?_, by omega, fun h0 => ?_⟩
  · intro x hx
    rcases List.mem_append.1 hx with hx | hx
    · exact hV.fit x hx
    · rw [List.mem_singleton] at hx
      rw [hx]; exact hd
  · have hb := (grown_new hV.gr (dbox d))
    refine ⟨hg.os.trans hb.os, hg.tape.trans hb.tape, hg.output.trans hb.output, Nat.le_trans hb.size hg.size, fun q hq hne => ?_⟩
    exact (hg.block q (by omega) (fun e => by have := hrow q e.symm; omega)).trans (hb.block q hq hne)
  · rw [hL, show num - k = num - (k + 1) + 1 by omega]
    conv => lhs; unfold dotsL
    rw [if_pos he, hS, hD]
  · have := dotsS_len (L := L) o s (by rw [hS]; exact h0) (by rw [hV.len]; exact hl)
    rw [hS, hV.len] at this
    exact this
/-- dots come out, and a reader's call it was. -/
def DGot (w : World) (h B : Nat) (A : Option Addr) (n c : Nat) (b : List Nat) (D : List Dot × St) (e : Ending) (w' : World) : Prop := ∃ A' m c', e = .returned (.slice A' m c') ∧ DK w h B A n c b w' A' m c' D.1 D.2
theorem sound_rr {w : World} {h B n c e : Nat} {A : Option Addr} {b l : List Nat} (k : Nu.RR w h B A n c b l e) : Sound (l, e) := fun he => k.nil_of he
theorem steps_last {o : List Dot} {j : Nat} {x d : Dot} (hl : o.length = j + 1) (hx : o[j]? = some x) : stepsB o d = Dt.aheadD x d := by
  unfold stepsB
  have : o.getLast? = some x := by rw [List.getLast?_eq_getElem?, hl]; exact hx
  rw [this]
theorem cmp_ge (x d : Dot) : decide (0 ≤ Dt.cmpD x d) = !Dt.aheadD x d := by
  have h := Dt.cmp_neg x d
  cases ha : Dt.aheadD x d with
  | true => rw [ha] at h; have := of_decide_eq_true h; simp; omega
  | false => rw [ha] at h; have := of_decide_eq_false h; simp; omega

set_option maxHeartbeats 16000000 in
theorem rdots_any (w : World) (h B : Nat) (A : Option Addr) (n c : Nat) (b l : List Nat) (e : Nat) (most : Int) (k : Nu.RR w h B A n c b l e) (hB : B ≤ h) (hl : l.length ≤ 1099511627776) (hm1 : -9223372036854775808 ≤ most) (hm2 : most < 9223372036854775808) :
    Calls Tryz.prog 34 #[.pointer (some ⟨h, 0, none⟩), .int .i64 most] w (DGot w h B A n c b (dotsR most.toNat (l, e))) := by
  have hh : h < w.heap.size := k.lt
  have hsm := k.small
  have HSO := Lib.hid (sound_rr k)
  have hS : dotsR most.toNat (l, e) = (if (dotsL (Nu.numV l) [] (dotsF most.toNat (l, e))).2.2 = 0 then dotsL (Nu.numV l) [] (dotsF most.toNat (l, e)) else ([], (dotsL (Nu.numV l) [] (dotsF most.toNat (l, e))).2)) := rfl
  have hF : dotsF most.toNat (l, e) = if most.toNat < Nu.numV l then failS 3 (Nu.numL l, Nu.stopE e (Nu.numE l)) else (Nu.numL l, Nu.stopE e (Nu.numE l)) := rfl
  have hv := Nu.numV_lt hsm
  have hle := numS_len (l, e)
  have C1 := Nu.rnum_any w h B A n c b l e k hB
  obtain ⟨s1, hs1⟩ : ∃ s1, dotsF most.toNat (l, e) = s1 := ⟨_, rfl⟩
  obtain ⟨D, hD⟩ : ∃ D, dotsR most.toNat (l, e) = D := ⟨_, rfl⟩
  obtain ⟨num, hnum⟩ : ∃ num, Nu.numV l = num := ⟨_, rfl⟩
  rw [hD] at hS ⊢
  rw [hs1] at hF hS
  rw [hnum] at hF hS hv C1
  have HS := Lib.hid hS
  have HF := Lib.hid hF
  have HLE : Hid ((Nu.numL l).length ≤ l.length) := Lib.hid hle
  have HLL := Lib.hid hl
  have hsmall : Hid (Nu.Small (Nu.numL l)) := Lib.hid (small_numL hsm)
  clear hS hF hs1 hD hnum hle k hsm hl
  obtain ⟨mo, hmo⟩ : ∃ mo, most.toNat = mo := ⟨_, rfl⟩
  rw [hmo] at HF
  have HMO := Lib.hid hmo
  have hmb : mo ≤ 9223372036854775807 := by omega
  clear hmo
  go_enter Tryz.func34, Tryz.ntmps34
  go_upto_if 11 with fail
  go_cut [1] (fun s1 wx => s1 = .int .i64 (mo : Int) ∧ wx = w)
  case first =>
    by_cases hm : most < 0
    · have h0 : Hid (mo = 0) := Lib.hid (by have := HMO.out; omega)
      go_wp2
      go_meet
      exact ⟨by rw [h0.out]; rfl, rfl⟩
    · have h0 : Hid (most = (mo : Int)) := Lib.hid (by have := HMO.out; omega)
      go_wp2
      go_meet
      exact ⟨by rw [h0.out], rfl⟩
  case rest =>
    obtain ⟨rfl, hwc⟩ := hcut
    have hwc2 := hwc.symm
    subst hwc2
    clear hwc
    go_upto_region 4 with fail
    refine C1.mono ?_
    rintro r w2 ⟨rfl, k2, g2⟩
    have K2 := Lib.hid k2
    have G2 := Lib.hid g2
    have hw64 : IntKind.u64.wrap (mo : Int) = (mo : Int) := by rw [IntKind.wrap_u64]; omega
    clear k2 g2 C1
    go_upto_if 17 with fail
    go_cut [] (fun wx => Nu.RR wx h B A n c b s1.1 s1.2 ∧ w.grownBy wx (some h))
    case first =>
      by_cases hlt : mo < num
      · have CF := Nu.rfail_any w2 h B A n c b _ _ 3 K2.out hB (by decide)
        have hs : Hid (s1 = failS 3 (Nu.numL l, Nu.stopE e (Nu.numE l))) := Lib.hid (by rw [HF.out, if_pos hlt])
        have hd : decide (mo < num) = true := decide_eq_true hlt
        go_wp2_with fail
        refine CF.mono ?_
        rintro r w3 ⟨rfl, k3, g3⟩
        go_wp2
        go_meet
        rw [hs.out]
        exact ⟨k3, G2.out.trans g3⟩
      · have hs : Hid (s1 = (Nu.numL l, Nu.stopE e (Nu.numE l))) := Lib.hid (by rw [HF.out, if_neg hlt])
        have hd : decide (mo < num) = false := decide_eq_false hlt
        go_wp2
        go_meet
        rw [hs.out]
        exact ⟨K2.out, G2.out⟩
    case rest =>
      obtain ⟨k3, g3⟩ := hcut
      have K3 := Lib.hid k3
      have G3 := Lib.hid g3
      have hlen : Hid (s1.1.length ≤ l.length) := Lib.hid (by
        rw [HF.out]
        split
        · show ([] : List Nat).length ≤ _; simp
        · exact HLE.out)
      clear k3 g3 K2 G2
      go_wp2_with fail
      go_loopw [6, 7] (fun v i wr => DRel w h B A n c b l.length num s1 v i wr) (fun _ i _ => num - (intOf i).toNat)
      case atStart => exact ⟨0, 0, 0, none, [], s1, Nat.zero_le _, rfl, rfl, ⟨rfl, (fun x hx => by cases hx), World.ownsRow_nil _ _ _ _, K3.out, G3.out⟩, rfl, Nat.zero_le _, fun _ => by rw [Nat.zero_add]; exact hlen.out⟩
      case round =>
        clear K3 G3 hlen
        obtain ⟨k, m, c6, A6, o, s, hk, rfl, rfl, hdk, hdl, hml, hbl⟩ := hrel
        have HDK := Lib.hid hdk
        have HDL := Lib.hid hdl
        have c2 := hdk.rr.bad
        clear hdk hdl
        obtain ⟨sl, se⟩ := s
        simp only at c2 hbl
        by_cases hlt : k < num
        · by_cases he : se = 0
          · subst he
            have hmm : m + sl.length ≤ l.length := hbl rfl
            have CD := rdot_any wr h B A n c b sl 0 HDK.out.rr hB
            obtain ⟨d, hd⟩ : ∃ d, (dotR (sl, 0)).1 = d := ⟨_, rfl⟩
            obtain ⟨s', hs'⟩ : ∃ s', (dotR (sl, 0)).2 = s' := ⟨_, rfl⟩
            have hfd := dotR_fit (s := (sl, 0)) HDK.out.rr.small
            have hSS : dotsS o (sl, 0) = if (dotR (sl, 0)).2.2 = 0 ∧ stepsB o (dotR (sl, 0)).1 = false then failS 4 (dotR (sl, 0)).2 else (dotR (sl, 0)).2 := rfl
            rw [hd, hs'] at hSS
            rw [hd] at hfd
            rw [hd, hs'] at CD
            have HSS := Lib.hid hSS
            have HFD := Lib.hid hfd
            have HDD := Lib.hid hd
            clear hd hs' hSS hfd
            go_upto_region 12 with fail
            refine CD.mono ?_
            rintro r w3 ⟨rfl, k3, g3⟩
            have HD4 := Lib.hid ((HDK.out.read (s' := s') hh k3 g3).below hB (below_new w3 (dbox d)))
            have V4 := Lib.hid (dbox_new w3 d)
            rw [show w3.heap.size + 1 = (w3.alloc (dbox d)).heap.size from (alloc_size _ _).symm] at V4
            have hml2 : m ≤ 1099511627776 := by have := HLL.out; omega
            have hg3 : w.heap.size ≤ w3.heap.size := Nat.le_trans HDK.out.gr.size g3.size
            clear k3 g3 CD c2 HDK
            go_upto_region 12 with fail
            generalize w3.alloc (dbox d) = w4 at *
            obtain ⟨sl', se'⟩ := s'
            go_cut [54] (fun v wx => v = .bool (decide (se' = 0) && !stepsB o d) ∧ Below w4.heap.size w4 wx)
            case first =>
              have c4 := HD4.out.rr.bad
              simp only at c4
              by_cases he' : se' = 0
              · subst he'
                by_cases hm0 : m = 0
                · subst hm0
                  have ho : o = [] := List.eq_nil_of_length_eq_zero HD4.out.len
                  have hst : Hid (stepsB o d = true) := Lib.hid (by rw [ho]; rfl)
                  clear ho
                  go_quiet (fail)
                  go_wp2
                  go_meet
                  exact ⟨by rw [hst.out]; rfl, Nu.below_drewN _ _ _⟩
                · obtain ⟨j, hjm⟩ : ∃ j, m = j + 1 := ⟨m - 1, by omega⟩
                  have hj1 : (m : Int) - 1 = (j : Int) := by omega
                  have s5 : (j : Int) < (m : Int) := by omega
                  have s3 : (0 : Int) ≤ (j : Int) := by omega
                  obtain ⟨ad, x, rfl, hadB, hlx, hx1, hx2, hcx⟩ := (Dt.dots_own HD4.out.own HD4.out.fit).cells (k := j) (by rw [HD4.out.len]; omega)
                  have hst : Hid (stepsB o d = Dt.aheadD x d) := Lib.hid (steps_last (by rw [HD4.out.len]; exact hjm) hlx)
                  clear hm0 hjm
                  have HK : Hid (∀ V, Below w4.heap.size w4 V → V.cell? ⟨h, 2, none⟩ = some (.int .i64 0) ∧ (V.cell? (ad.add (j * 2)) = some (.int .u16 (x.1 : Int)) ∧ V.cell? ⟨(ad.add (j * 2)).block, (ad.add (j * 2)).off + 1, none⟩ = some (.int .u64 (x.2 : Int))) ∧ V.cell? ⟨w3.heap.size, 0, none⟩ = some (.int .u16 (d.1 : Int)) ∧ V.cell? ⟨w3.heap.size, 1, none⟩ = some (.int .u64 (d.2 : Int))) := Lib.hid (fun V hV =>
                    ⟨(hV.cell (World.block_lt_of_cell? _ _ c4)).trans c4, hcx V hV, V4.out V hV⟩)
                  obtain ⟨q0, ⟨q1, q2⟩, q3, q4⟩ := HK.out w4 (Below.refl _ _)
                  have C1 := fun W (hW : Below w4.heap.size w4 W) => Dt.rcmp_later w4 W x d hW
                  have hwj : IntKind.i64.wrap (j : Int) = (j : Int) := by rw [IntKind.wrap_i64]; omega
                  clear hlx hcx c4
                  go_region_held3 (fun V => V.cell? ⟨h, 2, none⟩ = some (.int .i64 0) ∧ (V.cell? (ad.add (j * 2)) = some (.int .u16 (x.1 : Int)) ∧ V.cell? ⟨(ad.add (j * 2)).block, (ad.add (j * 2)).off + 1, none⟩ = some (.int .u64 (x.2 : Int))) ∧ V.cell? ⟨w3.heap.size, 0, none⟩ = some (.int .u16 (d.1 : Int)) ∧ V.cell? ⟨w3.heap.size, 1, none⟩ = some (.int .u64 (d.2 : Int))) (first | exact ⟨q0, ⟨q1, q2⟩, q3, q4⟩ | assumption | exact HK.out _ (by (repeat (first | exact Below.refl _ _ | assumption | apply bel_drew)))) (first
                    | (go_at_call 25; (with_reducible refine (C1 _ ?_).mono ?_); (repeat (first | exact Below.refl _ _ | assumption | apply bel_drew)); rintro e V ⟨rfl, bv⟩; have hcV := HK.out V bv))
                  all_goals
                    have hcg : Hid (decide (0 ≤ Dt.cmpD x d) = !Dt.aheadD x d) := Lib.hid (cmp_ge x d)
                    generalize Dt.cmpD x d = z at *
                    rw [← hj1]
                    clear hj1 hwj s5 s3 q0 q1 q2 q3 q4 hcV
                    go_wp2
                    go_meet
                    exact ⟨by rw [hst.out, hcg.out]; rfl, bv⟩
              · have hi : ((se' : Int) == 0) = false := by rw [beq_eq_false_iff_ne]; omega
                go_quiet (fail)
                go_wp2
                go_meet
                exact ⟨by rw [decide_eq_false he']; rfl, Nu.below_drewN _ _ _⟩
            case rest =>
              obtain ⟨rfl, hb⟩ := hcut
              cases hbad : (decide (se' = 0) && !stepsB o d) with
              | true =>
                have hb1 : se' = 0 ∧ stepsB o d = false := by simpa using hbad
                have HS2 : Hid (dotsS o (sl, 0) = failS 4 (sl', se')) := Lib.hid (by rw [HSS.out]; exact if_pos hb1)
                have CF := Nu.rfail_any wc h B A n c b _ _ 4 (HD4.out.below hB hb).rr hB (by decide)
                have v4 := V4.out wc hb
                have hlt4 : w3.heap.size < wc.heap.size := World.block_lt_of_cell? _ _ v4.1
                clear hbad hb1
                go_wp2_with fail
                refine CF.mono ?_
                rintro r V ⟨rfl, k5, g5⟩
                have HDV := Lib.hid ((HD4.out.below hB hb).read (s' := failS 4 (sl', se')) hh k5 g5)
                have v5 : V.cell? ⟨w3.heap.size, 0, none⟩ = some (.int .u16 (d.1 : Int)) := (World.grownBy.cell_far g5 ⟨w3.heap.size, 0, none⟩ hlt4 (fun e => by have e2 : w3.heap.size = h := (by simpa using e); omega)).trans v4.1
                have v6 : V.cell? ⟨w3.heap.size, 1, none⟩ = some (.int .u64 (d.2 : Int)) := (World.grownBy.cell_far g5 ⟨w3.heap.size, 1, none⟩ hlt4 (fun e => by have e2 : w3.heap.size = h := (by simpa using e); omega)).trans v4.2
                clear k5 g5 CF v4 hlt4
                have HLO : Hid (m + 1 ≤ 8796093022208) := Lib.hid (by omega)
                have hsz : Hid (w.heap.size ≤ (V.alloc (dbox d)).heap.size) := Lib.hid (by rw [alloc_size]; exact Nat.le_trans HDV.out.gr.size (Nat.le_succ _))
                have hw1 : IntKind.u64.wrap ((k : Int) + 1) = (k : Int) + 1 := by rw [IntKind.wrap_u64]; omega
                go_wp2_with (at_builtin; refine Dt.wpList_any rfl (.tmp 57) (.tmp 59) rfl rfl _ w.heap.size m (.slice A6 m c6) o (some ⟨V.heap.size, 0, none⟩) [d] 1 1 rfl rfl (HDV.out.own.alloc _) (fun h => by cases h) (Dt.lies_one V d) rfl HLO.out hsz.out ?_; intro A3 c3 V3 ho3 hg3; have HR := Lib.hid (d_next hh hB hlt rfl HDV.out HFD.out HS2.out HDD.out HDL.out hmm ho3 hg3); clear ho3 hg3)
                go_roundw
                case rel => exact HR.out
                case measure => simp [intOf]; omega
              | false =>
                have HS2 : Hid (dotsS o (sl, 0) = (sl', se')) := Lib.hid (by
                  rw [HSS.out]
                  refine if_neg (fun hh => ?_)
                  have h1 : se' = 0 := hh.1
                  rw [h1, hh.2] at hbad
                  cases hbad)
                have HDV := Lib.hid (HD4.out.below hB hb)
                obtain ⟨v5, v6⟩ := V4.out wc hb
                clear hbad
                have HLO : Hid (m + 1 ≤ 8796093022208) := Lib.hid (by omega)
                have hsz : Hid (w.heap.size ≤ (wc.alloc (dbox d)).heap.size) := Lib.hid (by rw [alloc_size]; exact Nat.le_trans HDV.out.gr.size (Nat.le_succ _))
                have hw1 : IntKind.u64.wrap ((k : Int) + 1) = (k : Int) + 1 := by rw [IntKind.wrap_u64]; omega
                go_wp2_with (at_builtin; refine Dt.wpList_any rfl (.tmp 57) (.tmp 59) rfl rfl _ w.heap.size m (.slice A6 m c6) o (some ⟨wc.heap.size, 0, none⟩) [d] 1 1 rfl rfl (HDV.out.own.alloc _) (fun h => by cases h) (Dt.lies_one wc d) rfl HLO.out hsz.out ?_; intro A3 c3 V3 ho3 hg3; have HR := Lib.hid (d_next hh hB hlt rfl HDV.out HFD.out HS2.out HDD.out HDL.out hmm ho3 hg3); clear ho3 hg3)
                go_roundw
                case rel => exact HR.out
                case measure => simp [intOf]; omega
          · have hi : ((se : Int) == 0) = false := by rw [beq_eq_false_iff_ne]; omega
            have HE : Hid (D = ([], (sl, se))) := Lib.hid (by rw [HS.out, HDL.out, dotsL_bad he]; exact if_neg he)
            have HF2 := Lib.hid (DK.none_ HDK.out)
            clear HDK
            go_wp2
            go_ret
            rw [HE.out]
            exact ⟨none, 0, 0, rfl, HF2.out⟩
        · obtain rfl : k = num := by omega
          have HL0 : Hid (dotsL k [] s1 = (o, (sl, se))) := Lib.hid (by rw [HDL.out, Nat.sub_self]; rfl)
          by_cases he : se = 0
          · subst he
            have HE : Hid (D = (o, (sl, 0))) := Lib.hid (by rw [HS.out, HL0.out]; rfl)
            go_wp2
            go_ret
            rw [HE.out]
            exact ⟨A6, m, c6, rfl, HDK.out⟩
          · have hi : ((se : Int) == 0) = false := by rw [beq_eq_false_iff_ne]; omega
            have HE : Hid (D = ([], (sl, se))) := Lib.hid (by rw [HS.out, HL0.out]; exact if_neg he)
            have HF2 := Lib.hid (DK.none_ HDK.out)
            clear HDK
            go_wp2
            go_ret
            rw [HE.out]
            exact ⟨none, 0, 0, rfl, HF2.out⟩
end Go.Proofs.YtblgbbpbhcaodaaGreat.Dc

/- Words for reading an event: a reader of whatever kind, the event's box, the result's box. -/
namespace Go.Proofs.YtblgbbpbhcaodaaGreat.Ec
open Go.ChangeShapes Go.WideShapes Go.ChangeAt Go.RowKit Go.Proofs.YtblgbbpbhcaodaaGreat.Dc
set_option linter.unusedVariables false
set_option maxRecDepth 4000

/-- a reader in block h: it stays where other blocks turn. -/
structure Rdr (R : World → St → Prop) (h B : Nat) : Prop where
  le : B ≤ h
  lt : ∀ {V : World} {s : St}, R V s → h < V.heap.size
  kept : ∀ {V U : World} {s : St} {row : Option Nat}, R V s → V.grownBy U row → some h ≠ row → (∀ k, row = some k → B ≤ k) → R U s
theorem Rdr.new {R : World → St → Prop} {h B : Nat} (r : Rdr R h B) {V : World} {s : St} (k : R V s) (o : Obj) : R (V.alloc o) s := r.kept k (Nu.turn_below (below_new V o) none) (by simp) (fun q e => by cases e)
theorem Rdr.below {R : World → St → Prop} {h B : Nat} (r : Rdr R h B) {V U : World} {s : St} (k : R V s) (hb : Below V.heap.size V U) : R U s := r.kept k (Nu.turn_below hb none) (by simp) (fun q e => by cases e)
theorem Rdr.set {R : World → St → Prop} {h B : Nat} (r : Rdr R h B) {V : World} {s : St} (k : R V s) {g : Nat} (hg : h < g) (i : Nat) (u : Value) : R (V.setCell ⟨g, i, none⟩ u) s :=
  r.kept k (Nu.turn_set V g i u) (fun e => by cases e; omega) (fun q e => by cases e; have := r.le; omega)
theorem Rdr.row {R : World → St → Prop} {h B : Nat} (r : Rdr R h B) {V U : World} {s : St} (k : R V s) {row : Option Nat} (hg : V.grownBy U row) (hr : ∀ q, row = some q → h < q) : R U s :=
  r.kept k hg (fun e => by have := hr h e.symm; omega) (fun q e => by have := hr q e; have := r.le; omega)
theorem fail_self' {s : St} (hs : Sound s) (h : s.2 ≠ 0) : failS 4 s = s := by
  obtain ⟨a, e⟩ := s
  show ([], Nu.stopE e 4) = (a, e)
  rw [show a = [] from hs h, stop_nz h]
theorem grown_row2 {w V U : World} {row row2 : Option Nat} (h : w.grownBy V row) (hg : V.grownBy U row2) (hr : ∀ q, row2 = some q → w.heap.size ≤ q) : w.grownBy U row :=
  ⟨hg.os.trans h.os, hg.tape.trans h.tape, hg.output.trans h.output, Nat.le_trans h.size hg.size, fun q hq hne => (hg.block q (Nat.lt_of_lt_of_le hq h.size) (fun e => by have := hr q e.symm; omega)).trans (h.block q hq hne)⟩
/-- an event's cells as they are made. -/
abbrev zcells : Array Value := #[.int .u16 0, .int .u64 0, .int .u8 0, .int .u64 0, .int .u8 0, .string ⟨#[]⟩, .slice none 0 0]
abbrev zbox : Obj := .cells #[.int .u16 0, .int .u64 0, .int .u8 0, .int .u64 0, .int .u8 0, .string ⟨#[]⟩, .slice none 0 0] 42
/-- a reader, a result that is empty yet, and the event's box. -/
structure GK (R : World → St → Prop) (w : World) (h g : Nat) (cs : Array Value) (s : St) (V : World) : Prop where
  rr : R V s
  gr : w.grownBy V (some h)
  res : Nu.At V w.heap.size 42 zcells
  box : Nu.At V g 42 cs
theorem GK.read {R : World → St → Prop} {w V U : World} {h g : Nat} {cs : Array Value} {s s' : St} (k : GK R w h g cs s V) (hh : h < w.heap.size) (hg : w.heap.size < g) (hr : R U s') (hu : V.grownBy U (some h)) : GK R w h g cs s' U :=
  ⟨hr, k.gr.trans hu, k.res.kept hu (fun e => by cases e; omega), k.box.kept hu (fun e => by cases e; omega)⟩
theorem GK.put {R : World → St → Prop} {w V : World} {h B g : Nat} {cs : Array Value} {s : St} (k : GK R w h g cs s V) (r : Rdr R h B) (hh : h < w.heap.size) (hg : w.heap.size < g) (i : Nat) (u : Value) : GK R w h g (cs.setIfInBounds i u) s (V.setCell ⟨g, i, none⟩ u) :=
  ⟨r.set k.rr (by omega) i u, grown_set k.gr (by omega) i u, k.res.kept (Nu.turn_set V g i u) (fun e => by cases e; omega), k.box.set i u⟩
theorem GK.below {R : World → St → Prop} {w V U : World} {h B g : Nat} {cs : Array Value} {s : St} (k : GK R w h g cs s V) (r : Rdr R h B) (hb : Below V.heap.size V U) : GK R w h g cs s U :=
  ⟨r.below k.rr hb, grown_below k.gr hb, k.res.below hb k.res.lt, k.box.below hb k.box.lt⟩
/-- an event that came out, its dots in a block of their own. -/
structure EO (B0 : Nat) (V : World) (q : Ev.EV) (x : Evt) : Prop where
  is : Ev.EventIs V V.heap.size q x
  far : ∀ ad, q.adr = some ad → B0 ≤ ad.block
theorem EO.below {B0 : Nat} {V U : World} {q : Ev.EV} {x : Evt} (k : EO B0 V q x) (hb : Below V.heap.size V U) : EO B0 U q x := ⟨k.is.up hb, k.far⟩
theorem EO.less {B0 B1 : Nat} {V : World} {q : Ev.EV} {x : Evt} (k : EO B0 V q x) (h : B1 ≤ B0) : EO B1 V q x := ⟨k.is, fun ad e => Nat.le_trans h (k.far ad e)⟩
/-- a list of dots stays where another block turns. -/
theorem dots_turn {n c : Nat} {V U : World} {A : Option Addr} {l : List Dot} {row : Option Nat} (h : Ev.DotsAt V V.heap.size A l n c) (hg : V.grownBy U row) (hne : ∀ ad, A = some ad → some ad.block ≠ row) : Ev.DotsAt U U.heap.size A l n c := by
  refine ⟨h.len, h.nil, h.cap, h.max, h.wide, h.dots.1, fun hl => ?_⟩
  obtain ⟨ad, e, hB, hc⟩ := h.dots.2 hl
  refine ⟨ad, e, Nat.lt_of_lt_of_le hB hg.size, fun j u hu => ?_⟩
  rw [World.cell?_of_block (w := V) (hg.block _ (by rw [Dt.block_add]; exact hB) (by rw [Dt.block_add]; exact hne ad e))]
  exact hc j u hu
theorem EO.turn {B0 : Nat} {V U : World} {q : Ev.EV} {x : Evt} {row : Option Nat} (k : EO B0 V q x) (hg : V.grownBy U row) (hr : ∀ b, row = some b → b < B0) : EO B0 U q x :=
  ⟨⟨k.is.dev, k.is.num, k.is.kind, k.is.cid, k.is.fld, k.is.txt, k.is.fits, dots_turn k.is.kills hg (fun ad e e2 => by have h1 := k.far ad e; have := hr _ e2.symm; omega)⟩, k.far⟩
/-- what Get answers. -/
def EvtGot (R : World → St → Prop) (w : World) (h : Nat) (x : Evt) (s : St) (r : Ending) (V : World) : Prop :=
  ∃ q : Ev.EV, r = .returned q.val ∧ EO w.heap.size V q x ∧ R V s ∧ w.grownBy V (some h)
theorem EO.none_ (B0 : Nat) (V : World) : EO B0 V ⟨0, 0, 0, 0, 0, ⟨#[]⟩, none, 0, 0⟩ evtZ :=
  ⟨⟨rfl, rfl, rfl, rfl, rfl, rfl, evtZ_fits, Ev.DotsAt.none_ _ _⟩, fun ad e => by cases e⟩
/-- the dots that were read, told with the event. -/
theorem eo_made {w V U : World} {A : Option Addr} {m c : Nat} {x : Evt} (hf : Ev.Fits x) (hd : DL V.heap.size U A x.kills m c) (hm : x.kills.length ≤ 256) (hw : w.heap.size ≤ V.heap.size) : EO w.heap.size U ⟨x.dot.1, x.dot.2, x.kind, x.cid, x.fld, x.txt, A, m, c⟩ x :=
  ⟨⟨rfl, rfl, rfl, rfl, rfl, rfl, hf, hd.len, hd.nil, hd.cap, hd.max, by show m ≤ 8796093022208; have := hd.len; omega, hd.dots⟩, fun ad e => Nat.le_trans hw (hd.far ad e)⟩
/-- the result's cells, filled. -/
theorem GK.done {R : World → St → Prop} {w V : World} {h B g : Nat} {cs : Array Value} {s : St} (k : GK R w h g cs s V) (r : Rdr R h B) (hh : h < w.heap.size) {q : Ev.EV} {x : Evt} (o : EO (w.heap.size + 1) V q x) (u0 u1 u2 u3 u4 u5 u6 : Value) :
    EvtGot R w h x s (.returned q.val) (((((((V.setCell ⟨w.heap.size, 0, none⟩ u0).setCell ⟨w.heap.size, 1, none⟩ u1).setCell ⟨w.heap.size, 2, none⟩ u2).setCell ⟨w.heap.size, 3, none⟩ u3).setCell ⟨w.heap.size, 4, none⟩ u4).setCell ⟨w.heap.size, 5, none⟩ u5).setCell ⟨w.heap.size, 6, none⟩ u6) := by
  have st : ∀ (V : World) (i : Nat) (u : Value), R V s → w.grownBy V (some h) → EO (w.heap.size + 1) V q x → R (V.setCell ⟨w.heap.size, i, none⟩ u) s ∧ w.grownBy (V.setCell ⟨w.heap.size, i, none⟩ u) (some h) ∧ EO (w.heap.size + 1) (V.setCell ⟨w.heap.size, i, none⟩ u) q x :=
    fun V i u h1 h2 h3 => ⟨r.set h1 hh i u, grown_set h2 (Nat.le_refl _) i u, h3.turn (Nu.turn_set V w.heap.size i u) (fun b e => by cases e; omega)⟩
  obtain ⟨a0, b0, c0⟩ := st _ 0 u0 k.rr k.gr o
  obtain ⟨a1, b1, c1⟩ := st _ 1 u1 a0 b0 c0
  obtain ⟨a2, b2, c2⟩ := st _ 2 u2 a1 b1 c1
  obtain ⟨a3, b3, c3⟩ := st _ 3 u3 a2 b2 c2
  obtain ⟨a4, b4, c4⟩ := st _ 4 u4 a3 b3 c3
  obtain ⟨a5, b5, c5⟩ := st _ 5 u5 a4 b4 c4
  obtain ⟨a6, b6, c6⟩ := st _ 6 u6 a5 b5 c5
  exact ⟨q, rfl, c6.less (Nat.le_succ _), a6, b6⟩
end Go.Proofs.YtblgbbpbhcaodaaGreat.Ec

/- Words for lists of events that are read: a list of one's own beside a reader; a list that came out. -/
namespace Go.Proofs.YtblgbbpbhcaodaaGreat.Ec
open Go.ChangeShapes Go.WideShapes Go.ChangeAt Go.RowKit Go.Proofs.YtblgbbpbhcaodaaGreat.Dc
set_option linter.unusedVariables false
set_option maxRecDepth 4000

/-- an event more, told where the list lies then. -/
theorem wpList_evt1 {ops : Array Oper} {rest : List Oper} {o : Oper} {a : Act} {Q : Exit → Act → World → Prop} (hgd : o.guard = none) (s x : Operand) (ho : o.op = .call { callee := .builtin .append, args := #[s, x], argTypes := #[30, 30] }) (hty : o.type = 30)
    (w : World) (B k : Nat) (v : Value) (xs : List Ev.EV) (b : Nat) (q : Ev.EV) (hs : a.eval s = v) (hx : a.eval x = .slice (some ⟨b, 0, none⟩) 1 1) (hw : w.ownsRow B 42 7 v k (Ev.ev xs)) (hb : Dt.Lies w w.heap.size (some ⟨b, 0, none⟩) (Ev.ev [q]))
    (hn : k + 1 ≤ 1649267441664) (hB : B ≤ w.heap.size)
    (hK : ∀ A' c' w', w'.ownsRow B 42 7 (.slice A' (k + 1) c') (k + 1) (Ev.ev (xs ++ [q])) → w.grownBy w' v.ownBlock → ((Value.slice A' (k + 1) c').ownBlock = v.ownBlock ∨ (Value.slice A' (k + 1) c').ownBlock = some w.heap.size) → wpList Tryz.prog ops Q rest (a.put o.dst (.slice A' (k + 1) c')) w') : wpList Tryz.prog ops Q (o :: rest) a w := by
  refine wpList_plain hgd fun K hQ => ?_
  obtain ⟨i0, hi0, hz0, hz1, hz2⟩ := info_parts Ev.evt_info
  have hc : ∀ j u, (Ev.ev [q])[j]? = some u → w.cell? ((⟨b, 0, none⟩ : Addr).add j) = some u := by
    intro j u hu
    have hjl : j < (Ev.ev [q]).length := (List.getElem?_eq_some_iff.1 hu).1
    obtain ⟨ad', e, hadb, hc⟩ := hb (by omega)
    obtain rfl := Option.some.inj e
    exact hc j u hu
  obtain ⟨v', w', hr, h2, h3, hat, h5⟩ := run_append_own_at (P := Tryz.prog) w B 30 30 42 i0 (.agg #[.int .u16 0, .int .u64 0, .int .u8 0, .int .u64 0, .int .u8 0, .string ⟨#[]⟩, .slice none 0 0]) 7 80 Tryz.underlying30 hi0 hz0 hz1 hz2 rfl (by decide) v k (Ev.ev xs) hw ⟨b, 0, none⟩ 1 1 (Ev.ev [q]) (by rw [Ev.ev_length]; rfl) hc (Ev.ev_one [q]) (by simp only [maxLen]; omega) (by omega) hB
  obtain ⟨A', c', rfl⟩ := Dt.own_form h2
  unfold Oper.wp execOp
  simp only [ho, resolve, invoke, builtin, Sem.run_bind, Sem.run_pure, Result.andThen_ok, List.map_toArray, List.map_cons, List.map_nil, hs, hx]
  rw [hty, hr]
  refine hQ _ _ (hK _ _ _ ?_ h3 h5)
  rw [Ev.ev_append]; exact h2
theorem dots_turn' {n c : Nat} {V U : World} {A : Option Addr} {l : List Dot} {row : Option Nat} (h : Ev.DotsAt V V.heap.size A l n c) (hg : V.grownBy U row) (hne : ∀ ad, A = some ad → 0 < n → some ad.block ≠ row) : Ev.DotsAt U U.heap.size A l n c := by
  refine ⟨h.len, h.nil, h.cap, h.max, h.wide, h.dots.1, fun hl => ?_⟩
  have h0 : 0 < n := by have h1 := h.len; rw [Dt.dv_length] at hl; omega
  obtain ⟨ad, e, hB, hc⟩ := h.dots.2 hl
  refine ⟨ad, e, Nat.lt_of_lt_of_le hB hg.size, fun j u hu => ?_⟩
  rw [World.cell?_of_block (w := V) (hg.block _ (by rw [Dt.block_add]; exact hB) (by rw [Dt.block_add]; exact hne ad e h0))]
  exact hc j u hu
theorem is_turn {V U : World} {q : Ev.EV} {x : Evt} {row : Option Nat} (h : Ev.EventIs V V.heap.size q x) (hg : V.grownBy U row) (hne : ∀ ad, q.adr = some ad → 0 < q.len → some ad.block ≠ row) : Ev.EventIs U U.heap.size q x :=
  ⟨h.dev, h.num, h.kind, h.cid, h.fld, h.txt, h.fits, dots_turn' h.kills hg hne⟩
theorem match_turn {V U : World} {ps : List Ev.EV} {o : List Evt} {row : Option Nat} (hm : Ev.Match V V.heap.size ps o) (hg : V.grownBy U row) (hne : ∀ p ∈ ps, ∀ ad, p.adr = some ad → 0 < p.len → some ad.block ≠ row) : Ev.Match U U.heap.size ps o :=
  ⟨hm.1, fun k p x hp hx => is_turn (hm.2 k p x hp hx) hg (hne p (List.mem_of_getElem? hp))⟩
/-- dots that stand in memory lie below its end. -/
theorem is_lt {V : World} {q : Ev.EV} {x : Evt} (h : Ev.EventIs V V.heap.size q x) {ad : Addr} (e : q.adr = some ad) (h0 : 0 < q.len) : ad.block < V.heap.size := by
  have hl : 0 < (Dt.dv x.kills).length := by rw [Dt.dv_length, h.kills.len]; omega
  obtain ⟨ad', e', hB, _⟩ := h.kills.dots.2 hl
  rw [e] at e'
  cases e'
  exact hB
/-- events of one's own, beside a reader. -/
structure VK (R : World → St → Prop) (w : World) (h : Nat) (V : World) (A : Option Addr) (m c : Nat) (ps : List Ev.EV) (o : List Evt) (s : St) : Prop where
  len : o.length = m
  own : V.ownsRow w.heap.size 42 7 (.slice A m c) m (Ev.ev ps)
  mat : Ev.Match V V.heap.size ps o
  far : ∀ p ∈ ps, ∀ ad, p.adr = some ad → 0 < p.len → w.heap.size ≤ ad.block ∧ ad.block < V.heap.size ∧ some ad.block ≠ (Value.slice A m c).ownBlock
  rr : R V s
  gr : w.grownBy V (some h)
theorem VK.start {R : World → St → Prop} {w V : World} {h : Nat} {s : St} (k : R V s) (g : w.grownBy V (some h)) : VK R w h V none 0 0 [] [] s :=
  ⟨rfl, World.ownsRow_nil _ _ _ _, Ev.Match.nil_ _ _, (fun p hp => by cases hp), k, g⟩
theorem VK.read {R : World → St → Prop} {w V U : World} {h m c : Nat} {A : Option Addr} {ps : List Ev.EV} {o : List Evt} {s s' : St} (k : VK R w h V A m c ps o s) (hh : h < w.heap.size) (hr : R U s') (hg : V.grownBy U (some h)) : VK R w h U A m c ps o s' :=
  ⟨k.len, k.own.kept hg (own_far k.own hh), match_turn k.mat hg (fun p hp ad e h0 e2 => by cases e2; have := (k.far p hp ad e h0).1; omega), fun p hp ad e h0 => ⟨(k.far p hp ad e h0).1, Nat.lt_of_lt_of_le (k.far p hp ad e h0).2.1 hg.size, (k.far p hp ad e h0).2.2⟩, hr, k.gr.trans hg⟩
theorem VK.below {R : World → St → Prop} {w V U : World} {h B m c : Nat} {A : Option Addr} {ps : List Ev.EV} {o : List Evt} {s : St} (k : VK R w h V A m c ps o s) (r : Rdr R h B) (hh : h < w.heap.size) (hb : Below V.heap.size V U) : VK R w h U A m c ps o s :=
  k.read hh (r.below k.rr hb) (Nu.turn_below hb _)
/-- an event more. -/
theorem VK.more {R : World → St → Prop} {w U X : World} {h B m c c8 B1 : Nat} {A A8 : Option Addr} {ps : List Ev.EV} {o : List Evt} {q : Ev.EV} {x : Evt} {s : St} (k : VK R w h U A m c ps o s) (r : Rdr R h B) (hh : h < w.heap.size) (hO : EO B1 U q x) (hw : w.heap.size ≤ B1) (hB1 : ∀ t, (Value.slice A m c).ownBlock = some t → t < B1)
    (ho : X.ownsRow w.heap.size 42 7 (.slice A8 (m + 1) c8) (m + 1) (Ev.ev (ps ++ [q]))) (hg : (U.alloc q.box).grownBy X (Value.slice A m c).ownBlock)
    (hat : (Value.slice A8 (m + 1) c8).ownBlock = (Value.slice A m c).ownBlock ∨ (Value.slice A8 (m + 1) c8).ownBlock = some (U.alloc q.box).heap.size) :
    VK R w h X A8 (m + 1) c8 (ps ++ [q]) (o ++ [x]) s := by
  have hrow : ∀ t, (Value.slice A m c).ownBlock = some t → w.heap.size ≤ t ∧ t < U.heap.size := fun t ht => k.own.lt t ht
  have hUs := alloc_size U q.box
  have hfarU : ∀ p ∈ ps ++ [q], ∀ ad, p.adr = some ad → 0 < p.len → w.heap.size ≤ ad.block ∧ ad.block < U.heap.size ∧ some ad.block ≠ (Value.slice A m c).ownBlock := by
    intro p hp ad e h0
    rcases List.mem_append.1 hp with hp | hp
    · exact k.far p hp ad e h0
    · rw [List.mem_singleton] at hp
      rw [hp] at e h0
      have h1 := hO.far ad e
      refine ⟨by omega, is_lt hO.is e h0, fun e2 => ?_⟩
      have := hB1 _ e2.symm
      omega
  have hmU : Ev.Match (U.alloc q.box) (U.alloc q.box).heap.size (ps ++ [q]) (o ++ [x]) := (k.mat.snoc hO.is).below (below_new U q.box) |>.more (by rw [hUs]; exact Nat.le_succ _)
  refine ⟨by rw [List.length_append, k.len]; rfl, ho, match_turn hmU hg (fun p hp ad e h0 => (hfarU p hp ad e h0).2.2), fun p hp ad e h0 => ?_, r.row (r.new k.rr q.box) hg (fun t ht => by have := hrow t ht; omega), grown_row2 (grown_new k.gr q.box) hg (fun t ht => (hrow t ht).1)⟩
  have hf := hfarU p hp ad e h0
  refine ⟨hf.1, Nat.lt_of_lt_of_le (by rw [hUs]; exact Nat.lt_succ_of_lt hf.2.1) hg.size, fun e2 => ?_⟩
  rcases hat with hat | hat
  · exact hf.2.2 (e2.trans hat)
  · rw [hat] at e2
    have e3 : ad.block = (U.alloc q.box).heap.size := Option.some.inj e2
    omega
/-- events that came out, in blocks from B0 on. -/
structure VL (B0 : Nat) (V : World) (A : Option Addr) (l : List Evt) (n c : Nat) : Prop where
  len : l.length = n
  nil : A = none → n = 0 ∧ c = 0
  cap : n ≤ c
  max : c ≤ 9223372036854775807
  wide : n ≤ 2199023255552
  far : ∀ ad, A = some ad → B0 ≤ ad.block
  evts : ∃ ps, Dt.Lies V V.heap.size A (Ev.ev ps) ∧ Ev.Match V V.heap.size ps l ∧ ∀ p ∈ ps, ∀ ad, p.adr = some ad → 0 < p.len → B0 ≤ ad.block
theorem VL.at_ {B0 n c : Nat} {V : World} {A : Option Addr} {l : List Evt} (k : VL B0 V A l n c) : Ev.EventsAt V V.heap.size A l n c := by
  obtain ⟨ps, h1, h2, _⟩ := k.evts
  exact ⟨k.len, k.nil, k.cap, k.max, k.wide, ps, h1, h2⟩
theorem VL.none_ (B0 : Nat) (V : World) : VL B0 V none [] 0 0 := ⟨rfl, fun _ => ⟨rfl, rfl⟩, Nat.le_refl _, by decide, by decide, (fun ad e => by cases e), [], Dt.Lies.none_ _ _ _, Ev.Match.nil_ _ _, fun p hp => by cases hp⟩
theorem VL.turn {B0 n c : Nat} {V U : World} {A : Option Addr} {l : List Evt} {row : Option Nat} (k : VL B0 V A l n c) (hg : V.grownBy U row) (hr : ∀ b, row = some b → b < B0) : VL B0 U A l n c := by
  obtain ⟨ps, h1, h2, h3⟩ := k.evts
  refine ⟨k.len, k.nil, k.cap, k.max, k.wide, k.far, ps, fun hl => ?_, match_turn h2 hg (fun p hp ad e h0 e2 => by have h4 := h3 p hp ad e h0; have := hr _ e2.symm; omega), h3⟩
  obtain ⟨ad, e, hB, hc⟩ := h1 hl
  refine ⟨ad, e, Nat.lt_of_lt_of_le hB hg.size, fun j u hu => ?_⟩
  rw [World.cell?_of_block (w := V) (hg.block _ (by rw [Dt.block_add]; exact hB) (by rw [Dt.block_add]; intro e2; have h4 := k.far ad e; have := hr _ e2.symm; omega))]
  exact hc j u hu
theorem VL.below {B0 n c : Nat} {V U : World} {A : Option Addr} {l : List Evt} (k : VL B0 V A l n c) (hb : Below V.heap.size V U) : VL B0 U A l n c := k.turn (Nu.turn_below hb none) (fun b e => by cases e)
theorem VL.less {B0 B1 n c : Nat} {V : World} {A : Option Addr} {l : List Evt} (k : VL B0 V A l n c) (h : B1 ≤ B0) : VL B1 V A l n c := by
  obtain ⟨ps, h1, h2, h3⟩ := k.evts
  exact ⟨k.len, k.nil, k.cap, k.max, k.wide, (fun ad e => Nat.le_trans h (k.far ad e)), ps, h1, h2, fun p hp ad e h0 => Nat.le_trans h (h3 p hp ad e h0)⟩
theorem VK.vl {R : World → St → Prop} {w V : World} {h m c : Nat} {A : Option Addr} {ps : List Ev.EV} {o : List Evt} {s : St} (k : VK R w h V A m c ps o s) (hm : m ≤ 2199023255552) : VL w.heap.size V A o m c := by
  obtain ⟨h1, h2, h3⟩ := Dt.own_len k.own
  exact ⟨k.len, h3, h1, h2, hm, (fun ad e => by subst e; exact (k.own.lt ad.block rfl).1), ps, Dt.lies_any (by decide) k.own, k.mat, fun p hp ad e h0 => (k.far p hp ad e h0).1⟩
/-- what GetAll answers. -/
def EvtsGot (R : World → St → Prop) (w : World) (h : Nat) (D : List Evt × St) (r : Ending) (V : World) : Prop :=
  ∃ A m c, r = .returned (.slice A m c) ∧ VL w.heap.size V A D.1 m c ∧ R V D.2 ∧ w.grownBy V (some h)
theorem evts_none {R : World → St → Prop} {w V : World} {h : Nat} {D : List Evt × St} {s : St} (hD : D = ([], s)) (hr : R V s) (hg : w.grownBy V (some h)) : EvtsGot R w h D (.returned (.slice none 0 0)) V := by
  subst hD
  exact ⟨none, 0, 0, rfl, VL.none_ _ _, hr, hg⟩
/-- what stands between two rounds. -/
def VKeep (R : World → St → Prop) (w : World) (h L num : Nat) (s0 : St) (k m c : Nat) (A : Option Addr) (ps : List Ev.EV) (o : List Evt) (s : St) (V : World) : Prop :=
  k ≤ num ∧ VK R w h V A m c ps o s ∧ evtsL num [] s0 = evtsL (num - k) o s ∧ (s.2 = 0 → m + s.1.length ≤ L) ∧ m ≤ L + 1
end Go.Proofs.YtblgbbpbhcaodaaGreat.Ec

/- What the walks of layer ecode ask of the program; the chapter's example. -/
namespace Go.Proofs.YtblgbbpbhcaodaaGreat.Ec
open Go.ChangeShapes Go.WideShapes Go.ChangeAt Go.RowKit Go.Proofs.YtblgbbpbhcaodaaGreat.Dc
set_option linter.unusedVariables false
set_option maxRecDepth 4000

/-- the program's reader, at a state. -/
def RP (h B : Nat) (V : World) (s : St) : Prop := Nu.PR V h B s.1 s.2
theorem rp_rdr {h B : Nat} (hB : B ≤ h) : Rdr (RP h B) h B :=
  ⟨hB, fun k => Nu.PR.lt k, fun k hg hne hr => Nu.PR.kept k hg (Nat.le_of_lt (Nat.lt_of_le_of_lt hB (Nu.PR.lt k))) hne hr⟩
/-- what Encode answers. -/
def EncPost (w : World) (x : Evt) (r : Ending) (V : World) : Prop :=
  ∃ A n c, r = .returned (.tuple #[.slice A n c, .int .i64 (if Ev.goodE x = true then 0 else 1)]) ∧ BL V A (if Ev.goodE x = true then evtB x else []) n c ∧ Below w.heap.size w V
/-- what Decode answers. -/
def DecOut (w : World) (b : List Nat) (r : Ending) (V : World) : Prop := ∃ q : Ev.EV, r = .returned (.tuple #[q.val, .int .i64 ((decE b).2 : Int)]) ∧ EO w.heap.size V q (decE b).1 ∧ Below w.heap.size w V
/-- what the program's functions answer. -/
structure PEc : Prop where
  put : ∀ (w : World) (B g : Nat) (rb : Option Nat) (m : List Nat) (p : Ev.EV) (x : Evt), Nu.PW w B g rb m → B ≤ w.heap.size → Ev.EventIs w B p x → x.kills.length ≤ 1048576 → x.txt.size ≤ 1048576 → m.length ≤ 17179869184 → Calls Tryz.prog 36 #[.pointer (some ⟨g, 0, none⟩), p.val] w (Nu.WPost w B g rb (m ++ evtB x))
  encode : ∀ (w : World) (p : Ev.EV) (x : Evt), Ev.EventIs w w.heap.size p x → x.kills.length ≤ 1048576 → x.txt.size ≤ 1048576 → Calls Tryz.prog 17 #[p.val] w (EncPost w x)
  get : ∀ (w : World) (h B : Nat) (s : St), RP h B w s → B ≤ h → s.1.length ≤ 1048576 → Calls Tryz.prog 14 #[.pointer (some ⟨h, 0, none⟩)] w (EvtGot (RP h B) w h (evtR s).1 (evtR s).2)
  getall : ∀ (w : World) (h B : Nat) (s : St) (most : Int), RP h B w s → B ≤ h → s.1.length ≤ 1048576 → -9223372036854775808 ≤ most → most < 9223372036854775808 → Calls Tryz.prog 7 #[.pointer (some ⟨h, 0, none⟩), .int .i64 most] w (EvtsGot (RP h B) w h (evtsR most.toNat s))
  decode : ∀ (w : World) (A : Option Addr) (b : List Nat) (n c : Nat), BL w A b n c → n ≤ 1048576 → Calls Tryz.prog 11 #[.slice A n c] w (DecOut w b)

/-- the example's event. -/
abbrev exE : Evt := ⟨(1, 2), 2, 281474976710657, 0, ⟨#[]⟩, [(1, 1)]⟩
theorem ex_good : Ev.goodE exE = true := by
  unfold Ev.goodE Ev.headB
  decide
theorem ex_bytes : evtB exE = [1, 1, 1, 2, 2, 7, 1, 0, 0, 0, 0, 0, 1, 0, 0, 1, 1, 1, 1, 1, 1] := by decide
theorem ex_fits : Ev.Fits exE := ⟨⟨by decide, by decide⟩, by decide, by decide, by decide, show (0 : Nat) ≤ 140737488355328 by decide⟩
abbrev exV (g : Nat) : Ev.EV := ⟨1, 2, 2, 281474976710657, 0, ⟨#[]⟩, some ⟨g, 0, none⟩, 1, 1⟩
theorem ex_at (w : World) (W : World) (hW : Below (w.heap.size + 1) (w.alloc (dbox (1, 1))) W) : Ev.EventIs W W.heap.size (exV w.heap.size) exE := by
  refine ⟨rfl, rfl, rfl, rfl, rfl, rfl, ex_fits, rfl, (fun e => by cases e), Nat.le_refl _, (show (1 : Nat) ≤ 9223372036854775807 by decide), (show (1 : Nat) ≤ 8796093022208 by decide), ?_, fun _ => ⟨_, rfl, ?_, fun j u hu => ?_⟩⟩
  · intro d hd
    obtain rfl := List.mem_singleton.1 hd
    exact ⟨by decide, by decide⟩
  · have := hW.size
    rw [alloc_size] at this
    exact this
  · rw [Dt.zero_add]
    obtain ⟨h0, h1⟩ := dbox_new w (1, 1) W hW
    match j, hu with
    | 0, hu => exact h0.trans hu
    | 1, hu => exact h1.trans hu
    | j + 2, hu => simp [Dt.dv] at hu
set_option maxHeartbeats 1000000 in
theorem works_any (P : PEc) (w : World) : Calls Tryz.prog 4 #[] w fun r w' => r = .returned (.bool true) ∧ Below w.heap.size w w' := by
  have hx := ex_at (w.alloc (dbox (1, 1))) ((w.alloc (dbox (1, 1))).alloc (dbox (1, 1))) (Below.refl _ _)
  rw [alloc_size w] at hx
  have HX := Lib.hid hx
  have HB : Hid (Below w.heap.size w ((w.alloc (dbox (1, 1))).alloc (dbox (1, 1)))) := Lib.hid (bel_alloc _ (below_new w _))
  have CE := Lib.hid (P.encode _ _ _ HX.out (by decide) (by decide))
  clear HX hx
  go_enter Tryz.func4, Tryz.ntmps4
  go_wp2_with fail
  refine CE.out.mono ?_
  rintro e w3 ⟨A, n, c, rfl, hl, hb⟩
  rw [if_pos ex_good, ex_bytes] at hl
  rw [if_pos ex_good]
  have HL := Lib.hid hl
  have HB3 := Lib.hid (HB.out.trans (hb.mono HB.out.size))
  clear hl hb CE HB
  go_wp2_with fail
  refine (Nu.equal_any _ w3.heap.size (w3.heap.size + 1) A (some ⟨w3.heap.size, 0, none⟩) [1, 1, 1, 2, 2, 7, 1, 0, 0, 0, 0, 0, 1, 0, 0, 1, 1, 1, 1, 1, 1] [1, 1, 1, 2, 2, 7, 1, 0, 0, 0, 0, 0, 1, 0, 0, 1, 1, 1, 1, 1, 1] n 21 c 21 HL.out.len rfl (HL.out.at_.below (below_new w3 _)) (Nu.bytes_new w3 _ _ rfl (by unfold Nu.Small; decide) 5)).mono ?_
  rintro r w4 ⟨rfl, rfl⟩
  go_wp2
  go_ret
  exact ⟨rfl, HB3.out.alloc HB3.out.size _⟩
end Go.Proofs.YtblgbbpbhcaodaaGreat.Ec
