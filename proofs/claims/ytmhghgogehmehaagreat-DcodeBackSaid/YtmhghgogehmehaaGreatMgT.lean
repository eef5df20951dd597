/- Words and contracts that the proofs of this seat stand on, part 20 of 20. -/
import Derived.Test.YtmhghgogehmehaaGreatMgK
import Derived.Test.YtmhghgogehmehaaGreatMgL
import Derived.Test.YtmhghgogehmehaaGreatMgB
import Derived.Test.YtmhghgogehmehaaGreatMgJ

/- DcodeReads: the law's walk. -/
namespace Go.Proofs.YtmhghgogehmehaaGreat.Dc
open Go.ChangeShapes Go.WideShapes Go.ChangeAt Go.RowKit
set_option linter.unusedVariables false
set_option maxRecDepth 4000

theorem dotsL_len : ∀ (k : Nat) (o : List Dot) (s : St), (dotsL k o s).2.1.length ≤ s.1.length
  | 0, o, s => Nat.le_refl _
  | k + 1, o, s => by
    unfold dotsL
    split
    · refine Nat.le_trans (dotsL_len k _ _) ?_
      have h1 := (dotR_len s).1
      unfold dotsS
      split
      · exact Nat.zero_le _
      · exact h1
    · exact Nat.le_refl _
theorem dotsR_len (most : Nat) (s : St) : (dotsR most s).2.1.length ≤ s.1.length := by
  have h1 := dotsL_len (numN s) [] (dotsF most s)
  have h2 : (dotsF most s).1.length ≤ s.1.length := by
    unfold dotsF
    split
    · exact Nat.zero_le _
    · exact numS_len s
  unfold dotsR
  split
  · exact Nat.le_trans h1 h2
  · exact Nat.le_trans h1 h2
/-- two readers, the program's in block g, the document's in block h. -/
structure Both (w V : World) (g h : Nat) (A : Option Addr) (n c : Nat) (b : List Nat) (s t : St) : Prop where
  pr : Nu.PR V g g s.1 s.2
  rr : Nu.RR V h w.heap.size A n c b t.1 t.2
  gr : Below w.heap.size w V
  gh : g < h
  wg : w.heap.size ≤ g
theorem Both.prog {w V U : World} {g h n c : Nat} {A : Option Addr} {b : List Nat} {s s' t : St} (k : Both w V g h A n c b s t) (hp : Nu.PR U g g s'.1 s'.2) (hg : V.grownBy U (some g)) : Both w U g h A n c b s' t :=
  ⟨hp, k.rr.kept hg k.gr.size (fun e => by have := k.gh; cases e; omega) (fun q e => by cases e; exact k.wg), k.gr.grown hg k.gr.size (fun q e => by cases e; exact k.wg), k.gh, k.wg⟩
theorem Both.doc {w V U : World} {g h n c : Nat} {A : Option Addr} {b : List Nat} {s t t' : St} (k : Both w V g h A n c b s t) (hr : Nu.RR U h w.heap.size A n c b t'.1 t'.2) (hg : V.grownBy U (some h)) : Both w U g h A n c b s t' :=
  ⟨k.pr.kept hg (Nat.le_of_lt k.pr.lt) (fun e => by have := k.gh; cases e; omega) (fun q e => by cases e; exact Nat.le_of_lt k.gh), hr, k.gr.grown hg k.gr.size (fun q e => by cases e; exact Nat.le_trans k.wg (Nat.le_of_lt k.gh)), k.gh, k.wg⟩
theorem Both.more {w V U : World} {g h n c : Nat} {A : Option Addr} {b : List Nat} {s t : St} (k : Both w V g h A n c b s t) (hb : Below V.heap.size V U) : Both w U g h A n c b s t :=
  ⟨k.pr.kept (Nu.turn_below hb none) (Nat.le_of_lt k.pr.lt) (fun e => by cases e) (fun q e => by cases e), k.rr.kept (Nu.turn_below hb none) k.gr.size (fun e => by cases e) (fun q e => by cases e), k.gr.trans (hb.mono k.gr.size), k.gh, k.wg⟩
theorem Both.at_ {w V : World} {g h n c : Nat} {A : Option Addr} {b : List Nat} {s t : St} (k : Both w V g h A n c b s t) : g < V.heap.size ∧ h < V.heap.size := ⟨k.pr.lt, k.rr.lt⟩
theorem both_new {w w1 : World} {g n c : Nat} {A : Option Addr} {b : List Nat} (h : BL w A b n c) (hn : n ≤ 9223372036854775807) (hg : w.heap.size ≤ g) (hp : Nu.PR w1 g g b 0) (hb : Below w.heap.size w w1) : Both w (w1.alloc (rbox A n c)) g w1.heap.size A n c b (b, 0) (b, 0) :=
  ⟨hp.kept (Nu.turn_below (below_new w1 _) none) (Nat.le_of_lt hp.lt) (fun e => by cases e) (fun q e => by cases e),
   ⟨0, Nu.At.new w1 _ _, (h.at_.below hb).below ((Below.refl _ _).alloc hb.size _), h.len, hn, h.cap, (fun e => (h.nil e).2), Nat.zero_le _, (fun _ => rfl), fun e => absurd rfl e⟩,
   hb.alloc hb.size _, hp.lt, hg⟩
theorem bel_drewN {V : World} (m : Nat) : Below V.heap.size V (V.drewN m) := Nu.below_drewN _ _ _

set_option maxHeartbeats 8000000 in
theorem reads_walk (P : PDc) (w : World) (A : Option Addr) (b : List Nat) (n c : Nat) (most : Int) (hb : BL w A b n c) (m1 : -9223372036854775808 ≤ most) (m2 : most < 9223372036854775808) :
    Calls Tryz.prog 4 #[.slice A n c, .int .i64 most] w fun e w' => e = .returned (.bool true) ∧ Below w.heap.size w w' := by
  by_cases hn : 600 < n
  · have d1 : decide ((600 : Int) < (n : Int)) = true := decide_eq_true (by omega)
    clear hb
    go_enter Tryz.func4, Tryz.ntmps4
    go_wp2_with fail
    refine (works_any P _).mono ?_
    rintro e w1 ⟨rfl, b1⟩
    have HE := Lib.hid b1
    clear b1
    go_wp2
    go_ret
    exact ⟨rfl, HE.out⟩
  · have d1 : decide ((600 : Int) < (n : Int)) = false := decide_eq_false (by omega)
    have H := Lib.hid hb
    have CN := Lib.hid (Nu.new_any w A b n c hb.len hb.nil hb.at_ (by omega))
    have hlb : b.length ≤ 600 := by rw [hb.len]; omega
    clear hb
    obtain ⟨D1, hD1⟩ : ∃ D, dotR (b, 0) = D := ⟨_, rfl⟩
    have hl1 : D1.2.1.length ≤ 600 := by rw [← hD1]; exact Nat.le_trans (dotR_len (b, 0)).1 hlb
    obtain ⟨D2, hD2⟩ : ∃ D, dotsR most.toNat (D1.2.1, D1.2.2) = D := ⟨_, rfl⟩
    have hl2 : D2.2.1.length ≤ 600 := by rw [← hD2]; exact Nat.le_trans (dotsR_len _ _) hl1
    obtain ⟨D3, hD3⟩ : ∃ D, ctxR (D2.2.1, D2.2.2) = D := ⟨_, rfl⟩
    have X1 := Lib.hid hD1
    have X2 := Lib.hid hD2
    have X3 := Lib.hid hD3
    clear hD1 hD2 hD3
    go_enter Tryz.func4, Tryz.ntmps4
    go_wp2_with fail
    refine CN.out.mono ?_
    rintro r w1 ⟨g, rfl, hg, hp, hb1⟩
    have K0 := Lib.hid (both_new H.out (by omega) hg hp hb1)
    clear CN hg hp hb1
    go_wp2_with fail
    obtain ⟨h, hh⟩ : ∃ h, w1.heap.size = h := ⟨_, rfl⟩
    rw [hh] at K0 ⊢
    generalize w1.alloc (rbox A n c) = w2 at *
    have C1 := P.dot w2 g g b 0 K0.out.pr (Nat.le_refl _)
    rw [X1.out] at C1
    refine C1.mono ?_
    rintro e w3 ⟨rfl, p3, g3⟩
    have K1 := Lib.hid (K0.out.prog p3 g3)
    clear C1 K0 p3 g3
    go_wp2_with fail
    have C2 := rdot_any w3 h w.heap.size A n c b b 0 K1.out.rr (Nat.le_trans K1.out.wg (Nat.le_of_lt K1.out.gh))
    rw [X1.out] at C2
    refine C2.mono ?_
    rintro e w4 ⟨rfl, p4, g4⟩
    have K2 := Lib.hid (K1.out.doc p4 g4)
    clear C2 K1 p4 g4
    go_wp2_with fail
    have C3 := P.dots w4 g g D1.2.1 D1.2.2 most K2.out.pr (Nat.le_refl _) (by omega) m1 m2
    rw [X2.out] at C3
    refine C3.mono ?_
    rintro e w5 ⟨A5, n5, c5, rfl, d5, p5, g5⟩
    have K3 := Lib.hid (K2.out.prog p5 g5)
    have hlt := K2.out.at_
    have L5 := Lib.hid d5
    clear C3 p5 d5
    go_wp2_with fail
    have C4 := rdots_any w5 h w.heap.size A n c b D1.2.1 D1.2.2 most K3.out.rr (Nat.le_trans K3.out.wg (Nat.le_of_lt K3.out.gh)) (by omega) m1 m2
    rw [X2.out] at C4
    refine C4.mono ?_
    rintro e w6 ⟨A6, n6, c6, rfl, k6⟩
    have K4 := Lib.hid (K3.out.doc k6.rr k6.gr)
    have L6 := Lib.hid (L5.out.kept k6.gr hlt.2)
    have M6 := Lib.hid k6.dl
    clear C4 k6 L5 K3 K2 g5
    go_wp2_with fail
    have C5 := Dt.rsame_any w6 w6.heap.size w6.heap.size A5 A6 D2.1 D2.1 n5 n6 c5 c6 L6.out.len M6.out.len L6.out.dots M6.out.dots (Nat.le_trans L6.out.cap L6.out.max)
    rw [decide_eq_true rfl] at C5
    refine C5.mono ?_
    rintro e w7 ⟨rfl, m7, rfl⟩
    have K5 := Lib.hid (K4.out.more (bel_drewN m7))
    clear C5 K4 L6 M6 hlt
    generalize w6.drewN m7 = w7 at *
    go_wp2_with fail
    have C6 := P.ctx w7 g g D2.2.1 D2.2.2 K5.out.pr (Nat.le_refl _) (by omega)
    rw [X3.out] at C6
    refine C6.mono ?_
    rintro e w8 ⟨A8, n8, c8, rfl, d8, p8, g8⟩
    have K6 := Lib.hid (K5.out.prog p8 g8)
    have hlt := K5.out.at_
    have L8 := Lib.hid d8
    clear C6 p8 d8
    go_wp2_with fail
    have C7 := rctx_any w8 h w.heap.size A n c b D2.2.1 D2.2.2 K6.out.rr (Nat.le_trans K6.out.wg (Nat.le_of_lt K6.out.gh)) (by omega)
    rw [X3.out] at C7
    refine C7.mono ?_
    rintro e w9 ⟨A9, n9, c9, ps9, rfl, k9⟩
    have K7 := Lib.hid (K6.out.doc k9.rr k9.gr)
    have L9 := Lib.hid (L8.out.kept k9.gr hlt.2).ctx
    have M9 := Lib.hid k9.cl.ctx
    clear C7 k9 L8 K6 K5 g8
    go_wp2_with fail
    have C8 := Cx.req_any w9 A8 A9 D3.1 D3.1 n8 n9 c8 c9 L9.out M9.out (Nat.le_trans L9.out.cap L9.out.max)
    rw [decide_eq_true rfl] at C8
    refine C8.mono ?_
    rintro e w10 ⟨rfl, b10⟩
    have K8 := Lib.hid (K7.out.more b10)
    clear C8 K7 L9 M9 hlt b10
    go_wp2_with fail
    refine (Nu.end_any w10 g g D3.2.1 D3.2.2 K8.out.pr (Nat.le_refl _)).mono ?_
    rintro e w11 ⟨rfl, p11, g11⟩
    have K9 := Lib.hid (K8.out.prog (s' := ([], Nu.endE D3.2.1 D3.2.2)) p11 g11)
    clear K8 p11 g11
    go_wp2_with fail
    refine (Nu.rend_any w11 h w.heap.size A n c b D3.2.1 D3.2.2 K9.out.rr (Nat.le_trans K9.out.wg (Nat.le_of_lt K9.out.gh))).mono ?_
    rintro e w12 ⟨rfl, p12, g12⟩
    have HB := Lib.hid (K9.out.doc (t' := ([], Nu.endE D3.2.1 D3.2.2)) p12 g12).gr
    clear K9 p12 g12
    go_wp2_with fail
    refine (P.decode w12 A b n c (H.out.up HB.out) (by omega)).mono ?_
    rintro e w13 ⟨A13, n13, c13, rfl, d13, b13⟩
    have L13 := Lib.hid d13
    have HB2 := Lib.hid (HB.out.trans (b13.mono HB.out.size))
    clear d13 b13 HB
    go_wp2_with fail
    refine (rdec_any w13 A b n c (H.out.up HB2.out) (by omega)).mono ?_
    rintro e w14 ⟨A14, n14, c14, rfl, d14, b14⟩
    have L14 := Lib.hid (L13.out.below b14).ctx
    have M14 := Lib.hid d14.ctx
    have HB3 := Lib.hid (HB2.out.trans (b14.mono HB2.out.size))
    clear d14 b14 HB2 L13
    go_wp2_with fail
    have C9 := Cx.req_any w14 A13 A14 (decR b).1 (decR b).1 n13 n14 c13 c14 L14.out M14.out (Nat.le_trans L14.out.cap L14.out.max)
    rw [decide_eq_true rfl] at C9
    refine C9.mono ?_
    rintro e w15 ⟨rfl, b15⟩
    have HB4 := Lib.hid (HB3.out.trans (b15.mono HB3.out.size))
    clear C9 b15 HB3
    go_wp2_with fail
    refine (works_any P _).mono ?_
    rintro e w16 ⟨rfl, b16⟩
    have HB5 := Lib.hid (HB4.out.trans (b16.mono HB4.out.size))
    clear b16 HB4
    go_wp2
    go_ret
    exact ⟨rfl, HB5.out⟩
end Go.Proofs.YtmhghgogehmehaaGreat.Dc

/- DcodeBack: the law's walk. -/
namespace Go.Proofs.YtmhghgogehmehaaGreat.Dc
open Go.ChangeShapes Go.WideShapes Go.ChangeAt Go.RowKit
set_option linter.unusedVariables false
set_option maxRecDepth 4000

/-- what was written, and what is read of it. -/
structure Said (d : Dot) (l : List Dot) (C : List Part) : Prop where
  ctx : ctxR ((([] ++ ctxB (Cx.normC C)) ++ dotsB (someD l)) ++ dotB d, 0) = (Cx.normC C, (dotsB l ++ dotB d, 0))
  dots : dotsR ((l.length : Int)).toNat (dotsB l ++ dotB d, 0) = (l, (dotB d, 0))
  dot : dotR (dotB d, 0) = (d, ([], 0))
  dec : decR (ctxB (Cx.normC C)) = (Cx.normC C, 0)
  len0 : ([] ++ ctxB (Cx.normC C)).length ≤ 500000
  len1 : (([] ++ ctxB (Cx.normC C)) ++ dotsB (someD l)).length ≤ 502000
  len2 : ((([] ++ ctxB (Cx.normC C)) ++ dotsB (someD l)) ++ dotB d).length ≤ 502018
  len3 : (dotsB l ++ dotB d).length ≤ 502018
theorem said_any {d : Dot} {l : List Dot} {C : List Part} (hd : d.1 < 65536) (hd2 : d.2 < big) (hm : Dt.mayD d = true) (hl : l.length ≤ 100) (hfl : Dt.Fit l) (ho : Dt.riseB l = true) (hall : ∀ x ∈ l, Dt.mayD x = true) (hf : Cx.FitC C) (hw : Cx.fewC C = true) : Said d l C := by
  have hgood := Cx.ord_good (Cx.ord_norm hf)
  have hfit := (room_norm hf (Cx.few_is hw)).fit
  have hs := some_self hall ((Dt.rise_ord l).1 ho)
  have h0 := few_bytes hf hw
  have h1 := dots_bytes hl
  have h2 := dotB_le d
  have e0 : ([] ++ ctxB (Cx.normC C)).length ≤ 500000 := by rw [List.nil_append]; exact h0
  refine ⟨?_, ?_, ?_, dec_back hgood hfit, e0, ?_, ?_, ?_⟩
  · rw [hs, List.nil_append, List.append_assoc]
    exact ctx_back hgood hfit _
  · rw [Int.toNat_natCast]
    exact dots_back (fun x hx => ⟨hall x hx, hfl x hx⟩) ((Dt.rise_ord l).1 ho) (Nat.le_refl _) (Nat.lt_of_le_of_lt hl (by decide)) _
  · have := dot_back hm hd hd2 []
    rwa [List.append_nil] at this
  · rw [List.length_append]; omega
  · rw [List.length_append, List.length_append]; omega
  · rw [hs] at h1; rw [List.length_append]; omega
theorem pr_up {V U : World} {g : Nat} {l : List Nat} {e : Nat} (h : Nu.PR V g g l e) (hb : Below V.heap.size V U) : Nu.PR U g g l e := h.kept (Nu.turn_below hb none) (Nat.le_of_lt h.lt) (fun e => by cases e) (fun q e => by cases e)
theorem below_row {w V U : World} {g : Nat} (h : Below w.heap.size w V) (hg : V.grownBy U (some g)) (hw : w.heap.size ≤ g) : Below w.heap.size w U := h.grown hg h.size (fun q e => by cases e; exact hw)

theorem back_end (P : PDc) (w : World) (d : Dot) (A1 A2 : Option Addr) (l : List Dot) (C : List Part) (n1 n2 c1 c2 : Nat) (hl : l.length = n1) (hdl : Dt.Dots w w.heap.size A1 l) (hc : Cx.CtxAt w A2 C n2 c2) (h : ¬ (n1 ≤ 100 ∧ Cx.fewC C = true ∧ Dt.mayD d = true ∧ Dt.riseB l = true)) :
    Calls Tryz.prog 5 #[dval d, .slice A1 n1 c1, .slice A2 n2 c2] w fun e w' => e = .returned (.bool true) ∧ Below w.heap.size w w' := by
  have HB := Lib.hid (below_new w (dbox d))
  by_cases hn : 100 < n1
  · have d1 : decide ((100 : Int) < (n1 : Int)) = true := decide_eq_true (by omega)
    clear h hc hdl hl
    go_enter Tryz.func5, Tryz.ntmps5
    go_wp2_with fail
    refine (works_any P _).mono ?_
    rintro e w1 ⟨rfl, b1⟩
    have HE := Lib.hid (HB.out.trans (b1.mono HB.out.size))
    clear b1
    go_wp2
    go_ret
    exact ⟨rfl, HE.out⟩
  · have d1 : decide ((100 : Int) < (n1 : Int)) = false := decide_eq_false (by omega)
    have C1 := Lib.hid (Cx.rfew_any _ A2 C n2 c2 (hc.up HB.out))
    have HK : Hid (∀ V, Below (w.alloc (dbox d)).heap.size (w.alloc (dbox d)) V → V.cell? ⟨w.heap.size, 0, none⟩ = some (.int .u16 (d.1 : Int)) ∧ V.cell? ⟨w.heap.size, 1, none⟩ = some (.int .u64 (d.2 : Int))) := Lib.hid (fun V hV => dbox_new w d V (by rw [alloc_size] at hV; exact hV))
    have HD := Lib.hid (hdl.up HB.out)
    have HL := Lib.hid hl
    clear hc hdl hl
    cases hf : Cx.fewC C with
    | false =>
      rw [hf] at C1
      clear h HK HD HL
      go_enter Tryz.func5, Tryz.ntmps5
      go_wp2_with fail
      refine C1.out.mono ?_
      rintro e w1 ⟨rfl, b1⟩
      have HE := Lib.hid (HB.out.trans (b1.mono HB.out.size))
      clear b1 C1
      go_wp2_with fail
      refine (works_any P _).mono ?_
      rintro e w2 ⟨rfl, b2⟩
      have HF := Lib.hid (HE.out.trans (b2.mono HE.out.size))
      clear b2
      go_wp2
      go_ret
      exact ⟨rfl, HF.out⟩
    | true =>
      rw [hf] at C1
      have HH := Lib.hid h
      clear h
      go_enter Tryz.func5, Tryz.ntmps5
      go_wp2_with fail
      refine C1.out.mono ?_
      rintro e w2 ⟨rfl, b2⟩
      generalize w.alloc (dbox d) = w1 at *
      obtain ⟨k0, k1⟩ := HK.out _ b2
      have HE := Lib.hid (HB.out.trans (b2.mono HB.out.size))
      have HD2 := Lib.hid (HD.out.up b2)
      have C2 := Lib.hid (Cx.rgood_later (w := w2) d (Below.refl _ _))
      clear b2 C1 HD HK
      cases hm : Dt.mayD d with
      | false =>
        rw [hm] at C2
        clear HD2 HH
        go_wp2_with fail
        refine C2.out.mono ?_
        rintro e w3 ⟨rfl, b3⟩
        have HF := Lib.hid (HE.out.trans (b3.mono HE.out.size))
        clear b3 C2 k0 k1
        go_wp2_with fail
        refine (works_any P _).mono ?_
        rintro e w4 ⟨rfl, b4⟩
        have HG := Lib.hid (HF.out.trans (b4.mono HF.out.size))
        clear b4
        go_wp2
        go_ret
        exact ⟨rfl, HG.out⟩
      | true =>
        rw [hm] at C2
        have hr : Dt.riseB l = false := by
          cases hr : Dt.riseB l with
          | false => rfl
          | true => exact absurd ⟨by omega, hf, hm, hr⟩ HH.out
        clear HH
        go_wp2_with fail
        refine C2.out.mono ?_
        rintro e w3 ⟨rfl, b3⟩
        have HF := Lib.hid (HE.out.trans (b3.mono HE.out.size))
        have C3 := Lib.hid (Dt.rrising_any w3 A1 l n1 c1 HL.out (HD2.out.up b3) (by omega))
        rw [hr] at C3
        clear b3 C2 k0 k1
        go_wp2_with fail
        refine C3.out.mono ?_
        rintro e w4 ⟨rfl, b4⟩
        have HG := Lib.hid (HF.out.trans (b4.mono HF.out.size))
        clear b4 C3
        go_wp2_with fail
        refine (works_any P _).mono ?_
        rintro e w5 ⟨rfl, b5⟩
        have HI := Lib.hid (HG.out.trans (b5.mono HG.out.size))
        clear b5
        go_wp2
        go_ret
        exact ⟨rfl, HI.out⟩

set_option maxHeartbeats 16000000 in
theorem back_go (P : PDc) (w : World) (d : Dot) (A1 A2 : Option Addr) (l : List Dot) (C : List Part) (n1 n2 c1 c2 : Nat) (hd : d.1 < 65536) (hd2 : d.2 < big) (hl : l.length = n1) (nl : A1 = none → n1 = 0 ∧ c1 = 0) (cl : n1 ≤ c1) (ml : c1 ≤ 9223372036854775807) (hdl : Dt.Dots w w.heap.size A1 l) (hc : Cx.CtxAt w A2 C n2 c2) (hn : n1 ≤ 100) (hf : Cx.fewC C = true) (hm : Dt.mayD d = true) (hr : Dt.riseB l = true) :
    Calls Tryz.prog 5 #[dval d, .slice A1 n1 c1, .slice A2 n2 c2] w fun e w' => e = .returned (.bool true) ∧ Below w.heap.size w w' := by
  have HB := Lib.hid (below_new w (dbox d))
  have HK : Hid (∀ V, Below (w.alloc (dbox d)).heap.size (w.alloc (dbox d)) V → V.cell? ⟨w.heap.size, 0, none⟩ = some (.int .u16 (d.1 : Int)) ∧ V.cell? ⟨w.heap.size, 1, none⟩ = some (.int .u64 (d.2 : Int))) := Lib.hid (fun V hV => dbox_new w d V (by rw [alloc_size] at hV; exact hV))
  have hbx : w.heap.size < (w.alloc (dbox d)).heap.size := by rw [alloc_size]; omega
  have d1 : decide ((100 : Int) < (n1 : Int)) = false := decide_eq_false (by omega)
  have hs := Lib.hid (Cx.few_is hf)
  have HD := Lib.hid (hdl.up HB.out)
  have HC := Lib.hid (hc.up HB.out)
  have C1 := Lib.hid (Cx.rfew_any _ A2 C n2 c2 HC.out)
  rw [hf] at C1
  have HS : Hid ((∀ x ∈ l, Dt.mayD x = true) → Said d l C) := Lib.hid (fun h => said_any hd hd2 hm (by omega) hdl.1 hr h (fit_at hc) hf)
  have HL := Lib.hid hl
  have HN := Lib.hid nl
  have HM := Lib.hid hm
  have HR := Lib.hid hr
  clear hf hc hdl hl nl hm hr
  go_enter Tryz.func5, Tryz.ntmps5
  go_wp2_with fail
  refine C1.out.mono ?_
  rintro e w2 ⟨rfl, b2⟩
  generalize w.alloc (dbox d) = w1 at *
  obtain ⟨k0, k1⟩ := HK.out _ b2
  have B2 := Lib.hid b2
  have C2 := Lib.hid (Cx.rgood_later (w := w2) d (Below.refl _ _))
  rw [HM.out] at C2
  clear C1 b2
  go_wp2_with fail
  refine C2.out.mono ?_
  rintro e w3 ⟨rfl, b3⟩
  have B3 := Lib.hid (B2.out.trans (b3.mono B2.out.size))
  have C3 := Lib.hid (Dt.rrising_any w3 A1 l n1 c1 HL.out (HD.out.up B3.out) (by omega))
  rw [HR.out] at C3
  clear C2 b3 B2 k0 k1
  go_wp2_with fail
  refine C3.out.mono ?_
  rintro e w4 ⟨rfl, b4⟩
  have B4 := Lib.hid (B3.out.trans (b4.mono B3.out.size))
  clear C3 b4 B3
  go_wp2_with fail
  go_loopw [7] (fun i wr => ∃ k : Nat, k ≤ n1 ∧ i = .int .i64 (k : Int) ∧ (∀ x ∈ l.take k, Dt.mayD x = true) ∧ Below w1.heap.size w1 wr) (fun i _ => n1 - (intOf i).toNat)
  case atStart => exact ⟨0, Nat.zero_le _, rfl, (fun x hx => by simp at hx), B4.out⟩
  case round =>
    obtain ⟨k, hk, rfl, ht, hw⟩ := hrel
    have HT := Lib.hid ht
    have HW := Lib.hid hw
    clear ht hw
    by_cases hlt : k < n1
    · obtain ⟨ad, x, rfl, hB, hlx, hx1, hx2, hcx⟩ := HD.out.cells (k := k) (by rw [HL.out]; exact hlt)
      obtain ⟨e1, e2⟩ := hcx wr HW.out
      have LX := Lib.hid hlx
      have s0 : (k : Int) < (n1 : Int) := by omega
      have s3 : (0 : Int) ≤ (k : Int) := by omega
      have C5 := Lib.hid (Cx.rgood_later (w := wr) x (Below.refl _ _))
      clear hlx hcx
      go_wp2_with fail
      cases hx : Dt.mayD x with
      | false =>
        rw [hx] at C5
        refine C5.out.mono ?_
        rintro e V ⟨rfl, bv⟩
        have HV := Lib.hid (HB.out.trans ((HW.out.trans (bv.mono HW.out.size)).mono HB.out.size))
        clear C5 bv e1 e2
        go_wp2_with fail
        refine (works_any P _).mono ?_
        rintro e V2 ⟨rfl, bv⟩
        have HV2 := Lib.hid (HV.out.trans (bv.mono HV.out.size))
        clear bv
        go_wp2
        go_ret
        exact ⟨rfl, HV2.out⟩
      | true =>
        rw [hx] at C5
        refine C5.out.mono ?_
        rintro e V ⟨rfl, bv⟩
        have HV := Lib.hid (HW.out.trans (bv.mono HW.out.size))
        have HX := Lib.hid hx
        clear C5 bv e1 e2 hx
        go_wp2
        go_roundw
        case rel => exact ⟨k + 1, by omega, by go_num, (fun y hy => by
          rw [List.take_add_one, LX.out] at hy
          rcases List.mem_append.1 hy with hy | hy
          · exact HT.out y hy
          · obtain rfl := List.mem_singleton.1 hy
            exact HX.out), HV.out⟩
        case measure => simp [intOf]; omega
    · obtain rfl : k = n1 := by omega
      have hS := HS.out (by have := HT.out; rwa [List.take_of_length_le (by rw [HL.out]; exact Nat.le_refl _)] at this)
      have SS := Lib.hid hS
      clear HT HS hS B4 hlt hk
      have W0 := Lib.hid (pw_new (w := wr) (B := wr.heap.size) (Nat.le_refl _))
      have Y0 := Lib.hid (below_new wr (.cells #[.slice none 0 0] 33))
      go_wp2_with fail
      have C6 := P.putctx wr _ _ _ _ A2 C n2 c2 W0.out Y0.out (HC.out.up HW.out) hs.out (by decide)
      generalize wr.alloc (.cells #[.slice none 0 0] 33) = v1 at *
      refine C6.mono ?_
      rintro e v2 ⟨rfl, r2, p2, _, y2⟩
      have W1 := Lib.hid p2
      have Y1 := Lib.hid (Y0.out.trans (Nu.below_two y2 (Nat.le_refl _) (fun q e => by cases e) Y0.out.size))
      clear C6 W0 Y0 p2 y2
      go_wp2_with fail
      have C7 := P.putdots v2 _ _ _ _ A1 l k c1 W1.out Y1.out.size HL.out HN.out cl ml ((HD.out.up HW.out).below Y1.out) (by omega) (Nat.le_trans SS.out.len0 (by decide))
      refine C7.mono ?_
      rintro e v3 ⟨rfl, r3, p3, _, y3⟩
      have W2 := Lib.hid p3
      have Y2 := Lib.hid (Y1.out.trans (Nu.below_two y3 (Nat.le_refl _) (fun q e => (W1.out.row q e).1) Y1.out.size))
      obtain ⟨k0, k1⟩ := HK.out v3 (HW.out.trans (Y2.out.mono HW.out.size))
      clear C7 W1 Y1 p3 y3
      go_wp2_with fail
      have C8 := P.putdot v3 _ _ _ _ d W2.out hd hd2 (Nat.le_trans SS.out.len1 (by decide))
      refine C8.mono ?_
      rintro e v4 ⟨rfl, r4, p4, _, y4⟩
      have W3 := Lib.hid p4
      have Y3 := Lib.hid (Y2.out.trans (Nu.below_two y4 (Nat.le_refl _) (fun q e => (W2.out.row q e).1) Y2.out.size))
      clear C8 W2 Y2 p4 y4 k0 k1
      go_wp2_with fail
      have C9 := Nu.wbytes_any v4 _ _ _ _ W3.out (Nat.le_trans SS.out.len2 (by decide))
      refine C9.mono ?_
      rintro e v5 q5
      obtain ⟨A5, n5, c5, rfl, l5, b5⟩ := post_clone q5
      have L5 := Lib.hid l5
      have Y4 := Lib.hid (Y3.out.trans (b5.mono Y3.out.size))
      clear C9 W3 Y3 q5 l5 b5
      go_wp2_with fail
      have C10 := Nu.new_any v5 A5 _ n5 c5 L5.out.len L5.out.nil L5.out.at_ (by rw [← L5.out.len]; exact Nat.le_trans SS.out.len2 (by decide))
      refine C10.mono ?_
      rintro e v6 ⟨g, rfl, hg, p6, b6⟩
      have hwg : wr.heap.size ≤ g := Nat.le_trans Y4.out.size hg
      have R6 := Lib.hid p6
      have Y5 := Lib.hid (Y4.out.trans (b6.mono Y4.out.size))
      clear C10 L5 Y4 p6 b6 hg
      go_wp2_with fail
      have C11 := P.ctx v6 g g _ 0 R6.out (Nat.le_refl _) (Nat.le_trans SS.out.len2 (by decide))
      rw [SS.out.ctx] at C11
      refine C11.mono ?_
      rintro e v7 ⟨A7, n7, c7, rfl, d7, p7, g7⟩
      have h6 : g < v6.heap.size := R6.out.lt
      have R7 : Hid (Nu.PR v7 g g (dotsB l ++ dotB d) 0) := Lib.hid p7
      have X7 : Hid (CL v6.heap.size v7 A7 (Cx.normC C) n7 c7) := Lib.hid d7
      have Y7 := Lib.hid (below_row Y5.out g7 hwg)
      clear C11 R6 p7 d7 g7 Y5
      go_wp2_with fail
      have C12 := P.dots v7 g g (dotsB l ++ dotB d) 0 (k : Int) R7.out (Nat.le_refl _) (Nat.le_trans SS.out.len3 (by decide)) (by omega) (by omega)
      rw [← HL.out, SS.out.dots, HL.out] at C12
      refine C12.mono ?_
      rintro e v8 ⟨A8, n8, c8, rfl, d8, p8, g8⟩
      have h7 : g < v7.heap.size := R7.out.lt
      have R8 : Hid (Nu.PR v8 g g (dotB d) 0) := Lib.hid p8
      have X8 := Lib.hid (X7.out.kept g8 h6)
      have Z8 : Hid (DL v7.heap.size v8 A8 l n8 c8) := Lib.hid d8
      have Y8 := Lib.hid (below_row Y7.out g8 hwg)
      clear C12 R7 p8 d8 g8 Y7 X7
      go_wp2_with fail
      have C13 := P.dot v8 g g (dotB d) 0 R8.out (Nat.le_refl _)
      rw [SS.out.dot] at C13
      refine C13.mono ?_
      rintro e v9 ⟨rfl, p9, g9⟩
      have R9 : Hid (Nu.PR v9 g g [] 0) := Lib.hid p9
      have X9 := Lib.hid (X8.out.kept g9 h6)
      have Z9 := Lib.hid (Z8.out.kept g9 h7)
      have Y9 := Lib.hid (below_row Y8.out g9 hwg)
      clear C13 R8 p9 g9 Y8 X8 Z8
      go_wp2_with fail
      have hzn := below_new v9 (dbox d)
      have HZ : Hid (∀ V, Below (v9.alloc (dbox d)).heap.size (v9.alloc (dbox d)) V → V.cell? ⟨v9.heap.size, 0, none⟩ = some (.int .u16 (d.1 : Int)) ∧ V.cell? ⟨v9.heap.size, 1, none⟩ = some (.int .u64 (d.2 : Int))) := Lib.hid (fun V hV => dbox_new v9 d V (by rw [alloc_size] at hV; exact hV))
      have Ra := Lib.hid (pr_up R9.out hzn)
      have Xa := Lib.hid (X9.out.below hzn)
      have Za := Lib.hid (Z9.out.below hzn)
      have Ya := Lib.hid (Y9.out.trans (hzn.mono Y9.out.size))
      clear R9 X9 Z9 Y9 hzn
      generalize v9.alloc (dbox d) = va at *
      have C14 := P.encode va A2 C n2 c2 (HC.out.up (HW.out.trans (Ya.out.mono HW.out.size))) hs.out
      refine C14.mono ?_
      rintro e vb ⟨Ab, nb, cb, rfl, lb, bb⟩
      have Lb := Lib.hid lb
      have Ub := Lib.hid bb
      have hvb : g < vb.heap.size := Nat.lt_of_lt_of_le Ra.out.lt bb.size
      clear C14 lb bb
      go_wp2_with fail
      have C15 := P.decode vb Ab _ nb cb Lb.out (by rw [← Lb.out.len]; exact Nat.le_trans SS.out.len0 (by decide))
      unfold DecPost at C15
      rw [SS.out.dec] at C15
      refine C15.mono ?_
      rintro e vc ⟨Ac, nc, cc, rfl, dc, bc⟩
      have Dc : Hid (CL vb.heap.size vc Ac (Cx.normC C) nc cc) := Lib.hid dc
      have Uc := Lib.hid (Ub.out.trans (bc.mono Ub.out.size))
      clear C15 dc bc Ub Lb
      go_wp2_with fail
      have C16 := Cx.rnorm_any vc A2 C n2 c2 (HC.out.up (HW.out.trans ((Ya.out.trans (Uc.out.mono Ya.out.size)).mono HW.out.size))) hs.out
      refine C16.mono ?_
      rintro e vd q16
      obtain ⟨Ad, nd, cd, rfl, ld, bd⟩ := Cx.post_ctx q16
      have Ld := Lib.hid ld
      have Dd := Lib.hid (Dc.out.below bd)
      have Ud := Lib.hid (Uc.out.trans (bd.mono Uc.out.size))
      clear C16 q16 ld bd Dc Uc
      go_wp2_with fail
      have Xd := Lib.hid (Xa.out.below Ud.out)
      have C17 := Cx.req_any vd A7 Ad (Cx.normC C) (Cx.normC C) n7 nd c7 cd Xd.out.ctx Ld.out (Nat.le_trans Xd.out.cap Xd.out.max)
      rw [decide_eq_true rfl] at C17
      refine C17.mono ?_
      rintro e ve ⟨rfl, be⟩
      have De := Lib.hid (Dd.out.below be)
      have Ue := Lib.hid (Ud.out.trans (be.mono Ud.out.size))
      clear C17 be Dd Ud Xd Ld
      go_wp2_with fail
      have Ze := Lib.hid (Za.out.below Ue.out)
      have C18 := Dt.rsame_any ve ve.heap.size ve.heap.size A8 A1 l l n8 k c8 c1 Ze.out.len HL.out Ze.out.dots (HD.out.up (HW.out.trans ((Ya.out.trans (Ue.out.mono Ya.out.size)).mono HW.out.size))) (Nat.le_trans Ze.out.cap Ze.out.max)
      rw [decide_eq_true rfl] at C18
      refine C18.mono ?_
      rintro e vf ⟨rfl, m7, rfl⟩
      have bf := bel_drewN (V := ve) m7
      generalize ve.drewN m7 = vf at *
      have Df := Lib.hid (De.out.below bf)
      have Uf := Lib.hid (Ue.out.trans (bf.mono Ue.out.size))
      obtain ⟨z0, z1⟩ := HZ.out vf Uf.out
      obtain ⟨k0, k1⟩ := HK.out vf (HW.out.trans ((Ya.out.trans (Uf.out.mono Ya.out.size)).mono HW.out.size))
      clear C18 bf De Ue Ze
      go_wp2_with fail
      have C19 := Nu.end_any vf g g [] 0 (pr_up Ra.out Uf.out) (Nat.le_refl _)
      have e0 : Nu.endE [] 0 = 0 := rfl
      rw [e0] at C19
      refine C19.mono ?_
      rintro e vg ⟨rfl, pg, gg⟩
      have Yg := Lib.hid (below_row (Ya.out.trans (Uf.out.mono Ya.out.size)) gg hwg)
      have Xg := Lib.hid ((Xa.out.below Uf.out).kept gg h6)
      have Dg := Lib.hid (Df.out.kept gg hvb)
      clear C19 e0 pg gg z0 z1 k0 k1 Df Uf Xa Za Ra HZ
      go_wp2_with fail
      have C20 := Cx.req_any vg Ac A7 (Cx.normC C) (Cx.normC C) nc n7 cc c7 Dg.out.ctx Xg.out.ctx (Nat.le_trans Dg.out.cap Dg.out.max)
      rw [decide_eq_true rfl] at C20
      refine C20.mono ?_
      rintro e vh ⟨rfl, bh⟩
      have Yh := Lib.hid (Yg.out.trans (bh.mono Yg.out.size))
      clear C20 bh Dg Xg Yg
      go_wp2_with fail
      refine (works_any P _).mono ?_
      rintro e vi ⟨rfl, bi⟩
      have Yi := Lib.hid (Yh.out.trans (bi.mono Yh.out.size))
      clear bi Yh
      go_wp2
      go_ret
      exact ⟨rfl, HB.out.trans ((HW.out.trans (Yi.out.mono HW.out.size)).mono HB.out.size)⟩
theorem back_walk (P : PDc) (w : World) (d : Dot) (A1 A2 : Option Addr) (l : List Dot) (C : List Part) (n1 n2 c1 c2 : Nat) (hd : d.1 < 65536) (hd2 : d.2 < big) (hl : l.length = n1) (nl : A1 = none → n1 = 0 ∧ c1 = 0) (cl : n1 ≤ c1) (ml : c1 ≤ 9223372036854775807) (hdl : Dt.Dots w w.heap.size A1 l) (hc : Cx.CtxAt w A2 C n2 c2) :
    Calls Tryz.prog 5 #[dval d, .slice A1 n1 c1, .slice A2 n2 c2] w fun e w' => e = .returned (.bool true) ∧ Below w.heap.size w w' := by
  by_cases h : n1 ≤ 100 ∧ Cx.fewC C = true ∧ Dt.mayD d = true ∧ Dt.riseB l = true
  · exact back_go P w d A1 A2 l C n1 n2 c1 c2 hd hd2 hl nl cl ml hdl hc h.1 h.2.1 h.2.2.1 h.2.2.2
  · exact back_end P w d A1 A2 l C n1 n2 c1 c2 hl hdl hc h
end Go.Proofs.YtmhghgogehmehaaGreat.Dc
