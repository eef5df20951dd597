/- Words and contracts that the proofs of this seat stand on, part 18 of 20. -/
import Derived.Test.YtmhghgogehmehaaGreatMgQ
import Derived.Test.YtmhghgogehmehaaGreatMgM
import Derived.Test.YtmhghgogehmehaaGreatMgK
import Derived.Shelf.SlSortCmp.WholeK
import Derived.Test.YtmhghgogehmehaaGreatProg
import Derived.Test.YtmhghgogehmehaaGreatMgH
import Derived.Lib.SlicesCompact
import Derived.Lib.SliceRun

/- The contracts of ctx's inOrder and Norm, and where the runs of what comes out lie (gen-far.py printed it). -/
namespace Go.Proofs.YtmhghgogehmehaaGreat.Cx
open Go.ChangeShapes Go.WideShapes Go.ChangeAt Go.RowKit Go.Maps
set_option linter.unusedVariables false
set_option maxRecDepth 4000

/-- a context comes out, all of it in blocks of its own. -/
def FarPost (w : World) (m : List Part) (e : Ending) (w' : World) : Prop := ∃ A n cp ps, e = .returned (.slice A n cp) ∧ m.length = n ∧ w'.ownsRow w.heap.size 71 2 (.slice A n cp) n (cv ps) ∧ Match w' ps m ∧ Below w.heap.size w w' ∧ ∀ p ∈ ps, ∀ ad, p.adr = some ad → w.heap.size ≤ ad.block
theorem fpost_up {w W V : World} {m : List Part} {e : Ending} (hb : Below w.heap.size w W) (h : FarPost W m e V) : FarPost w m e V := by
  obtain ⟨A, n, c, ps, h1, h2, h3, h4, h5, h6⟩ := h
  exact ⟨A, n, c, ps, h1, h2, Dt.own_less h3 hb.size, h4, hb.trans (h5.mono hb.size), fun p hp ad e => Nat.le_trans hb.size (h6 p hp ad e)⟩
set_option maxHeartbeats 4000000 in
theorem pinord_far (hsort : SortsP) (w : World) (B b n : Nat) (f : Nat → List Run) (h : MapS w B b n f) (hf : Tells (fun d => Ru.nrm (f d))) (hl : ∀ d, (f d).length ≤ 2199023255552) (hn : n ≤ 1073741824) :
    Calls Tryz.prog 64 #[.map (some b)] w (FarPost w (listC (fun d => Ru.nrm (f d)))) := by
  obtain ⟨hbB, D, g, hown, hh, hs⟩ := h
  obtain ⟨i0, hi0, hz0, hz1, hz2⟩ := info_parts part_info
  have HH := Lib.hid hh
  have HF := Lib.hid hf
  have HSL := Lib.hid hs
  have HWN := Lib.hid hown
  have HLN := Lib.hid hl
  have HNZ : Hid (∀ d, f d = [] → Ru.nrm (f d) = []) := Lib.hid (fun d hd => by rw [hd]; exact nrm_nil)
  have HNO : Hid (∀ d, Ru.InOrder (Ru.nrm (f d))) := Lib.hid (fun d => (Ru.nrm_spec _).1)
  have HNM : Hid (∀ W A d k c, RunsAt W A (f d) k c → Calls Tryz.prog 86 #[.slice A k c] W (Ru.RunPost W (Ru.nrm (f d)))) := Lib.hid (fun W A d k c hr => Ru.pnorm_any W A (f d) k c hr.len hr.runs (by rw [← hr.len]; have := hl d; omega))
  have hbl := hown.lt
  have hlen := hown.len (t := 97) (e := 69) Tryz.underlying97 3
  have hkn := hown.size_le
  obtain ⟨kn, hknD⟩ : ∃ kn, Maps.size D = kn := ⟨_, rfl⟩
  have HKN := Lib.hid hknD
  rw [hknD] at hlen hkn
  clear hh hf hs hown hknD hl
  generalize hN : (fun d => Ru.nrm (f d)) = N at *
  have HNF : Hid (∀ d, Ru.nrm (f d) = N d) := Lib.hid (fun d => by rw [← hN])
  clear hN
  go_enter Tryz.func64, Tryz.ntmps64
  go_wp2_with (first
    | (at_make
       refine wpList_make_own _ rfl _ _ 28 rfl w.heap.size 71 i0 (.agg #[.int .u16 0, .slice none 0 0]) 2 Tryz.underlying28 hi0 hz0 hz1 _ _ _ kn rfl rfl rfl (by rw [hz2]; omega) (by simp only [maxLen]; omega) (Nat.le_refl _) ?_
       intro w1 ho1 hg1
       have HO1 := Lib.hid ho1
       have HG1 := Lib.hid hg1
       have HWN1 := Lib.hid (HWN.out.kept hg1 (fun e => by cases e))
       clear ho1 hg1)
    | (at_range; refine wpList_range_own _ rfl _ 97 rfl 22 69 law16 Tryz.underlying97 _ b n _ rfl HWN1.out ?_; intro w0 hrg0 hg0 hs0)
    | go_in)
  have HR0 := Lib.hid hrg0
  have HB0 : Hid (Below w.heap.size w w0) := Lib.hid (((Below.refl _ w).grown HG1.out (Nat.le_refl _) (fun j hj => by cases hj)).grown hg0 HG1.out.size (fun j hj => by cases hj))
  have HS0 := Lib.hid hs0
  have HO2 : Hid (w0.ownsRow w.heap.size 71 2 (.slice (some ⟨w.heap.size, 0, none⟩) 0 kn) 0 (cv [])) := Lib.hid (HO1.out.kept hg0 (.inr (fun e => by cases e)))
  have hw1 := HG1.out.size
  have HGS : Hid (GatherS N g (Maps.has D) []) := Lib.hid (gatherN_start HH.out HSL.out (fun d hd => by rw [← HNF.out]; exact HNZ.out d hd))
  clear hrg0 hg0 hs0 hlen
  go_frame
  go_loopw [3] (fun v wr => ∃ (left : Lit → Bool) (cnt : Nat) (ps : List PV) (m : List Part) (A : Option Addr) (k c : Nat), v = .slice A k c ∧ m.length = k ∧ k + cnt ≤ kn ∧ wr.ranges Tryz.prog 22 valS b w1.heap.size n D left cnt ∧ GatherS N g left m ∧ Match wr ps m ∧
      ApartR wr w1.heap.size ps (Value.slice A k c).ownBlock ∧ wr.ownsRow w.heap.size 71 2 (.slice A k c) k (cv ps) ∧ Below w.heap.size w wr ∧ w1.heap.size < wr.heap.size) (fun _ wr => wr.rangeLeft b w1.heap.size)
  case atStart => exact ⟨_, _, [], [], _, 0, kn, rfl, rfl, by rw [HKN.out]; omega, HR0.out, HGS.out, Match.nil_ _, (fun p hp => by cases hp), HO2.out, HB0.out, by rw [HS0.out]; exact Nat.lt_succ_self _⟩
  case round =>
    obtain ⟨left, cnt, ps, m, A, k, c, rfl, hm, hkn2, hrg, hga, hma, hap, ho, hw, hws⟩ := hrel
    have HM := Lib.hid hm
    have HG := Lib.hid hga
    have HMA := Lib.hid hma
    have HAP := Lib.hid hap
    have HO := Lib.hid ho
    have HW := Lib.hid hw
    have HRL := Lib.hid hrg.left_eq
    have HNE := Lib.hid (neS_iter hrg ho)
    have HOF := Lib.hid (ownS_from ho)
    clear hm hga hma hap ho hw
    go_wp2_with (first
      | (at_next; refine wpList_nextS rfl _ rfl b w1.heap.size n _ _ _ rfl hrg ?_ ?_)
      | go_in)
    · intro hc0 hl0
      have HE := Lib.hid hl0
      clear hrg
      go_wp2_with fail
      refine (hsort wr w.heap.size A k c ps (HMA.out.1.trans HM.out) (by omega) HO.out).mono ?_
      rintro e w2 ⟨rfl, s, hp, hs, ho2, hg2⟩
      have HFAR : Hid (∀ p ∈ s, ∀ ad, p.adr = some ad → w.heap.size ≤ ad.block) := Lib.hid (fun p hm ad e => by
        obtain ⟨ad', e', h1, _⟩ := HAP.out p (hp.mem_iff.1 hm)
        rw [e'] at e
        cases e
        omega)
      have HS := Lib.hid ((made_end HG.out HF.out HE.out HMA.out hp hs).grown hg2 (HAP.out.apart.perm hp))
      have HL : Hid ((listC N).length = k) := Lib.hid (by rw [← HS.out.1, hp.length_eq, HMA.out.1]; exact HM.out)
      have HO2 := Lib.hid ho2
      have HW2 : Hid (Below w.heap.size w w2) := Lib.hid (HW.out.grown hg2 HW.out.size HOF.out)
      clear hp hs ho2 hg2
      go_wp2
      go_ret
      exact ⟨A, k, c, s, rfl, HL.out, HO2.out, HS.out, HW2.out, HFAR.out⟩
    · intro x sl wn cnt1 hwx hlx hat hrg1 hlt hg1 hs1 hen
      obtain ⟨d, rfl, hd, hR, hRB⟩ := entryS HH.out HSL.out hwx hat
      have HW1 : Hid (Below w.heap.size w wn) := Lib.hid (HW.out.grown hg1 HW.out.size (fun j hj => by cases hj; exact hw1))
      have HO1 := Lib.hid (HO.out.kept hg1 HNE.out)
      have HMA1 := Lib.hid (HMA.out.grown hg1 HAP.out.iter)
      have HAP1 := Lib.hid (HAP.out.up hg1.size)
      have CN := HNM.out wn sl.adr d sl.len sl.cap (hR.up HW1.out)
      have HLX := Lib.hid hlx
      have HR1 := Lib.hid hrg1
      have hsn : w1.heap.size < wn.heap.size := by rw [hs1]; exact hws
      clear hrg hrg1 hat hg1 hwx hR hRB hs1 hlx hws
      go_wp2_with fail
      refine CN.mono ?_
      intro e w2 hp
      obtain ⟨A3, n3, c3, rfl, hR3, hb3, hnew⟩ := runs_post hp (HNO.out d)
      rw [HNF.out d] at hR3
      have HR3 := Lib.hid hR3
      have HLN3 := Lib.hid hR3.len
      have HNW := Lib.hid hnew
      have HW2 := Lib.hid (HW1.out.trans (hb3.mono HW1.out.size))
      have HO2 := Lib.hid (Dt.own_kept HO1.out hb3)
      have HMA2 := Lib.hid (HMA1.out.up hb3)
      have HAP2 := Lib.hid (HAP1.out.up hb3.size)
      have HR2 := Lib.hid (HR1.out.kept (bel_grown hb3 none) (fun e => by cases e) (fun e => by cases e))
      have hs2 : w1.heap.size < w2.heap.size := Nat.lt_of_lt_of_le hsn hb3.size
      have HOB := Lib.hid (fun j hj => (HO1.out.lt j hj).2)
      clear hp hR3 hnew hb3 CN
      by_cases h0 : n3 = 0
      · have HG1 := Lib.hid (HG.out.skip (d := d) (List.eq_nil_of_length_eq_zero (by rw [HLN3.out]; exact h0)))
        have dz : decide ((0 : Int) < (n3 : Int)) = false := decide_eq_false (by omega)
        clear hen
        go_wp2
        refine ⟨⟨_, cnt1, ps, m, A, k, c, rfl, HM.out, by omega, HR2.out, HG1.out, HMA2.out, HAP2.out, HO2.out, HW2.out, hs2⟩, ?_⟩
        rw [HR2.out.left_eq, HRL.out]
        exact hlt
      · have hfd : N d ≠ [] := fun e => h0 (by rw [← HLN3.out, e]; rfl)
        have HG1 := Lib.hid (HG.out.step hd hfd HLX.out)
        have dz : decide ((0 : Int) < (n3 : Int)) = true := decide_eq_true (by omega)
        obtain ⟨ad3, had3⟩ : ∃ ad3, A3 = some ad3 := by
          cases A3 with
          | none => exact absurd (HR3.out.nil rfl).1 h0
          | some ad3 => exact ⟨ad3, rfl⟩
        have HAD := Lib.hid had3
        have hblk : wn.heap.size ≤ ad3.block ∧ ad3.block < w2.heap.size := by
          refine ⟨HNW.out ad3 had3, ?_⟩
          obtain ⟨ad', e, hB, _⟩ := HR3.out.runs.2 (by rw [Ru.rv_length, HLN3.out]; omega)
          rw [had3] at e
          obtain rfl := Option.some.inj e
          exact hB
        have HBA : Hid (Below w2.heap.size w2 (w2.alloc (.cells #[.int .u16 (d : Int), .slice A3 n3 c3] 71))) := Lib.hid (Dt.below_new _ _)
        have HMA3 : Hid (Match (w2.alloc (.cells #[.int .u16 (d : Int), .slice A3 n3 c3] 71)) (ps ++ [⟨d, A3, n3, c3⟩]) (m ++ [(d, N d)])) := Lib.hid ((HMA2.out.up HBA.out).snoc (by
          have q := HR3.out.up HBA.out
          exact ⟨rfl, hd, q.len, q.nil, q.cap, q.max, q.runs⟩))
        have HAP3 : Hid (ApartR (w2.alloc (.cells #[.int .u16 (d : Int), .slice A3 n3 c3] 71)) w1.heap.size (ps ++ [⟨d, A3, n3, c3⟩]) (Value.slice A k c).ownBlock) := Lib.hid ((HAP2.out.up HBA.out.size).snoc had3 (by omega) (Nat.lt_of_lt_of_le hblk.2 HBA.out.size) (fun e => by
          have := HOB.out ad3.block e.symm
          omega))
        have HOA := Lib.hid (HO2.out.alloc (.cells #[.int .u16 (d : Int), .slice A3 n3 c3] 71))
        have HWA : Hid (Below w.heap.size w (w2.alloc (.cells #[.int .u16 (d : Int), .slice A3 n3 c3] 71))) := Lib.hid (bel_alloc _ HW2.out)
        have HRA := Lib.hid (HR2.out.alloc (.cells #[.int .u16 (d : Int), .slice A3 n3 c3] 71))
        clear hen had3
        go_wp2_with (first
          | (at_builtin; refine wpList_part rfl (.tmp 21) (.tmp 25) rfl rfl _ w.heap.size k (.slice A k c) ps ⟨w2.heap.size, 0, none⟩ ⟨d, A3, n3, c3⟩ rfl rfl HOA.out (part_at w2 ⟨d, A3, n3, c3⟩) (by omega) HWA.out.size ?_; intro A4 c4 w3 ho3 hg3 hl3)
          | go_in)
        have HR4 := Lib.hid (HRA.out.kept hg3 (fun e => by have := HOF.out b e.symm; omega) (fun e => by rcases HNE.out with h | h; rw [h] at e; cases e; exact h e.symm))
        have HW3 : Hid (Below w.heap.size w w3) := Lib.hid (HWA.out.grown hg3 HWA.out.size HOF.out)
        have hlen : (m ++ [(d, N d)]).length = k + 1 := by rw [List.length_append, HM.out]; rfl
        have hs3 : w1.heap.size < w3.heap.size := Nat.lt_of_lt_of_le hs2 (Nat.le_trans HBA.out.size hg3.size)
        refine ⟨⟨_, cnt1, ps ++ [⟨d, A3, n3, c3⟩], m ++ [(d, N d)], A4, k + 1, c4, rfl, hlen, by omega, HR4.out, HG1.out, HMA3.out.grown hg3 HAP3.out.apart, HAP3.out.grown hg3.size hl3, ho3, HW3.out, hs3⟩, ?_⟩
        rw [HR4.out.left_eq, HRL.out]
        exact hlt
set_option maxHeartbeats 4000000 in
theorem pnorm_far (w : World) (A1 : Option Addr) (a : List Part) (n1 c1 : Nat) (h1 : CtxAt w A1 a n1 c1) (ha : Wide 268435456 a) :
    Calls Tryz.prog 36 #[.slice A1 n1 c1] w (FarPost w (normC a)) := by
  have CB := pbydev_any w A1 a n1 c1 h1 ha
  have HT : Hid (Tells (fun d => Ru.nrm (rawC a d))) := Lib.hid (by rw [nrm_rawC]; exact tells_runs h1.fit)
  have HL := Lib.hid (fun d => raw_short ha d)
  have hn1 : n1 ≤ 268435456 := by rw [← h1.len]; exact ha.1
  rw [← norm_raw]
  clear h1 ha
  go_enter Tryz.func36, Tryz.ntmps36
  go_wp2_with fail
  refine CB.mono ?_
  rintro e w1 ⟨rfl, hM, hb⟩
  have CI := pinord_far psorts w1 _ _ _ _ hM.mapS HT.out (fun d => by have := HL.out d; omega) (by omega)
  have HB := Lib.hid hb
  clear CB hM hb
  go_wp2_with fail
  refine CI.mono ?_
  intro e w2 hp
  obtain ⟨A2, n2, c2, ps, rfl, h2⟩ := fpost_up HB.out hp
  have HP := Lib.hid h2
  clear hp h2 CI
  go_wp2
  go_ret
  exact ⟨A2, n2, c2, ps, rfl, HP.out⟩
end Go.Proofs.YtmhghgogehmehaaGreat.Cx

/- The contracts of the program's PutDot, putPart, PutCtx and Encode of layer dcode. -/
namespace Go.Proofs.YtmhghgogehmehaaGreat.Dc
open Go.ChangeShapes Go.WideShapes Go.ChangeAt Go.RowKit
set_option linter.unusedVariables false
set_option maxRecDepth 4000

theorem far_cl {w w' : World} {m : List Part} {e : Ending} (h : Cx.FarPost w m e w') : ∃ A n c, e = .returned (.slice A n c) ∧ CL w.heap.size w' A m n c ∧ Below w.heap.size w w' := by
  obtain ⟨A, n, c, ps, rfl, hn, ho, hm, hb, hf⟩ := h
  obtain ⟨h1, h2, h3⟩ := Dt.own_len ho
  exact ⟨A, n, c, rfl, ⟨hn, h3, h1, h2, (fun ad e => by subst e; exact (ho.lt ad.block rfl).1), ps, Dt.lies_any (by decide) ho, hm, hf⟩, hb⟩
/-- a number more. -/
theorem ws_num {w V : World} {B g : Nat} {rb : Option Nat} {m : List Nat} (h : WS w V B g rb m) (x : Nat) (hx : x < big) (hm : m.length ≤ 70368744177664) :
    Calls Tryz.prog 33 #[.pointer (some ⟨g, 0, none⟩), .int .u64 (x : Int)] V fun e U => e = .returned (.tuple #[]) ∧ WS w U B g rb (m ++ Nu.enc x) :=
  h.step fun r hr => Nu.wnum_any V B g r m x hr hx hm
theorem pputdot_any (w : World) (B g : Nat) (rb : Option Nat) (m : List Nat) (d : Dot) (h : Nu.PW w B g rb m) (hd : d.1 < 65536) (hd2 : d.2 < big) (hm : m.length ≤ 35184372088832) :
    Calls Tryz.prog 8 #[.pointer (some ⟨g, 0, none⟩), dval d] w (Nu.WPost w B g rb (m ++ dotB d)) := by
  have HB := Lib.hid (below_new w (dbox d))
  obtain ⟨r, hr, ht, s0⟩ := side_new (WS.start h) (dbox d)
  have S0 := Lib.hid s0
  have HT := Lib.hid ht
  have HRR := Lib.hid hr
  have hw : (IntKind.u64.wrap (d.1 : Int)) = (d.1 : Int) := by rw [IntKind.wrap_u64]; omega
  obtain ⟨k0, k1⟩ := dbox_new w d (w.alloc (dbox d)) (by rw [← alloc_size w (dbox d)]; exact Below.refl _ _)
  have hb1 : d.1 < big := by show d.1 < 18446744073709551616; omega
  have hl := enc_le d.1
  clear h s0 ht hr
  go_enter Tryz.func8, Tryz.ntmps8
  go_wp2_with fail
  obtain ⟨bx, hbx⟩ : ∃ bx, w.heap.size = bx := ⟨_, rfl⟩
  rw [hbx] at S0 k0 k1 ⊢
  generalize w.alloc (dbox d) = w1 at *
  refine (ws_num S0.out.ws d.1 hb1 (by omega)).mono ?_
  rintro e w2 ⟨rfl, q2⟩
  have S1 : Hid (Side w1 w2 B g bx (m ++ Nu.enc d.1) r) := Lib.hid ⟨q2, S0.out.g_ne, S0.out.r_ne, S0.out.lt⟩
  have e1 := (S1.out.cell 1).trans k1
  clear q2 S0 k0 k1
  go_wp2_with fail
  refine (ws_num S1.out.ws d.2 hd2 (by rw [List.length_append]; omega)).mono ?_
  rintro e w3 ⟨rfl, q3⟩
  have W3 := Lib.hid (WS.join HRR.out HT.out q3)
  clear q3 S1 e1
  go_wp2
  go_end0
  unfold dotB
  rw [← List.append_assoc]
  exact W3.out.post
set_option maxHeartbeats 8000000 in
theorem pputpart_any (w : World) (B g : Nat) (rb : Option Nat) (m : List Nat) (p : Cx.PV) (x : Part) (h : Nu.PW w B g rb m) (hX : ∀ U, Nu.Two w U g rb → Cx.PartIs U U.heap.size p x) (hl : x.2.length ≤ 10000) (hm : m.length ≤ 1200000000000) :
    Calls Tryz.prog 37 #[.pointer (some ⟨g, 0, none⟩), .agg #[.int .u16 (x.1 : Int), .slice p.adr p.len p.cap]] w (Nu.WPost w B g rb (m ++ partB x)) := by
  have hpi := hX w ⟨rfl, rfl, rfl, Nat.le_refl _, fun _ _ _ _ => rfl⟩
  have HX := Lib.hid hX
  have HXL := Lib.hid hpi.len
  have hx1 := hpi.fit
  have hw1 : IntKind.u64.wrap (x.1 : Int) = (x.1 : Int) := by rw [IntKind.wrap_u64]; omega
  have hxb : x.1 < big := by show x.1 < 18446744073709551616; omega
  have hpl : p.len ≤ 10000 := by rw [← HXL.out]; exact hl
  have hw2 : IntKind.u64.wrap (p.len : Int) = (p.len : Int) := by rw [IntKind.wrap_u64]; omega
  have hpb : p.len < big := by show p.len < 18446744073709551616; omega
  have HLL := Lib.hid hl
  obtain ⟨r, hr, ht, s2⟩ := side_new (WS.start h) (.cells #[.int .u16 (x.1 : Int), .slice p.adr p.len p.cap] 71)
  have S2 := Lib.hid s2
  have HT := Lib.hid ht
  have HRR := Lib.hid hr
  have b0 : (w.alloc (.cells #[.int .u16 (x.1 : Int), .slice p.adr p.len p.cap] 71)).cell? ⟨w.heap.size, 0, none⟩ = some (.int .u16 (x.1 : Int)) := by rw [World.cell?_alloc_mark]; rfl
  have b1 : (w.alloc (.cells #[.int .u16 (x.1 : Int), .slice p.adr p.len p.cap] 71)).cell? ⟨w.heap.size, 1, none⟩ = some (.slice p.adr p.len p.cap) := by rw [World.cell?_alloc_mark]; rfl
  clear hX hpi hl s2 ht hr h
  go_enter Tryz.func37, Tryz.ntmps37
  go_wp2_with fail
  obtain ⟨bx, hbx⟩ : ∃ bx, w.heap.size = bx := ⟨_, rfl⟩
  rw [hbx] at S2 b0 b1 ⊢
  generalize w.alloc (.cells #[.int .u16 (x.1 : Int), .slice p.adr p.len p.cap] 71) = v2 at *
  refine (ws_num S2.out.ws x.1 hxb (by omega)).mono ?_
  rintro e v3 ⟨rfl, q3⟩
  have S3 : Hid (Side v2 v3 B g bx (m ++ Nu.enc x.1) r) := Lib.hid ⟨q3, S2.out.g_ne, S2.out.r_ne, S2.out.lt⟩
  have f1 := (S3.out.cell 1).trans b1
  clear q3 S2 b0
  go_wp2_with fail
  refine (ws_num S3.out.ws p.len hpb (by rw [List.length_append]; have := enc_le x.1; omega)).mono ?_
  rintro e v4 ⟨rfl, q4⟩
  have S4 : Hid (Side v2 v4 B g bx (m ++ Nu.enc x.1 ++ Nu.enc p.len) r) := Lib.hid ⟨q4, S3.out.g_ne, S3.out.r_ne, S3.out.lt⟩
  have f4 := (S4.out.cell 1).trans b1
  have HBL : Hid ((m ++ Nu.enc x.1 ++ Nu.enc p.len).length ≤ 1200000000018) := Lib.hid (by have := enc_le x.1; have := enc_le p.len; rw [List.length_append, List.length_append]; omega)
  obtain ⟨base, hbase⟩ : ∃ base, m ++ Nu.enc x.1 ++ Nu.enc p.len = base := ⟨_, rfl⟩
  rw [hbase] at S4 HBL
  have HBS := Lib.hid hbase
  clear q4 S3 f1 b1 hbase
  go_wp2_with fail
  go_loopw [20] (fun i wq => ∃ j : Nat, j ≤ p.len ∧ i = .int .i64 (j : Int) ∧ WS v2 wq B g r (base ++ (x.2.take j).flatMap runB)) (fun i _ => p.len - (intOf i).toNat)
  case atStart => exact ⟨0, Nat.zero_le _, rfl, by rw [List.take_zero, List.flatMap_nil, List.append_nil]; exact S4.out.ws⟩
  case round =>
    clear S4 f4
    obtain ⟨j, hj, rfl, q5⟩ := hrel
    have W5 := Lib.hid q5
    clear q5
    by_cases hjl : j < p.len
    · have hP := HX.out wr (WS.join HRR.out HT.out W5.out).two
      obtain ⟨rad, lo, hi, hpa, hlr, hlo, hhi, g0, g1⟩ := hP.runs.at_ (k := j) (by rw [hP.len]; exact hjl)
      rw [← Ru.add_next] at g1
      have HRN := Lib.hid (runs_next (b := base) hlr)
      have hbl : (base ++ (x.2.take j).flatMap runB).length ≤ 70368744177000 := by
        have h2 := flat_le (f := runB) (k := 18) runB_le (x.2.take j)
        have h3 : (x.2.take j).length ≤ x.2.length := by rw [List.length_take]; omega
        have h4 := HLL.out
        have h5 := HBL.out
        rw [List.length_append]
        omega
      obtain ⟨r2, hr2, ht2, s6⟩ := side_new W5.out (.cells #[.int .u64 (lo : Int), .int .u64 (hi : Int)] 73)
      have S6 := Lib.hid s6
      have HT2 := Lib.hid ht2
      have HRR2 := Lib.hid hr2
      have b0 : (wr.alloc (.cells #[.int .u64 (lo : Int), .int .u64 (hi : Int)] 73)).cell? ⟨wr.heap.size, 0, none⟩ = some (.int .u64 (lo : Int)) := by rw [World.cell?_alloc_mark]; rfl
      have b1 : (wr.alloc (.cells #[.int .u64 (lo : Int), .int .u64 (hi : Int)] 73)).cell? ⟨wr.heap.size, 1, none⟩ = some (.int .u64 (hi : Int)) := by rw [World.cell?_alloc_mark]; rfl
      clear hP hlr s6 ht2 hr2
      rw [hpa]
      go_wp2_with fail
      obtain ⟨bz, hbz⟩ : ∃ bz, wr.heap.size = bz := ⟨_, rfl⟩
      rw [hbz] at S6 b0 b1 ⊢
      generalize wr.alloc (.cells #[.int .u64 (lo : Int), .int .u64 (hi : Int)] 73) = v6 at *
      refine (ws_num S6.out.ws lo hlo (by omega)).mono ?_
      rintro e v7 ⟨rfl, q7⟩
      have S7 : Hid (Side v6 v7 B g bz (base ++ (x.2.take j).flatMap runB ++ Nu.enc lo) r2) := Lib.hid ⟨q7, S6.out.g_ne, S6.out.r_ne, S6.out.lt⟩
      have f1 := (S7.out.cell 1).trans b1
      clear q7 S6 b0 b1 g0 g1
      go_wp2_with fail
      refine (ws_num S7.out.ws hi hhi (by rw [List.length_append]; have := enc_le lo; omega)).mono ?_
      rintro e v8 ⟨rfl, q8⟩
      have W8 := Lib.hid (WS.join HRR2.out HT2.out q8)
      clear q8 S7 f1
      go_wp2
      first | rw [← hpa] | skip
      clear hpa
      go_roundw
      case rel => exact ⟨j + 1, hjl, by go_num, by rw [HRN.out]; exact W8.out⟩
      case measure => simp [intOf]; omega
    · obtain rfl : j = p.len := by omega
      have W9 : Hid (WS w wr B g rb (m ++ partB x)) := Lib.hid (by
        have h := WS.join HRR.out HT.out W5.out
        rw [List.take_of_length_le (by rw [HXL.out]; exact Nat.le_refl _), ← HBS.out, ← HXL.out, List.append_assoc, List.append_assoc] at h
        exact h)
      clear W5
      go_wp2
      go_end0
      exact W9.out.post
theorem part_next {l : List Nat} {c : List Part} {k : Nat} {x : Part} (h : c[k]? = some x) : upTo l c (k + 1) = upTo l c k ++ partB x := by
  unfold upTo
  rw [flat_snoc h]
  simp only [List.append_assoc]
set_option maxHeartbeats 8000000 in
theorem pputctx_any (w0 w : World) (g : Nat) (rb : Option Nat) (m : List Nat) (A : Option Addr) (C : List Part) (n c : Nat) (h : Nu.PW w w0.heap.size g rb m) (hb : Below w0.heap.size w0 w) (hc : Cx.CtxAt w0 A C n c) (hs : Cx.Small C) (hm : m.length ≤ 1099511627776) :
    Calls Tryz.prog 10 #[.pointer (some ⟨g, 0, none⟩), .slice A n c] w (Nu.WPost w w0.heap.size g rb (m ++ ctxB (Cx.normC C))) := by
  have hR := room_norm hc.fit hs
  have CN := Cx.pnorm_far w A C n c (hc.up hb) ((Cx.small_wide hs).more (by decide))
  obtain ⟨N, hN⟩ : ∃ N, Cx.normC C = N := ⟨_, rfl⟩
  rw [hN] at hR CN ⊢
  have HR := Lib.hid hR
  have HP := Lib.hid h
  have hgw : g < w.heap.size := h.base.2
  have HRW : Hid (∀ k, rb = some k → k < w.heap.size) := Lib.hid (fun k e => (h.row k e).2)
  clear h hc hs hN hR hb
  generalize w0.heap.size = B at *
  go_enter Tryz.func10, Tryz.ntmps10
  go_wp2_with fail
  refine CN.mono ?_
  intro e w1 hp
  obtain ⟨A1, n1, c1, rfl, l1, b1⟩ := far_cl hp
  obtain ⟨ps, k1⟩ := l1.cp
  have HC := Lib.hid k1
  have HB := Lib.hid b1
  have HNL := Lib.hid k1.len
  have hn1 : n1 ≤ 65536 := by rw [← HNL.out]; exact HR.out.1
  have hnb : n1 < big := by show n1 < 18446744073709551616; omega
  have hwr : IntKind.u64.wrap (n1 : Int) = (n1 : Int) := by rw [IntKind.wrap_u64]; omega
  have W1 := Lib.hid (WS.start (pw_up HP.out b1))
  clear hp l1 k1 b1 CN
  go_wp2_with fail
  refine (ws_num W1.out n1 hnb (by omega)).mono ?_
  rintro e w2 ⟨rfl, q2⟩
  have W2 := Lib.hid q2
  clear q2 W1
  go_wp2_with fail
  go_loopw [16] (fun i wq => ∃ k : Nat, k ≤ n1 ∧ i = .int .i64 (k : Int) ∧ WS w1 wq B g rb (upTo m N k)) (fun i _ => n1 - (intOf i).toNat)
  case atStart => exact ⟨0, Nat.zero_le _, rfl, by rw [upTo_zero, HNL.out]; exact W2.out⟩
  case round =>
    clear W2
    obtain ⟨k, hk3, rfl, q3⟩ := hrel
    have W3 := Lib.hid q3
    clear q3
    by_cases hlt : k < n1
    · obtain ⟨ad, p, x, rfl, hpk, hlx, hpi, e0, e1⟩ := (HC.out.two W3.out.two hgw HRW.out).at_ hlt
      have HX : Hid (∀ U, Nu.Two w1 U g rb → Cx.PartIs U U.heap.size p x) := Lib.hid (fun U hU => (HC.out.two hU hgw HRW.out).mat.2 k p x hpk hlx)
      have HN := Lib.hid (part_next (l := m) hlx)
      have HM := Lib.hid (HR.out.2 x (List.mem_of_getElem? hlx))
      have HLN := Lib.hid (upTo_len (k := k) (l := m) rfl hm HR.out)
      obtain ⟨r, hr, ht, s2⟩ := side_new W3.out (.cells #[.int .u16 (x.1 : Int), .slice p.adr p.len p.cap] 71)
      have HXU : Hid (∀ U, Nu.Two (wr.alloc (.cells #[.int .u16 (x.1 : Int), .slice p.adr p.len p.cap] 71)) U g r → Cx.PartIs U U.heap.size p x) := Lib.hid (fun U hU => HX.out U (Nu.two_trans ht hU hr))
      have S2 := Lib.hid s2
      have HT := Lib.hid ht
      have HRR := Lib.hid hr
      have b0 : (wr.alloc (.cells #[.int .u16 (x.1 : Int), .slice p.adr p.len p.cap] 71)).cell? ⟨wr.heap.size, 0, none⟩ = some (.int .u16 (x.1 : Int)) := by rw [World.cell?_alloc_mark]; rfl
      have b1 : (wr.alloc (.cells #[.int .u16 (x.1 : Int), .slice p.adr p.len p.cap] 71)).cell? ⟨wr.heap.size, 1, none⟩ = some (.slice p.adr p.len p.cap) := by rw [World.cell?_alloc_mark]; rfl
      clear hpk hlx hpi s2 ht hr
      go_wp2_with fail
      generalize wr.alloc (.cells #[.int .u16 (x.1 : Int), .slice p.adr p.len p.cap] 71) = v2 at *
      obtain ⟨M0, hM0⟩ : ∃ M0, upTo m N k = M0 := ⟨_, rfl⟩
      rw [hM0] at HN HLN S2
      obtain ⟨r2, k1, k2⟩ := S2.out.ws.now
      have h0 : Nu.Two v2 v2 g r := ⟨rfl, rfl, rfl, Nat.le_refl _, fun _ _ _ _ => rfl⟩
      have HZ := Lib.hid h0
      have HK2 := Lib.hid k2
      refine (pputpart_any v2 B g r2 M0 p x k1 (fun U hU => HXU.out U (Nu.two_trans h0 hU k2)) HM.out.2.2 HLN.out).mono ?_
      rintro e v3 ⟨rfl, r3, p1, p2, p3⟩
      have W4 : Hid (WS v2 v3 B g r (M0 ++ partB x)) := Lib.hid ⟨⟨r3, p1, by
        rcases p2 with rfl | p2
        · exact HK2.out
        · exact .inr p2⟩, Nu.two_trans HZ.out p3 HK2.out⟩
      have W5 := Lib.hid (WS.join HRR.out HT.out W4.out)
      clear k1 k2 h0 p1 p2 p3 S2 b0 b1 e0 e1 W3
      go_wp2
      go_roundw
      case rel => exact ⟨k + 1, hlt, by go_num, by rw [HN.out]; exact W5.out⟩
      case measure => simp [intOf]; omega
    · obtain rfl : k = n1 := by omega
      go_wp2
      go_end0
      have e := upTo_all (l := m) HNL.out
      rw [← e]
      exact (W3.out.from HB.out).post
theorem encode_any (w : World) (A : Option Addr) (C : List Part) (n c : Nat) (hc : Cx.CtxAt w A C n c) (hs : Cx.Small C) :
    Calls Tryz.prog 16 #[.slice A n c] w (BPost w (ctxB (Cx.normC C))) := by
  have W0 := Lib.hid (Nu.PW.new w)
  have HB := Lib.hid (below_new w (.cells #[.slice none 0 0] 33))
  have C1 := Lib.hid (pputctx_any w _ _ none [] A C n c W0.out HB.out hc hs (by decide))
  have HL : Hid (([] ++ ctxB (Cx.normC C)).length ≤ 140737488355328) := Lib.hid (by
    have h := upTo_len (k := (Cx.normC C).length) (l := []) (c := Cx.normC C) rfl (by decide) (room_norm hc.fit hs)
    rw [upTo_all rfl] at h
    exact Nat.le_trans h (by decide))
  clear hc hs
  go_enter Tryz.func16, Tryz.ntmps16
  go_wp2_with fail
  refine C1.out.mono ?_
  rintro e w1 ⟨rfl, r1, p1, _, y1⟩
  have W1 := Lib.hid p1
  have Y1 := Lib.hid (HB.out.trans (Nu.below_two y1 (Nat.le_refl _) (fun q e => by cases e) HB.out.size))
  clear p1 y1 C1 W0
  go_wp2_with fail
  refine (Nu.wbytes_any w1 _ _ _ _ W1.out HL.out).mono ?_
  rintro e w2 q
  obtain ⟨A2, n2, c2, rfl, h1, h2, h3, h4, h5, h6, _⟩ := q
  rw [List.nil_append] at h1 h2
  have HQ : Hid (BL w2 A2 (ctxB (Cx.normC C)) n2 c2) := Lib.hid ⟨h1, (fun e => by subst e; have := h5 rfl; omega), h3, h4, h2⟩
  have Y2 := Lib.hid (Y1.out.trans (h6.mono Y1.out.size))
  clear h1 h2 h3 h4 h5 h6
  go_wp2
  go_ret
  exact ⟨A2, n2, c2, rfl, HQ.out, Y2.out⟩
end Go.Proofs.YtmhghgogehmehaaGreat.Dc

/- The laying of slices.SortFunc at dots: which functions and types of this program stand for those of the library's contract. -/
namespace Go.Proofs
open Go.Shelf
def Tryz.sortD_ren : Go.Shelf.Ren := ⟨fun | 6 => 62 | 15 => 85 | 14 => 84 | 28 => 104 | 29 => 105 | 20 => 96 | 21 => 97 | 22 => 98 | 23 => 99 | 24 => 100 | 25 => 101 | 26 => 102 | 27 => 103 | 46 => 118 | 47 => 119 | 48 => 120 | 49 => 121 | 50 => 122 | 57 => 137 | n => n, fun | 22 => 26 | 24 => 25 | 25 => 90 | 3 => 3 | 39 => 113 | 0 => 0 | 53 => 134 | 55 => 23 | 4 => 4 | 46 => 127 | 45 => 126 | 50 => 131 | 5 => 5 | 9 => 9 | 66 => 149 | 70 => 151 | 76 => 162 | 77 => 163 | n => n, fun | n => n⟩
theorem Tryz.sortD : Go.Proofs.SlLaysF0.n6 Tryz.prog Tryz.sortD_ren := {
  mixed := by kernel_rfl
  f6 := ⟨Tryz.f62.name, by decide, Tryz.func62.trans (congrArg some (by kernel_rfl))⟩
  f14 := ⟨Tryz.f84.name, by decide, Tryz.func84.trans (congrArg some (by kernel_rfl))⟩
  f15 := Tryz.func85.trans (congrArg some (by kernel_rfl))
  f20 := ⟨Tryz.f96.name, by decide, Tryz.func96.trans (congrArg some (by kernel_rfl))⟩
  f21 := ⟨Tryz.f97.name, by decide, Tryz.func97.trans (congrArg some (by kernel_rfl))⟩
  f22 := ⟨Tryz.f98.name, by decide, Tryz.func98.trans (congrArg some (by kernel_rfl))⟩
  f23 := ⟨Tryz.f99.name, by decide, Tryz.func99.trans (congrArg some (by kernel_rfl))⟩
  f24 := ⟨Tryz.f100.name, by decide, Tryz.func100.trans (congrArg some (by kernel_rfl))⟩
  f25 := ⟨Tryz.f101.name, by decide, Tryz.func101.trans (congrArg some (by kernel_rfl))⟩
  f26 := ⟨Tryz.f102.name, by decide, Tryz.func102.trans (congrArg some (by kernel_rfl))⟩
  f27 := ⟨Tryz.f103.name, by decide, Tryz.func103.trans (congrArg some (by kernel_rfl))⟩
  f28 := Tryz.func104.trans (congrArg some (by kernel_rfl))
  f29 := Tryz.func105.trans (congrArg some (by kernel_rfl))
  f46 := ⟨Tryz.f118.name, by decide, Tryz.func118.trans (congrArg some (by kernel_rfl))⟩
  f47 := Tryz.func119.trans (congrArg some (by kernel_rfl))
  f48 := Tryz.func120.trans (congrArg some (by kernel_rfl))
  f49 := ⟨Tryz.f121.name, by decide, Tryz.func121.trans (congrArg some (by kernel_rfl))⟩
  f50 := ⟨Tryz.f122.name, by decide, Tryz.func122.trans (congrArg some (by kernel_rfl))⟩
  f57 := ⟨Tryz.f137.name, by decide, Tryz.func137.trans (congrArg some (by kernel_rfl))⟩
  t0 := Tryz.underlying0
  a0 := Tryz.isAgg0
  z0 := Tryz.sizeOf0
  v0 := Tryz.zeroValue0
  t3 := Tryz.underlying3
  a3 := Tryz.isAgg3
  z3 := Tryz.sizeOf3
  v3 := Tryz.zeroValue3
  t4 := Tryz.underlying4
  a4 := Tryz.isAgg4
  z4 := Tryz.sizeOf4
  v4 := Tryz.zeroValue4
  t5 := Tryz.underlying5
  a5 := Tryz.isAgg5
  z5 := Tryz.sizeOf5
  v5 := Tryz.zeroValue5
  t9 := Tryz.underlying9
  a9 := Tryz.isAgg9
  z9 := Tryz.sizeOf9
  v9 := Tryz.zeroValue9
  t22 := Tryz.underlying26
  a22 := Tryz.isAgg26
  z22 := Tryz.sizeOf26
  v22 := Tryz.zeroValue26
  t25 := Tryz.underlying90
  a25 := Tryz.isAgg90
  z25 := Tryz.sizeOf90
  v25 := Tryz.zeroValue90
  t39 := Tryz.underlying113
  a39 := Tryz.isAgg113
  z39 := Tryz.sizeOf113
  v39 := Tryz.zeroValue113
  t45 := Tryz.underlying126
  a45 := Tryz.isAgg126
  z45 := Tryz.sizeOf126
  v45 := Tryz.zeroValue126
  t46 := Tryz.underlying127
  a46 := Tryz.isAgg127
  z46 := Tryz.sizeOf127
  v46 := Tryz.zeroValue127
  t50 := Tryz.underlying131
  a50 := Tryz.isAgg131
  z50 := Tryz.sizeOf131
  v50 := Tryz.zeroValue131
  t53 := Tryz.underlying134
  a53 := Tryz.isAgg134
  z53 := Tryz.sizeOf134
  v53 := Tryz.zeroValue134
  t55 := Tryz.underlying23
  a55 := Tryz.isAgg23
  z55 := Tryz.sizeOf23
  v55 := Tryz.zeroValue23
  t66 := Tryz.underlying149
  a66 := Tryz.isAgg149
  z66 := Tryz.sizeOf149
  v66 := Tryz.zeroValue149
  t70 := Tryz.underlying151
  a70 := Tryz.isAgg151
  z70 := Tryz.sizeOf151
  v70 := Tryz.zeroValue151
  t76 := Tryz.underlying162
  a76 := Tryz.isAgg162
  z76 := Tryz.sizeOf162
  v76 := Tryz.zeroValue162
  t77 := Tryz.underlying163
  a77 := Tryz.isAgg163
  z77 := Tryz.sizeOf163
  v77 := Tryz.zeroValue163 }
end Go.Proofs

/- The contract of slices.Compact at dots. For every list of one's own. -/
namespace Go.Proofs.YtmhghgogehmehaaGreat.Dt
open Go.ChangeShapes Go.WideShapes Go.ChangeAt Go.RowKit Go.Lib
set_option linter.unusedVariables false
set_option maxRecDepth 4000

theorem dv_set {l : List Dot} {k : Nat} (r : Dot) : dv (l.set k r) = ((dv l).set (k * 2) (.int .u16 (r.1 : Int))).set (k * 2 + 1) (.int .u64 (r.2 : Int)) := by
  induction l generalizing k with
  | nil => simp [dv]
  | cons x l ih =>
    cases k with
    | zero => rfl
    | succ k =>
      have e : ∀ (y : Dot) (m : List Dot), dv (y :: m) = .int .u16 (y.1 : Int) :: .int .u64 (y.2 : Int) :: dv m := fun _ _ => rfl
      have e1 : (k + 1) * 2 = k * 2 + 2 := by omega
      rw [List.set_cons_succ, e, e, ih, e1]
      rfl
theorem dv_at {l : List Dot} {k : Nat} (hk : k < l.length) : (dv l)[k * 2]? = some (.int .u16 ((l.toArray[k]!).1 : Int)) ∧ (dv l)[k * 2 + 1]? = some (.int .u64 ((l.toArray[k]!).2 : Int)) := by
  have e : l.toArray[k]! = l[k] := by rw [getElem!_pos _ _ (by simpa using hk)]; simp
  rw [e]
  exact dv_get (List.getElem?_eq_getElem hk)
/-- the cells of a row of dots, and that they may be written. -/
theorem row_at {w : World} {B g n cap : Nat} {d : List Dot} (h : w.ownsRow B 25 2 (.slice (some ⟨g, 0, none⟩) n cap) n (dv d)) (hd : d.length = n) {k : Nat} (hk : k < n) :
    (w.cell? ⟨g, k * 2, none⟩ = some (.int .u16 ((d.toArray[k]!).1 : Int)) ∧ w.cell? ⟨g, k * 2 + 1, none⟩ = some (.int .u64 ((d.toArray[k]!).2 : Int))) ∧ w.frozen? ⟨g, k * 2, none⟩ = false ∧ w.frozen? ⟨g, k * 2 + 1, none⟩ = false := by
  obtain ⟨h1, h2⟩ := dv_at (l := d) (k := k) (by omega)
  exact ⟨⟨(h.cellAt _ (by omega)).trans h1, (h.cellAt _ (by omega)).trans h2⟩, h.frozenAt _, h.frozenAt _⟩

theorem dv_cons (y : Dot) (m : List Dot) : dv (y :: m) = .int .u16 (y.1 : Int) :: .int .u64 (y.2 : Int) :: dv m := rfl
theorem dv_take (l : List Dot) (k : Nat) : (dv l).take (k * 2) = dv (l.take k) := by
  induction l generalizing k with
  | nil => simp [dv]
  | cons x l ih =>
    cases k with
    | zero => simp [dv]
    | succ k =>
      have e1 : (k + 1) * 2 = k * 2 + 2 := by omega
      rw [List.take_succ_cons, dv_cons, dv_cons, e1, List.take_succ_cons, List.take_succ_cons, ih]
/-- a row of one's own, cut. -/
theorem own_take {w : World} {B g n cap k : Nat} {xs : List Value} (h : w.ownsRow B 25 2 (.slice (some ⟨g, 0, none⟩) n cap) n xs) (hk : k ≤ n) : w.ownsRow B 25 2 (.slice (some ⟨g, 0, none⟩) k cap) k (xs.take (k * 2)) := by
  refine ⟨by rw [List.length_take, h.1]; omega, ?_⟩
  rcases h.2 with ⟨h', _⟩ | ⟨g', cap', cur, h', hb, hg, hnc, hcm, hcs, htake⟩
  · simp at h'
  · simp only [Value.slice.injEq, Option.some.injEq, Addr.mk.injEq, and_true, true_and] at h'
    obtain ⟨rfl, rfl⟩ := h'
    exact .inr ⟨g, cap, cur, rfl, hb, hg, by omega, hcm, hcs, by rw [← htake, List.take_take]; congr 1; omega⟩
/-- cells written into a row from a place on: what lies ahead of it stays. -/
theorem own_cells {w : World} {B g n cap : Nat} {xs : List Value} (o : Nat) (vs : List Value) (h : w.ownsRow B 25 2 (.slice (some ⟨g, 0, none⟩) n cap) n xs) : ∃ ys : List Value, (w.setCells g o vs).ownsRow B 25 2 (.slice (some ⟨g, 0, none⟩) n cap) n ys ∧ ys.take o = xs.take o ∧ w.grownBy (w.setCells g o vs) (some g) := by
  induction vs generalizing w xs o with
  | nil => exact ⟨xs, h, rfl, turn_refl _ _⟩
  | cons v vs ih =>
    obtain ⟨h1, h2⟩ := h.stored o v
    obtain ⟨ys, h3, h4, h5⟩ := ih (o + 1) h1
    refine ⟨ys, h3, ?_, h2.trans h5⟩
    have h6 := congrArg (List.take o) h4
    rw [List.take_take, List.take_take, show min o (o + 1) = o by omega] at h6
    rw [h6, List.take_set_of_le (Nat.le_refl _)]
theorem zeros_len (m : Nat) : (Builtin.zeroCells #[.int .u16 0, .int .u64 0] m).size = m * 2 := by simp [Builtin.zeroCells]
theorem zeros_one (m : Nat) : ∀ v ∈ (Builtin.zeroCells #[.int .u16 0, .int .u64 0] m).toList, v.oneCell' = true := by
  intro v hv
  simp [Builtin.zeroCells] at hv
  obtain ⟨i, _, rfl⟩ := hv
  rcases Nat.mod_two_eq_zero_or_one i with h | h <;> simp [h] <;> rfl
/-- clear of the end of a row of one's own. -/
theorem run_clear {w : World} {B g n cap k : Nat} {xs : List Value} (h : w.ownsRow B 25 2 (.slice (some ⟨g, 0, none⟩) n cap) n xs) (hk : k < n) (c' : Nat) (ty : TypeId) :
    (Builtin.clear_ #[26] ty #[.slice (some ⟨g, k * 2, none⟩) (n - k) c']).run Tryz.prog w = .ok (.tuple #[]) (w.setCells g (k * 2) (Builtin.zeroCells #[.int .u16 0, .int .u64 0] (n - k)).toList) := by
  have hl : (Builtin.zeroCells #[.int .u16 0, .int .u64 0] (n - k)).toList.length = (n - k) * 2 := by rw [Array.length_toList, zeros_len]
  have hst := run_storeCells_cells (P := Tryz.prog) g (k * 2) (Builtin.zeroCells #[.int .u16 0, .int .u64 0] (n - k)).toList 0 w
    (fun j hj => by
      rw [hl] at hj
      have h1 := h.1
      rw [h.cellAt _ (by omega), List.getElem?_eq_getElem (by omega)]; rfl)
    (fun j hj => h.frozenAt _) (zeros_one _)
  simp only [Nat.add_zero] at hst
  obtain ⟨m, hm⟩ : ∃ m, n - k = m + 1 := ⟨n - k - 1, by omega⟩
  rw [hm] at hst ⊢
  simp [Builtin.clear_, run_underlying Tryz.underlying26, Value.cells, hst]

theorem comp_take {d : Array Dot} {n kk : Nat} {dk : List Dot} (h : CompInv d n kk dk.toArray) (hk : kk ≤ dk.length) : dk.take kk = compactUpTo d n := by
  apply List.ext_getElem?
  intro j
  rw [List.getElem?_take]
  by_cases hj : j < kk
  · rw [if_pos hj, h.low j hj, getElem!_pos dk.toArray j (by simpa using Nat.lt_of_lt_of_le hj hk), List.getElem?_eq_getElem (by omega)]
    simp
  · rw [if_neg hj, List.getElem?_eq_none (by rw [h.len]; omega)]
theorem grown_drew {w wr : World} {r : Option Nat} (h : w.grownBy wr r) (q : Nat) : w.grownBy (wr.drewN q) r := h.trans ⟨rfl, rfl, rfl, Nat.le_refl _, fun _ _ _ => rfl⟩
set_option maxHeartbeats 4000000 in
theorem pcompact_any (w : World) (B g cap n : Nat) (d : List Dot) (hn : d.length = n) (h62 : n < 4611686018427387904) (h : w.ownsRow B 25 2 (.slice (some ⟨g, 0, none⟩) n cap) n (dv d)) :
    Calls Tryz.prog 63 #[.slice (some ⟨g, 0, none⟩) n cap] w fun e w' => ∃ k, e = .returned (.slice (some ⟨g, 0, none⟩) k cap) ∧ k = (compactUpTo d.toArray n).length ∧ w'.ownsRow B 25 2 (.slice (some ⟨g, 0, none⟩) k cap) k (dv (compactUpTo d.toArray n)) ∧ w.grownBy w' (some g) := by
  have H := Lib.hid h
  have HN := Lib.hid hn
  have hcap := (own_len h).1
  clear h hn
  by_cases h2 : n < 2
  · have d2 : decide ((n : Int) < 2) = true := decide_eq_true (by omega)
    have e : compactUpTo d.toArray n = d := by
      rw [compactUpTo_all d.toArray n (fun j hj => keeps_lt_one _ j (by omega))]
      have := range_map_get d.toArray
      simp only [List.size_toArray, HN.out] at this
      rw [this]
    rw [e]
    go_enter Tryz.func63, Tryz.ntmps63
    go_wp2
    go_ret
    exact ⟨n, rfl, HN.out.symm, H.out, turn_refl _ _⟩
  · have d2 : decide ((n : Int) < 2) = false := decide_eq_false (by omega)
    go_enter Tryz.func63, Tryz.ntmps63
    go_wp2
    go_loopw [3] (fun i wr => ∃ k q : Nat, i = .int .i64 (k : Int) ∧ 1 ≤ k ∧ k ≤ n ∧ wr = w.drewN q ∧ ∀ j, j < k → keeps d.toArray j = true) (fun i _ => n - (intOf i).toNat)
    case atStart => exact ⟨1, 0, rfl, Nat.le_refl _, by omega, rfl, keeps_lt_one _⟩
    case round =>
      obtain ⟨k, q, rfl, hk1, hk, rfl, hall⟩ := hrel
      have A := Lib.hid hall
      clear hall
      by_cases hlt : k < n
      · obtain ⟨⟨c1, c2⟩, _, _⟩ := row_at H.out HN.out hlt
        obtain ⟨⟨c3, c4⟩, _, _⟩ := row_at H.out HN.out (k := k - 1) (by omega)
        generalize hx : d.toArray[k]! = x at c1 c2
        generalize hy : d.toArray[k - 1]! = y at c3 c4
        obtain ⟨x1, x2⟩ := x
        obtain ⟨y1, y2⟩ := y
        have BB := Lib.hid (And.intro hx hy)
        clear hx hy
        obtain ⟨i, rfl⟩ : ∃ i, k = i + 1 := ⟨k - 1, by omega⟩
        have ei : i + 1 - 1 = i := by omega
        rw [ei] at c3 c4
        clear ei
        by_cases hxy : x1 = y1 ∧ x2 = y2
        · obtain ⟨rfl, rfl⟩ := hxy
          have HS := Lib.hid (CompInv.start A.out (keeps_neg (d := d.toArray) (m := i + 1) (by omega) (by rw [BB.out.1, BB.out.2])))
          have hcap1 : i + 1 < cap := by omega
          have HCap := Lib.hid hcap
          clear hk1 hk hcap
          go_wp2_with fail
          go_quiet (fail)
          clear c1 c2 c3 c4
          go_wp2
          go_loopw [3, 5] (fun s3 s5 wr => ∃ (kk j : Nat) (dk : List Dot), s3 = .int .i64 (kk : Int) ∧ s5 = .int .i64 ((j : Int) + 1) ∧ i + 1 + (j + 1) ≤ n ∧ wr.ownsRow B 25 2 (.slice (some ⟨g, 0, none⟩) n cap) n (dv dk) ∧ dk.length = n ∧ CompInv d.toArray (i + 1 + (j + 1)) kk dk.toArray ∧ w.grownBy wr (some g)) (fun _ s5 _ => n - (intOf s5).toNat)
          case atStart => exact ⟨i + 1, 0, d, rfl, rfl, by omega, H.out, HN.out, HS.out, ⟨rfl, rfl, rfl, Nat.le_refl _, fun _ _ _ => rfl⟩⟩
          case round =>
            obtain ⟨kk, j, dk, rfl, rfl, hle, hw, hl, hI, hg⟩ := hrel
            have hkk := hI.lt
            have W := Lib.hid hw
            have L := Lib.hid hl
            have I := Lib.hid hI
            have G := Lib.hid hg
            clear hw hl hI hg
            by_cases hlt2 : i + 1 + (j + 1) < n
            · obtain ⟨⟨a1, a2⟩, _, _⟩ := row_at W.out L.out hlt2
              obtain ⟨⟨a3, a4⟩, _, _⟩ := row_at W.out L.out (k := i + 1 + j) (by omega)
              obtain ⟨⟨a5, a6⟩, f5, f6⟩ := row_at W.out L.out (k := kk) (by omega)
              rw [I.out.high (i + 1 + (j + 1)) (by omega), show (i + 1 + (j + 1)) * 2 = (i + 1) * 2 + (j + 1) * 2 by omega] at a1 a2
              rw [I.out.high (i + 1 + j) (by omega), show (i + 1 + j) * 2 = (i + 1) * 2 + j * 2 by omega] at a3 a4
              generalize hu : d.toArray[i + 1 + (j + 1)]! = u at a1 a2
              generalize hv : d.toArray[i + 1 + j]! = v at a3 a4
              generalize dk.toArray[kk]! = old at a5 a6
              have C := Lib.hid (And.intro hu hv)
              clear hu hv
              obtain ⟨u1, u2⟩ := u
              obtain ⟨v1, v2⟩ := v
              by_cases huv : u1 = v1 ∧ u2 = v2
              · obtain ⟨rfl, rfl⟩ := huv
                go_wp2_with fail
                go_quiet (fail)
                go_wp2
                go_roundw
                case rel => exact ⟨kk, j + 1, dk, rfl, by go_num, by omega, W.out, L.out, I.out.skip (keeps_neg (by omega) (by rw [C.out.1]; exact C.out.2.symm)), grown_drew G.out _⟩
                case measure => simp [intOf]; omega
              · have HK : Hid (CompInv d.toArray (i + 1 + (j + 1 + 1)) (kk + 1) (dk.set kk (u1, u2)).toArray) := by
                  have h1 := I.out.keep (by simp only [List.size_toArray]; rw [HN.out]; exact hlt2) (keeps_pos (by
                    rw [C.out.1]
                    intro e
                    have h2 := C.out.2
                    rw [show i + 1 + (j + 1) - 1 = i + 1 + j by omega] at e
                    rw [h2] at e
                    cases e
                    exact huv ⟨rfl, rfl⟩))
                  rw [C.out.1] at h1
                  have h3 : (dk.set kk (u1, u2)).toArray = dk.toArray.setIfInBounds kk (u1, u2) := by simp
                  rw [h3]
                  exact h1
                have HW : Hid (∀ q, ∃ V, V = ((wr.drewN q).setCell ⟨g, kk * 2, none⟩ (.int .u16 (u1 : Int))).setCell ⟨g, kk * 2 + 1, none⟩ (.int .u64 (u2 : Int)) ∧ V.ownsRow B 25 2 (.slice (some ⟨g, 0, none⟩) n cap) n (dv (dk.set kk (u1, u2))) ∧ w.grownBy V (some g)) := fun q => by
                  have h0 : (wr.drewN q).ownsRow B 25 2 (.slice (some ⟨g, 0, none⟩) n cap) n (dv dk) := W.out
                  obtain ⟨h1, g1⟩ := h0.stored (kk * 2) (.int .u16 (u1 : Int))
                  obtain ⟨h2, g2⟩ := h1.stored (kk * 2 + 1) (.int .u64 (u2 : Int))
                  exact ⟨_, rfl, by rw [dv_set]; exact h2, ((grown_drew G.out q).trans g1).trans g2⟩
                have hkn : kk < n := by omega
                have key : ((u1 : Int) == (v1 : Int)) = false ∨ (u1 = v1 ∧ ((u2 : Int) == (v2 : Int)) = false) := by
                  by_cases e : u1 = v1
                  · refine .inr ⟨e, ?_⟩; rw [beq_eq_false_iff_ne]; intro e2; exact huv ⟨e, by omega⟩
                  · refine .inl ?_; rw [beq_eq_false_iff_ne]; omega
                clear huv C hkk
                rcases key with k1 | ⟨rfl, k1⟩
                all_goals
                  go_wp2_with fail
                  go_quiet (fail)
                  go_wp2
                  go_roundw
                  case rel =>
                    obtain ⟨V, rfl, h1, h2⟩ := HW.out nq
                    exact ⟨kk + 1, j + 1, dk.set kk (u1, u2), by go_num, by go_num, by omega, h1, by rw [List.length_set]; exact L.out, HK.out, h2⟩
                  case measure => simp [intOf]; omega
            · have hend : i + 1 + (j + 1) = n := by omega
              have hkn : kk < n := by omega
              have hkc : kk < cap := Nat.lt_of_lt_of_le hkn HCap.out
              have hI := I.out
              rw [hend] at hI
              have HT := Lib.hid (comp_take hI (by rw [L.out]; omega))
              have HL := Lib.hid hI.len
              have hcl := fun ty => run_clear W.out hkn (cap - kk) ty
              obtain ⟨ys, hy1, hy2, hy3⟩ := own_cells (kk * 2) (Builtin.zeroCells #[.int .u16 0, .int .u64 0] (n - kk)).toList W.out
              have HY : Hid ((wr.setCells g (kk * 2) (Builtin.zeroCells #[.int .u16 0, .int .u64 0] (n - kk)).toList).ownsRow B 25 2 (.slice (some ⟨g, 0, none⟩) kk cap) kk (dv (compactUpTo d.toArray n))) := by
                have h1 := own_take hy1 (k := kk) (by omega)
                rw [hy2, dv_take, HT.out] at h1
                exact h1
              have HG := Lib.hid (G.out.trans hy3)
              clear hI hy1 hy2 hy3 hkk
              generalize wr.setCells g (kk * 2) (Builtin.zeroCells #[.int .u16 0, .int .u64 0] (n - kk)).toList = wz at hcl HY HG
              go_wp2
              go_ret
              exact ⟨kk, rfl, HL.out.symm, HY.out, HG.out⟩
        · have key : ((x1 : Int) == (y1 : Int)) = false ∨ (x1 = y1 ∧ ((x2 : Int) == (y2 : Int)) = false) := by
            by_cases e : x1 = y1
            · refine .inr ⟨e, ?_⟩; rw [beq_eq_false_iff_ne]; intro e2; exact hxy ⟨e, by omega⟩
            · refine .inl ?_; rw [beq_eq_false_iff_ne]; omega
          have HK : Hid (∀ j, j < i + 1 + 1 → keeps d.toArray j = true) := fun j hj => by
            by_cases e : j = i + 1
            · subst e
              refine keeps_pos ?_
              rw [BB.out.1, BB.out.2]
              intro e
              cases e
              exact hxy ⟨rfl, rfl⟩
            · exact A.out j (by omega)
          clear hxy hcap
          rcases key with k1 | ⟨rfl, k1⟩
          all_goals
            go_wp2_with fail
            go_quiet (fail)
            go_wp2
            go_roundw
            case rel => exact ⟨i + 1 + 1, _, by go_num, by omega, by omega, rfl, HK.out⟩
            case measure => simp [intOf]; omega
      · have e : compactUpTo d.toArray n = d := by
          obtain rfl : k = n := by omega
          rw [compactUpTo_all d.toArray k A.out]
          have := range_map_get d.toArray
          simp only [List.size_toArray, HN.out] at this
          rw [this]
        have E := Lib.hid e
        clear e
        go_wp2
        go_ret
        rw [E.out]
        exact ⟨n, rfl, HN.out.symm, H.out, ⟨rfl, rfl, rfl, Nat.le_refl _, fun _ _ _ => rfl⟩⟩
end Go.Proofs.YtmhghgogehmehaaGreat.Dt

/- The contract of slices.SortFunc as dot.Sort calls it: the same dots, in their order. Condition: fewer than 2^62 dots. -/
namespace Go.Proofs.YtmhghgogehmehaaGreat.Dt
open Go.ChangeShapes Go.WideShapes Go.ChangeAt Go.RowKit Go.Shelf
set_option linter.unusedVariables false
set_option maxRecDepth 4000

/-- a dot's two cells. -/
def encC (r : Dot) : List Value := [.int .u16 (r.1 : Int), .int .u64 (r.2 : Int)]
theorem two_grow (W : World) (x y : Dot) : two W x y = Sort.grow W (#[Obj.cells #[.int .u16 (x.1 : Int), .int .u64 (x.2 : Int)] 25] ++ #[Obj.cells #[.int .u16 (y.1 : Int), .int .u64 (y.2 : Int)] 25]) := by
  unfold two
  rw [Sort.alloc_eq_grow, Sort.alloc_eq_grow, Sort.grow_grow]
theorem closure_any (x y : Dot) (W : World) : Calls Tryz.prog 50 #[.agg #[.int .u16 (x.1 : Int), .int .u64 (x.2 : Int)], .agg #[.int .u16 (y.1 : Int), .int .u64 (y.2 : Int)]] W fun e w' => e = .returned (.int .i64 (cmpD x y)) ∧ ∃ q os', w' = Sort.grow (W.drewN q) os' :=
  (pcmp_left W x y).mono fun _ _ ⟨h1, h2⟩ => ⟨h1, by
    rcases h2 with rfl | rfl
    · exact ⟨0, _, by rw [World.drewN_zero, two_grow]⟩
    · exact ⟨0, _, by rw [World.drewN_zero, two_grow (two W x y), two_grow W, Sort.grow_grow]⟩⟩
theorem ltD (x y : Dot) : ltOf cmpD x y = aheadD x y := cmp_neg x y
theorem swoD : Sort.SWO (ltOf cmpD) where
  irrefl x := by rw [ltD]; exact ahead_irr x
  trans x y z h1 h2 := by rw [ltD] at *; exact ahead_trans h1 h2
  ntrans x y z h1 h2 := by
    rw [ltD] at *
    have a1 : ¬ (x.1 < y.1 ∨ (x.1 = y.1 ∧ x.2 < y.2)) := fun h => by rw [(ahead_iff _ _).2 h] at h1; exact absurd h1 (by simp)
    have a2 : ¬ (y.1 < z.1 ∨ (y.1 = z.1 ∧ y.2 < z.2)) := fun h => by rw [(ahead_iff _ _).2 h] at h2; exact absurd h2 (by simp)
    cases h : aheadD x z with
    | false => rfl
    | true =>
      have := (ahead_iff _ _).1 h
      omega
/-- none stands behind one that it is ahead of. -/
def Ris (l : List Dot) : Prop := l.Pairwise (fun a b => aheadD b a = false)

theorem flat_dv (l : List Dot) (j : Nat) (hj : j < l.length * 2) : (dv l)[j]? = some (Sort.flatK encC 2 l.toArray)[j]! := by
  rw [Sort.get_flatK _ _ _ _ (by simpa using hj)]
  have hk : j / 2 < l.length := by omega
  have hg : l[j / 2]? = some l[j / 2] := List.getElem?_eq_getElem hk
  obtain ⟨g1, g2⟩ := dv_get hg
  have e : l.toArray[j / 2]! = l[j / 2] := by rw [getElem!_pos _ _ (by simpa using hk)]; simp
  rw [e]
  rcases Nat.mod_two_eq_zero_or_one j with h | h
  · rw [h]
    have : j / 2 * 2 = j := by omega
    rw [this] at g1
    simpa [encC] using g1
  · rw [h]
    have : j / 2 * 2 + 1 = j := by omega
    rw [this] at g2
    simpa [encC] using g2

theorem sort_any (w : World) (B g cap n : Nat) (d : List Dot) (hn : d.length = n) (h62 : n < 4611686018427387904) (h : w.ownsRow B 25 2 (.slice (some ⟨g, 0, none⟩) n cap) n (dv d)) :
    Calls Tryz.prog 62 #[.slice (some ⟨g, 0, none⟩) n cap, .func (.func 50) #[] #[]] w fun e w' => e = .returned (.tuple #[]) ∧ ∃ m : List Dot, m.Perm d ∧ Ris m ∧ w'.ownsRow B 25 2 (.slice (some ⟨g, 0, none⟩) n cap) n (dv m) ∧ w.grownBy w' (some g) := by
  subst hn
  obtain ⟨hlen, ⟨hz, _⟩ | ⟨g', cap', cur, e, hB, hheap, hle, hmx, hsz, htk⟩⟩ := h
  · cases hz
  · cases e
    have hlt : g < w.heap.size := (Array.getElem?_eq_some_iff.1 hheap).1
    have hcell : ∀ j, j < d.length * 2 → cur[j]? = (dv d)[j]? := fun j hj => by
      rw [← htk, List.getElem?_take, if_pos hj]
      simp
    have hH : Sort.HoldsK encC 2 w g 0 d.toArray := fun j hj => by
      have hj' : j < d.length * 2 := by simpa using hj
      refine ⟨?_, by simp [World.frozen?, hheap]⟩
      rw [Nat.zero_add, show id (Sort.flatK encC 2 d.toArray)[j]! = (Sort.flatK encC 2 d.toArray)[j]! from rfl, ← flat_dv d j hj', ← hcell j hj']
      simp [World.cell?, hheap]
    have eg : ∀ args w, (callFunc 50 args).run Tryz.prog w = .ok (.enter 50 args) w := enters_of Tryz.func50 (by kernel_rfl) rfl
    have hcon := AnyQ.slices_SortFunc Tryz.sortD 2 Tryz.isAgg25 Tryz.sizeOf25 encC (fun _ => rfl) (fun x v hv => by simp [encC] at hv; rcases hv with rfl | rfl <;> rfl) cmpD swoD 50 #[] g 0 cap d.toArray w eg (fun m os dk _ x y => closure_any x y _) hH hlt (by simpa using h62)
    change Calls Tryz.prog 62 _ _ _ at hcon
    rw [List.size_toArray] at hcon
    refine hcon.mono ?_
    rintro e w' ⟨rfl, d', q, os, hp, hs, rfl⟩
    have h1 : d'.size = d.length := by simpa using hp.1
    refine ⟨rfl, d'.toList, ?_, ?_, ?_, ?_⟩
    · have h3 := hp.2.2
      have e1 : d'.extract 0 d.length = d' := by rw [← h1]; simp
      have e2 : d.toArray.extract 0 d.length = d.toArray := by simp
      rw [e1, e2] at h3
      exact h3
    · refine List.pairwise_iff_getElem.2 fun i j hi hj hij => ?_
      rw [Array.length_toList] at hi hj
      have := hs i j (Nat.zero_le _) hij (by omega)
      rw [ltD, getElem!_pos d' j hj, getElem!_pos d' i hi] at this
      simpa using this
    · refine ⟨by rw [dv_length, Array.length_toList, h1], .inr ⟨g, cap, Sort.putCells id 0 (Sort.flatK encC 2 d') cur, rfl, hB, ?_, hle, hmx, by simp [Sort.putCells, hsz], ?_⟩⟩
      · show ((w.heap.modify g (Sort.onCells (Sort.putCells id 0 (Sort.flatK encC 2 d')))) ++ os)[g]? = _
        rw [Array.getElem?_append_left (by simpa using hlt), Array.getElem?_modify, if_pos rfl, hheap]
        rfl
      · apply List.ext_getElem?
        intro j
        rw [List.getElem?_take]
        by_cases hj : j < d.length * 2
        · rw [if_pos hj]
          have hf := flat_dv d'.toList j (by rw [Array.length_toList, h1]; exact hj)
          rw [Array.toArray_toList] at hf
          rw [hf]
          have hc : cur[j]? = some cur[j] := Array.getElem?_eq_getElem (by omega)
          simp [Sort.putCells, hc, h1, hj]
        · rw [if_neg hj]
          exact (List.getElem?_eq_none (by rw [dv_length, Array.length_toList, h1]; omega)).symm
    · refine ⟨rfl, rfl, rfl, ?_, fun k hk hne => ?_⟩
      · show w.heap.size ≤ ((w.heap.modify g _) ++ os).size
        simp
      · show ((w.heap.modify g _) ++ os)[k]? = _
        rw [Array.getElem?_append_left (by simpa using hk), Array.getElem?_modify, if_neg (fun e => hne (by rw [e]))]
theorem ins_nil (w : World) (fv : Value) : Calls Tryz.prog 96 #[.slice none 0 0, .int .i64 0, .int .i64 0, fv] w fun e w' => e = .returned (.tuple #[]) ∧ w' = w := by
  go_enter Tryz.func96, Tryz.ntmps96
  go_wp2
  refine wp_loop_rounds 1 ?_
  rw [rounds_succ]
  go_wp2
  go_end0
  exact ⟨rfl, rfl⟩
theorem pdq_nil (w : World) (lim : Int) (fv : Value) : Calls Tryz.prog 84 #[.slice none 0 0, .int .i64 0, .int .i64 0, .int .i64 lim, fv] w fun e w' => e = .returned (.tuple #[]) ∧ w' = w := by
  have hi := fun W => ins_nil W fv
  go_enter Tryz.func84, Tryz.ntmps84
  go_wp2
  refine wp_loop_rounds 1 ?_
  rw [rounds_succ]
  go_wp2_with (go_at_call 96; refine (hi _).mono ?_; rintro e w' ⟨rfl, rfl⟩)
  (try simp only [Exit.inBlock, Exit.then]); refine bodyPost_ret (results_none rfl _ _ _) rfl ?_
  exact ⟨rfl, rfl⟩
theorem len_nil (w : World) : Calls Tryz.prog 85 #[.int .u64 0] w fun e w' => e = .returned (.int .i64 (Lib.bitLen 0 : Nat)) ∧ w' = w := by
  have h := Any.bits_Len (SlLaysF0.n15.bits (P := Tryz.prog) (ρ := Tryz.sortD_ren) { Tryz.sortD with }) 0 w (by omega) (by omega)
  change Calls Tryz.prog 85 _ _ _ at h
  exact h
theorem sort_nil (w : World) : Calls Tryz.prog 62 #[.slice none 0 0, .func (.func 50) #[] #[]] w fun e w' => e = .returned (.tuple #[]) ∧ w' = w := by
  have hl := fun W => len_nil W
  have hp := fun lim W => pdq_nil W lim (.func (.func 50) #[] #[])
  go_enter Tryz.func62, Tryz.ntmps62
  go_wp2_with (first | (go_at_call 85; refine (hl _).mono ?_; rintro e w' ⟨rfl, rfl⟩) | (go_at_call 84; refine (hp _ _).mono ?_; rintro e w' ⟨rfl, rfl⟩))
  go_end0
  exact ⟨rfl, rfl⟩
end Go.Proofs.YtmhghgogehmehaaGreat.Dt
