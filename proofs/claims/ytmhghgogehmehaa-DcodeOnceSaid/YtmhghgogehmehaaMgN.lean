/- Words and contracts that the proofs of this seat stand on, part 14 of 14. -/
import Derived.Test.YtmhghgogehmehaaMgM
import Derived.Test.YtmhghgogehmehaaMgH
import Derived.Test.YtmhghgogehmehaaMgI
import Derived.Test.YtmhghgogehmehaaMgL

/- The contracts of ctx's inOrder and Norm, and where the runs of what comes out lie (gen-far.py printed it). -/
namespace Go.Proofs.Ytmhghgogehmehaa.Cx
open Go.ChangeShapes Go.WideShapes Go.ChangeAt Go.RowKit Go.Maps
set_option linter.unusedVariables false
set_option maxRecDepth 4000

/-- a context comes out, all of it in blocks of its own. -/
def FarPost (w : World) (m : List Part) (e : Ending) (w' : World) : Prop := ∃ A n cp ps, e = .returned (.slice A n cp) ∧ m.length = n ∧ w'.ownsRow w.heap.size 38 2 (.slice A n cp) n (cv ps) ∧ Match w' ps m ∧ Below w.heap.size w w' ∧ ∀ p ∈ ps, ∀ ad, p.adr = some ad → w.heap.size ≤ ad.block
theorem fpost_up {w W V : World} {m : List Part} {e : Ending} (hb : Below w.heap.size w W) (h : FarPost W m e V) : FarPost w m e V := by
  obtain ⟨A, n, c, ps, h1, h2, h3, h4, h5, h6⟩ := h
  exact ⟨A, n, c, ps, h1, h2, Dt.own_less h3 hb.size, h4, hb.trans (h5.mono hb.size), fun p hp ad e => Nat.le_trans hb.size (h6 p hp ad e)⟩
set_option maxHeartbeats 4000000 in
theorem pinord_far (hsort : SortsP) (w : World) (B b n : Nat) (f : Nat → List Run) (h : MapS w B b n f) (hf : Tells (fun d => Ru.nrm (f d))) (hl : ∀ d, (f d).length ≤ 2199023255552) (hn : n ≤ 1073741824) :
    Calls Try.prog 29 #[.map (some b)] w (FarPost w (listC (fun d => Ru.nrm (f d)))) := by
  obtain ⟨hbB, D, g, hown, hh, hs⟩ := h
  obtain ⟨i0, hi0, hz0, hz1, hz2⟩ := info_parts part_info
  have HH := Lib.hid hh
  have HF := Lib.hid hf
  have HSL := Lib.hid hs
  have HWN := Lib.hid hown
  have HLN := Lib.hid hl
  have HNZ : Hid (∀ d, f d = [] → Ru.nrm (f d) = []) := Lib.hid (fun d hd => by rw [hd]; exact nrm_nil)
  have HNO : Hid (∀ d, Ru.InOrder (Ru.nrm (f d))) := Lib.hid (fun d => (Ru.nrm_spec _).1)
  have HNM : Hid (∀ W A d k c, RunsAt W A (f d) k c → Calls Try.prog 36 #[.slice A k c] W (Ru.RunPost W (Ru.nrm (f d)))) := Lib.hid (fun W A d k c hr => Ru.pnorm_any W A (f d) k c hr.len hr.runs (by rw [← hr.len]; have := hl d; omega))
  have hbl := hown.lt
  have hlen := hown.len (t := 67) (e := 36) Try.underlying67 3
  have hkn := hown.size_le
  obtain ⟨kn, hknD⟩ : ∃ kn, Maps.size D = kn := ⟨_, rfl⟩
  have HKN := Lib.hid hknD
  rw [hknD] at hlen hkn
  clear hh hf hs hown hknD hl
  generalize hN : (fun d => Ru.nrm (f d)) = N at *
  have HNF : Hid (∀ d, Ru.nrm (f d) = N d) := Lib.hid (fun d => by rw [← hN])
  clear hN
  go_enter Try.func29, Try.ntmps29
  go_wp2_with (first
    | (at_make
       refine wpList_make_own _ rfl _ _ 25 rfl w.heap.size 38 i0 (.agg #[.int .u16 0, .slice none 0 0]) 2 Try.underlying25 hi0 hz0 hz1 _ _ _ kn rfl rfl rfl (by rw [hz2]; omega) (by simp only [maxLen]; omega) (Nat.le_refl _) ?_
       intro w1 ho1 hg1
       have HO1 := Lib.hid ho1
       have HG1 := Lib.hid hg1
       have HWN1 := Lib.hid (HWN.out.kept hg1 (fun e => by cases e))
       clear ho1 hg1)
    | (at_range; refine wpList_range_own _ rfl _ 67 rfl 32 36 law16 Try.underlying67 _ b n _ rfl HWN1.out ?_; intro w0 hrg0 hg0 hs0)
    | go_in)
  have HR0 := Lib.hid hrg0
  have HB0 : Hid (Below w.heap.size w w0) := Lib.hid (((Below.refl _ w).grown HG1.out (Nat.le_refl _) (fun j hj => by cases hj)).grown hg0 HG1.out.size (fun j hj => by cases hj))
  have HS0 := Lib.hid hs0
  have HO2 : Hid (w0.ownsRow w.heap.size 38 2 (.slice (some ⟨w.heap.size, 0, none⟩) 0 kn) 0 (cv [])) := Lib.hid (HO1.out.kept hg0 (.inr (fun e => by cases e)))
  have hw1 := HG1.out.size
  have HGS : Hid (GatherS N g (Maps.has D) []) := Lib.hid (gatherN_start HH.out HSL.out (fun d hd => by rw [← HNF.out]; exact HNZ.out d hd))
  clear hrg0 hg0 hs0 hlen
  go_frame
  go_loopw [3] (fun v wr => ∃ (left : Lit → Bool) (cnt : Nat) (ps : List PV) (m : List Part) (A : Option Addr) (k c : Nat), v = .slice A k c ∧ m.length = k ∧ k + cnt ≤ kn ∧ wr.ranges Try.prog 32 valS b w1.heap.size n D left cnt ∧ GatherS N g left m ∧ Match wr ps m ∧
      ApartR wr w1.heap.size ps (Value.slice A k c).ownBlock ∧ wr.ownsRow w.heap.size 38 2 (.slice A k c) k (cv ps) ∧ Below w.heap.size w wr ∧ w1.heap.size < wr.heap.size) (fun _ wr => wr.rangeLeft b w1.heap.size)
  case atStart => exact ⟨_, _, [], [], _, 0, kn, rfl, rfl, by rw [HKN.out]; omega, HR0.out, HGS.out, Match.nil_ _, (fun p hp => by cases hp), HO2.out, HB0.out, by rw [HS0.out]; exact Nat.lt_succ_self _⟩
  case round =>
    obtain ⟨left, cnt, ps, m, A, k, c, rfl, hm, hkn2, hrg, hga, hma, hap, ho, hw, hws⟩ := hrel
    have HM := Lib.hid hm
    have HG := Lib.hid hga
    have HMA := Lib.hid hma
    have HAP := Lib.hid hap
    have HO := Lib.hid ho
    have HW := Lib.hid hw
    have HRL := Lib.hid hrg.left_eq
    have HNE := Lib.hid (neS_iter hrg ho)
    have HOF := Lib.hid (ownS_from ho)
    clear hm hga hma hap ho hw
    go_wp2_with (first
      | (at_next; refine wpList_nextS rfl _ rfl b w1.heap.size n _ _ _ rfl hrg ?_ ?_)
      | go_in)
    · intro hc0 hl0
      have HE := Lib.hid hl0
      clear hrg
      go_wp2_with fail
      refine (hsort wr w.heap.size A k c ps (HMA.out.1.trans HM.out) (by omega) HO.out).mono ?_
      rintro e w2 ⟨rfl, s, hp, hs, ho2, hg2⟩
      have HFAR : Hid (∀ p ∈ s, ∀ ad, p.adr = some ad → w.heap.size ≤ ad.block) := Lib.hid (fun p hm ad e => by
        obtain ⟨ad', e', h1, _⟩ := HAP.out p (hp.mem_iff.1 hm)
        rw [e'] at e
        cases e
        omega)
      have HS := Lib.hid ((made_end HG.out HF.out HE.out HMA.out hp hs).grown hg2 (HAP.out.apart.perm hp))
      have HL : Hid ((listC N).length = k) := Lib.hid (by rw [← HS.out.1, hp.length_eq, HMA.out.1]; exact HM.out)
      have HO2 := Lib.hid ho2
      have HW2 : Hid (Below w.heap.size w w2) := Lib.hid (HW.out.grown hg2 HW.out.size HOF.out)
      clear hp hs ho2 hg2
      go_wp2
      go_ret
      exact ⟨A, k, c, s, rfl, HL.out, HO2.out, HS.out, HW2.out, HFAR.out⟩
    · intro x sl wn cnt1 hwx hlx hat hrg1 hlt hg1 hs1 hen
      obtain ⟨d, rfl, hd, hR, hRB⟩ := entryS HH.out HSL.out hwx hat
      have HW1 : Hid (Below w.heap.size w wn) := Lib.hid (HW.out.grown hg1 HW.out.size (fun j hj => by cases hj; exact hw1))
      have HO1 := Lib.hid (HO.out.kept hg1 HNE.out)
      have HMA1 := Lib.hid (HMA.out.grown hg1 HAP.out.iter)
      have HAP1 := Lib.hid (HAP.out.up hg1.size)
      have CN := HNM.out wn sl.adr d sl.len sl.cap (hR.up HW1.out)
      have HLX := Lib.hid hlx
      have HR1 := Lib.hid hrg1
      have hsn : w1.heap.size < wn.heap.size := by rw [hs1]; exact hws
      clear hrg hrg1 hat hg1 hwx hR hRB hs1 hlx hws
      go_wp2_with fail
      refine CN.mono ?_
      intro e w2 hp
      obtain ⟨A3, n3, c3, rfl, hR3, hb3, hnew⟩ := runs_post hp (HNO.out d)
      rw [HNF.out d] at hR3
      have HR3 := Lib.hid hR3
      have HLN3 := Lib.hid hR3.len
      have HNW := Lib.hid hnew
      have HW2 := Lib.hid (HW1.out.trans (hb3.mono HW1.out.size))
      have HO2 := Lib.hid (Dt.own_kept HO1.out hb3)
      have HMA2 := Lib.hid (HMA1.out.up hb3)
      have HAP2 := Lib.hid (HAP1.out.up hb3.size)
      have HR2 := Lib.hid (HR1.out.kept (bel_grown hb3 none) (fun e => by cases e) (fun e => by cases e))
      have hs2 : w1.heap.size < w2.heap.size := Nat.lt_of_lt_of_le hsn hb3.size
      have HOB := Lib.hid (fun j hj => (HO1.out.lt j hj).2)
      clear hp hR3 hnew hb3 CN
      by_cases h0 : n3 = 0
      · have HG1 := Lib.hid (HG.out.skip (d := d) (List.eq_nil_of_length_eq_zero (by rw [HLN3.out]; exact h0)))
        have dz : decide ((0 : Int) < (n3 : Int)) = false := decide_eq_false (by omega)
        clear hen
        go_wp2
        refine ⟨⟨_, cnt1, ps, m, A, k, c, rfl, HM.out, by omega, HR2.out, HG1.out, HMA2.out, HAP2.out, HO2.out, HW2.out, hs2⟩, ?_⟩
        rw [HR2.out.left_eq, HRL.out]
        exact hlt
      · have hfd : N d ≠ [] := fun e => h0 (by rw [← HLN3.out, e]; rfl)
        have HG1 := Lib.hid (HG.out.step hd hfd HLX.out)
        have dz : decide ((0 : Int) < (n3 : Int)) = true := decide_eq_true (by omega)
        obtain ⟨ad3, had3⟩ : ∃ ad3, A3 = some ad3 := by
          cases A3 with
          | none => exact absurd (HR3.out.nil rfl).1 h0
          | some ad3 => exact ⟨ad3, rfl⟩
        have HAD := Lib.hid had3
        have hblk : wn.heap.size ≤ ad3.block ∧ ad3.block < w2.heap.size := by
          refine ⟨HNW.out ad3 had3, ?_⟩
          obtain ⟨ad', e, hB, _⟩ := HR3.out.runs.2 (by rw [Ru.rv_length, HLN3.out]; omega)
          rw [had3] at e
          obtain rfl := Option.some.inj e
          exact hB
        have HBA : Hid (Below w2.heap.size w2 (w2.alloc (.cells #[.int .u16 (d : Int), .slice A3 n3 c3] 38))) := Lib.hid (Dt.below_new _ _)
        have HMA3 : Hid (Match (w2.alloc (.cells #[.int .u16 (d : Int), .slice A3 n3 c3] 38)) (ps ++ [⟨d, A3, n3, c3⟩]) (m ++ [(d, N d)])) := Lib.hid ((HMA2.out.up HBA.out).snoc (by
          have q := HR3.out.up HBA.out
          exact ⟨rfl, hd, q.len, q.nil, q.cap, q.max, q.runs⟩))
        have HAP3 : Hid (ApartR (w2.alloc (.cells #[.int .u16 (d : Int), .slice A3 n3 c3] 38)) w1.heap.size (ps ++ [⟨d, A3, n3, c3⟩]) (Value.slice A k c).ownBlock) := Lib.hid ((HAP2.out.up HBA.out.size).snoc had3 (by omega) (Nat.lt_of_lt_of_le hblk.2 HBA.out.size) (fun e => by
          have := HOB.out ad3.block e.symm
          omega))
        have HOA := Lib.hid (HO2.out.alloc (.cells #[.int .u16 (d : Int), .slice A3 n3 c3] 38))
        have HWA : Hid (Below w.heap.size w (w2.alloc (.cells #[.int .u16 (d : Int), .slice A3 n3 c3] 38))) := Lib.hid (bel_alloc _ HW2.out)
        have HRA := Lib.hid (HR2.out.alloc (.cells #[.int .u16 (d : Int), .slice A3 n3 c3] 38))
        clear hen had3
        go_wp2_with (first
          | (at_builtin; refine wpList_part rfl (.tmp 21) (.tmp 25) rfl rfl _ w.heap.size k (.slice A k c) ps ⟨w2.heap.size, 0, none⟩ ⟨d, A3, n3, c3⟩ rfl rfl HOA.out (part_at w2 ⟨d, A3, n3, c3⟩) (by omega) HWA.out.size ?_; intro A4 c4 w3 ho3 hg3 hl3)
          | go_in)
        have HR4 := Lib.hid (HRA.out.kept hg3 (fun e => by have := HOF.out b e.symm; omega) (fun e => by rcases HNE.out with h | h; rw [h] at e; cases e; exact h e.symm))
        have HW3 : Hid (Below w.heap.size w w3) := Lib.hid (HWA.out.grown hg3 HWA.out.size HOF.out)
        have hlen : (m ++ [(d, N d)]).length = k + 1 := by rw [List.length_append, HM.out]; rfl
        have hs3 : w1.heap.size < w3.heap.size := Nat.lt_of_lt_of_le hs2 (Nat.le_trans HBA.out.size hg3.size)
        refine ⟨⟨_, cnt1, ps ++ [⟨d, A3, n3, c3⟩], m ++ [(d, N d)], A4, k + 1, c4, rfl, hlen, by omega, HR4.out, HG1.out, HMA3.out.grown hg3 HAP3.out.apart, HAP3.out.grown hg3.size hl3, ho3, HW3.out, hs3⟩, ?_⟩
        rw [HR4.out.left_eq, HRL.out]
        exact hlt
set_option maxHeartbeats 4000000 in
theorem pnorm_far (w : World) (A1 : Option Addr) (a : List Part) (n1 c1 : Nat) (h1 : CtxAt w A1 a n1 c1) (ha : Wide 268435456 a) :
    Calls Try.prog 20 #[.slice A1 n1 c1] w (FarPost w (normC a)) := by
  have CB := pbydev_any w A1 a n1 c1 h1 ha
  have HT : Hid (Tells (fun d => Ru.nrm (rawC a d))) := Lib.hid (by rw [nrm_rawC]; exact tells_runs h1.fit)
  have HL := Lib.hid (fun d => raw_short ha d)
  have hn1 : n1 ≤ 268435456 := by rw [← h1.len]; exact ha.1
  rw [← norm_raw]
  clear h1 ha
  go_enter Try.func20, Try.ntmps20
  go_wp2_with fail
  refine CB.mono ?_
  rintro e w1 ⟨rfl, hM, hb⟩
  have CI := pinord_far psorts w1 _ _ _ _ hM.mapS HT.out (fun d => by have := HL.out d; omega) (by omega)
  have HB := Lib.hid hb
  clear CB hM hb
  go_wp2_with fail
  refine CI.mono ?_
  intro e w2 hp
  obtain ⟨A2, n2, c2, ps, rfl, h2⟩ := fpost_up HB.out hp
  have HP := Lib.hid h2
  clear hp h2 CI
  go_wp2
  go_ret
  exact ⟨A2, n2, c2, ps, rfl, HP.out⟩
end Go.Proofs.Ytmhghgogehmehaa.Cx

/- The contracts of the program's PutDot, putPart, PutCtx and Encode of layer dcode. -/
namespace Go.Proofs.Ytmhghgogehmehaa.Dc
open Go.ChangeShapes Go.WideShapes Go.ChangeAt Go.RowKit
set_option linter.unusedVariables false
set_option maxRecDepth 4000

theorem far_cl {w w' : World} {m : List Part} {e : Ending} (h : Cx.FarPost w m e w') : ∃ A n c, e = .returned (.slice A n c) ∧ CL w.heap.size w' A m n c ∧ Below w.heap.size w w' := by
  obtain ⟨A, n, c, ps, rfl, hn, ho, hm, hb, hf⟩ := h
  obtain ⟨h1, h2, h3⟩ := Dt.own_len ho
  exact ⟨A, n, c, rfl, ⟨hn, h3, h1, h2, (fun ad e => by subst e; exact (ho.lt ad.block rfl).1), ps, Dt.lies_any (by decide) ho, hm, hf⟩, hb⟩
/-- a number more. -/
theorem ws_num {w V : World} {B g : Nat} {rb : Option Nat} {m : List Nat} (h : WS w V B g rb m) (x : Nat) (hx : x < big) (hm : m.length ≤ 70368744177664) :
    Calls Try.prog 21 #[.pointer (some ⟨g, 0, none⟩), .int .u64 (x : Int)] V fun e U => e = .returned (.tuple #[]) ∧ WS w U B g rb (m ++ Nu.enc x) :=
  h.step fun r hr => Nu.wnum_any V B g r m x hr hx hm
set_option maxHeartbeats 8000000 in
theorem pputpart_any (w : World) (B g : Nat) (rb : Option Nat) (m : List Nat) (p : Cx.PV) (x : Part) (h : Nu.PW w B g rb m) (hX : ∀ U, Nu.Two w U g rb → Cx.PartIs U U.heap.size p x) (hl : x.2.length ≤ 10000) (hm : m.length ≤ 1200000000000) :
    Calls Try.prog 22 #[.pointer (some ⟨g, 0, none⟩), .agg #[.int .u16 (x.1 : Int), .slice p.adr p.len p.cap]] w (Nu.WPost w B g rb (m ++ partB x)) := by
  have hpi := hX w ⟨rfl, rfl, rfl, Nat.le_refl _, fun _ _ _ _ => rfl⟩
  have HX := Lib.hid hX
  have HXL := Lib.hid hpi.len
  have hx1 := hpi.fit
  have hw1 : IntKind.u64.wrap (x.1 : Int) = (x.1 : Int) := by rw [IntKind.wrap_u64]; omega
  have hxb : x.1 < big := by show x.1 < 18446744073709551616; omega
  have hpl : p.len ≤ 10000 := by rw [← HXL.out]; exact hl
  have hw2 : IntKind.u64.wrap (p.len : Int) = (p.len : Int) := by rw [IntKind.wrap_u64]; omega
  have hpb : p.len < big := by show p.len < 18446744073709551616; omega
  have HLL := Lib.hid hl
  obtain ⟨r, hr, ht, s2⟩ := side_new (WS.start h) (.cells #[.int .u16 (x.1 : Int), .slice p.adr p.len p.cap] 38)
  have S2 := Lib.hid s2
  have HT := Lib.hid ht
  have HRR := Lib.hid hr
  have b0 : (w.alloc (.cells #[.int .u16 (x.1 : Int), .slice p.adr p.len p.cap] 38)).cell? ⟨w.heap.size, 0, none⟩ = some (.int .u16 (x.1 : Int)) := by rw [World.cell?_alloc_mark]; rfl
  have b1 : (w.alloc (.cells #[.int .u16 (x.1 : Int), .slice p.adr p.len p.cap] 38)).cell? ⟨w.heap.size, 1, none⟩ = some (.slice p.adr p.len p.cap) := by rw [World.cell?_alloc_mark]; rfl
  clear hX hpi hl s2 ht hr h
  go_enter Try.func22, Try.ntmps22
  go_wp2_with fail
  obtain ⟨bx, hbx⟩ : ∃ bx, w.heap.size = bx := ⟨_, rfl⟩
  rw [hbx] at S2 b0 b1 ⊢
  generalize w.alloc (.cells #[.int .u16 (x.1 : Int), .slice p.adr p.len p.cap] 38) = v2 at *
  refine (ws_num S2.out.ws x.1 hxb (by omega)).mono ?_
  rintro e v3 ⟨rfl, q3⟩
  have S3 : Hid (Side v2 v3 B g bx (m ++ Nu.enc x.1) r) := Lib.hid ⟨q3, S2.out.g_ne, S2.out.r_ne, S2.out.lt⟩
  have f1 := (S3.out.cell 1).trans b1
  clear q3 S2 b0
  go_wp2_with fail
  refine (ws_num S3.out.ws p.len hpb (by rw [List.length_append]; have := enc_le x.1; omega)).mono ?_
  rintro e v4 ⟨rfl, q4⟩
  have S4 : Hid (Side v2 v4 B g bx (m ++ Nu.enc x.1 ++ Nu.enc p.len) r) := Lib.hid ⟨q4, S3.out.g_ne, S3.out.r_ne, S3.out.lt⟩
  have f4 := (S4.out.cell 1).trans b1
  have HBL : Hid ((m ++ Nu.enc x.1 ++ Nu.enc p.len).length ≤ 1200000000018) := Lib.hid (by have := enc_le x.1; have := enc_le p.len; rw [List.length_append, List.length_append]; omega)
  obtain ⟨base, hbase⟩ : ∃ base, m ++ Nu.enc x.1 ++ Nu.enc p.len = base := ⟨_, rfl⟩
  rw [hbase] at S4 HBL
  have HBS := Lib.hid hbase
  clear q4 S3 f1 b1 hbase
  go_wp2_with fail
  go_loopw [20] (fun i wq => ∃ j : Nat, j ≤ p.len ∧ i = .int .i64 (j : Int) ∧ WS v2 wq B g r (base ++ (x.2.take j).flatMap runB)) (fun i _ => p.len - (intOf i).toNat)
  case atStart => exact ⟨0, Nat.zero_le _, rfl, by rw [List.take_zero, List.flatMap_nil, List.append_nil]; exact S4.out.ws⟩
  case round =>
    clear S4 f4
    obtain ⟨j, hj, rfl, q5⟩ := hrel
    have W5 := Lib.hid q5
    clear q5
    by_cases hjl : j < p.len
    · have hP := HX.out wr (WS.join HRR.out HT.out W5.out).two
      obtain ⟨rad, lo, hi, hpa, hlr, hlo, hhi, g0, g1⟩ := hP.runs.at_ (k := j) (by rw [hP.len]; exact hjl)
      rw [← Ru.add_next] at g1
      have HRN := Lib.hid (runs_next (b := base) hlr)
      have hbl : (base ++ (x.2.take j).flatMap runB).length ≤ 70368744177000 := by
        have h2 := flat_le (f := runB) (k := 18) runB_le (x.2.take j)
        have h3 : (x.2.take j).length ≤ x.2.length := by rw [List.length_take]; omega
        have h4 := HLL.out
        have h5 := HBL.out
        rw [List.length_append]
        omega
      obtain ⟨r2, hr2, ht2, s6⟩ := side_new W5.out (.cells #[.int .u64 (lo : Int), .int .u64 (hi : Int)] 35)
      have S6 := Lib.hid s6
      have HT2 := Lib.hid ht2
      have HRR2 := Lib.hid hr2
      have b0 : (wr.alloc (.cells #[.int .u64 (lo : Int), .int .u64 (hi : Int)] 35)).cell? ⟨wr.heap.size, 0, none⟩ = some (.int .u64 (lo : Int)) := by rw [World.cell?_alloc_mark]; rfl
      have b1 : (wr.alloc (.cells #[.int .u64 (lo : Int), .int .u64 (hi : Int)] 35)).cell? ⟨wr.heap.size, 1, none⟩ = some (.int .u64 (hi : Int)) := by rw [World.cell?_alloc_mark]; rfl
      clear hP hlr s6 ht2 hr2
      rw [hpa]
      go_wp2_with fail
      obtain ⟨bz, hbz⟩ : ∃ bz, wr.heap.size = bz := ⟨_, rfl⟩
      rw [hbz] at S6 b0 b1 ⊢
      generalize wr.alloc (.cells #[.int .u64 (lo : Int), .int .u64 (hi : Int)] 35) = v6 at *
      refine (ws_num S6.out.ws lo hlo (by omega)).mono ?_
      rintro e v7 ⟨rfl, q7⟩
      have S7 : Hid (Side v6 v7 B g bz (base ++ (x.2.take j).flatMap runB ++ Nu.enc lo) r2) := Lib.hid ⟨q7, S6.out.g_ne, S6.out.r_ne, S6.out.lt⟩
      have f1 := (S7.out.cell 1).trans b1
      clear q7 S6 b0 b1 g0 g1
      go_wp2_with fail
      refine (ws_num S7.out.ws hi hhi (by rw [List.length_append]; have := enc_le lo; omega)).mono ?_
      rintro e v8 ⟨rfl, q8⟩
      have W8 := Lib.hid (WS.join HRR2.out HT2.out q8)
      clear q8 S7 f1
      go_wp2
      first | rw [← hpa] | skip
      clear hpa
      go_roundw
      case rel => exact ⟨j + 1, hjl, by go_num, by rw [HRN.out]; exact W8.out⟩
      case measure => simp [intOf]; omega
    · obtain rfl : j = p.len := by omega
      have W9 : Hid (WS w wr B g rb (m ++ partB x)) := Lib.hid (by
        have h := WS.join HRR.out HT.out W5.out
        rw [List.take_of_length_le (by rw [HXL.out]; exact Nat.le_refl _), ← HBS.out, ← HXL.out, List.append_assoc, List.append_assoc] at h
        exact h)
      clear W5
      go_wp2
      go_end0
      exact W9.out.post
theorem part_next {l : List Nat} {c : List Part} {k : Nat} {x : Part} (h : c[k]? = some x) : upTo l c (k + 1) = upTo l c k ++ partB x := by
  unfold upTo
  rw [flat_snoc h]
  simp only [List.append_assoc]
set_option maxHeartbeats 8000000 in
theorem pputctx_any (w0 w : World) (g : Nat) (rb : Option Nat) (m : List Nat) (A : Option Addr) (C : List Part) (n c : Nat) (h : Nu.PW w w0.heap.size g rb m) (hb : Below w0.heap.size w0 w) (hc : Cx.CtxAt w0 A C n c) (hs : Cx.Small C) (hm : m.length ≤ 1099511627776) :
    Calls Try.prog 11 #[.pointer (some ⟨g, 0, none⟩), .slice A n c] w (Nu.WPost w w0.heap.size g rb (m ++ ctxB (Cx.normC C))) := by
  have hR := room_norm hc.fit hs
  have CN := Cx.pnorm_far w A C n c (hc.up hb) ((Cx.small_wide hs).more (by decide))
  obtain ⟨N, hN⟩ : ∃ N, Cx.normC C = N := ⟨_, rfl⟩
  rw [hN] at hR CN ⊢
  have HR := Lib.hid hR
  have HP := Lib.hid h
  have hgw : g < w.heap.size := h.base.2
  have HRW : Hid (∀ k, rb = some k → k < w.heap.size) := Lib.hid (fun k e => (h.row k e).2)
  clear h hc hs hN hR hb
  generalize w0.heap.size = B at *
  go_enter Try.func11, Try.ntmps11
  go_wp2_with fail
  refine CN.mono ?_
  intro e w1 hp
  obtain ⟨A1, n1, c1, rfl, l1, b1⟩ := far_cl hp
  obtain ⟨ps, k1⟩ := l1.cp
  have HC := Lib.hid k1
  have HB := Lib.hid b1
  have HNL := Lib.hid k1.len
  have hn1 : n1 ≤ 65536 := by rw [← HNL.out]; exact HR.out.1
  have hnb : n1 < big := by show n1 < 18446744073709551616; omega
  have hwr : IntKind.u64.wrap (n1 : Int) = (n1 : Int) := by rw [IntKind.wrap_u64]; omega
  have W1 := Lib.hid (WS.start (pw_up HP.out b1))
  clear hp l1 k1 b1 CN
  go_wp2_with fail
  refine (ws_num W1.out n1 hnb (by omega)).mono ?_
  rintro e w2 ⟨rfl, q2⟩
  have W2 := Lib.hid q2
  clear q2 W1
  go_wp2_with fail
  go_loopw [16] (fun i wq => ∃ k : Nat, k ≤ n1 ∧ i = .int .i64 (k : Int) ∧ WS w1 wq B g rb (upTo m N k)) (fun i _ => n1 - (intOf i).toNat)
  case atStart => exact ⟨0, Nat.zero_le _, rfl, by rw [upTo_zero, HNL.out]; exact W2.out⟩
  case round =>
    clear W2
    obtain ⟨k, hk3, rfl, q3⟩ := hrel
    have W3 := Lib.hid q3
    clear q3
    by_cases hlt : k < n1
    · obtain ⟨ad, p, x, rfl, hpk, hlx, hpi, e0, e1⟩ := (HC.out.two W3.out.two hgw HRW.out).at_ hlt
      have HX : Hid (∀ U, Nu.Two w1 U g rb → Cx.PartIs U U.heap.size p x) := Lib.hid (fun U hU => (HC.out.two hU hgw HRW.out).mat.2 k p x hpk hlx)
      have HN := Lib.hid (part_next (l := m) hlx)
      have HM := Lib.hid (HR.out.2 x (List.mem_of_getElem? hlx))
      have HLN := Lib.hid (upTo_len (k := k) (l := m) rfl hm HR.out)
      obtain ⟨r, hr, ht, s2⟩ := side_new W3.out (.cells #[.int .u16 (x.1 : Int), .slice p.adr p.len p.cap] 38)
      have HXU : Hid (∀ U, Nu.Two (wr.alloc (.cells #[.int .u16 (x.1 : Int), .slice p.adr p.len p.cap] 38)) U g r → Cx.PartIs U U.heap.size p x) := Lib.hid (fun U hU => HX.out U (Nu.two_trans ht hU hr))
      have S2 := Lib.hid s2
      have HT := Lib.hid ht
      have HRR := Lib.hid hr
      have b0 : (wr.alloc (.cells #[.int .u16 (x.1 : Int), .slice p.adr p.len p.cap] 38)).cell? ⟨wr.heap.size, 0, none⟩ = some (.int .u16 (x.1 : Int)) := by rw [World.cell?_alloc_mark]; rfl
      have b1 : (wr.alloc (.cells #[.int .u16 (x.1 : Int), .slice p.adr p.len p.cap] 38)).cell? ⟨wr.heap.size, 1, none⟩ = some (.slice p.adr p.len p.cap) := by rw [World.cell?_alloc_mark]; rfl
      clear hpk hlx hpi s2 ht hr
      go_wp2_with fail
      generalize wr.alloc (.cells #[.int .u16 (x.1 : Int), .slice p.adr p.len p.cap] 38) = v2 at *
      obtain ⟨M0, hM0⟩ : ∃ M0, upTo m N k = M0 := ⟨_, rfl⟩
      rw [hM0] at HN HLN S2
      obtain ⟨r2, k1, k2⟩ := S2.out.ws.now
      have h0 : Nu.Two v2 v2 g r := ⟨rfl, rfl, rfl, Nat.le_refl _, fun _ _ _ _ => rfl⟩
      have HZ := Lib.hid h0
      have HK2 := Lib.hid k2
      refine (pputpart_any v2 B g r2 M0 p x k1 (fun U hU => HXU.out U (Nu.two_trans h0 hU k2)) HM.out.2.2 HLN.out).mono ?_
      rintro e v3 ⟨rfl, r3, p1, p2, p3⟩
      have W4 : Hid (WS v2 v3 B g r (M0 ++ partB x)) := Lib.hid ⟨⟨r3, p1, by
        rcases p2 with rfl | p2
        · exact HK2.out
        · exact .inr p2⟩, Nu.two_trans HZ.out p3 HK2.out⟩
      have W5 := Lib.hid (WS.join HRR.out HT.out W4.out)
      clear k1 k2 h0 p1 p2 p3 S2 b0 b1 e0 e1 W3
      go_wp2
      go_roundw
      case rel => exact ⟨k + 1, hlt, by go_num, by rw [HN.out]; exact W5.out⟩
      case measure => simp [intOf]; omega
    · obtain rfl : k = n1 := by omega
      go_wp2
      go_end0
      have e := upTo_all (l := m) HNL.out
      rw [← e]
      exact (W3.out.from HB.out).post
theorem encode_any (w : World) (A : Option Addr) (C : List Part) (n c : Nat) (hc : Cx.CtxAt w A C n c) (hs : Cx.Small C) :
    Calls Try.prog 7 #[.slice A n c] w (BPost w (ctxB (Cx.normC C))) := by
  have W0 := Lib.hid (Nu.PW.new w)
  have HB := Lib.hid (below_new w (.cells #[.slice none 0 0] 44))
  have C1 := Lib.hid (pputctx_any w _ _ none [] A C n c W0.out HB.out hc hs (by decide))
  have HL : Hid (([] ++ ctxB (Cx.normC C)).length ≤ 140737488355328) := Lib.hid (by
    have h := upTo_len (k := (Cx.normC C).length) (l := []) (c := Cx.normC C) rfl (by decide) (room_norm hc.fit hs)
    rw [upTo_all rfl] at h
    exact Nat.le_trans h (by decide))
  clear hc hs
  go_enter Try.func7, Try.ntmps7
  go_wp2_with fail
  refine C1.out.mono ?_
  rintro e w1 ⟨rfl, r1, p1, _, y1⟩
  have W1 := Lib.hid p1
  have Y1 := Lib.hid (HB.out.trans (Nu.below_two y1 (Nat.le_refl _) (fun q e => by cases e) HB.out.size))
  clear p1 y1 C1 W0
  go_wp2_with fail
  refine (Nu.wbytes_any w1 _ _ _ _ W1.out HL.out).mono ?_
  rintro e w2 q
  obtain ⟨A2, n2, c2, rfl, h1, h2, h3, h4, h5, h6, _⟩ := q
  rw [List.nil_append] at h1 h2
  have HQ : Hid (BL w2 A2 (ctxB (Cx.normC C)) n2 c2) := Lib.hid ⟨h1, (fun e => by subst e; have := h5 rfl; omega), h3, h4, h2⟩
  have Y2 := Lib.hid (Y1.out.trans (h6.mono Y1.out.size))
  clear h1 h2 h3 h4 h5 h6
  go_wp2
  go_ret
  exact ⟨A2, n2, c2, rfl, HQ.out, Y2.out⟩
end Go.Proofs.Ytmhghgogehmehaa.Dc

/- What the walks of layer dcode ask of the program holds of it. -/
namespace Go.Proofs.Ytmhghgogehmehaa.Dc

theorem pdc : PDc where
  putctx := fun w0 w g rb m A C n c h hb hc hs hm => pputctx_any w0 w g rb m A C n c h hb hc hs hm
  encode := fun w A C n c hc hs => encode_any w A C n c hc hs
  ctx := fun w g B l e h hB hl => pctxr_any w g B l e h hB hl
  decode := fun w A b n c h hn => pdec_any w A b n c h hn
end Go.Proofs.Ytmhghgogehmehaa.Dc
