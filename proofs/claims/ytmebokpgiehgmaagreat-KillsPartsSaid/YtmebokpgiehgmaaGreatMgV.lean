/- Words and contracts that the proofs of this seat stand on, part 22 of 22. -/
import Derived.Test.YtmebokpgiehgmaaGreatMgU
import Derived.Test.YtmebokpgiehgmaaGreatMgI
import Derived.Test.YtmebokpgiehgmaaGreatMgM
import Derived.Test.YtmebokpgiehgmaaGreatMgS
import Derived.Test.YtmebokpgiehgmaaGreatMgR

/- The contract of the program's Drop of layer kills: two lists in order, gone over side by side. For every list of at most 1024 dots, and every context of few parts. -/
namespace Go.Proofs.YtmebokpgiehgmaaGreat.Kl
open Go.ChangeShapes Go.WideShapes Go.ChangeAt Go.RowKit
set_option linter.unusedVariables false
set_option maxRecDepth 4000

theorem sortd_filter (l : List Dt.Dot) (h : Dt.Dot → Bool) : (Dt.sortD l).filter h = Dt.sortD (l.filter h) := by
  refine Dt.sort_uniq ((Dt.sort_ord l).filter h) fun x => ?_
  rw [List.mem_filter, List.mem_filter, Dt.sort_mem]
theorem rest_next {S : List Dt.Dot} (ho : Dt.Ord S) (h : Dt.Dot → Bool) {k : Nat} {d : Dt.Dot} (hd : S[k]? = some d) :
    (h d = true ∧ (S.drop k).filter h = d :: (S.drop (k + 1)).filter h) ∨ (h d = false ∧ (S.drop k).filter h = (S.drop (k + 1)).filter h ∧ d ∉ (S.drop (k + 1)).filter h) := by
  obtain ⟨hk, rfl⟩ := List.getElem?_eq_some_iff.1 hd
  have e := List.drop_eq_getElem_cons hk
  have hp : Dt.Ord (S.drop k) := List.Pairwise.sublist (List.drop_sublist k S) ho
  rw [e] at hp ⊢
  obtain ⟨h1, _⟩ := List.pairwise_cons.1 hp
  cases hh : h S[k] with
  | true => exact .inl ⟨rfl, by rw [List.filter_cons_of_pos hh]⟩
  | false => exact .inr ⟨rfl, by rw [List.filter_cons_of_neg (by rw [hh]; decide)], fun hm => Ev.ahead_ne (h1 _ (List.mem_filter.1 hm).1) rfl⟩
theorem left_take {S : List Dt.Dot} (h : Dt.Dot → Bool) {k : Nat} {d : Dt.Dot} (hd : S[k]? = some d) (hh : h d = true) : (S.take (k + 1)).filter (fun x => !h x) = (S.take k).filter (fun x => !h x) := by
  rw [Ev.take_one hd, List.filter_append]
  simp [hh]
theorem left_put {S : List Dt.Dot} (h : Dt.Dot → Bool) {k : Nat} {d : Dt.Dot} (hd : S[k]? = some d) (hh : h d = false) : (S.take (k + 1)).filter (fun x => !h x) = (S.take k).filter (fun x => !h x) ++ [d] := by
  rw [Ev.take_one hd, List.filter_append]
  simp [hh]
theorem dots_head {w : World} {B : Nat} {A : Option Addr} {r : Dt.Dot} {l : List Dt.Dot} (h : Dt.Dots w B A (r :: l)) :
    ∃ ad : Addr, A = some ad ∧ ad.block < B ∧ w.cell? ad = some (.int .u16 (r.1 : Int)) ∧ w.cell? ⟨ad.block, ad.off + 1, none⟩ = some (.int .u64 (r.2 : Int)) ∧ Dt.Dots w B (some (ad.add 2)) l := by
  obtain ⟨ad, e, hB, hc⟩ := h.2 (by rw [Dt.dv_length]; simp)
  refine ⟨ad, e, hB, ?_, hc 1 _ rfl, fun s hs => h.1 s (by simp [hs]), fun hl => ⟨_, rfl, by rw [Ev.block_add]; exact hB, fun j u hu => ?_⟩⟩
  · have := hc 0 _ rfl
    rwa [show ad.add 0 = ad from by unfold Addr.add; simp] at this
  · rw [Ev.add_add]
    refine hc (2 + j) u ?_
    rw [show Dt.dv (r :: l) = [.int .u16 (r.1 : Int), .int .u64 (r.2 : Int)] ++ Dt.dv l from rfl, List.getElem?_append_right (by simp)]
    simpa using hu
theorem dots_tail {w : World} {B : Nat} {ad : Addr} {l : List Dt.Dot} {z c : Nat} (h : Dt.Dots w B (some (ad.add 2)) l) (hl : l.length = z) (hz : z + 1 ≤ c) : Dt.Dots w B (if c = 1 then some ad else some ⟨ad.block, ad.off + 2, none⟩) l := by
  split
  · rename_i hc
    rw [List.eq_nil_of_length_eq_zero (l := l) (by omega)]
    exact Dt.Dots.none_ _ _ _
  · have e : ad.add 2 = ⟨ad.block, ad.off + 2, none⟩ := by unfold Addr.add; simp
    rw [← e]; exact h
theorem KRel.drewN {w2 wr : World} {xs : List Dt.Dot} {A : Option Addr} {m c : Nat} (h : KRel w2 xs A m c wr) (q : Nat) : KRel w2 xs A m c (wr.drewN q) := ⟨h.len, h.own, Ev.bel_drewN h.bel q⟩

set_option maxHeartbeats 8000000 in
theorem pdrop_any (w : World) (A0 A2 : Option Addr) (l : List Dt.Dot) (x : List Cx.Part) (n c0 n2 c2 : Nat) (hl : Ev.DotsAt w w.heap.size A0 l n c0) (hx : Cx.CtxAt w A2 x n2 c2) (hn : n ≤ 1024) (hf : Cx.fewC x = true) :
    Calls Tryz.prog 8 #[.slice A0 n c0, .slice A2 n2 c2] w (DotsFar w (Dt.sortD (l.filter (fun d => !Cx.hasC x d)))) := by
  have CK := pkeep_any w A0 A2 l x n c0 n2 c2 hl hx hn hf
  have HL := Lib.hid hl
  have HOS := Lib.hid (Dt.sort_ord l)
  have HE1 := Lib.hid (sortd_filter l (Cx.hasC x))
  have HE2 := Lib.hid (sortd_filter l (fun d => !Cx.hasC x d))
  have HSL : Hid ((Dt.sortD l).length ≤ 1024) := Lib.hid (by have h1 := sortd_len l; have h2 := hl.len; omega)
  rw [← HE1.out] at CK
  rw [← HE2.out]
  clear hl hx hf HE1 HE2
  generalize Cx.hasC x = h at *
  go_enter Tryz.func8, Tryz.ntmps8
  go_wp2_with fail
  refine CK.mono ?_
  rintro e w1 ⟨AK, mk, ck, rfl, hk1, _, hb1⟩
  have HK1 := Lib.hid hk1
  have HB1 := Lib.hid hb1
  have CS := psort_far w1 A0 l n c0 (HL.out.up hb1)
  clear CK hk1 hb1
  go_wp2_with fail
  refine CS.mono ?_
  rintro e w2 ⟨A3, n3, c3, rfl, h3, _, hb2⟩
  have HS3 := Lib.hid h3
  have HK2 := Lib.hid (HK1.out.up hb2)
  have HB2 := Lib.hid (HB1.out.trans (hb2.mono HB1.out.size))
  have hn3 : n3 ≤ 1024 := by rw [← h3.len]; exact HSL.out
  clear CS h3 hb2
  generalize hSS : Dt.sortD l = S at *
  have HSS := Lib.hid hSS
  clear hSS
  go_wp2
  go_loopw [5, 6, 15] (fun vk vl vi wr => ∃ (k m c : Nat) (A : Option Addr) (rest : List Dt.Dot) (ml cl : Nat) (AL : Option Addr), k ≤ n3 ∧ vi = .int .i64 (k : Int) ∧ vk = .slice A m c ∧ vl = .slice AL ml cl ∧ rest = (S.drop k).filter h ∧ rest.length = m ∧ m ≤ c ∧ c ≤ 9223372036854775807 ∧ Dt.Dots w2 w2.heap.size A rest ∧ KRel w2 ((S.take k).filter (fun d => !h d)) AL ml cl wr) (fun _ _ vi _ => n3 - (intOf vi).toNat)
  case atStart => exact ⟨0, mk, ck, AK, S.filter h, 0, 0, none, Nat.zero_le _, rfl, rfl, rfl, rfl, HK2.out.len, HK2.out.cap, HK2.out.max, HK2.out.dots, rfl, World.ownsRow_nil _ _ _ _, Below.refl _ _⟩
  case round =>
    obtain ⟨k, m, c, A, rest, ml, cl, AL, hk, rfl, rfl, rfl, hrest, hrl, hmc, hcm, hrd, hrel⟩ := hrel
    have HR := Lib.hid hrel
    have HRD := Lib.hid hrd
    clear hrel hrd
    by_cases hlt : k < n3
    · obtain ⟨ad, d1, d2, rfl, hd, hx1, hx2, c1, c3⟩ := ((HS3.out.below HR.out.bel).dots.at_ (k := k) (by rw [HS3.out.len]; exact hlt))
      have c3' : wr.cell? ⟨(ad.add (k * 2)).block, (ad.add (k * 2)).off + 1, none⟩ = some (.int .u64 (d2 : Int)) := by rw [Dt.add_next]; exact c3
      have HRB := Lib.hid (HR.out.alloc (.cells #[.int .u16 (d1 : Int), .int .u64 (d2 : Int)] 28))
      obtain ⟨z1, z2⟩ := dbox_cells wr _ (d1, d2) (Below.refl _ _)
      simp only [dbox] at z1 z2
      have hnx := rest_next HOS.out h hd
      rw [← hrest] at hnx
      have hml : ml ≤ k := by
        rw [← HR.out.len]
        exact Nat.le_trans (List.length_filter_le _ _) (List.length_take_le _ _)
      have HT1 := Lib.hid (left_take h hd)
      have HT2 := Lib.hid (left_put h hd)
      clear hd c3 HR hrest
      rcases rest with _ | ⟨y, rest⟩
      · obtain rfl : m = 0 := by simpa using hrl.symm
        rcases hnx with ⟨hh, e⟩ | ⟨hh, e, _⟩
        · cases e
        · have HNR := Lib.hid e
          have HRP := Lib.hid (HT2.out hh)
          clear HT1 HT2 hh e
          go_wp2_with fail
          generalize wr.alloc (.cells #[.int .u16 (d1 : Int), .int .u64 (d2 : Int)] 28) = w4 at *
          go_quiet (fail)
          have z1' : (w4.drewN nq).cell? ⟨wr.heap.size, 0, none⟩ = some (.int .u16 (d1 : Int)) := z1
          have z2' : (w4.drewN nq).cell? ⟨wr.heap.size, 1, none⟩ = some (.int .u64 (d2 : Int)) := z2
          have HRD4 := Lib.hid (HRB.out.drewN nq)
          clear z1 z2 HRB c1 c3'
          generalize w4.drewN nq = w5 at *
          have HRA := Lib.hid (HRD4.out.alloc (.cells #[.int .u16 (d1 : Int), .int .u64 (d2 : Int)] 28))
          have hLD := Dt.lies_one w5 (d1, d2)
          simp only at hLD
          have HLD := Lib.hid hLD
          have HLO : Hid (ml + 1 ≤ 8796093022208) := Lib.hid (by omega)
          have HBA : Hid (w2.heap.size ≤ (w5.alloc (.cells #[.int .u16 (d1 : Int), .int .u64 (d2 : Int)] 28)).heap.size) := Lib.hid HRA.out.bel.size
          clear hLD
          go_wp2_with (at_builtin; refine wpList_any5 rfl (.tmp 31) (.tmp 33) rfl rfl _ w2.heap.size ml (.slice AL ml cl) ((S.take k).filter (fun d => !h d)) (some ⟨w5.heap.size, 0, none⟩) [(d1, d2)] 1 1 rfl rfl HRA.out.own (fun h => by cases h) HLD.out rfl HLO.out HBA.out ?_; intro A6 c6 w6 ho6 hg6 h6
                       have HR6 := Lib.hid (HRA.out.more ho6 hg6)
                       clear ho6 hg6 h6)
          go_roundw
          case rel => exact ⟨k + 1, 0, c, A, [], ml + 1, c6, A6, by omega, by go_num, rfl, rfl, HNR.out, rfl, hmc, hcm, HRD.out, by rw [HRP.out]; exact HR6.out⟩
          case measure => simp [intOf]; omega
      · obtain ⟨z, rfl⟩ : ∃ z, m = z + 1 := ⟨rest.length, by simpa using hrl.symm⟩
        have hzl : rest.length = z := by simpa using hrl
        obtain ⟨ad9, rfl, hB9, g1, g2, hrd9⟩ := dots_head HRD.out
        have hbw := HRB.out.bel
        have g1' := (hbw.cell hB9).trans g1
        have g2' := (hbw.cell (p := ⟨ad9.block, ad9.off + 1, none⟩) hB9).trans g2
        have hy := HRD.out.1 y (List.mem_cons_self ..)
        have HRD9 := Lib.hid hrd9
        have hp0 : (0 : Int) < ((z : Nat) : Int) + 1 := by omega
        clear g1 g2 hbw hrd9
        rcases hnx with ⟨hh, e⟩ | ⟨hh, e, hne⟩
        · obtain ⟨rfl, rfl⟩ : y = (d1, d2) ∧ rest = (S.drop (k + 1)).filter h := by simpa using e
          have HRP := Lib.hid (HT1.out hh)
          clear HT1 HT2 hh e
          simp only at g1' g2'
          go_wp2_with fail
          generalize wr.alloc (.cells #[.int .u16 (d1 : Int), .int .u64 (d2 : Int)] 28) = w4 at *
          go_quiet (fail)
          have HRD4 := Lib.hid (HRB.out.drewN nq)
          clear z1 z2 HRB c1 c3' g1' g2'
          generalize w4.drewN nq = w5 at *
          go_wp2
          go_roundw
          case rel => exact ⟨k + 1, z, c - 1, _, _, ml, cl, AL, by omega, by go_num, rfl, rfl, rfl, hzl, by omega, by omega, dots_tail HRD9.out hzl hmc, by rw [HRP.out]; exact HRD4.out⟩
          case measure => simp [intOf]; omega
        · have HNR := Lib.hid e
          have HRP := Lib.hid (HT2.out hh)
          rw [← e] at hne
          obtain ⟨y1, y2⟩ := y
          simp only at g1' g2'
          clear HT1 HT2 hh e
          by_cases hq1 : d1 = y1
          · subst hq1
            have hq2 : ¬ d2 = y2 := fun e => hne (by rw [e]; exact List.mem_cons_self ..)
            have hb2 : ((d2 : Int) == (y2 : Int)) = false := by rw [beq_eq_false_iff_ne]; omega
            clear hne
            go_wp2_with fail
            generalize wr.alloc (.cells #[.int .u16 (d1 : Int), .int .u64 (d2 : Int)] 28) = w4 at *
            go_quiet (fail)
            have z1' : (w4.drewN nq).cell? ⟨wr.heap.size, 0, none⟩ = some (.int .u16 (d1 : Int)) := z1
            have z2' : (w4.drewN nq).cell? ⟨wr.heap.size, 1, none⟩ = some (.int .u64 (d2 : Int)) := z2
            have HRD4 := Lib.hid (HRB.out.drewN nq)
            clear z1 z2 HRB c1 c3' g1' g2'
            generalize w4.drewN nq = w5 at *
            have HRA := Lib.hid (HRD4.out.alloc (.cells #[.int .u16 (d1 : Int), .int .u64 (d2 : Int)] 28))
            have hLD := Dt.lies_one w5 (d1, d2)
            simp only at hLD
            have HLD := Lib.hid hLD
            have HLO : Hid (ml + 1 ≤ 8796093022208) := Lib.hid (by omega)
            have HBA : Hid (w2.heap.size ≤ (w5.alloc (.cells #[.int .u16 (d1 : Int), .int .u64 (d2 : Int)] 28)).heap.size) := Lib.hid HRA.out.bel.size
            clear hLD
            go_wp2_with (at_builtin; refine wpList_any5 rfl (.tmp 31) (.tmp 33) rfl rfl _ w2.heap.size ml (.slice AL ml cl) ((S.take k).filter (fun d => !h d)) (some ⟨w5.heap.size, 0, none⟩) [(d1, d2)] 1 1 rfl rfl HRA.out.own (fun h => by cases h) HLD.out rfl HLO.out HBA.out ?_; intro A6 c6 w6 ho6 hg6 h6
                         have HR6 := Lib.hid (HRA.out.more ho6 hg6)
                         clear ho6 hg6 h6)
            go_roundw
            case rel => exact ⟨k + 1, z + 1, c, some ad9, _, ml + 1, c6, A6, by omega, by go_num, rfl, rfl, HNR.out, by simpa using hzl, hmc, hcm, HRD.out, by rw [HRP.out]; exact HR6.out⟩
            case measure => simp [intOf]; omega
          · have hb2 : ((d1 : Int) == (y1 : Int)) = false := by rw [beq_eq_false_iff_ne]; omega
            clear hne
            go_wp2_with fail
            generalize wr.alloc (.cells #[.int .u16 (d1 : Int), .int .u64 (d2 : Int)] 28) = w4 at *
            go_quiet (fail)
            have z1' : (w4.drewN nq).cell? ⟨wr.heap.size, 0, none⟩ = some (.int .u16 (d1 : Int)) := z1
            have z2' : (w4.drewN nq).cell? ⟨wr.heap.size, 1, none⟩ = some (.int .u64 (d2 : Int)) := z2
            have HRD4 := Lib.hid (HRB.out.drewN nq)
            clear z1 z2 HRB c1 c3' g1' g2'
            generalize w4.drewN nq = w5 at *
            have HRA := Lib.hid (HRD4.out.alloc (.cells #[.int .u16 (d1 : Int), .int .u64 (d2 : Int)] 28))
            have hLD := Dt.lies_one w5 (d1, d2)
            simp only at hLD
            have HLD := Lib.hid hLD
            have HLO : Hid (ml + 1 ≤ 8796093022208) := Lib.hid (by omega)
            have HBA : Hid (w2.heap.size ≤ (w5.alloc (.cells #[.int .u16 (d1 : Int), .int .u64 (d2 : Int)] 28)).heap.size) := Lib.hid HRA.out.bel.size
            clear hLD
            go_wp2_with (at_builtin; refine wpList_any5 rfl (.tmp 31) (.tmp 33) rfl rfl _ w2.heap.size ml (.slice AL ml cl) ((S.take k).filter (fun d => !h d)) (some ⟨w5.heap.size, 0, none⟩) [(d1, d2)] 1 1 rfl rfl HRA.out.own (fun h => by cases h) HLD.out rfl HLO.out HBA.out ?_; intro A6 c6 w6 ho6 hg6 h6
                         have HR6 := Lib.hid (HRA.out.more ho6 hg6)
                         clear ho6 hg6 h6)
            go_roundw
            case rel => exact ⟨k + 1, z + 1, c, some ad9, _, ml + 1, c6, A6, by omega, by go_num, rfl, rfl, HNR.out, by simpa using hzl, hmc, hcm, HRD.out, by rw [HRP.out]; exact HR6.out⟩
            case measure => simp [intOf]; omega
    · obtain rfl : k = n3 := by omega
      have e : S.take k = S := List.take_of_length_le (by rw [HS3.out.len]; exact Nat.le_refl _)
      rw [e] at HR
      have hml : ml ≤ 1024 := by
        rw [← HR.out.len]
        exact Nat.le_trans (List.length_filter_le _ _) HSL.out
      have HD := Lib.hid (own_dots' HR.out.own (fun r hr => HS3.out.dots.1 r (List.mem_filter.1 hr).1) (by omega))
      have HF := Lib.hid (own_far HR.out.own)
      clear e hrest
      go_wp2
      go_ret
      exact ⟨AL, ml, cl, rfl, by rw [HSS.out]; exact HD.out, (fun h0 ad e => Nat.le_trans HB2.out.size (HF.out h0 ad e)), HB2.out.trans (HR.out.bel.mono HB2.out.size)⟩
end Go.Proofs.YtmebokpgiehgmaaGreat.Kl

/- The contract of the program's Strip of layer kills (gen-pstrip.py printed it). For every event and every context. -/
namespace Go.Proofs.YtmebokpgiehgmaaGreat.Kl
open Go.ChangeShapes Go.WideShapes Go.ChangeAt Go.RowKit
set_option linter.unusedVariables false
set_option maxRecDepth 4000

theorem ev_set {w : World} {q : Ev.EV} {x : Ev.Evt} {g : Nat} (h : Ev.EventIs w w.heap.size q x) (hf : 0 < q.len → ∀ ad : Addr, q.adr = some ad → ad.block ≠ g) (i : Nat) (u : Value) : Ev.EventIs (w.setCell ⟨g, i, none⟩ u) (w.setCell ⟨g, i, none⟩ u).heap.size q x :=
  ⟨h.dev, h.num, h.kind, h.cid, h.fld, h.txt, h.fits, dots_set h.kills hf i u⟩
theorem strip_is {V : World} {q : Ev.EV} {x : Ev.Evt} {g : Nat} (h : Ev.EventIs V V.heap.size q x) (hf : 0 < q.len → ∀ ad : Addr, q.adr = some ad → ad.block ≠ g) (u0 u1 u2 u3 u4 u5 u6 : Value) : Ev.EventIs (((((((V.setCell ⟨g, 0, none⟩ u0).setCell ⟨g, 1, none⟩ u1).setCell ⟨g, 2, none⟩ u2).setCell ⟨g, 3, none⟩ u3).setCell ⟨g, 4, none⟩ u4).setCell ⟨g, 5, none⟩ u5).setCell ⟨g, 6, none⟩ u6) (((((((V.setCell ⟨g, 0, none⟩ u0).setCell ⟨g, 1, none⟩ u1).setCell ⟨g, 2, none⟩ u2).setCell ⟨g, 3, none⟩ u3).setCell ⟨g, 4, none⟩ u4).setCell ⟨g, 5, none⟩ u5).setCell ⟨g, 6, none⟩ u6).heap.size q x :=
  ev_set (ev_set (ev_set (ev_set (ev_set (ev_set (ev_set h hf 0 u0) hf 1 u1) hf 2 u2) hf 3 u3) hf 4 u4) hf 5 u5) hf 6 u6

set_option maxHeartbeats 8000000 in
theorem pstrip_any (w : World) (A2 : Option Addr) (q : Ev.EV) (e : Ev.Evt) (x : List Cx.Part) (n2 c2 : Nat) (hq : Ev.EventIs w w.heap.size q e) (hx : Cx.CtxAt w A2 x n2 c2) :
    Calls Tryz.prog 15 #[q.val, .slice A2 n2 c2] w (OnePost w (stripE x e)) := by
  have hdot := Ev.is_dot hq
  have hfd := hq.fits.dot
  rw [hdot] at hfd
  have HS : Hid (stripE x e = if Cx.hasC x (q.dev, q.num) = true then ⟨e.dot, e.kind, e.cid, e.fld, e.txt, []⟩ else e) := Lib.hid (by unfold stripE; rw [hdot])
  have HQ := Lib.hid hq
  have HB := Lib.hid (Ev.bel_alloc (.cells zcells 30) (Ev.below_new w (.cells (ebox q) 30)))
  have HX := Lib.hid (hx.up HB.out)
  have R0 : Hid (At ((w.alloc (.cells (ebox q) 30)).alloc (.cells zcells 30)) w.heap.size 30 (ebox q)) := Lib.hid ((At.new w _ _).below (Ev.below_new _ _) (by simp))
  have R1 : Hid (At ((w.alloc (.cells (ebox q) 30)).alloc (.cells zcells 30)) (w.heap.size + 1) 30 zcells) := Lib.hid (by have h := At.new (w.alloc (.cells (ebox q) 30)) 30 zcells; rw [Ev.alloc_size] at h; exact h)
  have CH := Cx.phas_any _ A2 x n2 c2 (q.dev, q.num) HX.out hfd
  simp only [Ev.EV.val]
  obtain ⟨v, hv⟩ : ∃ v, stripE x e = v := ⟨_, rfl⟩
  rw [hv] at HS ⊢
  clear hq hx hdot hfd hv HX
  go_enter Tryz.func15, Tryz.ntmps15
  go_upto_region 1 with fail
  generalize (w.alloc (.cells (ebox q) 30)).alloc (.cells zcells 30) = w2 at *
  obtain ⟨x0, x1, x2, x3, x4, x5, x6⟩ := ev_cells R0.out
  have hlt0 := R0.out.lt
  have hlt1 := R1.out.lt
  cases hb : Cx.hasC x (q.dev, q.num) with
  | true =>
    rw [hb] at CH
    have HV : Hid (v = ⟨e.dot, e.kind, e.cid, e.fld, e.txt, []⟩) := Lib.hid (by rw [HS.out, hb, if_pos rfl])
    go_wp2_with fail
    refine CH.mono ?_
    rintro r V ⟨rfl, hbV⟩
    have S0 := Lib.hid (R0.out.below hbV hlt0)
    have S1 := Lib.hid (R1.out.below hbV hlt1)
    have HW := Lib.hid (HB.out.trans (hbV.mono HB.out.size))
    clear x0 x1 x2 x3 x4 x5 x6 CH hbV R0 R1 HB
    have t6 := S0.out.cell 6
    have g6 := S0.out.frozen 6
    simp at t6
    have W0 : Hid (At (V.setCell ⟨w.heap.size, 6, none⟩ (.slice none 0 0)) w.heap.size 30 (ebox ⟨q.dev, q.num, q.kind, q.cid, q.fld, q.txt, none, 0, 0⟩)) := Lib.hid (S0.out.set 6 (.slice none 0 0))
    have W1 : Hid (At (V.setCell ⟨w.heap.size, 6, none⟩ (.slice none 0 0)) (w.heap.size + 1) 30 zcells) := Lib.hid (S1.out.other (by omega) (.slice none 0 0))
    have HW1 : Hid (Below w.heap.size w (V.setCell ⟨w.heap.size, 6, none⟩ (.slice none 0 0))) := Lib.hid (bel_set HW.out (Nat.le_refl _) _)
    clear S0 S1 HW
    go_upto_region 3 with fail
    generalize V.setCell ⟨w.heap.size, 6, none⟩ (.slice none 0 0) = V1 at *
    clear t6 g6
    obtain ⟨x0, x1, x2, x3, x4, x5, x6⟩ := ev_cells W0.out
    have CP := Ev.pcopy_any V1 ⟨q.dev, q.num, q.kind, q.cid, q.fld, q.txt, none, 0, 0⟩ ⟨e.dot, e.kind, e.cid, e.fld, e.txt, []⟩ (ev_bare (HQ.out.up HW1.out))
    simp only [Ev.EV.val] at CP
    go_wp2_with fail
    refine CP.mono ?_
    rintro r V2 ⟨q2, rfl, i2, f2, b2⟩
    have R2 := Lib.hid (W1.out.below b2 W1.out.lt)
    have HW2 := Lib.hid (HW1.out.trans (b2.mono HW1.out.size))
    have hlt2 := W1.out.lt
    have FF := Lib.hid (free_far f2 (Nat.le_refl _))
    have I2 := Lib.hid i2
    clear CP i2 f2 b2 x0 x1 x2 x3 x4 x5 x6
    have Q1 := R2.out.set 0 (.int .u16 (q2.dev : Int))
    have Q2 := Q1.set 1 (.int .u64 (q2.num : Int))
    have Q3 := Q2.set 2 (.int .u8 (q2.kind : Int))
    have Q4 := Q3.set 3 (.int .u64 (q2.cid : Int))
    have Q5 := Q4.set 4 (.int .u8 (q2.fld : Int))
    have Q6 := Q5.set 5 (.string q2.txt)
    have Q7 := Q6.set 6 (.slice q2.adr q2.len q2.cap)
    have z0 := R2.out.cell 0
    have f0 := R2.out.frozen 0
    have z1 := Q1.cell 1
    have f1 := Q1.frozen 1
    have z2 := Q2.cell 2
    have f2 := Q2.frozen 2
    have z3 := Q3.cell 3
    have f3 := Q3.frozen 3
    have z4 := Q4.cell 4
    have f4 := Q4.frozen 4
    have z5 := Q5.cell 5
    have f5 := Q5.frozen 5
    have z6 := Q6.cell 6
    have f6 := Q6.frozen 6
    have y0 := Q7.cell 0
    have y1 := Q7.cell 1
    have y2 := Q7.cell 2
    have y3 := Q7.cell 3
    have y4 := Q7.cell 4
    have y5 := Q7.cell 5
    have y6 := Q7.cell 6
    simp at z0 z1 z2 z3 z4 z5 z6 y0 y1 y2 y3 y4 y5 y6
    clear Q1 Q2 Q3 Q4 Q5 Q6 Q7
    have HF := Lib.hid (strip_done HW2.out (.int .u16 (q2.dev : Int)) (.int .u64 (q2.num : Int)) (.int .u8 (q2.kind : Int)) (.int .u64 (q2.cid : Int)) (.int .u8 (q2.fld : Int)) (.string q2.txt) (.slice q2.adr q2.len q2.cap))
    have HI := Lib.hid (strip_is (g := w.heap.size + 1) I2.out (fun h0 ad e => by have := FF.out h0 ad e; omega) (.int .u16 (q2.dev : Int)) (.int .u64 (q2.num : Int)) (.int .u8 (q2.kind : Int)) (.int .u64 (q2.cid : Int)) (.int .u8 (q2.fld : Int)) (.string q2.txt) (.slice q2.adr q2.len q2.cap))
    go_wp2
    refine bodyPost_ret (v := q2.val) ?_ rfl ?_
    · simp [results, Tryz.f15, go_sem, y0, y1, y2, y3, y4, y5, y6]
    · rw [HV.out]
      exact ⟨q2, rfl, HI.out, HF.out⟩
  | false =>
    rw [hb] at CH
    have HV : Hid (v = e) := Lib.hid (by rw [HS.out, hb, if_neg (by simp)])
    go_wp2_with fail
    refine CH.mono ?_
    rintro r V ⟨rfl, hbV⟩
    have S0 := Lib.hid (R0.out.below hbV hlt0)
    have S1 := Lib.hid (R1.out.below hbV hlt1)
    have HW := Lib.hid (HB.out.trans (hbV.mono HB.out.size))
    clear x0 x1 x2 x3 x4 x5 x6 CH hbV R0 R1 HB
    obtain ⟨x0, x1, x2, x3, x4, x5, x6⟩ := ev_cells S0.out
    have CP := Ev.pcopy_any V q e (HQ.out.up HW.out)
    simp only [Ev.EV.val] at CP
    go_wp2_with fail
    refine CP.mono ?_
    rintro r V2 ⟨q2, rfl, i2, f2, b2⟩
    have R2 := Lib.hid (S1.out.below b2 S1.out.lt)
    have HW2 := Lib.hid (HW.out.trans (b2.mono HW.out.size))
    have hlt2 := S1.out.lt
    have FF := Lib.hid (free_far f2 (Nat.le_refl _))
    have I2 := Lib.hid i2
    clear CP i2 f2 b2 x0 x1 x2 x3 x4 x5 x6
    have Q1 := R2.out.set 0 (.int .u16 (q2.dev : Int))
    have Q2 := Q1.set 1 (.int .u64 (q2.num : Int))
    have Q3 := Q2.set 2 (.int .u8 (q2.kind : Int))
    have Q4 := Q3.set 3 (.int .u64 (q2.cid : Int))
    have Q5 := Q4.set 4 (.int .u8 (q2.fld : Int))
    have Q6 := Q5.set 5 (.string q2.txt)
    have Q7 := Q6.set 6 (.slice q2.adr q2.len q2.cap)
    have z0 := R2.out.cell 0
    have f0 := R2.out.frozen 0
    have z1 := Q1.cell 1
    have f1 := Q1.frozen 1
    have z2 := Q2.cell 2
    have f2 := Q2.frozen 2
    have z3 := Q3.cell 3
    have f3 := Q3.frozen 3
    have z4 := Q4.cell 4
    have f4 := Q4.frozen 4
    have z5 := Q5.cell 5
    have f5 := Q5.frozen 5
    have z6 := Q6.cell 6
    have f6 := Q6.frozen 6
    have y0 := Q7.cell 0
    have y1 := Q7.cell 1
    have y2 := Q7.cell 2
    have y3 := Q7.cell 3
    have y4 := Q7.cell 4
    have y5 := Q7.cell 5
    have y6 := Q7.cell 6
    simp at z0 z1 z2 z3 z4 z5 z6 y0 y1 y2 y3 y4 y5 y6
    clear Q1 Q2 Q3 Q4 Q5 Q6 Q7
    have HF := Lib.hid (strip_done HW2.out (.int .u16 (q2.dev : Int)) (.int .u64 (q2.num : Int)) (.int .u8 (q2.kind : Int)) (.int .u64 (q2.cid : Int)) (.int .u8 (q2.fld : Int)) (.string q2.txt) (.slice q2.adr q2.len q2.cap))
    have HI := Lib.hid (strip_is (g := w.heap.size + 1) I2.out (fun h0 ad e => by have := FF.out h0 ad e; omega) (.int .u16 (q2.dev : Int)) (.int .u64 (q2.num : Int)) (.int .u8 (q2.kind : Int)) (.int .u64 (q2.cid : Int)) (.int .u8 (q2.fld : Int)) (.string q2.txt) (.slice q2.adr q2.len q2.cap))
    go_wp2
    refine bodyPost_ret (v := q2.val) ?_ rfl ?_
    · simp [results, Tryz.f15, go_sem, y0, y1, y2, y3, y4, y5, y6]
    · rw [HV.out]
      exact ⟨q2, rfl, HI.out, HF.out⟩
end Go.Proofs.YtmebokpgiehgmaaGreat.Kl

/- What the walks of layer kills ask, of the program's own functions. -/
namespace Go.Proofs.YtmebokpgiehgmaaGreat.Kl
open Go.ChangeShapes Go.WideShapes Go.ChangeAt Go.RowKit
set_option linter.unusedVariables false

theorem pkl : PKl where
  editF := fun w A l n c cid f h hn hk _ _ => pedit_any w A l n c cid f h hn hk
  liveF := fun w A l n c h hn hk => plive_any w A l n c h hn hk
  keep := fun w A A2 l x n c n2 c2 h hx hn hf => (pkeep_any w A A2 l x n c n2 c2 h hx hn hf).mono fun _ _ h => h.post
  drop := fun w A A2 l x n c n2 c2 h hx hn hf => (pdrop_any w A A2 l x n c n2 c2 h hx hn hf).mono fun _ _ h => h.post
  strip := fun w A2 q e x n2 c2 h hx _ _ => pstrip_any w A2 q e x n2 c2 h hx
end Go.Proofs.YtmebokpgiehgmaaGreat.Kl
