/- Words and contracts that the proofs of this seat stand on, part 28 of 28. -/
import Derived.Test.YtgaegfddobpomaaGreatFrU
import Derived.Test.YtgaegfddobpomaaGreatFrBA
import Derived.Test.YtgaegfddobpomaaGreatFrP
import Derived.Test.YtgaegfddobpomaaGreatFrY
import Derived.Test.YtgaegfddobpomaaGreatFrG
import Derived.Test.YtgaegfddobpomaaGreatFrL
import Derived.Test.YtgaegfddobpomaaGreatFrX
import Derived.Test.YtgaegfddobpomaaGreatFrV
import Derived.Test.YtgaegfddobpomaaGreatFrW
import Derived.Test.YtgaegfddobpomaaGreatFrO

namespace Go.Proofs.YtgaegfddobpomaaGreat.Ev
open Go.ChangeShapes Go.WideShapes Go.ChangeAt Go.RowKit
set_option linter.unusedVariables false
set_option maxRecDepth 4000
def RowPost (w : World) (n : Nat) (l : List Evt) (e : Ending) (w' : World) : Prop :=
 (e = .returned (.slice none 0 0) ∧ sortE l = [] ∧ Below w.heap.size w w') ∨
 ∃ (g m c : Nat) (ps : List EV), e = .returned (.slice (some ⟨g, 0, none⟩) m c) ∧ w.heap.size ≤ g ∧ (sortE l).length = m ∧ m ≤ n ∧ m ≤ c ∧ c ≤ 9223372036854775807 ∧ Copied w g m (sortE l) m ps w'
set_option maxHeartbeats 8000000 in
theorem psortE_row (w : World) (A : Option Addr) (l : List Evt) (n c : Nat) (h : EventsAt w w.heap.size A l n c) (h40 : n ≤ 1099511627776) : Calls Tryz.prog 63 #[.slice A n c] w (RowPost w n l) := by
 obtain ⟨ps, hlies, hmatch⟩ := h.evts
 obtain ⟨Z, rfl, hZl⟩ := zip_of ps l hmatch
 have hZn : Z.length = n := by rw [← h.len, ← hZl, List.length_map]
 have HZ : Hid (∀ a ∈ Z, EventIs w w.heap.size a.1 a.2) := Lib.hid (fun a ha => by
   obtain ⟨j, hj, rfl⟩ := List.getElem_of_mem ha
   exact hmatch.2 j _ _ (by simp [hj]) (by rw [← hZl]; simp [hj]))
 have C1 := pcloneE w A (Z.map PE.fst) n c (by rw [List.length_map, hZn]) h.nil hlies (by omega)
 have HL := Lib.hid hZl
 have HN := Lib.hid hZn
 have hwide := h.wide
 clear h hlies hmatch hZl hZn
 go_enter Tryz.func63, Tryz.ntmps63
 go_wp2_with fail
 refine C1.mono ?_
 rintro e w1 ⟨A1, c1, rfl, ho, hb⟩
 clear C1
 have HO := Lib.hid ho
 have HB := Lib.hid hb
 rcases ho.2 with ⟨e0, rfl⟩ | ⟨g, cap, _, e0, hg, hheap, hcap, hmax, _⟩
 · cases e0
   have hz : Z = [] := List.eq_nil_of_length_eq_zero HN.out
   have hl : l = [] := by rw [← HL.out, hz]; rfl
   subst hl
   have C2 := nil_sort w1 (.func (.func 107) #[] #[])
   have C3 := nil_comp w1 (.func (.func 109) #[] #[])
   clear ho hb
   go_wp2_with fail
   refine C2.mono ?_
   rintro e w2 ⟨rfl, rfl⟩
   go_wp2_with fail
   refine C3.mono ?_
   rintro e w3 ⟨rfl, rfl⟩
   clear C2 C3
   go_wp2
   refine wp_loop_rounds 1 ?_
   rw [rounds_succ]
   go_wp2
   go_ret
   exact .inl ⟨rfl, rfl, HB.out⟩
 · cases e0
   have hlt : g < w1.heap.size := (Array.getElem?_eq_some_iff.1 hheap).1
   obtain ⟨hH, _⟩ := own_holds HN.out HO.out (.inr hlt)
   have R := rowP hH hlt
   have C2 := sorted_row (cap := c1) R (by rw [HN.out]; omega)
   rw [HN.out] at C2
   have HR := Lib.hid R
   have HG := Lib.hid hg
   clear ho hb hheap hH R
   go_wp2_with fail
   refine C2.mono ?_
   rintro e w2 ⟨rfl, d1, hs1, hw1, hm1⟩
   have hs1 : d1.size = n := by rw [hs1]; simpa using HN.out
   have C3 := compact_row (cap := c1) HR.out (by rw [HN.out]; omega) (by rw [HN.out]; exact hcap) (by rw [HN.out]; exact hs1) hw1
   rw [HN.out] at C3
   have HM1 := Lib.hid hm1
   clear C2 hw1 hm1
   go_wp2_with fail
   refine C3.mono ?_
   rintro e w3 ⟨m, d2, hm, rfl, hs2, hw2, hf⟩
   obtain ⟨hlen, hcp⟩ := copied_start HL.out HZ.out HG.out HB.out HR.out (by rw [HN.out]; exact hs1) (by rw [HN.out]; exact HM1.out) hm hs2 hw2 hf
   have hmn : m ≤ n := by omega
   have HLEN := Lib.hid hlen
   have HCP := Lib.hid hcp
   clear C3 hw2 hf hlen hcp
   go_wp2
   go_loopw [13] (fun vi wr => ∃ (k : Nat) (ps : List EV), vi = .int .i64 (k : Int) ∧ k ≤ m ∧ Copied w g m (sortE l) k ps wr) (fun vi _ => m - (intOf vi).toNat)
   case atStart => exact ⟨0, _, by go_num, Nat.zero_le _, HCP.out⟩
   case round =>
     obtain ⟨k, ps2, rfl, hk, hcp⟩ := hrel
     have HC := Lib.hid hcp
     by_cases hlt2 : k < m
     · have hz : (k : Int) < (m : Int) := by omega
       have hkp : k < ps2.length := by rw [hcp.len]; exact hlt2
       have hkl : k < (sortE l).length := by rw [HLEN.out]; exact hlt2
       have hp := List.getElem?_eq_getElem hkp
       have hx := List.getElem?_eq_getElem hkl
       obtain ⟨c0, c1', c2, c3, c4, c5, c6⟩ := hcp.row.cell k _ hp
       have hold := (hcp.old k _ _ (Nat.le_refl _) hp hx).up hcp.bel
       have CC := pcopy_any wr _ _ hold
       have HX := Lib.hid hx
       have hfr := fun (w4 : World) (hb : Below wr.heap.size wr w4) => (hcp.row.below hb).free k _ hp
       have hct := fun (w4 : World) (hb : Below wr.heap.size wr w4) => (hcp.row.below hb).cell k _ hp
       have HFR := Lib.hid hfr
       have HCT := Lib.hid hct
       generalize ps2[k] = p at CC c0 c1' c2 c3 c4 c5 c6 HFR HCT
       obtain ⟨p1, p2, p3, p4, p5, p6, pA, pn, pc⟩ := p
       simp only [EV.val] at CC
       simp only at c0 c1' c2 c3 c4 c5 c6
       clear hp hx hold hfr hct hcp
       go_wp2_with fail
       refine CC.mono ?_
       rintro e w4 ⟨q, rfl, hq, hfq, hbq⟩
       have HN4 := Lib.hid (HC.out.next HG.out hlt2 HX.out hq hfq hbq)
       have f0 := HFR.out w4 hbq 0 (by omega)
       have f1 := HFR.out w4 hbq 1 (by omega)
       have f2 := HFR.out w4 hbq 2 (by omega)
       have f3 := HFR.out w4 hbq 3 (by omega)
       have f4 := HFR.out w4 hbq 4 (by omega)
       have f5 := HFR.out w4 hbq 5 (by omega)
       have f6 := HFR.out w4 hbq 6 (by omega)
       obtain ⟨d0, d1', d2', d3, d4, d5, d6⟩ := HCT.out w4 hbq
       simp only [Nat.add_zero] at f0
       obtain ⟨q1, q2, q3, q4, q5, q6, qA, qn, qc⟩ := q
       rw [putAt_eq] at HN4
       simp only [EV.val]
       simp only at HN4 d0 d1' d2' d3 d4 d5 d6
       clear CC hq hfq hbq HFR HCT c0 c1' c2 c3 c4 c5 c6
       go_wp2
       go_roundw
       case rel => exact ⟨k + 1, _, by go_num, by omega, HN4.out⟩
       case measure => simp [intOf]; omega
     · obtain rfl : k = m := by omega
       go_wp2
       go_ret
       exact .inr ⟨g, k, c1, ps2, rfl, HG.out, HLEN.out, hmn, by omega, hmax, HC.out⟩
end Go.Proofs.YtgaegfddobpomaaGreat.Ev

namespace Go.Proofs.YtgaegfddobpomaaGreat.Kl
open Go.ChangeShapes Go.WideShapes Go.ChangeAt Go.RowKit
set_option linter.unusedVariables false
set_option maxRecDepth 4000
theorem dots_grown {w W : World} {A : Option Addr} {l : List Dt.Dot} {n c g : Nat} (h : Ev.DotsAt w w.heap.size A l n c) (hg : w.grownBy W (some g)) (ho : Ev.Off g A n) : Ev.DotsAt W W.heap.size A l n c := by
 refine ⟨h.len, h.nil, h.cap, h.max, h.wide, h.dots.1, fun hl => ?_⟩
 obtain ⟨ad, e, hB, hc⟩ := h.dots.2 hl
 have h0 : 0 < n := by rw [Dt.dv_length, h.len] at hl; omega
 exact ⟨ad, e, Nat.lt_of_lt_of_le hB hg.size, fun j u hu => (hg.cell_far _ (by rw [Ev.block_add]; exact hB) (by rw [Ev.block_add]; intro e2; cases e2; exact ho ad e h0 rfl)).trans (hc j u hu)⟩
theorem match_grown {w W : World} {ps : List Ev.EV} {l : List Ev.Evt} {g : Nat} (h : Ev.Match w w.heap.size ps l) (hg : w.grownBy W (some g)) (ho : ∀ q ∈ ps, Ev.Off g q.adr q.len) : Ev.Match W W.heap.size ps l :=
 ⟨h.1, fun k p x hp hx => by
   have q := h.2 k p x hp hx
   exact ⟨q.dev, q.num, q.kind, q.cid, q.fld, q.txt, q.fits, dots_grown q.kills hg (ho p (List.mem_of_getElem? hp))⟩⟩
theorem say_next (s : Dt.Dot → Bool) (l : List Dt.Dot) {j : Nat} {d : Dt.Dot} (h : l[j]? = some d) : (fun e => decide (e = d) || (s e || decide (e ∈ l.take j))) = fun e => s e || decide (e ∈ l.take (j + 1)) := by
 funext e
 rw [Ev.take_one h, Bool.eq_iff_iff]
 simp only [Bool.or_eq_true, decide_eq_true_eq, List.mem_append, List.mem_singleton]
 constructor
 · rintro (h | h | h)
   · exact .inr (.inr h)
   · exact .inl h
   · exact .inr (.inl h)
 · rintro (h | h | h)
   · exact .inr (.inl h)
   · exact .inr (.inr h)
   · exact .inl h
theorem say_all {l : List Ev.Evt} {k : Nat} {y : Ev.Evt} (h : l[k]? = some y) {n : Nat} (hn : y.kills.length = n) : (fun e => deadB (l.take k) e || decide (e ∈ y.kills.take n)) = fun e => deadB (l.take (k + 1)) e := by
 funext e
 rw [dead_next e h, List.take_of_length_le (l := y.kills) (by omega)]
theorem sort_sub {l : List Ev.Evt} {x : Ev.Evt} (h : x ∈ Ev.sortE l) : x ∈ l := by
 obtain ⟨j, hj, _⟩ := (Ev.sort_mem l x).1 h
 exact List.mem_of_getElem? hj
set_option maxHeartbeats 8000000 in
theorem plive_any (w : World) (A0 : Option Addr) (l0 : List Ev.Evt) (n0 c0 : Nat) (hl : Ev.EventsAt w w.heap.size A0 l0 n0 c0) (h10 : n0 ≤ 1024) (hk : ∀ x ∈ l0, x.kills.length ≤ 65536) :
   Calls Tryz.prog 112 #[.slice A0 n0 c0] w (EvFar w (liveE l0)) := by
 have hmm := @run_makeMap Tryz.prog
 have CS := Ev.psortE_row w A0 l0 n0 c0 hl (by omega)
 have HE : Hid (liveE l0 = (Ev.sortE l0).filter (liveB (Ev.sortE l0))) := Lib.hid rfl
 have HK := Lib.hid (fun x (hx : x ∈ Ev.sortE l0) => hk x (sort_sub hx))
 unfold Ev.RowPost at CS
 generalize Ev.sortE l0 = l at *
 generalize liveE l0 = out at *
 clear hl hk
 go_enter Tryz.func112, Tryz.ntmps112
 go_wp2_with fail
 refine CS.mono ?_
 rintro e w1 hpost
 clear CS
 have hbn : Below w1.heap.size w1 ((w1.alloc (.map #[] 0)).alloc (.cells #[.map (some w1.heap.size)] 162)) := Ev.below_new2 _ _ _
 have hmd : MapD ((w1.alloc (.map #[] 0)).alloc (.cells #[.map (some w1.heap.size)] 162)) w1.heap.size 0 (fun _ => false) := (mapD_new w1).up (Ev.below_new _ _)
 have hbox : ((w1.alloc (.map #[] 0)).alloc (.cells #[.map (some w1.heap.size)] 162)).cell? ⟨w1.heap.size + 1, 0, none⟩ = some (.map (some w1.heap.size)) := by simp [go_sem]
 have HBN := Lib.hid hbn
 have HMD := Lib.hid hmd
 have HBOX := Lib.hid hbox
 clear hbn hmd hbox
 rcases hpost with ⟨rfl, rfl, hb1⟩ | ⟨g, m, c, ps, rfl, hg, hlen, hmn, hmc, hcm, hcp⟩
 · have HB1 := Lib.hid hb1
   have CD := fun W => nil_delF W 148 #[.pointer (some ⟨w1.heap.size + 1, 0, none⟩)]
   clear hb1
   go_wp2
   generalize (w1.alloc (.map #[] 0)).alloc (.cells #[.map (some w1.heap.size)] 162) = w3 at *
   refine wp_loop_rounds 1 ?_
   rw [rounds_succ]
   go_wp2_with fail
   refine (CD w3).mono ?_
   rintro e w4 ⟨rfl, rfl⟩
   have HW := Lib.hid (HB1.out.trans (HBN.out.mono HB1.out.size))
   clear CD
   go_wp2
   go_ret
   rw [HE.out]
   exact ⟨none, 0, 0, rfl, ⟨Ev.EventsAt.none_ _ _, [], Dt.Lies.none_ _ _ _, Ev.Match.nil_ _ _, (fun p hp => by cases hp), (fun h => absurd h (by omega))⟩, HW.out⟩
 · have HCP := Lib.hid hcp
   have HG := Lib.hid hg
   have HLEN := Lib.hid hlen
   have HPL : Hid (ps.length = m) := Lib.hid hcp.len
   have HLT : Hid (g < w1.heap.size) := Lib.hid hcp.row.lt
   have HMT : Hid (Ev.Match w1 w1.heap.size ps l) := Lib.hid ⟨by rw [hcp.len, hlen], fun k p x hp hx => (hcp.new k p x (by have := (List.getElem?_eq_some_iff.1 hp).1; rw [hcp.len] at this; exact this) hp hx).1⟩
   have HOF : Hid (∀ q ∈ ps, Ev.Off g q.adr q.len ∧ (0 < q.len → ∀ ad : Addr, q.adr = some ad → w.heap.size ≤ ad.block) ∧ q.dev < 65536 ∧ q.num < 18446744073709551616) := Lib.hid (fun q hq => by
     obtain ⟨k, hk, rfl⟩ := List.getElem_of_mem hq
     have hkl : k < l.length := by rw [hlen, ← hcp.len]; exact hk
     obtain ⟨h1, h2, h3⟩ := hcp.new k _ _ (by rw [← hcp.len]; exact hk) (List.getElem?_eq_getElem hk) (List.getElem?_eq_getElem hkl)
     exact ⟨h3, free_far h2 (Nat.le_refl _), by rw [h1.dev]; exact h1.fits.dot.1, by rw [h1.num]; exact h1.fits.dot.2⟩)
   have hm10 : m ≤ 1024 := by omega
   clear hcp hg hlen
   go_wp2
   generalize hw3 : (w1.alloc (.map #[] 0)).alloc (.cells #[.map (some w1.heap.size)] 162) = w3 at *
   clear hw3
   go_loopw [14] (fun vi wr => ∃ k N : Nat, k ≤ m ∧ vi = .int .i64 (k : Int) ∧ N ≤ k * 65536 ∧ MapD wr w1.heap.size N (fun d => deadB (l.take k) d) ∧ Below w1.heap.size w1 wr ∧ wr.cell? ⟨w1.heap.size + 1, 0, none⟩ = some (.map (some w1.heap.size))) (fun vi _ => m - (intOf vi).toNat)
   case atStart => exact ⟨0, 0, Nat.zero_le _, rfl, Nat.le_refl _, by
     have e : (fun d => deadB (l.take 0) d) = fun _ => false := by funext d; simp [deadB]
     rw [e]; exact HMD.out, HBN.out, HBOX.out⟩
   case round =>
     obtain ⟨k, N, hk, rfl, hN, hmd, hbw, hbox⟩ := hrel
     have HMK := Lib.hid hmd
     have HBW := Lib.hid hbw
     have HBK := Lib.hid hbox
     clear hmd hbw hbox
     by_cases hlt : k < m
     · have hkp : k < ps.length := by rw [HPL.out]; exact hlt
       have hkl : k < l.length := by rw [HLEN.out]; exact hlt
       obtain ⟨q, hq⟩ : ∃ q, ps[k]? = some q := ⟨_, List.getElem?_eq_getElem hkp⟩
       obtain ⟨y, hy⟩ : ∃ y, l[k]? = some y := ⟨_, List.getElem?_eq_getElem hkl⟩
       have hqy := HMT.out.2 k q y hq hy
       have hyk : y.kills.length ≤ 65536 := HK.out y (List.mem_of_getElem? hy)
       obtain ⟨e0, e1, e2, e3, e4, e5, e6⟩ := (HCP.out.row.below HBW.out).cell k q hq
       have HDS := Lib.hid hqy.kills
       have hln := hqy.kills.len
       have HY := Lib.hid hy
       have hb4 := Ev.below_new wr q.box
       have HB4 := Lib.hid (HBW.out.trans (hb4.mono HBW.out.size))
       have HM4 := Lib.hid (HMK.out.up hb4)
       have HK4 := Lib.hid (Ev.stays hb4 HBK.out)
       have hbx := (Ev.box_new wr q _ (Below.refl _ _)).all
       obtain ⟨q1, q2, q3, q4, q5, q6, qA, qn, qc⟩ := q
       simp only [Ev.EV.box] at hbx HB4 HM4 HK4 HDS hln
       simp only at e0 e1 e2 e3 e4 e5 e6
       obtain ⟨x0, x1, x2, x3, x4, x5, x6⟩ := hbx
       clear hq hy hqy hb4 HBW HMK HBK hkp hkl
       go_wp2
       generalize wr.alloc (.cells #[.int .u16 (q1 : Int), .int .u64 (q2 : Int), .int .u8 (q3 : Int), .int .u64 (q4 : Int), .int .u8 (q5 : Int), .string q6, .slice qA qn qc] 38) = w4 at *
       clear x0 x1 x2 x3 x4 x5 x6 e0 e1 e2 e3 e4 e5 e6
       go_loopw [21] (fun vj wr => ∃ j N2 : Nat, j ≤ qn ∧ vj = .int .i64 (j : Int) ∧ N2 ≤ N + j ∧ MapD wr w1.heap.size N2 (fun d => deadB (l.take k) d || decide (d ∈ y.kills.take j)) ∧ Below w1.heap.size w1 wr ∧ wr.cell? ⟨w1.heap.size + 1, 0, none⟩ = some (.map (some w1.heap.size))) (fun vj _ => qn - (intOf vj).toNat)
       case atStart => exact ⟨0, N, Nat.zero_le _, rfl, Nat.le_refl _, by
         have e : (fun d => deadB (l.take k) d || decide (d ∈ y.kills.take 0)) = fun d => deadB (l.take k) d := by funext d; simp
         rw [e]; exact HM4.out, HB4.out, HK4.out⟩
       case round =>
         obtain ⟨j, N2, hj, rfl, hN2, hmd, hbw, hbox⟩ := hrel
         have HMJ := Lib.hid hmd
         have HBJ := Lib.hid hbw
         have HKJ := Lib.hid hbox
         clear hmd hbw hbox
         by_cases hjl : j < qn
         · obtain ⟨ad, a1, a2, rfl, hlx, hx1, hx2, c1, c3⟩ := ((HDS.out.below HBJ.out).dots.at_ (k := j) (by rw [HDS.out.len]; exact hjl))
           have c3' : wr.cell? ⟨(ad.add (j * 2)).block, (ad.add (j * 2)).off + 1, none⟩ = some (.int .u64 (a2 : Int)) := by rw [Dt.add_next]; exact c3
           have hb5 := Ev.below_new wr (dbox (a1, a2))
           have HB5 := Lib.hid (HBJ.out.trans (hb5.mono HBJ.out.size))
           have HM5 := Lib.hid (HMJ.out.up hb5)
           have hk5 := Ev.stays hb5 HKJ.out
           have HK5 := Lib.hid hk5
           obtain ⟨z1, z2⟩ := dbox_cells wr _ (a1, a2) (Below.refl _ _)
           have HSAY := Lib.hid (say_next (fun d => deadB (l.take k) d) y.kills hlx)
           have hN5 : N2 ≤ 8796093022208 := by omega
           simp only [dbox] at HB5 HM5 HK5 hk5 z1 z2
           clear hb5 hlx c3 HKJ HBJ HMJ
           go_wp2_with (first
             | (at_mapUpdate; refine wpList_putD rfl _ _ _ rfl w1.heap.size N2 (fun d => deadB (l.take k) d || decide (d ∈ y.kills.take j)) (a1, a2) rfl HM5.out hN5 ⟨hx1, hx2⟩ rfl rfl ?_; intro w6 hm6 hg6
                have HM6 := Lib.hid hm6
                have HG6 := Lib.hid hg6
                clear hm6 hg6 c1 c3' z1 z2 hk5))
           have HB6 := Lib.hid (HB5.out.grown HG6.out HB5.out.size (fun i e => by cases e; exact Nat.le_refl _))
           have HK6 := Lib.hid (HG6.out.cell HK5.out (by simp))
           rw [HSAY.out] at HM6
           go_roundw
           case rel => exact ⟨j + 1, N2 + 1, by omega, by go_num, by omega, HM6.out, HB6.out, HK6.out⟩
           case measure => simp [intOf]; omega
         · obtain rfl : j = qn := by omega
           rw [say_all HY.out hln] at HMJ
           have hN3 : N2 ≤ (k + 1) * 65536 := by rw [hln] at hyk; omega
           go_wp2
           go_roundw
           case rel => exact ⟨k + 1, N2, by omega, by go_num, hN3, HMJ.out, HBJ.out, HKJ.out⟩
           case measure => simp [intOf]; omega
     · obtain rfl : k = m := by omega
       have htk : l.take k = l := List.take_of_length_le (by rw [HLEN.out]; exact Nat.le_refl _)
       rw [htk] at HMK
       have hgz : g < w1.heap.size := HLT.out
       have CD := pdelF wr g ps k c HPL.out (HCP.out.row.below HBW.out) hmc (by omega) hcm 148 #[.pointer (some ⟨w1.heap.size + 1, 0, none⟩)] (fun q => !((q.kind : Int) == 1) || deadB l (q.dev, q.num)) (enters_of Tryz.func148 (by kernel_rfl) rfl)
         (tells_live HBK.out HMK.out (by omega) (by omega) ps (fun q hq => (HOF.out q hq).2.2))
       clear htk hgz
       go_wp2_with fail
       refine CD.mono ?_
       rintro e w2 ⟨m2, hm2, rfl, hrow2, hg2⟩
       have hm3 := match_filter (w := w1) (B := w1.heap.size) (p := fun q => !(!((q.kind : Int) == 1) || deadB l (q.dev, q.num))) (f := liveB l) (fun q x h => by
         rw [eq_one, h.kind, ← Ev.is_dot h]; unfold liveB; simp) ps _ HMT.out
       rw [← HE.out] at hm3
       have hm4 := match_grown ((hm3.below HBW.out).more HBW.out.size) hg2 (fun q hq => (HOF.out q (List.mem_filter.1 hq).1).1)
       have hle : m2 ≤ k := by rw [← hm2, ← HPL.out]; exact List.length_filter_le _ _
       have hE := row_events hrow2 hm4 hm2 (by omega) hcm (by omega)
       have HFE : Hid (FarE w.heap.size w2 (some ⟨g, 0, none⟩) out m2 c) := Lib.hid ⟨hE, _, row_lies hrow2, hm4, (fun p hp => (HOF.out p (List.mem_filter.1 hp).1).2.1), (fun _ ad e => by cases e; exact HG.out)⟩
       have HBF := Lib.hid (bel_row (HCP.out.bel.trans (HBW.out.mono HCP.out.bel.size)) hg2 (Nat.le_trans HCP.out.bel.size HBW.out.size) HG.out)
       clear CD hm2 hrow2 hg2 hm3 hm4 hE
       go_wp2
       go_ret
       exact ⟨_, m2, c, rfl, HFE.out, HBF.out⟩
end Go.Proofs.YtgaegfddobpomaaGreat.Kl

namespace Go.Proofs.YtgaegfddobpomaaGreat.Bk
open Go.ChangeShapes Go.WideShapes Go.ChangeAt Go.RowKit Go.Proofs.YtgaegfddobpomaaGreat.Kl
set_option linter.unusedVariables false
set_option maxRecDepth 4000
def riseE (l : List Ev.Evt) : Bool := l.all Ev.goodE && Dt.riseB (l.map (·.dot))
noncomputable def standE (l : List Ev.Evt) : Bool := decide ((l.filter (kindB 1)).length = (liveE l).length)
set_option maxHeartbeats 8000000 in
theorem prise_is (w : World) (A0 : Option Addr) (l : List Ev.Evt) (n c0 : Nat) (hl : Ev.EventsAt w w.heap.size A0 l n c0) (hn : n ≤ 1024) :
   Calls Tryz.prog 65 #[.slice A0 n c0] w fun e w' => e = .returned (.bool (riseE l)) ∧ Below w.heap.size w w' := by
 have HL := Lib.hid hl
 have h63 : n ≤ 2199023255552 := hl.wide
 have hlen := hl.len
 have HLN := Lib.hid hlen
 clear hl hlen
 go_enter Tryz.func65, Tryz.ntmps65
 go_wp2_with fail
 go_loopw [3, 8] (fun v i wr => ∃ (k : Nat) (A : Option Addr) (c : Nat), k ≤ n ∧ i = .int .i64 (k : Int) ∧ v = .slice A k c ∧ (l.take k).all Ev.goodE = true ∧ wr.ownsRow w.heap.size 35 2 (.slice A k c) k (Dt.dv ((l.take k).map (·.dot))) ∧ Below w.heap.size w wr) (fun _ i _ => n - (intOf i).toNat)
 case atStart => exact ⟨0, none, 0, Nat.zero_le _, rfl, rfl, rfl, World.ownsRow_nil _ _ _ _, Below.refl _ _⟩
 case round =>
   obtain ⟨k, A, c, hk, rfl, rfl, hg, ho, hw⟩ := hrel
   have HO := Lib.hid ho
   have HW := Lib.hid hw
   have HG := Lib.hid hg
   by_cases hlt : k < n
   · obtain ⟨ad, p, x, rfl, hB, hly, hp, cp⟩ := HL.out.at_ hlt
     have cq := fun (a : Addr) (v : Value) (h : w.cell? a = some v) => (hw.cell (World.block_lt_of_cell? w _ h)).trans h
     have hz : (k : Int) < (n : Int) := by omega
     have HLY := Lib.hid hly
     have HTK := Lib.hid (Ev.take_one hly)
     have HD := Lib.hid (Ev.is_dot hp)
     have hb1 := Ev.below_new wr p.box
     have CG := Ev.pgoodE_any (wr.alloc p.box) p x ((hp.up hw).up hb1)
     have HA := Lib.hid (Ev.bel_alloc p.box hw)
     have HAT := Lib.hid (At.new wr 38 (ebox p))
     have HO1 := Lib.hid (ho.alloc p.box)
     have hbx := (Ev.box_new wr p _ (Below.refl _ _)).all
     obtain ⟨b, hgx⟩ : ∃ b, Ev.goodE x = b := ⟨_, rfl⟩
     rw [hgx] at CG
     have HGX := Lib.hid hgx
     obtain ⟨p1, p2, p3, p4, p5, p6, pA, pn, pc⟩ := p
     simp only [Ev.EV.box, Ev.EV.val, ebox] at HA CG hbx HAT HO1
     simp only at HD
     obtain ⟨x0, x1, x2, x3, x4, x5, x6⟩ := cp
     have x0 := cq _ _ x0
     have x1 := cq _ _ x1
     have x2 := cq _ _ x2
     have x3 := cq _ _ x3
     have x4 := cq _ _ x4
     have x5 := cq _ _ x5
     have x6 := cq _ _ x6
     obtain ⟨b0, b1', b2, b3, b4, b5, b6⟩ := hbx
     clear hly hp cq hgx hg ho hw hb1
     go_wp2_with fail
     refine CG.mono ?_
     rintro r w5 ⟨rfl, hb5⟩
     have HB5 := Lib.hid (HA.out.trans (hb5.mono HA.out.size))
     have HAT5 := Lib.hid (HAT.out.below hb5 HAT.out.lt)
     have HO5 := Lib.hid (Dt.own_kept HO1.out hb5)
     clear CG hb5 b0 b1' b2 b3 b4 b5 b6 x0 x1 x2 x3 x4 x5 x6 HA HAT HO1
     cases b with
     | false =>
       have HF : Hid (riseE l = false) := Lib.hid (by
         unfold riseE
         rw [List.all_eq_false.2 ⟨x, List.mem_of_getElem? HLY.out, by rw [HGX.out]; simp⟩, Bool.false_and])
       go_wp2
       go_ret
       exact ⟨Ev.ret_bool HF.out.symm, HB5.out⟩
     | true =>
       have hOB : (w5.alloc (.cells #[.int .u16 (p1 : Int), .int .u64 (p2 : Int)] 35)).ownsRow w.heap.size 35 2 (.slice A k c) k (Dt.dv ((l.take k).map (·.dot))) := HO5.out.alloc _
       have HOB := Lib.hid hOB
       have HB6 := Lib.hid (Ev.bel_alloc (.cells #[.int .u16 (p1 : Int), .int .u64 (p2 : Int)] 35) HB5.out)
       have HLIE : Hid (Dt.Lies (w5.alloc (.cells #[.int .u16 (p1 : Int), .int .u64 (p2 : Int)] 35)) (w5.alloc (.cells #[.int .u16 (p1 : Int), .int .u64 (p2 : Int)] 35)).heap.size (some ⟨w5.heap.size, 0, none⟩) (Dt.dv [(p1, p2)])) := Lib.hid (fun _ => by
         refine ⟨_, rfl, by rw [Ev.alloc_size]; exact Nat.lt_succ_self _, fun j u hu => ?_⟩
         rw [Dt.zero_add, World.cell?_alloc_new]
         rw [show Dt.dv [(p1, p2)] = [.int .u16 (p1 : Int), .int .u64 (p2 : Int)] from rfl] at hu
         simpa using hu)
       obtain ⟨y0, y1, y2, y3, y4, y5, y6⟩ := ev_cells (q := ⟨p1, p2, p3, p4, p5, p6, pA, pn, pc⟩) HAT5.out
       simp only at y0 y1 y2 y3 y4 y5 y6
       clear hOB
       go_wp2_with (at_builtin; refine Dt.wpList_any rfl (.tmp 15) (.tmp 18) rfl rfl _ w.heap.size k (.slice A k c) ((l.take k).map (·.dot)) (some ⟨w5.heap.size, 0, none⟩) [(p1, p2)] 1 1 rfl rfl HOB.out (fun h => by cases h) HLIE.out rfl (by omega) HB6.out.size ?_; intro A3 c3 V3 ho3 hg3; have HO3 := Lib.hid ho3; have HW3 := Lib.hid (Dt.any_grown HOB.out HB6.out hg3); clear ho3 hg3)
       have e1 : (l.take (k + 1)).map (·.dot) = (l.take k).map (·.dot) ++ [(p1, p2)] := by rw [HTK.out, List.map_append, List.map_singleton, HD.out]
       go_roundw
       case rel => exact ⟨k + 1, A3, c3, by omega, by go_num, rfl, by rw [HTK.out, List.all_append, HG.out]; simp [HGX.out], by rw [e1]; exact HO3.out, HW3.out⟩
       case measure => simp [intOf]; omega
   · obtain rfl : k = n := by omega
     have e : l.take k = l := List.take_of_length_le (by rw [HLN.out]; exact Nat.le_refl _)
     rw [e] at ho hg
     have hfit : Dt.Fit (l.map (·.dot)) := fun d hd => by
       obtain ⟨x, hx, rfl⟩ := List.mem_map.1 hd
       obtain ⟨ps, _, hm⟩ := HL.out.evts
       obtain ⟨i, hi, rfl⟩ := List.getElem_of_mem hx
       have hi2 : i < ps.length := by rw [hm.1]; exact hi
       exact (hm.2 i ps[i] l[i] (List.getElem?_eq_getElem hi2) (List.getElem?_eq_getElem hi)).fits.dot
     have CR := Dt.prising_any wr A (l.map (·.dot)) k c (by rw [List.length_map]; exact HLN.out) (Dt.dots_own ho hfit) (by omega)
     have HE : Hid (riseE l = Dt.riseB (l.map (·.dot))) := Lib.hid (by unfold riseE; rw [hg, Bool.true_and])
     clear ho hw hg e hfit
     go_wp2_with fail
     refine CR.mono ?_
     rintro r w6 ⟨rfl, b6⟩
     have HB := Lib.hid (HW.out.trans (b6.mono HW.out.size))
     clear CR b6
     go_wp2
     go_ret
     exact ⟨Ev.ret_bool HE.out.symm, HB.out⟩
set_option maxHeartbeats 8000000 in
theorem pstand_is (w : World) (A0 : Option Addr) (l : List Ev.Evt) (n c0 : Nat) (hl : Ev.EventsAt w w.heap.size A0 l n c0) (hn : n ≤ 1024) (hk : ∀ x ∈ l, x.kills.length ≤ 1024) :
   Calls Tryz.prog 66 #[.slice A0 n c0] w fun e w' => e = .returned (.bool (standE l)) ∧ Below w.heap.size w w' := by
 have HL := Lib.hid hl
 have HKL := Lib.hid hk
 have h63 : n ≤ 2199023255552 := hl.wide
 have hlen := hl.len
 have HLN := Lib.hid hlen
 clear hl hlen hk
 go_enter Tryz.func66, Tryz.ntmps66
 go_wp2_with fail
 go_loopw [3, 8] (fun v i wr => ∃ (k m : Nat), k ≤ n ∧ i = .int .i64 (k : Int) ∧ v = .int .i64 (m : Int) ∧ m ≤ k ∧ ((l.take k).filter (kindB 1)).length = m ∧ Below w.heap.size w wr) (fun _ i _ => n - (intOf i).toNat)
 case atStart => exact ⟨0, 0, Nat.zero_le _, rfl, rfl, Nat.le_refl _, rfl, Below.refl _ _⟩
 case round =>
   obtain ⟨k, m, hk, rfl, rfl, hmk, hm, hw⟩ := hrel
   have HW := Lib.hid hw
   have HM := Lib.hid hm
   by_cases hlt : k < n
   · obtain ⟨ad, p, x, rfl, hB, hly, hp, cp⟩ := HL.out.at_ hlt
     have cq := fun (a : Addr) (v : Value) (h : w.cell? a = some v) => (hw.cell (World.block_lt_of_cell? w _ h)).trans h
     have hz : (k : Int) < (n : Int) := by omega
     have HTK := Lib.hid (Ev.take_one hly)
     have HKD := Lib.hid hp.kind
     have HA := Lib.hid (Ev.bel_alloc p.box hw)
     have hbx := (Ev.box_new wr p _ (Below.refl _ _)).all
     obtain ⟨p1, p2, p3, p4, p5, p6, pA, pn, pc⟩ := p
     simp only [Ev.EV.box] at HA hbx
     simp only at HKD
     obtain ⟨x0, x1, x2, x3, x4, x5, x6⟩ := cp
     have x0 := cq _ _ x0
     have x1 := cq _ _ x1
     have x2 := cq _ _ x2
     have x3 := cq _ _ x3
     have x4 := cq _ _ x4
     have x5 := cq _ _ x5
     have x6 := cq _ _ x6
     obtain ⟨b0, b1', b2, b3, b4, b5, b6⟩ := hbx
     clear hly hp cq hm hw
     by_cases hk1 : x.kind = 1
     · have hkk : ((p3 : Int) == 1) = true := by rw [HKD.out, hk1]; rfl
       have hf : ((l.take (k + 1)).filter (kindB 1)).length = m + 1 := by
         rw [HTK.out, List.filter_append, List.filter_cons_of_pos (by unfold kindB; exact decide_eq_true hk1), List.filter_nil, List.length_append, HM.out]; rfl
       have HF := Lib.hid hf
       clear hf hk1
       go_wp2
       go_roundw
       case rel => exact ⟨k + 1, m + 1, by omega, by go_num, by go_num, by omega, HF.out, HA.out⟩
       case measure => simp [intOf]; omega
     · have hkk : ((p3 : Int) == 1) = false := by rw [HKD.out, beq_eq_false_iff_ne]; omega
       have hf : ((l.take (k + 1)).filter (kindB 1)).length = m := by
         rw [HTK.out, List.filter_append, List.filter_cons_of_neg (by unfold kindB; simpa using hk1), List.filter_nil, List.append_nil, HM.out]
       have HF := Lib.hid hf
       clear hf hk1
       go_wp2
       go_roundw
       case rel => exact ⟨k + 1, m, by omega, by go_num, rfl, by omega, HF.out, HA.out⟩
       case measure => simp [intOf]; omega
   · obtain rfl : k = n := by omega
     have e : l.take k = l := List.take_of_length_le (by rw [HLN.out]; exact Nat.le_refl _)
     rw [e] at hm
     have CL := plive_any wr A0 l k c0 (HL.out.up hw) hn (fun x hx => Nat.le_trans (HKL.out x hx) (by decide))
     have HMM := Lib.hid hm
     clear hm hw e
     go_wp2_with fail
     refine CL.mono ?_
     rintro r w6 hp
     obtain ⟨A6, n6, c6, rfl, h6, b6⟩ := hp.post
     have HB := Lib.hid (HW.out.trans (b6.mono HW.out.size))
     have HE : Hid (standE l = ((m : Int) == (n6 : Int))) := Lib.hid (by
       unfold standE
       rw [HMM.out, h6.len, Bool.eq_iff_iff, decide_eq_true_iff, beq_iff_eq]
       omega)
     clear CL hp h6 b6
     go_wp2
     go_ret
     exact ⟨Ev.ret_bool HE.out.symm, HB.out⟩
theorem rise_iff (l : List Ev.Evt) : riseE l = true ↔ (∀ x ∈ l, Ev.goodE x = true) ∧ Ev.OrdE l := by
 unfold riseE
 rw [Bool.and_eq_true, List.all_eq_true, Dt.rise_ord]
 refine and_congr Iff.rfl ?_
 unfold Dt.Ord Ev.OrdE
 exact List.pairwise_map
theorem stand_iff {l : List Ev.Evt} (h : Ev.OrdE l) : standE l = true ↔ ∀ x ∈ l, x.kind = 1 → ∀ z ∈ l, x.dot ∉ z.kills := by
 unfold standE
 rw [decide_eq_true_iff]
 have e : liveE l = (l.filter (kindB 1)).filter (fun x => !deadB l x.dot) := by
   unfold liveE
   rw [Ev.sort_same h, List.filter_filter]
   refine List.filter_congr (fun x _ => ?_)
   unfold liveB kindB
   exact Bool.and_comm _ _
 rw [e, eq_comm, List.length_filter_eq_length_iff]
 constructor
 · intro h1 x hx hk z hz hd
   have h2 := h1 x (List.mem_filter.2 ⟨hx, by unfold kindB; exact decide_eq_true hk⟩)
   rw [Bool.not_eq_true', ← Bool.not_eq_true, dead_iff] at h2
   exact h2 ⟨z, hz, hd⟩
 · intro h1 x hx
   obtain ⟨h2, h3⟩ := List.mem_filter.1 hx
   rw [Bool.not_eq_true', ← Bool.not_eq_true, dead_iff]
   rintro ⟨z, hz, hd⟩
   exact h1 x h2 (of_decide_eq_true h3) z hz hd
theorem within_dots {c : List Cx.Part} {ds : List Dt.Dot} (hc : Cx.FitC c) (hd : Dt.Fit ds) (hm : ∀ d ∈ ds, Dt.mayD d = true) : Cx.withinC (Cx.ofC ds) c = true ↔ ∀ d ∈ ds, Cx.hasC c d = true := by
 constructor
 · intro h d hdm
   unfold Cx.withinC at h
   have h1 := of_decide_eq_true h
   have h2 := Cx.has_minus (Cx.ord_of hd).fit hc d
   rw [h1, hasC_of hd hdm (hm d hdm)] at h2
   have h3 : Cx.hasC [] d = false := by unfold Cx.hasC; cases Dt.mayD d <;> rfl
   rw [h3] at h2
   cases h4 : Cx.hasC c d with
   | true => rfl
   | false => rw [h4] at h2; cases h2
 · intro h
   refine Cx.within_iff (Cx.ord_of hd).fit hc (fun d n hn => ?_)
   rw [Cx.has_of hd, List.any_eq_true] at hn
   obtain ⟨x, hx, he⟩ := hn
   have h1 := h x hx
   unfold Cx.hasC at h1
   rw [Bool.and_eq_true] at h1
   unfold Cx.isDot at he
   simp only [Bool.and_eq_true, decide_eq_true_eq] at he
   obtain ⟨h2, h3⟩ := h1
   have e1 : x.1 = d := he.2.1
   have e2 : x.2 = n := he.2.2
   rw [← e1, ← e2]
   exact h3
theorem dots_may {l : List Ev.Evt} (hg : ∀ x ∈ l, Ev.goodE x = true) : ∀ d ∈ Ev.dotsE l, Dt.mayD d = true := fun d hd => by
 obtain ⟨x, hx, h⟩ := (dots_mem l d).1 hd
 obtain ⟨_, h1, h2⟩ := good_own (hg x hx)
 rcases h with rfl | h
 · exact h1
 · exact h2 d h
theorem leg_of {c : List Cx.Part} {l : List Ev.Evt} (hf : Cx.FitC c) (hd : Dt.Fit (Ev.dotsE l)) (hg : Cx.goodC c = true) (hr : riseE l = true) (hs : standE l = true) (hw : Cx.withinC (Cx.ofC (Ev.dotsE l)) c = true) : Leg (c, l) := by
 obtain ⟨h1, h2⟩ := (rise_iff l).1 hr
 refine ⟨?_, h2, h1, (stand_iff h2).1 hs, fun x hx d h => ?_⟩
 · have h3 := of_decide_eq_true hg
   show Cx.OrdC c
   rw [h3]
   exact Cx.ord_norm hf
 · exact (within_dots hf hd (dots_may h1)).1 hw d ((dots_mem l d).2 ⟨x, hx, h⟩)
theorem from_leg {c : List Cx.Part} {l : List Ev.Evt} (hf : Cx.FitC c) (h : fromB c l = true) : Leg (c, l) := by
 unfold fromB at h
 rw [Bool.and_eq_true, Bool.and_eq_true, List.all_eq_true] at h
 obtain ⟨h1, h2, h3⟩ := h
 have hok : ∀ k (hk : k < l.length), Ev.goodE l[k] = true ∧ (∀ (j : Nat) (hj : j < l.length), j + 1 = k → Dt.aheadD l[j].dot l[k].dot = true) ∧ (l[k].kind = 1 → deadB l l[k].dot = false) := fun k hk => by
   have h4 := h1 k (List.mem_range.2 hk)
   have hg := List.getElem?_eq_getElem hk
   cases k with
   | zero =>
     rw [ok_first hg, Bool.and_eq_true, Bool.not_eq_true', Bool.and_eq_false_iff] at h4
     refine ⟨h4.1, fun j hj e => by omega, fun hk1 => ?_⟩
     rcases h4.2 with h5 | h5
     · exact absurd hk1 (of_decide_eq_false h5)
     · exact h5
   | succ j =>
     have hj : j < l.length := by omega
     have hgj := List.getElem?_eq_getElem hj
     rw [ok_next hg hgj, Bool.and_eq_true, Bool.and_eq_true, Bool.not_eq_true', Bool.not_eq_true', Bool.and_eq_false_iff] at h4
     refine ⟨h4.1.1, fun i hi e => ?_, fun hk1 => ?_⟩
     · obtain rfl : i = j := by omega
       have h6 := of_decide_eq_false h4.1.2
       cases ha : Dt.aheadD l[i].dot l[i + 1].dot with
       | true => rfl
       | false => exact absurd (Dt.cmp_sign _ _ ha) h6
     · rcases h4.2 with h5 | h5
       · exact absurd hk1 (of_decide_eq_false h5)
       · exact h5
 have hgood : ∀ x ∈ l, Ev.goodE x = true := fun x hx => by
   obtain ⟨k, hk, rfl⟩ := List.getElem_of_mem hx
   exact (hok k hk).1
 have hrise : Ev.OrdE l := by
   have hstep : ∀ (m i : Nat) (hi : i < l.length) (hj : i + (m + 1) < l.length), Dt.aheadD l[i].dot l[i + (m + 1)].dot = true := by
     intro m
     induction m with
     | zero => intro i hi hj; exact (hok (i + 1) hj).2.1 i hi rfl
     | succ m ih =>
       intro i hi hj
       have h5 := ih i hi (by omega)
       have h6 := (hok (i + (m + 1 + 1)) hj).2.1 (i + (m + 1)) (by omega) rfl
       exact Ev.ahead_trans h5 h6
   unfold Ev.OrdE
   rw [List.pairwise_iff_getElem]
   intro i j hi hj hij
   have h7 := hstep (j - i - 1) i hi (by omega)
   have e : i + (j - i - 1 + 1) = j := by omega
   simpa only [e] using h7
 refine ⟨?_, hrise, hgood, fun x hx hk z hz hd => ?_, fun x hx d h => ?_⟩
 · have h4 := of_decide_eq_true h2
   show Cx.OrdC c
   rw [h4]
   exact Cx.ord_norm hf
 · obtain ⟨k, hk2, rfl⟩ := List.getElem_of_mem hx
   have h4 := (hok k hk2).2.2 hk
   rw [← Bool.not_eq_true, dead_iff] at h4
   exact h4 ⟨z, hz, hd⟩
 · have h4 := List.filter_eq_nil_iff.1 (of_decide_eq_true h3) d ((dots_mem l d).2 ⟨x, hx, h⟩)
   simpa using h4
theorem from_is {c : List Cx.Part} {l : List Ev.Evt} (hf : Cx.FitC c) (hd : Dt.Fit (Ev.dotsE l)) : fromB c l = (Cx.goodC c && (riseE l && (standE l && Cx.withinC (Cx.ofC (Ev.dotsE l)) c))) := by
 rw [Bool.eq_iff_iff, Bool.and_eq_true, Bool.and_eq_true, Bool.and_eq_true]
 constructor
 · intro h
   have hl := from_leg hf h
   refine ⟨Cx.ord_good hl.ctx, (rise_iff l).2 ⟨hl.good, hl.rise⟩, (stand_iff hl.rise).2 hl.live, (within_dots hf hd (dots_may hl.good)).2 (fun d hdm => ?_)⟩
   obtain ⟨x, hx, h2⟩ := (dots_mem l d).1 hdm
   exact hl.seen x hx d h2
 · rintro ⟨h1, h2, h3, h4⟩
   exact leg_from (leg_of hf hd h1 h2 h3 h4)
end Go.Proofs.YtgaegfddobpomaaGreat.Bk

namespace Go.Proofs.YtgaegfddobpomaaGreat.Bk
open Go.ChangeShapes Go.WideShapes Go.ChangeAt Go.RowKit Go.Proofs.YtgaegfddobpomaaGreat.Kl Go.Maps
set_option linter.unusedVariables false
set_option maxRecDepth 4000
theorem evts_fits {w : World} {A : Option Addr} {l : List Ev.Evt} {n c : Nat} (h : Ev.EventsAt w w.heap.size A l n c) : ∀ x ∈ l, Ev.Fits x ∧ Dt.Fit x.kills := fun x hx => by
 obtain ⟨ps, _, hm⟩ := h.evts
 obtain ⟨i, hi, rfl⟩ := List.getElem_of_mem hx
 have hi2 : i < ps.length := by rw [hm.1]; exact hi
 have h1 := hm.2 i ps[i] l[i] (List.getElem?_eq_getElem hi2) (List.getElem?_eq_getElem hi)
 exact ⟨h1.fits, h1.kills.dots.1⟩
theorem dots_fits {w : World} {A : Option Addr} {l : List Ev.Evt} {n c : Nat} (h : Ev.EventsAt w w.heap.size A l n c) : Dt.Fit (Ev.dotsE l) := fun d hd => by
 obtain ⟨x, hx, h2⟩ := (dots_mem l d).1 hd
 rcases h2 with rfl | h2
 · exact (evts_fits h x hx).1.dot
 · exact (evts_fits h x hx).2 d h2
theorem keep_next {w V : World} {p : Nat} {A : Option Addr} {n k : Nat} {m1 m2 m1' m2' : Option Nat} {L1 L2 : List Ev.EV} {a : List Ev.Evt} {x : Ev.Evt} {q' : Ev.EV} (hm : BkMem w p A n k m1 m2 L1 L2) (h1 : Ev.Match w w.heap.size L1 (a.filter (kindB 1))) (h2 : Ev.Match w w.heap.size L2 (a.filter (kindB 2))) (hk : x.kind = 1 ∨ x.kind = 2)
   (hd : ∀ y ∈ a, y.dot ≠ x.dot) (h : BkMem V p A n k m1' m2' (if x.kind = 2 then L1 else q' :: but x.dot L1) (if x.kind = 2 then q' :: but x.dot L2 else L2)) (ht : Turns w p m1 m2 m1' m2' V) (he : Ev.EventIs V V.heap.size q' x) :
   ∃ L1' L2', BkMem V p A n k m1' m2' L1' L2' ∧ Ev.Match V V.heap.size L1' ((a ++ [x]).filter (kindB 1)) ∧ Ev.Match V V.heap.size L2' ((a ++ [x]).filter (kindB 2)) := by
 have g1 := match_off hm.nonum ht.off h1
 have g2 := match_off hm.nonum ht.off h2
 have hall : ∀ kd : Nat, (a.filter (kindB kd)).filter (dotN x.dot) = a.filter (kindB kd) := fun kd => by
   rw [List.filter_eq_self]
   intro y hy
   unfold dotN
   exact decide_eq_true (hd y (List.mem_filter.1 hy).1)
 have hp : ∀ l : List Ev.Evt, (x :: l).Perm (l ++ [x]) := fun l => (List.perm_append_singleton x l).symm
 rw [List.filter_append, List.filter_append]
 rcases hk with hk | hk
 · rw [if_neg (by omega), if_neg (by omega)] at h
   have e1 : [x].filter (kindB 1) = [x] := by rw [List.filter_cons_of_pos (by unfold kindB; exact decide_eq_true hk), List.filter_nil]
   have e2 : [x].filter (kindB 2) = [] := by rw [List.filter_cons_of_neg (by unfold kindB; simp [hk]), List.filter_nil]
   rw [e1, e2, List.append_nil]
   have g3 := match_but x.dot g1
   rw [hall] at g3
   obtain ⟨qs, p1, p2⟩ := match_perm (hp _) (match_cons.2 ⟨he, g3⟩)
   exact ⟨qs, L2, ⟨h.at_, h.live.perm p1, h.tomb, h.both, h.apart⟩, p2, g2⟩
 · rw [if_pos hk, if_pos hk] at h
   have e1 : [x].filter (kindB 2) = [x] := by rw [List.filter_cons_of_pos (by unfold kindB; exact decide_eq_true hk), List.filter_nil]
   have e2 : [x].filter (kindB 1) = [] := by rw [List.filter_cons_of_neg (by unfold kindB; simp [hk]), List.filter_nil]
   rw [e1, e2, List.append_nil]
   have g3 := match_but x.dot g2
   rw [hall] at g3
   obtain ⟨qs, p1, p2⟩ := match_perm (hp _) (match_cons.2 ⟨he, g3⟩)
   exact ⟨L1, qs, ⟨h.at_, h.live, h.tomb.perm p1, h.both, h.apart⟩, g1, p2⟩
theorem from_end {w w1 V : World} {p : Nat} {A : Option Addr} {n k : Nat} {m1 m2 : Option Nat} {L1 L2 : List Ev.EV} {S : Bt} (hp : w.heap.size ≤ p) (hw : Below w.heap.size w w1) (ht : Turns w1 p none none m1 m2 V) (h : BkIs V p A n k m1 m2 L1 L2 S) : Fresh Lb w S p V := by
 refine ⟨Own p m1 m2, lb_of h, fun b hb => ?_, ?_⟩
 · rcases ht.own b hb with h1 | h1
   · rcases h1 with rfl | h1 | h1
     · exact hp
     · cases h1
     · cases h1
   · exact Nat.le_trans hw.size h1
 · refine Off.below hw ht.off hw.size (fun b hb => ?_)
   rcases hb with rfl | h1 | h1
   · exact hp
   · cases h1
   · cases h1
set_option maxHeartbeats 16000000 in
theorem pfrom_is (w : World) (A1 A2 : Option Addr) (c : List Cx.Part) (l : List Ev.Evt) (n1 c1 n2 c2 : Nat) (hc : Cx.CtxAt w A1 c n1 c1) (hl : Ev.EventsAt w w.heap.size A2 l n2 c2) (hs : Lim (c, l)) :
   Calls Tryz.prog 27 #[.slice A1 n1 c1, .slice A2 n2 c2] w (FrPost Lb w c l) := by
 have HFI := Lib.hid (from_is hc.fit (dots_fits hl))
 have HC := Lib.hid hc
 have HL := Lib.hid hl
 have HS := Lib.hid hs
 have hn : n2 ≤ 64 := by rw [← hl.len]; exact hs.few
 have hkl : ∀ x ∈ l, x.kills.length ≤ 1024 := hs.kills
 have hmany : Ev.manyE l ≤ 8796093022208 := by have h1 := many_few hkl; have h2 := hs.few; have h3 : l.length ≤ 64 := h2; omega
 have hdl : (Ev.dotsE l).length ≤ 65600 := by have h1 := dots_few hkl; have h2 : l.length ≤ 64 := hs.few; omega
 have C1 := Cx.pgood_any w A1 c n1 c1 hc
 have C2 := fun W (hW : Below w.heap.size w W) => prise_is W A2 l n2 c2 (hl.up hW) (by omega)
 have C3 := fun W (hW : Below w.heap.size w W) => pstand_is W A2 l n2 c2 (hl.up hW) (by omega) hkl
 have C4 := fun W (hW : Below w.heap.size w W) => Ev.pdotsE_any W A2 l n2 c2 (hl.up hW) hmany
 have HW1 := Lib.hid ((Cx.small_wide hs.ctx).more (show 80000 ≤ 268435456 by decide))
 have HDF := Lib.hid (dots_fits hl)
 have HDL := Lib.hid hdl
 clear hc hl hs hkl hmany hdl
 go_enter Tryz.func27, Tryz.ntmps27
 obtain ⟨g1, hg1⟩ : ∃ b, Cx.goodC c = b := ⟨_, rfl⟩
 rw [hg1] at C1 HFI
 have HG1 := Lib.hid hg1
 clear hg1
 go_wp2_with fail
 refine C1.mono ?_
 rintro r w1 ⟨rfl, b1⟩
 have HB1 := Lib.hid b1
 clear b1 C1
 cases g1 with
 | false =>
   have HF : Hid (fromB c l = false) := Lib.hid (by rw [HFI.out, Bool.false_and])
   clear C2 C3 C4
   go_wp2
   go_ret2
   unfold FrPost
   rw [HF.out]
   exact ⟨rfl, HB1.out⟩
 | true =>
   obtain ⟨g2, hg2⟩ : ∃ b, riseE l = b := ⟨_, rfl⟩
   have C2' := C2 w1 HB1.out
   rw [hg2] at C2' HFI
   have HG2 := Lib.hid hg2
   clear hg2 C2
   go_wp2_with fail
   refine C2'.mono ?_
   rintro r w2 ⟨rfl, b2⟩
   have HB2 := Lib.hid (HB1.out.trans (b2.mono HB1.out.size))
   clear b2 C2'
   cases g2 with
   | false =>
     have HF : Hid (fromB c l = false) := Lib.hid (by rw [HFI.out, Bool.false_and, Bool.and_false])
     clear C3 C4
     go_wp2
     go_ret2
     unfold FrPost
     rw [HF.out]
     exact ⟨rfl, HB2.out⟩
   | true =>
     obtain ⟨g3, hg3⟩ : ∃ b, standE l = b := ⟨_, rfl⟩
     have C3' := C3 w2 HB2.out
     rw [hg3] at C3' HFI
     have HG3 := Lib.hid hg3
     clear hg3 C3
     go_wp2_with fail
     refine C3'.mono ?_
     rintro r w3 ⟨rfl, b3⟩
     have HB3 := Lib.hid (HB2.out.trans (b3.mono HB2.out.size))
     clear b3 C3'
     cases g3 with
     | false =>
       have HF : Hid (fromB c l = false) := Lib.hid (by rw [HFI.out, Bool.false_and, Bool.and_false, Bool.and_false])
       clear C4
       go_wp2
       go_ret2
       unfold FrPost
       rw [HF.out]
       exact ⟨rfl, HB3.out⟩
     | true =>
       have C4' := C4 w3 HB3.out
       clear C4
       go_wp2_with fail
       refine C4'.mono ?_
       rintro r w4 ⟨A5, n5, c5, rfl, h5, _, b4⟩
       have HB4 := Lib.hid (HB3.out.trans (b4.mono HB3.out.size))
       have C5 := Cx.pof_any w4 A5 (Ev.dotsE l) n5 c5 ⟨h5.len, h5.nil, h5.cap, h5.max, h5.dots⟩ (by rw [← h5.len]; exact Nat.le_trans HDL.out (by decide))
       clear h5 b4 C4'
       go_wp2_with fail
       refine C5.mono ?_
       rintro r w5 hp
       obtain ⟨A6, n6, c6, rfl, h6, b5⟩ := Cx.post_ctx hp
       have HB5 := Lib.hid (HB4.out.trans (b5.mono HB4.out.size))
       have hwd : Cx.Wide 268435456 (Cx.ofC (Ev.dotsE l)) := by
         have h7 := Cx.wt_of HDF.out
         have h8 := HDL.out
         exact ⟨Nat.le_trans h7.parts (by omega), Nat.le_trans h7.runs (by omega)⟩
       have C6 := Cx.pwithin_any w5 A6 A1 (Cx.ofC (Ev.dotsE l)) c n6 n1 c6 c1 h6 (HC.out.up HB5.out) hwd HW1.out
       obtain ⟨g4, hg4⟩ : ∃ b, Cx.withinC (Cx.ofC (Ev.dotsE l)) c = b := ⟨_, rfl⟩
       rw [hg4] at C6 HFI
       have HG4 := Lib.hid hg4
       clear hp h6 b5 hwd C5 hg4
       go_wp2_with fail
       refine C6.mono ?_
       rintro r w6 ⟨rfl, b6⟩
       have HB6 := Lib.hid (HB5.out.trans (b6.mono HB5.out.size))
       clear b6 C6
       cases g4 with
       | false =>
         have HF : Hid (fromB c l = false) := Lib.hid (by rw [HFI.out]; rfl)
         go_wp2
         go_ret2
         unfold FrPost
         rw [HF.out]
         exact ⟨rfl, HB6.out⟩
       | true =>
         have HF : Hid (fromB c l = true) := Lib.hid (by rw [HFI.out]; rfl)
         have HLEG := Lib.hid (from_leg HC.out.fit HF.out)
         have C7 := Cx.pnorm_any w6 A1 c n1 c1 (HC.out.up HB6.out) HW1.out
         rw [HLEG.out.ctx.norm] at C7
         go_wp2_with fail
         refine C7.mono ?_
         rintro r w7 hp
         obtain ⟨A8, n8, c8, rfl, h8, b7⟩ := Cx.post_ctx hp
         have hB7 := HB6.out.trans (b7.mono HB6.out.size)
         have hbk := Ev.below_new w7 (.cells #[.slice A8 n8 c8, .map none, .map none] 84)
         have HB8 := Lib.hid (hB7.trans (hbk.mono hB7.size))
         have HGE : Hid (w.heap.size ≤ w7.heap.size) := Lib.hid hB7.size
         have HM8 : Hid (BkMem (w7.alloc (.cells #[.slice A8 n8 c8, .map none, .map none] 84)) w7.heap.size A8 n8 c8 none none [] []) := Lib.hid ⟨At.new w7 _ _, MapO.none_ _, MapO.none_ _, Iff.rfl, fun b e => (by cases e)⟩
         have HC8 := Lib.hid (h8.up hbk)
         have HL8 := Lib.hid (HL.out.up HB8.out)
         have hlen := HL.out.len
         have HLN := Lib.hid hlen
         have h63 : n2 ≤ 2199023255552 := HL.out.wide
         clear hp h8 b7 hB7 hbk C7 hlen
         go_wp2
         generalize w7.alloc (.cells #[.slice A8 n8 c8, .map none, .map none] 84) = w8 at *
         generalize w7.heap.size = pb at *
         go_loopw [36] (fun i wr => ∃ (j : Nat) (m1 m2 : Option Nat) (L1 L2 : List Ev.EV), j ≤ n2 ∧ i = .int .i64 (j : Int) ∧ BkMem wr pb A8 n8 c8 m1 m2 L1 L2 ∧ Ev.Match wr wr.heap.size L1 ((l.take j).filter (kindB 1)) ∧ Ev.Match wr wr.heap.size L2 ((l.take j).filter (kindB 2)) ∧ Turns w8 pb none none m1 m2 wr) (fun i _ => n2 - (intOf i).toNat)
         case atStart => exact ⟨0, none, none, [], [], Nat.zero_le _, rfl, HM8.out, Ev.Match.nil_ _ _, Ev.Match.nil_ _ _, Turns.refl _ _ _ _⟩
         case round =>
           obtain ⟨j, m1, m2, L1, L2, hj, rfl, hm, h1, h2, ht⟩ := hrel
           have HM := Lib.hid hm
           have H1 := Lib.hid h1
           have H2 := Lib.hid h2
           have HT := Lib.hid ht
           have HE := Lib.hid (evts_off HM8.out.nonum ht.off HL8.out)
           clear hm h1 h2 ht
           by_cases hjl : j < n2
           · obtain ⟨ad, q, x, rfl, hB, hly, hq, cp⟩ := HE.out.at_ hjl
             have hb1 := Ev.below_new wr q.box
             have hxl : x ∈ l := List.mem_of_getElem? hly
             have hlt : ∀ y ∈ l.take j, y.dot ≠ x.dot := fun y hy => by
               obtain ⟨i, hi, he⟩ := List.getElem_of_mem hy
               have hij : i < j := by simp at hi; omega
               have hil : i < l.length := by rw [HLN.out]; omega
               have hjl2 : j < l.length := by rw [HLN.out]; exact hjl
               have e1 : l[i] = y := by rw [← he, List.getElem_take]
               have e2 : l[j] = x := by rw [List.getElem?_eq_getElem hjl2] at hly; exact Option.some.inj hly
               have h7 := List.pairwise_iff_getElem.1 HLEG.out.rise i j hil hjl2 hij
               rw [← e1, ← e2]
               exact Ev.ahead_ne h7
             have hl1 : L1.length ≤ 1024 := by rw [H1.out.1]; refine Nat.le_trans (List.length_filter_le _ _) ?_; rw [List.length_take]; omega
             have hl2 : L2.length ≤ 1024 := by rw [H2.out.1]; refine Nat.le_trans (List.length_filter_le _ _) ?_; rw [List.length_take]; omega
             have CK := pkeepb_any (wr.alloc q.box) pb A8 n8 c8 m1 m2 L1 L2 q x (HM.out.up hb1) (hq.up hb1) hl1 hl2
             have HNX : Hid (∀ (V : World) (q' : Ev.EV) (m1' m2' : Option Nat), BkMem V pb A8 n8 c8 m1' m2' (if x.kind = 2 then L1 else q' :: but x.dot L1) (if x.kind = 2 then q' :: but x.dot L2 else L2) → Turns (wr.alloc q.box) pb m1 m2 m1' m2' V → Ev.EventIs V V.heap.size q' x → ∃ L1' L2', BkMem V pb A8 n8 c8 m1' m2' L1' L2' ∧ Ev.Match V V.heap.size L1' ((l.take (j + 1)).filter (kindB 1)) ∧ Ev.Match V V.heap.size L2' ((l.take (j + 1)).filter (kindB 2)) ∧ Turns w8 pb none none m1' m2' V) :=
               Lib.hid (fun V q' m1' m2' a1 a2 a3 => by
                 obtain ⟨L1', L2', r1, r2, r3⟩ := keep_next (HM.out.up hb1) (match_up hb1 H1.out) (match_up hb1 H2.out) (kind_good (HLEG.out.good x hxl)) hlt a1 a2 a3
                 rw [← Ev.take_one hly] at r2 r3
                 exact ⟨L1', L2', r1, r2, r3, (HT.out.trans (Turns.below hb1)).trans a2⟩)
             have hbx := (Ev.box_new wr q _ (Below.refl _ _)).all
             simp only [Ev.EV.box, Ev.EV.val] at CK hbx HNX
             obtain ⟨x0, x1, x2, x3, x4, x5, x6⟩ := cp
             obtain ⟨b0, b1', b2, b3, b4, b5, b6⟩ := hbx
             clear hly hq hb1 hxl hlt hl1 hl2 HE
             go_wp2_with fail
             refine CK.mono ?_
             rintro r V ⟨rfl, q', m1', m2', a1, a2, a3, a4⟩
             obtain ⟨L1', L2', r1, r2, r3, r4⟩ := HNX.out V q' m1' m2' a1 a2 a3
             have HR := Lib.hid (And.intro r1 (And.intro r2 (And.intro r3 r4)))
             clear CK a1 a2 a3 a4 r1 r2 r3 r4 x0 x1 x2 x3 x4 x5 x6 b0 b1' b2 b3 b4 b5 b6 HNX
             go_wp2
             go_roundw
             case rel => exact ⟨j + 1, m1', m2', L1', L2', by omega, by go_num, HR.out.1, HR.out.2.1, HR.out.2.2.1, HR.out.2.2.2⟩
             case measure => simp [intOf]; omega
           · obtain rfl : j = n2 := by omega
             have hall : l.take j = l := List.take_of_length_le (by rw [HLN.out]; exact Nat.le_refl _)
             rw [hall] at H1 H2
             have HR : Hid (Fresh Lb w (c, l) pb wr) := Lib.hid (from_end HGE.out HB8.out HT.out ⟨HM.out, HLEG.out, ctx_off HM8.out.nonum HT.out.off HC8.out, H1.out, H2.out⟩)
             clear hall
             go_wp2
             go_ret2
             unfold FrPost
             rw [HF.out]
             exact ⟨pb, rfl, HR.out⟩
end Go.Proofs.YtgaegfddobpomaaGreat.Bk

namespace Go.Proofs.YtgaegfddobpomaaGreat.Bk
open Go.ChangeShapes Go.WideShapes Go.ChangeAt Go.RowKit Go.Proofs.YtgaegfddobpomaaGreat.Kl
set_option linter.unusedVariables false
set_option maxRecDepth 4000
theorem few_wide {c : List Cx.Part} (hf : Cx.FitC c) (h : Cx.fewC c = true) : Cx.Wide 134217728 c := by
 have h1 := Cx.wt_few hf h
 exact ⟨Nat.le_trans h1.parts (by decide), Nat.le_trans h1.runs (by decide)⟩
theorem fresh_of {w w' : World} {p : Nat} {A : Option Addr} {n k : Nat} {m1 m2 : Option Nat} {L1 L2 : List Ev.EV} {S : Bt} (h : BkIs w' p A n k m1 m2 L1 L2 S) (ho : ∀ b, Own p m1 m2 b → w.heap.size ≤ b) (hb : Below w.heap.size w w') : Fresh Lb w S p w' := ⟨Own p m1 m2, lb_of h, ho, hb⟩
theorem pbk : PBk Lb where
 ord := fun w p T S ⟨A, n, k, m1, m2, L1, L2, h, _⟩ => ⟨h.leg.ctx, h.leg.rise⟩
 dom := fun w p T S ⟨A, n, k, m1, m2, L1, L2, h, hT⟩ => ⟨(hT p).2 (.inl rfl), fun b hb => h.mem.lt ((hT b).1 hb)⟩
 off := fun w W p T S G ⟨A, n, k, m1, m2, L1, L2, h, hT⟩ ho hG hn => ⟨A, n, k, m1, m2, L1, L2, h.off ho hG (fun b hb => hn b ((hT b).2 hb)), hT⟩
 new := fun w => (pnew_any w).mono fun e w' ⟨p, h1, h2, h3, h4⟩ => ⟨p, h1, fresh_of h2 (fun b hb => by
   rcases hb with rfl | hb | hb
   · exact h3
   · cases hb
   · cases hb) h4⟩
 put := fun w p T S q x ⟨A, n, k, m1, m2, L1, L2, h, hT⟩ hs hq => (pput_is w p A n k m1 m2 L1 L2 S q x h hs hq).mono fun e w' ⟨h1, h2⟩ => ⟨h1, went_of h hT h2⟩
 make := fun w p T S q x ⟨A, n, k, m1, m2, L1, L2, h, hT⟩ hs hq => pmake_is w p A n k m1 m2 L1 L2 S q x h hs hq
 see := fun w p T S A2 c n2 k2 ⟨A, n, k, m1, m2, L1, L2, h, hT⟩ hs hc hf => (psee_is w p A n k m1 m2 L1 L2 S A2 c n2 k2 h hs hc (few_wide hc.fit hf)).mono fun e w' ⟨h1, h2⟩ => ⟨h1, went_of h hT h2⟩
 prune := fun w p T S A2 c n2 k2 ⟨A, n, k, m1, m2, L1, L2, h, hT⟩ hs hc hf => (pprune_is w p A n k m1 m2 L1 L2 S A2 c n2 k2 h hs hc hf).mono fun e w' ⟨h1, h2⟩ => ⟨h1, went_of h hT h2⟩
 ctx := fun w p T S ⟨A, n, k, m1, m2, L1, L2, h, hT⟩ hs => pctx_is w p A n k m1 m2 L1 L2 S h hs
 all := fun w p T S ⟨A, n, k, m1, m2, L1, L2, h, hT⟩ hs => (pall_is w p A n k m1 m2 L1 L2 S h hs).mono fun _ _ hp => owns_far hp
 live := fun w p T S ⟨A, n, k, m1, m2, L1, L2, h, hT⟩ hs => (plive_is w p A n k m1 m2 L1 L2 S h hs).mono fun _ _ hp => owns_evt hp
 tombs := fun w p T S ⟨A, n, k, m1, m2, L1, L2, h, hT⟩ hs => (ptombs_is w p A n k m1 m2 L1 L2 S h hs).mono fun _ _ hp => owns_evt hp
 of := fun w p T S cid ⟨A, n, k, m1, m2, L1, L2, h, hT⟩ hs _ => (pof_is w p A n k m1 m2 L1 L2 S cid h hs).mono fun _ _ hp => owns_evt hp
 copy := fun w p T S ⟨A, n, k, m1, m2, L1, L2, h, hT⟩ _ => (pcopy_is w p A n k m1 m2 L1 L2 S h).mono fun e w' ⟨p', m3, m4, h1, h2, h3, h4⟩ => ⟨p', h1, fresh_of h2 h3 h4⟩
 same := fun w p T S p2 T2 S2 ⟨A, n, k, m1, m2, L1, L2, h, hT⟩ ⟨A3, n3, k3, m3, m4, L3, L4, h2, hT2⟩ hs hs2 => psame_is w p A n k m1 m2 L1 L2 S p2 A3 n3 k3 m3 m4 L3 L4 S2 h h2 hs hs2
theorem pfr : PFr Lb where
 from_ := fun w A1 A2 c l n1 c1 n2 c2 hc hl hs => pfrom_is w A1 A2 c l n1 c1 n2 c2 hc hl hs
end Go.Proofs.YtgaegfddobpomaaGreat.Bk
