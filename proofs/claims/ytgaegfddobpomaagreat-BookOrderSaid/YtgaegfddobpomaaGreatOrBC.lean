/- Words and contracts that the proofs of this seat stand on, part 29 of 39. -/
import Derived.Test.YtgaegfddobpomaaGreatOrBB
import Derived.Shelf.SlSortCmp.WholeK
import Derived.Test.YtgaegfddobpomaaGreatProg
import Derived.Test.YtgaegfddobpomaaGreatOrS
import Derived.Test.YtgaegfddobpomaaGreatOrT

namespace Go.Proofs.YtgaegfddobpomaaGreat.Ev
open Go.ChangeShapes Go.WideShapes Go.ChangeAt Go.RowKit
set_option linter.unusedVariables false
set_option maxRecDepth 4000
def cfE (a b : PE) : Int := cmpE a.1 b.1
theorem ltE : ltOf cfE = ltK keyE := by
 funext a b
 show ltOf cmpE a.1 b.1 = Dt.aheadD a.2.dot b.2.dot
 rw [lt_dot, a.same, b.same]
theorem eqE (a b : PE) : oneE a.1 b.1 = eqK keyE a b := by
 show decide (a.1.dot = b.1.dot) = decide (a.2.dot = b.2.dot)
 rw [a.same, b.same]
theorem nil_ins (w : World) (fv : Value) : Calls Tryz.prog 169 #[.slice none 0 0, .int .i64 0, .int .i64 0, fv] w fun e w' => e = .returned (.tuple #[]) ∧ w' = w := by
 go_enter Tryz.func169, Tryz.ntmps169
 go_wp2
 refine wp_loop_rounds 1 ?_
 rw [rounds_succ]
 go_wp2
 go_end0
 exact ⟨rfl, rfl⟩
set_option maxHeartbeats 2000000 in
theorem nil_stable (w : World) (fv : Value) : Calls Tryz.prog 144 #[.slice none 0 0, .int .i64 0, fv] w fun e w' => e = .returned (.tuple #[]) ∧ w' = w := by
 have C := nil_ins w fv
 go_enter Tryz.func144, Tryz.ntmps144
 go_wp2
 refine wp_loop_rounds 1 ?_
 rw [rounds_succ]
 go_wp2_with fail
 refine C.mono ?_
 rintro e w1 ⟨rfl, rfl⟩
 clear C
 go_wp2
 refine wp_loop_rounds 1 ?_
 rw [rounds_succ]
 go_wp2
 go_end0
 exact ⟨rfl, rfl⟩
theorem nil_sort (w : World) (fv : Value) : Calls Tryz.prog 106 #[.slice none 0 0, fv] w fun e w' => e = .returned (.tuple #[]) ∧ w' = w := by
 have C := nil_stable w fv
 go_enter Tryz.func106, Tryz.ntmps106
 go_wp2_with fail
 refine C.mono ?_
 rintro e w1 ⟨rfl, rfl⟩
 clear C
 go_wp2
 go_end0
 exact ⟨rfl, rfl⟩
theorem nil_comp (w : World) (fv : Value) : Calls Tryz.prog 108 #[.slice none 0 0, fv] w fun e w' => e = .returned (.slice none 0 0) ∧ w' = w := by
 go_enter Tryz.func108, Tryz.ntmps108
 go_wp2
 go_ret
 exact ⟨rfl, rfl⟩
theorem rowP {w : World} {g : Nat} {Z : List PE} (hH : Sort.HoldsK encE 7 w g 0 Z.toArray) (hg : g < w.heap.size) : RowK encE 7 w g 0 Z.toArray :=
 ⟨fun _ => rfl, fun x v hv => ev_one [x.1] v (by simpa [ev, encE] using hv), hH, hg⟩
theorem sorted_row {w : World} {g cap : Nat} {Z : List PE} (R : RowK encE 7 w g 0 Z.toArray) (h60 : Z.length ≤ 1152921504606846976) : Calls Tryz.prog 106 #[.slice (some ⟨g, 0, none⟩) Z.length cap, .func (.func 107) #[] #[]] w (St.MergedTo cfE encE 7 w g 0 Z.toArray 0 Z.length) := by
 have eg : ∀ args w, (callFunc 107 args).run Tryz.prog w = .ok (.enter 107 args) w := enters_of Tryz.func107 (by kernel_rfl) rfl
 have eI : ∀ args w, (callFunc 169 args).run Tryz.prog w = .ok (.enter 169 args) w := enters_of Tryz.func169 (by kernel_rfl) rfl
 have hS : Sort.SWO (ltOf cfE) := by rw [ltE]; exact swoK keyE
 have hC : CmpLays Tryz.prog 107 #[] encE 7 cfE g 0 Z.toArray.size w := fun m os dk _ x y => bydot_any _ x.1 y.1
 have h := St.sortStable_any St.laysE R (by simpa using h60) hS 107 #[] eg hC cap eI (fun a b dk W h1 h2 h3 h4 => St.ins_any R (by simp; omega) hS 107 #[] eg hC cap a b dk W h1 h2 h3 h4) Z.toArray rfl w (SWK.start R.hH)
 rw [List.size_toArray] at h
 exact h
theorem compact_row {w W : World} {g cap : Nat} {Z : List PE} {d : Array PE} (R : RowK encE 7 w g 0 Z.toArray) (h60 : Z.length ≤ 1152921504606846976) (hcap : Z.length ≤ cap) (hs : d.size = Z.length) (hW : SWK encE 7 w g 0 d W) : Calls Tryz.prog 108 #[.slice (some ⟨g, 0, none⟩) Z.length cap, .func (.func 109) #[] #[]] W (St.CompTo (eqK keyE) encE 7 w g 0 cap d) := by
 have eg : ∀ args w, (callFunc 109 args).run Tryz.prog w = .ok (.enter 109 args) w := enters_of Tryz.func109 (by kernel_rfl) rfl
 have hE : St.EqLays Tryz.prog 109 #[] encE 7 (eqK keyE) g 0 Z.toArray.size w := fun m os dk _ x y => by
   rw [← eqE]
   exact onedot_any _ x.1 y.1
 have h := St.compactFunc_any St.laysC R (by simp; omega) cap (by simpa using hcap) default Tryz.zeroValue38 (eqK keyE) 109 #[] eg hE d (by simpa using hs) W hW
 rw [List.size_toArray] at h
 exact h
theorem copied_start {w w1 W : World} {g m : Nat} {l : List Evt} {Z : List PE} {d d1 : Array PE} (hl : Z.map PE.snd = l) (hZ : ∀ a ∈ Z, EventIs w w.heap.size a.1 a.2) (hg : w.heap.size ≤ g) (hb : Below w.heap.size w w1) (R : RowK encE 7 w1 g 0 Z.toArray)
   (hs1 : d1.size = Z.length) (hm1 : St.Merged (ltOf cfE) (St.row Z.toArray) (St.row d1) 0 Z.length) (hm : m ≤ d1.size) (hs : d.size = d1.size) (hW : SWK encE 7 w1 g 0 d W) (hf : St.seg (St.row d) 0 m = St.firsts (eqK keyE) (St.row d1) d1.size) :
   (sortE l).length = m ∧ Copied w g m (sortE l) 0 ((St.seg (St.row d) 0 m).map PE.fst) W := by
 have hz : St.seg (St.row Z.toArray) 0 Z.length = Z := St.seg_list Z
 have hk := hm1.keep
 have hst := hm1.srt
 rw [hz] at hk
 rw [ltE] at hk hst
 have hsort : (St.seg (St.row d) 0 m).map PE.snd = sortE l := by rw [hf, hs1, firsts_sort hst hk, hl]
 have hlen : (St.seg (St.row d) 0 m).length = m := by simp [St.seg]
 refine ⟨by rw [← hsort, List.length_map, hlen], ⟨by rw [List.length_map, hlen], swk_row hW R.hH (by rw [hs, hs1]; simp) R.hblk (by omega), hb.trans (swk_below hW hg hb.size), fun j p x hj => by omega, fun j p x _ hp hx => ?_⟩⟩
 rw [← hsort] at hx
 rw [List.getElem?_map, Option.map_eq_some_iff] at hp hx
 obtain ⟨a, ha, rfl⟩ := hp
 obtain ⟨b, hb, rfl⟩ := hx
 rw [ha] at hb
 cases hb
 have hmem : a ∈ St.seg (St.row d) 0 m := List.mem_of_getElem? ha
 rw [hf] at hmem
 obtain ⟨i, hi, rfl, _⟩ := (mem_firsts _ a).1 hmem
 refine hZ _ ((hk.mem (swoK keyE) _).1 (St.mem_seg.2 ⟨i, Nat.zero_le _, by omega, rfl⟩))
set_option maxHeartbeats 8000000 in
theorem psortE_any (w : World) (A : Option Addr) (l : List Evt) (n c : Nat) (h : EventsAt w w.heap.size A l n c) (h40 : n ≤ 1099511627776) : Calls Tryz.prog 63 #[.slice A n c] w (OwnsPost w (sortE l)) := by
 obtain ⟨ps, hlies, hmatch⟩ := h.evts
 obtain ⟨Z, rfl, hZl⟩ := zip_of ps l hmatch
 have hZn : Z.length = n := by rw [← h.len, ← hZl, List.length_map]
 have HZ : Hid (∀ a ∈ Z, EventIs w w.heap.size a.1 a.2) := Lib.hid (fun a ha => by
   obtain ⟨j, hj, rfl⟩ := List.getElem_of_mem ha
   exact hmatch.2 j _ _ (by simp [hj]) (by rw [← hZl]; simp [hj]))
 have C1 := pcloneE w A (Z.map PE.fst) n c (by rw [List.length_map, hZn]) h.nil hlies (by omega)
 have HL := Lib.hid hZl
 have HN := Lib.hid hZn
 have hwide := h.wide
 clear h hlies hmatch hZl hZn
 go_enter Tryz.func63, Tryz.ntmps63
 go_wp2_with fail
 refine C1.mono ?_
 rintro e w1 ⟨A1, c1, rfl, ho, hb⟩
 clear C1
 have HO := Lib.hid ho
 have HB := Lib.hid hb
 rcases ho.2 with ⟨e0, rfl⟩ | ⟨g, cap, _, e0, hg, hheap, hcap, hmax, _⟩
 · cases e0
   have hz : Z = [] := List.eq_nil_of_length_eq_zero HN.out
   have hl : l = [] := by rw [← HL.out, hz]; rfl
   subst hl
   have C2 := nil_sort w1 (.func (.func 107) #[] #[])
   have C3 := nil_comp w1 (.func (.func 109) #[] #[])
   clear ho hb
   go_wp2_with fail
   refine C2.mono ?_
   rintro e w2 ⟨rfl, rfl⟩
   go_wp2_with fail
   refine C3.mono ?_
   rintro e w3 ⟨rfl, rfl⟩
   clear C2 C3
   go_wp2
   refine wp_loop_rounds 1 ?_
   rw [rounds_succ]
   go_wp2
   go_ret
   exact ⟨none, 0, 0, rfl, EventsAt.none_ _ _, fun k hk => by omega, HB.out⟩
 · cases e0
   have hlt : g < w1.heap.size := (Array.getElem?_eq_some_iff.1 hheap).1
   obtain ⟨hH, _⟩ := own_holds HN.out HO.out (.inr hlt)
   have R := rowP hH hlt
   have C2 := sorted_row (cap := c1) R (by rw [HN.out]; omega)
   rw [HN.out] at C2
   have HR := Lib.hid R
   have HG := Lib.hid hg
   clear ho hb hheap hH R
   go_wp2_with fail
   refine C2.mono ?_
   rintro e w2 ⟨rfl, d1, hs1, hw1, hm1⟩
   have hs1 : d1.size = n := by rw [hs1]; simpa using HN.out
   have C3 := compact_row (cap := c1) HR.out (by rw [HN.out]; omega) (by rw [HN.out]; exact hcap) (by rw [HN.out]; exact hs1) hw1
   rw [HN.out] at C3
   have HM1 := Lib.hid hm1
   clear C2 hw1 hm1
   go_wp2_with fail
   refine C3.mono ?_
   rintro e w3 ⟨m, d2, hm, rfl, hs2, hw2, hf⟩
   obtain ⟨hlen, hcp⟩ := copied_start HL.out HZ.out HG.out HB.out HR.out (by rw [HN.out]; exact hs1) (by rw [HN.out]; exact HM1.out) hm hs2 hw2 hf
   have hmn : m ≤ n := by omega
   have HLEN := Lib.hid hlen
   have HCP := Lib.hid hcp
   clear C3 hw2 hf hlen hcp
   go_wp2
   go_loopw [13] (fun vi wr => ∃ (k : Nat) (ps : List EV), vi = .int .i64 (k : Int) ∧ k ≤ m ∧ Copied w g m (sortE l) k ps wr) (fun vi _ => m - (intOf vi).toNat)
   case atStart => exact ⟨0, _, by go_num, Nat.zero_le _, HCP.out⟩
   case round =>
     obtain ⟨k, ps2, rfl, hk, hcp⟩ := hrel
     have HC := Lib.hid hcp
     by_cases hlt2 : k < m
     · have hz : (k : Int) < (m : Int) := by omega
       have hkp : k < ps2.length := by rw [hcp.len]; exact hlt2
       have hkl : k < (sortE l).length := by rw [HLEN.out]; exact hlt2
       have hp := List.getElem?_eq_getElem hkp
       have hx := List.getElem?_eq_getElem hkl
       obtain ⟨c0, c1', c2, c3, c4, c5, c6⟩ := hcp.row.cell k _ hp
       have hold := (hcp.old k _ _ (Nat.le_refl _) hp hx).up hcp.bel
       have CC := pcopy_any wr _ _ hold
       have HX := Lib.hid hx
       have hfr := fun (w4 : World) (hb : Below wr.heap.size wr w4) => (hcp.row.below hb).free k _ hp
       have hct := fun (w4 : World) (hb : Below wr.heap.size wr w4) => (hcp.row.below hb).cell k _ hp
       have HFR := Lib.hid hfr
       have HCT := Lib.hid hct
       generalize ps2[k] = p at CC c0 c1' c2 c3 c4 c5 c6 HFR HCT
       obtain ⟨p1, p2, p3, p4, p5, p6, pA, pn, pc⟩ := p
       simp only [EV.val] at CC
       simp only at c0 c1' c2 c3 c4 c5 c6
       clear hp hx hold hfr hct hcp
       go_wp2_with fail
       refine CC.mono ?_
       rintro e w4 ⟨q, rfl, hq, hfq, hbq⟩
       have HN4 := Lib.hid (HC.out.next HG.out hlt2 HX.out hq hfq hbq)
       have f0 := HFR.out w4 hbq 0 (by omega)
       have f1 := HFR.out w4 hbq 1 (by omega)
       have f2 := HFR.out w4 hbq 2 (by omega)
       have f3 := HFR.out w4 hbq 3 (by omega)
       have f4 := HFR.out w4 hbq 4 (by omega)
       have f5 := HFR.out w4 hbq 5 (by omega)
       have f6 := HFR.out w4 hbq 6 (by omega)
       obtain ⟨d0, d1', d2', d3, d4, d5, d6⟩ := HCT.out w4 hbq
       simp only [Nat.add_zero] at f0
       obtain ⟨q1, q2, q3, q4, q5, q6, qA, qn, qc⟩ := q
       rw [putAt_eq] at HN4
       simp only [EV.val]
       simp only at HN4 d0 d1' d2' d3 d4 d5 d6
       clear CC hq hfq hbq HFR HCT c0 c1' c2 c3 c4 c5 c6
       go_wp2
       go_roundw
       case rel => exact ⟨k + 1, _, by go_num, by omega, HN4.out⟩
       case measure => simp [intOf]; omega
     · obtain rfl : k = m := by omega
       go_wp2
       go_ret
       exact HC.out.done HG.out HLEN.out (by omega) hmax (by omega)
end Go.Proofs.YtgaegfddobpomaaGreat.Ev

namespace Go.Proofs
open Go.Shelf
def Tryz.sortR_ren : Go.Shelf.Ren := ⟨fun | 6 => 158 | 15 => 163 | 14 => 175 | 28 => 185 | 29 => 186 | 20 => 197 | 21 => 198 | 22 => 199 | 23 => 200 | 24 => 201 | 25 => 202 | 26 => 203 | 27 => 204 | 46 => 214 | 47 => 206 | 48 => 207 | 49 => 215 | 50 => 216 | 57 => 219 | n => n, fun | 22 => 69 | 24 => 68 | 25 => 171 | 3 => 3 | 39 => 166 | 0 => 0 | 53 => 193 | 55 => 33 | 4 => 4 | 46 => 186 | 45 => 185 | 50 => 190 | 5 => 5 | 9 => 9 | 66 => 206 | 70 => 210 | 76 => 216 | 77 => 217 | n => n, fun | n => n⟩
theorem Tryz.sortR : Go.Proofs.SlLaysF0.n6 Tryz.prog Tryz.sortR_ren := {
 mixed := by kernel_rfl
 f6 := ⟨Tryz.f158.name, by decide, Tryz.func158.trans (congrArg some (by kernel_rfl))⟩
 f14 := ⟨Tryz.f175.name, by decide, Tryz.func175.trans (congrArg some (by kernel_rfl))⟩
 f15 := Tryz.func163.trans (congrArg some (by kernel_rfl))
 f20 := ⟨Tryz.f197.name, by decide, Tryz.func197.trans (congrArg some (by kernel_rfl))⟩
 f21 := ⟨Tryz.f198.name, by decide, Tryz.func198.trans (congrArg some (by kernel_rfl))⟩
 f22 := ⟨Tryz.f199.name, by decide, Tryz.func199.trans (congrArg some (by kernel_rfl))⟩
 f23 := ⟨Tryz.f200.name, by decide, Tryz.func200.trans (congrArg some (by kernel_rfl))⟩
 f24 := ⟨Tryz.f201.name, by decide, Tryz.func201.trans (congrArg some (by kernel_rfl))⟩
 f25 := ⟨Tryz.f202.name, by decide, Tryz.func202.trans (congrArg some (by kernel_rfl))⟩
 f26 := ⟨Tryz.f203.name, by decide, Tryz.func203.trans (congrArg some (by kernel_rfl))⟩
 f27 := ⟨Tryz.f204.name, by decide, Tryz.func204.trans (congrArg some (by kernel_rfl))⟩
 f28 := Tryz.func185.trans (congrArg some (by kernel_rfl))
 f29 := Tryz.func186.trans (congrArg some (by kernel_rfl))
 f46 := ⟨Tryz.f214.name, by decide, Tryz.func214.trans (congrArg some (by kernel_rfl))⟩
 f47 := Tryz.func206.trans (congrArg some (by kernel_rfl))
 f48 := Tryz.func207.trans (congrArg some (by kernel_rfl))
 f49 := ⟨Tryz.f215.name, by decide, Tryz.func215.trans (congrArg some (by kernel_rfl))⟩
 f50 := ⟨Tryz.f216.name, by decide, Tryz.func216.trans (congrArg some (by kernel_rfl))⟩
 f57 := ⟨Tryz.f219.name, by decide, Tryz.func219.trans (congrArg some (by kernel_rfl))⟩
 t0 := Tryz.underlying0
 a0 := Tryz.isAgg0
 z0 := Tryz.sizeOf0
 v0 := Tryz.zeroValue0
 t3 := Tryz.underlying3
 a3 := Tryz.isAgg3
 z3 := Tryz.sizeOf3
 v3 := Tryz.zeroValue3
 t4 := Tryz.underlying4
 a4 := Tryz.isAgg4
 z4 := Tryz.sizeOf4
 v4 := Tryz.zeroValue4
 t5 := Tryz.underlying5
 a5 := Tryz.isAgg5
 z5 := Tryz.sizeOf5
 v5 := Tryz.zeroValue5
 t9 := Tryz.underlying9
 a9 := Tryz.isAgg9
 z9 := Tryz.sizeOf9
 v9 := Tryz.zeroValue9
 t22 := Tryz.underlying69
 a22 := Tryz.isAgg69
 z22 := Tryz.sizeOf69
 v22 := Tryz.zeroValue69
 t25 := Tryz.underlying171
 a25 := Tryz.isAgg171
 z25 := Tryz.sizeOf171
 v25 := Tryz.zeroValue171
 t39 := Tryz.underlying166
 a39 := Tryz.isAgg166
 z39 := Tryz.sizeOf166
 v39 := Tryz.zeroValue166
 t45 := Tryz.underlying185
 a45 := Tryz.isAgg185
 z45 := Tryz.sizeOf185
 v45 := Tryz.zeroValue185
 t46 := Tryz.underlying186
 a46 := Tryz.isAgg186
 z46 := Tryz.sizeOf186
 v46 := Tryz.zeroValue186
 t50 := Tryz.underlying190
 a50 := Tryz.isAgg190
 z50 := Tryz.sizeOf190
 v50 := Tryz.zeroValue190
 t53 := Tryz.underlying193
 a53 := Tryz.isAgg193
 z53 := Tryz.sizeOf193
 v53 := Tryz.zeroValue193
 t55 := Tryz.underlying33
 a55 := Tryz.isAgg33
 z55 := Tryz.sizeOf33
 v55 := Tryz.zeroValue33
 t66 := Tryz.underlying206
 a66 := Tryz.isAgg206
 z66 := Tryz.sizeOf206
 v66 := Tryz.zeroValue206
 t70 := Tryz.underlying210
 a70 := Tryz.isAgg210
 z70 := Tryz.sizeOf210
 v70 := Tryz.zeroValue210
 t76 := Tryz.underlying216
 a76 := Tryz.isAgg216
 z76 := Tryz.sizeOf216
 v76 := Tryz.zeroValue216
 t77 := Tryz.underlying217
 a77 := Tryz.isAgg217
 z77 := Tryz.sizeOf217
 v77 := Tryz.zeroValue217 }
end Go.Proofs

namespace Go.Proofs.YtgaegfddobpomaaGreat.Ru
open Go.ChangeShapes Go.WideShapes Go.ChangeAt Go.RowKit Go.Shelf
set_option linter.unusedVariables false
set_option maxRecDepth 4000
theorem nan_any (w : World) (x : Nat) : Calls Tryz.prog 176 #[.int .u64 (x : Int)] w fun e w' => e = .returned (.bool false) ∧ w' = w := by
 have h : ((x : Int) != (x : Int)) = false := by rw [bne_eq_false_iff_eq]
 generalize ((x : Nat) : Int) = y at *
 go_enter Tryz.func176, Tryz.ntmps176
 go_wp2
 go_ret
 exact ⟨rfl, rfl⟩
def cfR (x y : Run) : Int := Lib.compareInt x.1 y.1
theorem compare_any (w : World) (x y : Nat) : Calls Tryz.prog 160 #[.int .u64 (x : Int), .int .u64 (y : Int)] w fun e w' => e = .returned (.int .i64 (Lib.compareInt x y)) ∧ w' = w := by
 have hx := fun W => nan_any W x
 have hy := fun W => nan_any W y
 unfold Lib.compareInt
 by_cases h1 : (x : Int) < y
 · rw [if_pos h1]
   generalize ((x : Nat) : Int) = x at *
   generalize ((y : Nat) : Int) = y at *
   go_enter Tryz.func160, Tryz.ntmps160
   go_wp2_with fail
   refine (hx _).mono ?_
   rintro e w1 ⟨rfl, rfl⟩
   go_wp2_with fail
   refine (hy _).mono ?_
   rintro e w1 ⟨rfl, rfl⟩
   go_wp2
   go_ret
   exact ⟨rfl, rfl⟩
 · rw [if_neg h1]
   have d1 : decide ((x : Int) < y) = false := decide_eq_false h1
   by_cases h2 : (x : Int) > y
   · rw [if_pos h2]
     have d2 : decide ((y : Int) < x) = true := decide_eq_true h2
     clear h1
     generalize ((x : Nat) : Int) = x at *
     generalize ((y : Nat) : Int) = y at *
     go_enter Tryz.func160, Tryz.ntmps160
     go_wp2_with fail
     refine (hx _).mono ?_
     rintro e w1 ⟨rfl, rfl⟩
     go_wp2_with fail
     refine (hy _).mono ?_
     rintro e w1 ⟨rfl, rfl⟩
     go_wp2
     go_ret
     exact ⟨rfl, rfl⟩
   · rw [if_neg h2]
     have d2 : decide ((y : Int) < x) = false := decide_eq_false h2
     clear h1 h2
     generalize ((x : Nat) : Int) = x at *
     generalize ((y : Nat) : Int) = y at *
     go_enter Tryz.func160, Tryz.ntmps160
     go_wp2_with fail
     refine (hx _).mono ?_
     rintro e w1 ⟨rfl, rfl⟩
     go_wp2_with fail
     refine (hy _).mono ?_
     rintro e w1 ⟨rfl, rfl⟩
     go_wp2
     go_ret
     exact ⟨rfl, rfl⟩
def encC (r : Run) : List Value := [.int .u64 (r.1 : Int), .int .u64 (r.2 : Int)]
theorem closure_any (x y : Run) (W : World) : Calls Tryz.prog 159 #[.agg #[.int .u64 (x.1 : Int), .int .u64 (x.2 : Int)], .agg #[.int .u64 (y.1 : Int), .int .u64 (y.2 : Int)]] W fun e w' => e = .returned (.int .i64 (cfR x y)) ∧ ∃ q os', w' = Sort.grow (W.drewN q) os' := by
 have hcon : ∀ W', Calls Tryz.prog 160 #[.int .u64 (x.1 : Int), .int .u64 (y.1 : Int)] W' fun e w' => e = .returned (.int .i64 (cfR x y)) ∧ w' = W' := fun W' => compare_any W' x.1 y.1
 generalize cfR x y = r at hcon ⊢
 go_enter Tryz.func159, Tryz.ntmps159
 go_wp2_with (go_at_call 160; refine (hcon _).mono ?_; rintro e w' ⟨rfl, rfl⟩)
 go_ret
 exact ⟨rfl, 0, _, by rw [Sort.alloc_eq_grow, Sort.alloc_eq_grow, Sort.grow_grow]; rfl⟩
theorem ltR (x y : Run) : ltOf cfR x y = decide (x.1 < y.1) := by
 unfold ltOf cfR Lib.compareInt
 by_cases h1 : (x.1 : Int) < y.1
 · have : x.1 < y.1 := by omega
   simp [this]
 · by_cases h2 : (y.1 : Int) < x.1
   · have h3 : ¬ x.1 < y.1 := by omega
     have h4 : y.1 < x.1 := by omega
     simp [h3, h4]
   · have h3 : ¬ x.1 < y.1 := by omega
     have h4 : ¬ y.1 < x.1 := by omega
     simp [h3, h4]
theorem swoR : Sort.SWO (ltOf cfR) where
 irrefl x := by rw [ltR]; simp
 trans x y z h1 h2 := by rw [ltR] at *; simp at *; omega
 ntrans x y z h1 h2 := by rw [ltR] at *; simp at *; omega
theorem flat_rv (l : List Run) (j : Nat) (hj : j < l.length * 2) : (rv l)[j]? = some (Sort.flatK encC 2 l.toArray)[j]! := by
 rw [Sort.get_flatK _ _ _ _ (by simpa using hj)]
 have hk : j / 2 < l.length := by omega
 have hg : l[j / 2]? = some l[j / 2] := List.getElem?_eq_getElem hk
 obtain ⟨g1, g2⟩ := rv_get hg
 have e : l.toArray[j / 2]! = l[j / 2] := by rw [getElem!_pos _ _ (by simpa using hk)]; simp
 rw [e]
 rcases Nat.mod_two_eq_zero_or_one j with h | h
 · rw [h]
   have : j / 2 * 2 = j := by omega
   rw [this] at g1
   simpa [encC] using g1
 · rw [h]
   have : j / 2 * 2 + 1 = j := by omega
   rw [this] at g2
   simpa [encC] using g2
theorem sort_any (w : World) (B g cap n : Nat) (d : List Run) (hn : d.length = n) (h62 : n < 4611686018427387904) (h : w.ownsRow B 68 2 (.slice (some ⟨g, 0, none⟩) n cap) n (rv d)) :
   Calls Tryz.prog 158 #[.slice (some ⟨g, 0, none⟩) n cap, .func (.func 159) #[] #[]] w fun e w' => e = .returned (.tuple #[]) ∧ ∃ m : List Run, m.Perm d ∧ Rise m ∧ w'.ownsRow B 68 2 (.slice (some ⟨g, 0, none⟩) n cap) n (rv m) ∧ w.grownBy w' (some g) := by
 subst hn
 obtain ⟨hlen, ⟨hz, _⟩ | ⟨g', cap', cur, e, hB, hheap, hle, hmx, hsz, htk⟩⟩ := h
 · cases hz
 · cases e
   have hlt : g < w.heap.size := (Array.getElem?_eq_some_iff.1 hheap).1
   have hcell : ∀ j, j < d.length * 2 → cur[j]? = (rv d)[j]? := fun j hj => by
     rw [← htk, List.getElem?_take, if_pos hj]
     simp
   have hH : Sort.HoldsK encC 2 w g 0 d.toArray := fun j hj => by
     have hj' : j < d.length * 2 := by simpa using hj
     refine ⟨?_, by simp [World.frozen?, hheap]⟩
     rw [Nat.zero_add, show id (Sort.flatK encC 2 d.toArray)[j]! = (Sort.flatK encC 2 d.toArray)[j]! from rfl, ← flat_rv d j hj', ← hcell j hj']
     simp [World.cell?, hheap]
   have eg : ∀ args w, (callFunc 159 args).run Tryz.prog w = .ok (.enter 159 args) w := enters_of Tryz.func159 (by kernel_rfl) rfl
   have hcon := AnyQ.slices_SortFunc Tryz.sortR 2 Tryz.isAgg68 Tryz.sizeOf68 encC (fun _ => rfl) (fun x v hv => by simp [encC] at hv; rcases hv with rfl | rfl <;> rfl) cfR swoR 159 #[] g 0 cap d.toArray w eg (fun m os dk _ x y => closure_any x y _) hH hlt (by simpa using h62)
   change Calls Tryz.prog 158 _ _ _ at hcon
   rw [List.size_toArray] at hcon
   refine hcon.mono ?_
   rintro e w' ⟨rfl, d', q, os, hp, hs, rfl⟩
   have h1 : d'.size = d.length := by simpa using hp.1
   refine ⟨rfl, d'.toList, ?_, ?_, ?_, ?_⟩
   · have h3 := hp.2.2
     have e1 : d'.extract 0 d.length = d' := by rw [← h1]; simp
     have e2 : d.toArray.extract 0 d.length = d.toArray := by simp
     rw [e1, e2] at h3
     exact h3
   · refine List.pairwise_iff_getElem.2 fun i j hi hj hij => ?_
     rw [Array.length_toList] at hi hj
     have := hs i j (Nat.zero_le _) hij (by omega)
     rw [ltR, getElem!_pos d' j hj, getElem!_pos d' i hi] at this
     simpa using this
   · refine ⟨by rw [rv_length, Array.length_toList, h1], .inr ⟨g, cap, Sort.putCells id 0 (Sort.flatK encC 2 d') cur, rfl, hB, ?_, hle, hmx, by simp [Sort.putCells, hsz], ?_⟩⟩
     · show ((w.heap.modify g (Sort.onCells (Sort.putCells id 0 (Sort.flatK encC 2 d')))) ++ os)[g]? = _
       rw [Array.getElem?_append_left (by simpa using hlt), Array.getElem?_modify, if_pos rfl, hheap]
       rfl
     · apply List.ext_getElem?
       intro j
       rw [List.getElem?_take]
       by_cases hj : j < d.length * 2
       · rw [if_pos hj]
         have hf := flat_rv d'.toList j (by rw [Array.length_toList, h1]; exact hj)
         rw [Array.toArray_toList] at hf
         rw [hf]
         have hc : cur[j]? = some cur[j] := Array.getElem?_eq_getElem (by omega)
         simp [Sort.putCells, hc, h1, hj]
       · rw [if_neg hj]
         exact (List.getElem?_eq_none (by rw [rv_length, Array.length_toList, h1]; omega)).symm
   · refine ⟨rfl, rfl, rfl, ?_, fun k hk hne => ?_⟩
     · show w.heap.size ≤ ((w.heap.modify g _) ++ os).size
       simp
     · show ((w.heap.modify g _) ++ os)[k]? = _
       rw [Array.getElem?_append_left (by simpa using hk), Array.getElem?_modify, if_neg (fun e => hne (by rw [e]))]
theorem ins_nil (w : World) (fv : Value) : Calls Tryz.prog 197 #[.slice none 0 0, .int .i64 0, .int .i64 0, fv] w fun e w' => e = .returned (.tuple #[]) ∧ w' = w := by
 go_enter Tryz.func197, Tryz.ntmps197
 go_wp2
 refine wp_loop_rounds 1 ?_
 rw [rounds_succ]
 go_wp2
 go_end0
 exact ⟨rfl, rfl⟩
theorem pdq_nil (w : World) (lim : Int) (fv : Value) : Calls Tryz.prog 175 #[.slice none 0 0, .int .i64 0, .int .i64 0, .int .i64 lim, fv] w fun e w' => e = .returned (.tuple #[]) ∧ w' = w := by
 have hi := fun W => ins_nil W fv
 go_enter Tryz.func175, Tryz.ntmps175
 go_wp2
 refine wp_loop_rounds 1 ?_
 rw [rounds_succ]
 go_wp2_with (go_at_call 197; refine (hi _).mono ?_; rintro e w' ⟨rfl, rfl⟩)
 (try simp only [Exit.inBlock, Exit.then]); refine bodyPost_ret (results_none rfl _ _ _) rfl ?_
 exact ⟨rfl, rfl⟩
theorem len_nil (w : World) : Calls Tryz.prog 163 #[.int .u64 0] w fun e w' => e = .returned (.int .i64 (Lib.bitLen 0 : Nat)) ∧ w' = w := by
 have h := Any.bits_Len (SlLaysF0.n15.bits (P := Tryz.prog) (ρ := Tryz.sortR_ren) { Tryz.sortR with }) 0 w (by omega) (by omega)
 change Calls Tryz.prog 163 _ _ _ at h
 exact h
theorem sort_nil (w : World) : Calls Tryz.prog 158 #[.slice none 0 0, .func (.func 159) #[] #[]] w fun e w' => e = .returned (.tuple #[]) ∧ w' = w := by
 have hl := fun W => len_nil W
 have hp := fun lim W => pdq_nil W lim (.func (.func 159) #[] #[])
 go_enter Tryz.func158, Tryz.ntmps158
 go_wp2_with (first | (go_at_call 163; refine (hl _).mono ?_; rintro e w' ⟨rfl, rfl⟩) | (go_at_call 175; refine (hp _ _).mono ?_; rintro e w' ⟨rfl, rfl⟩))
 go_end0
 exact ⟨rfl, rfl⟩
theorem joined_nil (w : World) : Calls Tryz.prog 161 #[.slice none 0 0] w fun e w' => e = .returned (.slice none 0 0) ∧ w' = w := by
 go_enter Tryz.func161, Tryz.ntmps161
 go_wp2
 refine wp_loop_rounds 1 ?_
 rw [rounds_succ]
 go_wp2
 go_ret
 exact ⟨rfl, rfl⟩
theorem perm_length {l m : List Run} (h : m.Perm l) {n : Nat} (hl : l.length = n) : m.length = n := by rw [h.length_eq, hl]
theorem pnorm_any (w : World) (A : Option Addr) (l : List Run) (n c : Nat) (hl : l.length = n) (hb : Runs w w.heap.size A l) (h42 : n ≤ 4398046511104) :
   Calls Tryz.prog 128 #[.slice A n c] w (RunPost w (nrm l)) := by
 have HL := Lib.hid hl
 have HB := Lib.hid hb
 have L0 : Hid (Below w.heap.size w (w.alloc (.cells #[.slice A n c] 69))) := below_new _ _
 have HC : Hid (Calls Tryz.prog 157 #[.func (.func 156) #[] #[.pointer (some ⟨w.heap.size, 0, none⟩)]] (w.alloc (.cells #[.slice A n c] 69)) (RunPost (w.alloc (.cells #[.slice A n c] 69)) (tells l))) :=
   collect_any _ w.heap.size A l n c hl (by simp) (Boxed.new w 69 (.slice A n c)).cell (hb.up L0.out) h42
 clear hl hb
 go_enter Tryz.func128, Tryz.ntmps128
 go_wp2_with fail
 refine (telling_any w A n c).mono ?_
 rintro e w1 ⟨rfl, rfl⟩
 go_wp2_with fail
 refine HC.out.mono ?_
 rintro e w2 ⟨A2, n2, c2, rfl, hn2, ho2, hb2⟩
 have hn3 : n2 ≤ 4398046511104 := by
   rw [← hn2]
   refine Nat.le_trans (List.length_filter_le _ _) ?_
   rw [HL.out]; exact h42
 have HO := Lib.hid (own_less ho2 L0.out.size)
 have HW : Hid (Below w.heap.size w w2) := L0.out.trans (hb2.mono L0.out.size)
 have HN := Lib.hid hn2
 clear ho2 hb2 hn2 HC L0
 rcases A2 with _ | ad
 · obtain ⟨rfl, rfl⟩ := (own_len HO.out).2.2 rfl
   have hz : Hid (nrm l = []) := by
     show _ = _
     rw [← joined_norm (l := l) (m := []) (by rw [List.eq_nil_of_length_eq_zero HN.out]) List.Pairwise.nil]
     rfl
   go_wp2_with fail
   refine (sort_nil _).mono ?_
   rintro e w3 ⟨rfl, rfl⟩
   go_wp2_with fail
   refine (joined_nil _).mono ?_
   rintro e w3 ⟨rfl, rfl⟩
   go_wp2
   go_ret
   rw [hz.out]
   exact ⟨none, 0, 0, rfl, rfl, World.ownsRow_nil _ _ _ _, HW.out⟩
 · obtain ⟨g, cap, e, hBg⟩ : ∃ g cap, Value.slice (some ad) n2 c2 = .slice (some ⟨g, 0, none⟩) n2 cap ∧ w.heap.size ≤ g := own_shape (w := w) HO.out (.inr (fun h => by cases h))
   cases e
   go_wp2_with fail
   refine (sort_any w2 w.heap.size g c2 n2 (tells l) HN.out (by omega) HO.out).mono ?_
   rintro e w3 ⟨rfl, m, hp, hr, ho3, hg3⟩
   have HJ := Lib.hid (joined_norm hp hr)
   have HC : Hid (Calls Tryz.prog 161 #[.slice (some ⟨g, 0, none⟩) n2 c2] w3 fun e w' => ∃ k, e = .returned (.slice (some ⟨g, 0, none⟩) k c2) ∧ (joinL m).length = k ∧ w'.ownsRow w.heap.size 68 2 (.slice (some ⟨g, 0, none⟩) k c2) k (rv (joinL m)) ∧ w3.grownBy w' (some g)) :=
     joined_any w3 w.heap.size g c2 n2 m (perm_length hp HN.out) ho3 (fun r h => (List.mem_filter.1 (hp.mem_iff.1 h)).2) hr hn3
   have HG := Lib.hid hg3
   clear hp hr ho3 hg3
   go_wp2_with fail
   refine HC.out.mono ?_
   rintro e w4 ⟨k, rfl, hk, ho4, hg4⟩
   rw [HJ.out] at hk ho4
   have HO4 := Lib.hid ho4
   have HK := Lib.hid hk
   have HW4 : Hid (Below w.heap.size w w4) := HW.out.grown (grown_trans HG.out hg4) HW.out.size (fun j e => by cases e; exact hBg)
   clear ho4 hg4 hk
   go_wp2
   go_ret
   exact ⟨_, k, c2, rfl, HK.out, HO4.out, HW4.out⟩
end Go.Proofs.YtgaegfddobpomaaGreat.Ru
