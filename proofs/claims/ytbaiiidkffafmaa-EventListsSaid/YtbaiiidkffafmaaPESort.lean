/- The contract of the program's Sort of layer event. For every list of at most 2^40 events. -/
import Derived.Test.YtbaiiidkffafmaaPESortW
namespace Go.Proofs.Ytbaiiidkffafmaa.Ev
open Go.ChangeShapes Go.WideShapes Go.ChangeAt Go.RowKit
set_option linter.unusedVariables false
set_option maxRecDepth 4000

/-- how two events' dots stand, as byDot tells. -/
def cfE (a b : PE) : Int := cmpE a.1 b.1
theorem ltE : ltOf cfE = ltK keyE := by
  funext a b
  show ltOf cmpE a.1 b.1 = Dt.aheadD a.2.dot b.2.dot
  rw [lt_dot, a.same, b.same]
theorem eqE (a b : PE) : oneE a.1 b.1 = eqK keyE a b := by
  show decide (a.1.dot = b.1.dot) = decide (a.2.dot = b.2.dot)
  rw [a.same, b.same]
theorem nil_ins (w : World) (fv : Value) : Calls Try.prog 60 #[.slice none 0 0, .int .i64 0, .int .i64 0, fv] w fun e w' => e = .returned (.tuple #[]) ∧ w' = w := by
  go_enter Try.func60, Try.ntmps60
  go_wp2
  refine wp_loop_rounds 1 ?_
  rw [rounds_succ]
  go_wp2
  go_end0
  exact ⟨rfl, rfl⟩
set_option maxHeartbeats 2000000 in
theorem nil_stable (w : World) (fv : Value) : Calls Try.prog 53 #[.slice none 0 0, .int .i64 0, fv] w fun e w' => e = .returned (.tuple #[]) ∧ w' = w := by
  have C := nil_ins w fv
  go_enter Try.func53, Try.ntmps53
  go_wp2
  refine wp_loop_rounds 1 ?_
  rw [rounds_succ]
  go_wp2_with fail
  refine C.mono ?_
  rintro e w1 ⟨rfl, rfl⟩
  clear C
  go_wp2
  refine wp_loop_rounds 1 ?_
  rw [rounds_succ]
  go_wp2
  go_end0
  exact ⟨rfl, rfl⟩
theorem nil_sort (w : World) (fv : Value) : Calls Try.prog 37 #[.slice none 0 0, fv] w fun e w' => e = .returned (.tuple #[]) ∧ w' = w := by
  have C := nil_stable w fv
  go_enter Try.func37, Try.ntmps37
  go_wp2_with fail
  refine C.mono ?_
  rintro e w1 ⟨rfl, rfl⟩
  clear C
  go_wp2
  go_end0
  exact ⟨rfl, rfl⟩
theorem nil_comp (w : World) (fv : Value) : Calls Try.prog 39 #[.slice none 0 0, fv] w fun e w' => e = .returned (.slice none 0 0) ∧ w' = w := by
  go_enter Try.func39, Try.ntmps39
  go_wp2
  go_ret
  exact ⟨rfl, rfl⟩
theorem rowP {w : World} {g : Nat} {Z : List PE} (hH : Sort.HoldsK encE 7 w g 0 Z.toArray) (hg : g < w.heap.size) : RowK encE 7 w g 0 Z.toArray :=
  ⟨fun _ => rfl, fun x v hv => ev_one [x.1] v (by simpa [ev, encE] using hv), hH, hg⟩
/-- the stable sort of a row of events. -/
theorem sorted_row {w : World} {g cap : Nat} {Z : List PE} (R : RowK encE 7 w g 0 Z.toArray) (h60 : Z.length ≤ 1152921504606846976) : Calls Try.prog 37 #[.slice (some ⟨g, 0, none⟩) Z.length cap, .func (.func 38) #[] #[]] w (St.MergedTo cfE encE 7 w g 0 Z.toArray 0 Z.length) := by
  have eg : ∀ args w, (callFunc 38 args).run Try.prog w = .ok (.enter 38 args) w := enters_of Try.func38 (by kernel_rfl) rfl
  have eI : ∀ args w, (callFunc 60 args).run Try.prog w = .ok (.enter 60 args) w := enters_of Try.func60 (by kernel_rfl) rfl
  have hS : Sort.SWO (ltOf cfE) := by rw [ltE]; exact swoK keyE
  have hC : CmpLays Try.prog 38 #[] encE 7 cfE g 0 Z.toArray.size w := fun m os dk _ x y => bydot_any _ x.1 y.1
  have h := St.sortStable_any St.laysE R (by simpa using h60) hS 38 #[] eg hC cap eI (fun a b dk W h1 h2 h3 h4 => St.ins_any R (by simp; omega) hS 38 #[] eg hC cap a b dk W h1 h2 h3 h4) Z.toArray rfl w (SWK.start R.hH)
  rw [List.size_toArray] at h
  exact h
/-- of neighbours with one dot the first one alone. -/
theorem compact_row {w W : World} {g cap : Nat} {Z : List PE} {d : Array PE} (R : RowK encE 7 w g 0 Z.toArray) (h60 : Z.length ≤ 1152921504606846976) (hcap : Z.length ≤ cap) (hs : d.size = Z.length) (hW : SWK encE 7 w g 0 d W) : Calls Try.prog 39 #[.slice (some ⟨g, 0, none⟩) Z.length cap, .func (.func 34) #[] #[]] W (St.CompTo (eqK keyE) encE 7 w g 0 cap d) := by
  have eg : ∀ args w, (callFunc 34 args).run Try.prog w = .ok (.enter 34 args) w := enters_of Try.func34 (by kernel_rfl) rfl
  have hE : St.EqLays Try.prog 34 #[] encE 7 (eqK keyE) g 0 Z.toArray.size w := fun m os dk _ x y => by
    rw [← eqE]
    exact onedot_any _ x.1 y.1
  have h := St.compactFunc_any St.laysC R (by simp; omega) cap (by simpa using hcap) default Try.zeroValue28 (eqK keyE) 34 #[] eg hE d (by simpa using hs) W hW
  rw [List.size_toArray] at h
  exact h
/-- what is copied, ahead of the first copy. -/
theorem copied_start {w w1 W : World} {g m : Nat} {l : List Evt} {Z : List PE} {d d1 : Array PE} (hl : Z.map PE.snd = l) (hZ : ∀ a ∈ Z, EventIs w w.heap.size a.1 a.2) (hg : w.heap.size ≤ g) (hb : Below w.heap.size w w1) (R : RowK encE 7 w1 g 0 Z.toArray)
    (hs1 : d1.size = Z.length) (hm1 : St.Merged (ltOf cfE) (St.row Z.toArray) (St.row d1) 0 Z.length) (hm : m ≤ d1.size) (hs : d.size = d1.size) (hW : SWK encE 7 w1 g 0 d W) (hf : St.seg (St.row d) 0 m = St.firsts (eqK keyE) (St.row d1) d1.size) :
    (sortE l).length = m ∧ Copied w g m (sortE l) 0 ((St.seg (St.row d) 0 m).map PE.fst) W := by
  have hz : St.seg (St.row Z.toArray) 0 Z.length = Z := St.seg_list Z
  have hk := hm1.keep
  have hst := hm1.srt
  rw [hz] at hk
  rw [ltE] at hk hst
  have hsort : (St.seg (St.row d) 0 m).map PE.snd = sortE l := by rw [hf, hs1, firsts_sort hst hk, hl]
  have hlen : (St.seg (St.row d) 0 m).length = m := by simp [St.seg]
  refine ⟨by rw [← hsort, List.length_map, hlen], ⟨by rw [List.length_map, hlen], swk_row hW R.hH (by rw [hs, hs1]; simp) R.hblk (by omega), hb.trans (swk_below hW hg hb.size), fun j p x hj => by omega, fun j p x _ hp hx => ?_⟩⟩
  rw [← hsort] at hx
  rw [List.getElem?_map, Option.map_eq_some_iff] at hp hx
  obtain ⟨a, ha, rfl⟩ := hp
  obtain ⟨b, hb, rfl⟩ := hx
  rw [ha] at hb
  cases hb
  have hmem : a ∈ St.seg (St.row d) 0 m := List.mem_of_getElem? ha
  rw [hf] at hmem
  obtain ⟨i, hi, rfl, _⟩ := (mem_firsts _ a).1 hmem
  refine hZ _ ((hk.mem (swoK keyE) _).1 (St.mem_seg.2 ⟨i, Nat.zero_le _, by omega, rfl⟩))

set_option maxHeartbeats 8000000 in
theorem psortE_any (w : World) (A : Option Addr) (l : List Evt) (n c : Nat) (h : EventsAt w w.heap.size A l n c) (h40 : n ≤ 1099511627776) : Calls Try.prog 15 #[.slice A n c] w (OwnsPost w (sortE l)) := by
  obtain ⟨ps, hlies, hmatch⟩ := h.evts
  obtain ⟨Z, rfl, hZl⟩ := zip_of ps l hmatch
  have hZn : Z.length = n := by rw [← h.len, ← hZl, List.length_map]
  have HZ : Hid (∀ a ∈ Z, EventIs w w.heap.size a.1 a.2) := Lib.hid (fun a ha => by
    obtain ⟨j, hj, rfl⟩ := List.getElem_of_mem ha
    exact hmatch.2 j _ _ (by simp [hj]) (by rw [← hZl]; simp [hj]))
  have C1 := pcloneE w A (Z.map PE.fst) n c (by rw [List.length_map, hZn]) h.nil hlies (by omega)
  have HL := Lib.hid hZl
  have HN := Lib.hid hZn
  have hwide := h.wide
  clear h hlies hmatch hZl hZn
  go_enter Try.func15, Try.ntmps15
  go_wp2_with fail
  refine C1.mono ?_
  rintro e w1 ⟨A1, c1, rfl, ho, hb⟩
  clear C1
  have HO := Lib.hid ho
  have HB := Lib.hid hb
  rcases ho.2 with ⟨e0, rfl⟩ | ⟨g, cap, _, e0, hg, hheap, hcap, hmax, _⟩
  · cases e0
    have hz : Z = [] := List.eq_nil_of_length_eq_zero HN.out
    have hl : l = [] := by rw [← HL.out, hz]; rfl
    subst hl
    have C2 := nil_sort w1 (.func (.func 38) #[] #[])
    have C3 := nil_comp w1 (.func (.func 34) #[] #[])
    clear ho hb
    go_wp2_with fail
    refine C2.mono ?_
    rintro e w2 ⟨rfl, rfl⟩
    go_wp2_with fail
    refine C3.mono ?_
    rintro e w3 ⟨rfl, rfl⟩
    clear C2 C3
    go_wp2
    refine wp_loop_rounds 1 ?_
    rw [rounds_succ]
    go_wp2
    go_ret
    exact ⟨none, 0, 0, rfl, EventsAt.none_ _ _, fun k hk => by omega, HB.out⟩
  · cases e0
    have hlt : g < w1.heap.size := (Array.getElem?_eq_some_iff.1 hheap).1
    obtain ⟨hH, _⟩ := own_holds HN.out HO.out (.inr hlt)
    have R := rowP hH hlt
    have C2 := sorted_row (cap := c1) R (by rw [HN.out]; omega)
    rw [HN.out] at C2
    have HR := Lib.hid R
    have HG := Lib.hid hg
    clear ho hb hheap hH R
    go_wp2_with fail
    refine C2.mono ?_
    rintro e w2 ⟨rfl, d1, hs1, hw1, hm1⟩
    have hs1 : d1.size = n := by rw [hs1]; simpa using HN.out
    have C3 := compact_row (cap := c1) HR.out (by rw [HN.out]; omega) (by rw [HN.out]; exact hcap) (by rw [HN.out]; exact hs1) hw1
    rw [HN.out] at C3
    have HM1 := Lib.hid hm1
    clear C2 hw1 hm1
    go_wp2_with fail
    refine C3.mono ?_
    rintro e w3 ⟨m, d2, hm, rfl, hs2, hw2, hf⟩
    obtain ⟨hlen, hcp⟩ := copied_start HL.out HZ.out HG.out HB.out HR.out (by rw [HN.out]; exact hs1) (by rw [HN.out]; exact HM1.out) hm hs2 hw2 hf
    have hmn : m ≤ n := by omega
    have HLEN := Lib.hid hlen
    have HCP := Lib.hid hcp
    clear C3 hw2 hf hlen hcp
    go_wp2
    go_loopw [13] (fun vi wr => ∃ (k : Nat) (ps : List EV), vi = .int .i64 (k : Int) ∧ k ≤ m ∧ Copied w g m (sortE l) k ps wr) (fun vi _ => m - (intOf vi).toNat)
    case atStart => exact ⟨0, _, by go_num, Nat.zero_le _, HCP.out⟩
    case round =>
      obtain ⟨k, ps2, rfl, hk, hcp⟩ := hrel
      have HC := Lib.hid hcp
      by_cases hlt2 : k < m
      · have hz : (k : Int) < (m : Int) := by omega
        have hkp : k < ps2.length := by rw [hcp.len]; exact hlt2
        have hkl : k < (sortE l).length := by rw [HLEN.out]; exact hlt2
        have hp := List.getElem?_eq_getElem hkp
        have hx := List.getElem?_eq_getElem hkl
        obtain ⟨c0, c1', c2, c3, c4, c5, c6⟩ := hcp.row.cell k _ hp
        have hold := (hcp.old k _ _ (Nat.le_refl _) hp hx).up hcp.bel
        have CC := pcopy_any wr _ _ hold
        have HX := Lib.hid hx
        have hfr := fun (w4 : World) (hb : Below wr.heap.size wr w4) => (hcp.row.below hb).free k _ hp
        have hct := fun (w4 : World) (hb : Below wr.heap.size wr w4) => (hcp.row.below hb).cell k _ hp
        have HFR := Lib.hid hfr
        have HCT := Lib.hid hct
        generalize ps2[k] = p at CC c0 c1' c2 c3 c4 c5 c6 HFR HCT
        obtain ⟨p1, p2, p3, p4, p5, p6, pA, pn, pc⟩ := p
        simp only [EV.val] at CC
        simp only at c0 c1' c2 c3 c4 c5 c6
        clear hp hx hold hfr hct hcp
        go_wp2_with fail
        refine CC.mono ?_
        rintro e w4 ⟨q, rfl, hq, hfq, hbq⟩
        have HN4 := Lib.hid (HC.out.next HG.out hlt2 HX.out hq hfq hbq)
        have f0 := HFR.out w4 hbq 0 (by omega)
        have f1 := HFR.out w4 hbq 1 (by omega)
        have f2 := HFR.out w4 hbq 2 (by omega)
        have f3 := HFR.out w4 hbq 3 (by omega)
        have f4 := HFR.out w4 hbq 4 (by omega)
        have f5 := HFR.out w4 hbq 5 (by omega)
        have f6 := HFR.out w4 hbq 6 (by omega)
        obtain ⟨d0, d1', d2', d3, d4, d5, d6⟩ := HCT.out w4 hbq
        simp only [Nat.add_zero] at f0
        obtain ⟨q1, q2, q3, q4, q5, q6, qA, qn, qc⟩ := q
        rw [putAt_eq] at HN4
        simp only [EV.val]
        simp only at HN4 d0 d1' d2' d3 d4 d5 d6
        clear CC hq hfq hbq HFR HCT c0 c1' c2 c3 c4 c5 c6
        go_wp2
        go_roundw
        case rel => exact ⟨k + 1, _, by go_num, by omega, HN4.out⟩
        case measure => simp [intOf]; omega
      · obtain rfl : k = m := by omega
        go_wp2
        go_ret
        exact HC.out.done HG.out HLEN.out (by omega) hmax (by omega)
end Go.Proofs.Ytbaiiidkffafmaa.Ev
