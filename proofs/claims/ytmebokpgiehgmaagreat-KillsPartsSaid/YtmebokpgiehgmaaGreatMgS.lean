/- Words and contracts that the proofs of this seat stand on, part 19 of 22. -/
import Derived.Test.YtmebokpgiehgmaaGreatMgR
import Derived.Shelf.SlSortCmp.WholeK
import Derived.Test.YtmebokpgiehgmaaGreatProg
import Derived.Test.YtmebokpgiehgmaaGreatMgL
import Derived.Test.YtmebokpgiehgmaaGreatMgM

/- The contracts of the program's Edit and Delete of layer kills. For every list of at most 1024 events with at most 1024 kills each. -/
namespace Go.Proofs.YtmebokpgiehgmaaGreat.Kl
open Go.ChangeShapes Go.WideShapes Go.ChangeAt Go.RowKit
set_option linter.unusedVariables false
set_option maxRecDepth 4000

theorem many_few {l : List Ev.Evt} (h : ∀ x ∈ l, x.kills.length ≤ 1024) : Ev.manyE l ≤ l.length * 1025 := by
  unfold Ev.manyE
  induction l with
  | nil => simp
  | cons x l ih =>
    have h1 := h x (List.mem_cons_self ..)
    have h2 := ih (fun y hy => h y (List.mem_cons_of_mem _ hy))
    simp only [List.map_cons, List.sum_cons, List.length_cons]
    omega
/-- what may be written lies in blocks from B on. -/
theorem free_far {w : World} {B B' n : Nat} {A : Option Addr} (h : Ev.Free w B A n) (hB : B' ≤ B) : 0 < n → ∀ ad : Addr, A = some ad → B' ≤ ad.block := fun h0 ad e => by
  obtain ⟨a2, e2, hb, _⟩ := h 0 h0
  rw [e] at e2
  cases e2
  omega
/-- a list of one's own: none, or a row that may be written. -/
theorem row_of {w : World} {B n c : Nat} {A : Option Addr} {ps : List Ev.EV} (hn : ps.length = n) (h : w.ownsRow B 30 7 (.slice A n c) n (Ev.ev ps)) :
    (A = none ∧ n = 0 ∧ c = 0 ∧ ps = []) ∨ ∃ g : Nat, A = some ⟨g, 0, none⟩ ∧ B ≤ g ∧ n ≤ c ∧ c ≤ 9223372036854775807 ∧ Ev.RowE w g ps := by
  rcases h.2 with ⟨e0, h0⟩ | ⟨g, cap', cur, e, hB, hheap, hle, hmx, hsz, htk⟩
  · simp only [Value.slice.injEq] at e0
    obtain ⟨rfl, rfl, rfl⟩ := e0
    exact .inl ⟨rfl, rfl, rfl, List.eq_nil_of_length_eq_zero hn⟩
  · cases e
    subst hn
    have hlt : g < w.heap.size := (Array.getElem?_eq_some_iff.1 hheap).1
    have hcell : ∀ k p, ps[k]? = some p → ∀ j, j < 7 → w.cell? ⟨g, k * 7 + j, none⟩ = p.cells[j]? := fun k p hp j hj => by
      have hk := (List.getElem?_eq_some_iff.1 hp).1
      rw [← Ev.ev_get hp j hj, ← htk, List.getElem?_take, if_pos (by omega)]
      simp [World.cell?, hheap]
    refine .inr ⟨g, rfl, hB, hle, by unfold maxLen at hmx; omega, hlt, fun k p hp => ⟨?_, ?_, ?_, ?_, ?_, ?_, ?_⟩, fun k p hp j hj => by simp [World.frozen?, hheap]⟩
    · exact hcell k p hp 0 (by omega)
    · exact hcell k p hp 1 (by omega)
    · exact hcell k p hp 2 (by omega)
    · exact hcell k p hp 3 (by omega)
    · exact hcell k p hp 4 (by omega)
    · exact hcell k p hp 5 (by omega)
    · exact hcell k p hp 6 (by omega)
/-- a row of events. -/
theorem row_events {w : World} {g m c : Nat} {ps : List Ev.EV} {l : List Ev.Evt} (hr : Ev.RowE w g ps) (hm : Ev.Match w w.heap.size ps l) (hl : ps.length = m) (hc : m ≤ c) (hmx : c ≤ 9223372036854775807) (hw : m ≤ 2199023255552) : Ev.EventsAt w w.heap.size (some ⟨g, 0, none⟩) l m c :=
  ⟨by rw [← hm.1]; exact hl, (fun e => by cases e), hc, hmx, hw, ps, row_lies hr, hm⟩
theorem match_filter {w : World} {B : Nat} {p : Ev.EV → Bool} {f : Ev.Evt → Bool} (hpf : ∀ q x, Ev.EventIs w B q x → p q = f x) : ∀ (ps : List Ev.EV) (l : List Ev.Evt), Ev.Match w B ps l → Ev.Match w B (ps.filter p) (l.filter f)
  | [], [], _ => Ev.Match.nil_ _ _
  | [], _ :: _, h => by have := h.1; simp at this
  | _ :: _, [], h => by have := h.1; simp at this
  | q :: ps, x :: l, h => by
    have h0 : Ev.EventIs w B q x := h.2 0 q x rfl rfl
    have ih := match_filter hpf ps l ⟨by have := h.1; simpa using this, fun k r y hr hy => h.2 (k + 1) r y (by simpa using hr) (by simpa using hy)⟩
    have e := hpf q x h0
    cases hx : f x with
    | false => rw [hx] at e; rw [List.filter_cons_of_neg (by rw [e]; decide), List.filter_cons_of_neg (by rw [hx]; decide)]; exact ih
    | true =>
      rw [hx] at e
      rw [List.filter_cons_of_pos e, List.filter_cons_of_pos hx]
      refine ⟨by rw [List.length_cons, List.length_cons, ih.1], fun k r y hr hy => ?_⟩
      cases k with
      | zero =>
        simp at hr hy
        subst hr hy
        exact h0
      | succ k => exact ih.2 k r y (by simpa using hr) (by simpa using hy)
theorem edit_two (l : List Ev.Evt) (cid f : Nat) : l.filter (editB cid f) = (l.filter (delB cid)).filter (fun x => decide (x.fld = f)) := by
  rw [List.filter_filter]
  congr 1
  funext x
  unfold editB delB
  rw [Bool.and_comm]
theorem bel_row {B : Nat} {a w w' : World} {g : Nat} (h : Below B a w) (hg : w.grownBy w' (some g)) (hB : B ≤ w.heap.size) (hr : B ≤ g) : Below B a w' := h.grown hg hB (fun k e => by cases e; exact hr)
set_option maxHeartbeats 1000000 in
/-- nothing is struck from no list. -/
theorem nil_delF (w : World) (g : Nat) (cb : Array Value) : Calls Tryz.prog 27 #[.slice none 0 0, .func (.func g) #[] cb] w fun e w' => e = .returned (.slice none 0 0) ∧ w' = w := by
  have C : Calls Tryz.prog 51 #[.slice none 0 0, .func (.func g) #[] cb] w fun e w' => e = .returned (.int .i64 (-1)) ∧ w' = w := by
    go_enter Tryz.func51, Tryz.ntmps51
    go_wp2
    refine wp_loop_rounds 1 ?_
    rw [rounds_succ]
    go_wp2
    go_ret
    exact ⟨rfl, rfl⟩
  go_enter Tryz.func27, Tryz.ntmps27
  go_wp2_with fail
  refine C.mono ?_
  rintro e w1 ⟨rfl, rfl⟩
  clear C
  go_wp2
  go_ret
  exact ⟨rfl, rfl⟩

set_option maxHeartbeats 4000000 in
theorem pedit_any (w : World) (A0 : Option Addr) (l : List Ev.Evt) (n c0 cid f : Nat) (hl : Ev.EventsAt w w.heap.size A0 l n c0) (hn : n ≤ 1024) (hk : ∀ x ∈ l, x.kills.length ≤ 1024) :
    Calls Tryz.prog 18 #[.slice A0 n c0, .int .u64 (cid : Int), .int .u8 (f : Int)] w (DotsFar w (Ev.dotsE (l.filter (editB cid f)))) := by
  have hmany : Ev.manyE (l.filter (editB cid f)) ≤ 8796093022208 := by
    have h1 := many_few (l := l.filter (editB cid f)) (fun x hx => hk x (List.mem_filter.1 hx).1)
    have h2 := List.length_filter_le (editB cid f) l
    have h3 := hl.len
    omega
  have HMY := Lib.hid hmany
  have HB0 := Lib.hid (Ev.below_new w (.cells #[.int .u8 (f : Int)] 5))
  have CE := pedits (w.alloc (.cells #[.int .u8 (f : Int)] 5)) A0 l n c0 cid (hl.up HB0.out) (by omega)
  have hc0 : (w.alloc (.cells #[.int .u8 (f : Int)] 5)).cell? ⟨w.heap.size, 0, none⟩ = some (.int .u8 (f : Int)) := by simp [go_sem]
  have HC := Lib.hid hc0
  have HSZ := Lib.hid (Ev.alloc_size w (.cells #[.int .u8 (f : Int)] 5))
  have HE2 := Lib.hid (edit_two l cid f)
  clear hl hk hmany hc0
  go_enter Tryz.func18, Tryz.ntmps18
  go_wp2_with fail
  generalize w.alloc (.cells #[.int .u8 (f : Int)] 5) = w0 at *
  refine CE.mono ?_
  rintro e w1 ⟨A, m, c, ps, rfl, hm, hmn, hma, ho, hb⟩
  have HB1 := Lib.hid (HB0.out.trans (hb.mono HB0.out.size))
  rcases row_of hm ho with ⟨rfl, rfl, rfl, rfl⟩ | ⟨g, rfl, hg, hmc, hcm, hrow⟩
  · have hz : l.filter (editB cid f) = [] := by
      rw [HE2.out, List.eq_nil_of_length_eq_zero (l := l.filter (delB cid)) (by rw [← hma.1]; rfl)]
      rfl
    have CD := nil_delF w1 30 #[.pointer (some ⟨w.heap.size, 0, none⟩)]
    have CX : Calls Tryz.prog 31 #[.slice none 0 0] w1 (Ev.OwnDots w1 (Ev.dotsE (l.filter (editB cid f)))) := by
      rw [hz]
      exact Ev.pdotsE_any w1 none [] 0 0 (Ev.EventsAt.none_ _ _) (by decide)
    clear CE hm hmn hma ho hb hz HE2 HMY
    go_wp2_with fail
    refine CD.mono ?_
    rintro e w2 ⟨rfl, rfl⟩
    go_wp2_with fail
    refine CX.mono ?_
    rintro e V ⟨A3, m3, c3, rfl, h3, hf3, hb3⟩
    have H3 := Lib.hid h3
    have HF3 := Lib.hid (free_far hf3 HB1.out.size)
    have HB3 := Lib.hid (HB1.out.trans (hb3.mono HB1.out.size))
    clear h3 hf3 hb3 CX CD
    go_wp2
    go_ret
    exact ⟨A3, m3, c3, rfl, H3.out, HF3.out, HB3.out⟩
  · have hgz : w.heap.size < g := by have := HSZ.out; omega
    have CD := pdelF w1 g ps m c hm hrow hmc (by omega) hcm 30 #[.pointer (some ⟨w.heap.size, 0, none⟩)] (fun q => (q.fld : Int) != (f : Int)) (enters_of Tryz.func30 (by kernel_rfl) rfl)
      (tells_edit (Ev.stays hb HC.out) (by simp; omega) ps)
    have HM := Lib.hid hm
    have HMA := Lib.hid hma
    have HB := Lib.hid hb
    have HG := Lib.hid hg
    have hmf : m ≤ 1024 := by omega
    clear CE hm hmn hma ho hb hrow hg
    go_wp2_with fail
    refine CD.mono ?_
    rintro e w2 ⟨m2, hm2, rfl, hrow2, hg2⟩
    have hB2 : Below w0.heap.size w0 w2 := bel_row HB.out hg2 HB.out.size HG.out
    have hm3 := match_filter (w := w0) (B := w0.heap.size) (p := fun q => !((q.fld : Int) != (f : Int))) (f := fun x => decide (x.fld = f)) (fun q x h => by
      rw [bne, eq_u8, h.fld, Bool.not_not]) ps _ HMA.out
    rw [← HE2.out] at hm3
    have hle : m2 ≤ m := by rw [← hm2, ← HM.out]; exact List.length_filter_le _ _
    have hE := row_events hrow2 ((hm3.below hB2).more hB2.size) hm2 (by omega) hcm (by omega)
    have HW2 := Lib.hid (HB0.out.trans (hB2.mono HB0.out.size))
    have CX := Ev.pdotsE_any w2 _ _ m2 c hE HMY.out
    clear CD hm2 hrow2 hg2 hB2 hm3 hE
    go_wp2_with fail
    refine CX.mono ?_
    rintro e V ⟨A3, m3, c3, rfl, h3, hf3, hb3⟩
    have H3 := Lib.hid h3
    have HF3 := Lib.hid (free_far hf3 HW2.out.size)
    have HB3 := Lib.hid (HW2.out.trans (hb3.mono HW2.out.size))
    clear h3 hf3 hb3 CX
    go_wp2
    go_ret
    exact ⟨A3, m3, c3, rfl, H3.out, HF3.out, HB3.out⟩

end Go.Proofs.YtmebokpgiehgmaaGreat.Kl

/- The contract of the program's Sort of layer event. For every list of at most 2^40 events. -/
namespace Go.Proofs.YtmebokpgiehgmaaGreat.Ev
open Go.ChangeShapes Go.WideShapes Go.ChangeAt Go.RowKit
set_option linter.unusedVariables false
set_option maxRecDepth 4000

/-- how two events' dots stand, as byDot tells. -/
def cfE (a b : PE) : Int := cmpE a.1 b.1
theorem ltE : ltOf cfE = ltK keyE := by
  funext a b
  show ltOf cmpE a.1 b.1 = Dt.aheadD a.2.dot b.2.dot
  rw [lt_dot, a.same, b.same]
theorem eqE (a b : PE) : oneE a.1 b.1 = eqK keyE a b := by
  show decide (a.1.dot = b.1.dot) = decide (a.2.dot = b.2.dot)
  rw [a.same, b.same]
theorem nil_ins (w : World) (fv : Value) : Calls Tryz.prog 84 #[.slice none 0 0, .int .i64 0, .int .i64 0, fv] w fun e w' => e = .returned (.tuple #[]) ∧ w' = w := by
  go_enter Tryz.func84, Tryz.ntmps84
  go_wp2
  refine wp_loop_rounds 1 ?_
  rw [rounds_succ]
  go_wp2
  go_end0
  exact ⟨rfl, rfl⟩
set_option maxHeartbeats 2000000 in
theorem nil_stable (w : World) (fv : Value) : Calls Tryz.prog 62 #[.slice none 0 0, .int .i64 0, fv] w fun e w' => e = .returned (.tuple #[]) ∧ w' = w := by
  have C := nil_ins w fv
  go_enter Tryz.func62, Tryz.ntmps62
  go_wp2
  refine wp_loop_rounds 1 ?_
  rw [rounds_succ]
  go_wp2_with fail
  refine C.mono ?_
  rintro e w1 ⟨rfl, rfl⟩
  clear C
  go_wp2
  refine wp_loop_rounds 1 ?_
  rw [rounds_succ]
  go_wp2
  go_end0
  exact ⟨rfl, rfl⟩
theorem nil_sort (w : World) (fv : Value) : Calls Tryz.prog 47 #[.slice none 0 0, fv] w fun e w' => e = .returned (.tuple #[]) ∧ w' = w := by
  have C := nil_stable w fv
  go_enter Tryz.func47, Tryz.ntmps47
  go_wp2_with fail
  refine C.mono ?_
  rintro e w1 ⟨rfl, rfl⟩
  clear C
  go_wp2
  go_end0
  exact ⟨rfl, rfl⟩
theorem nil_comp (w : World) (fv : Value) : Calls Tryz.prog 49 #[.slice none 0 0, fv] w fun e w' => e = .returned (.slice none 0 0) ∧ w' = w := by
  go_enter Tryz.func49, Tryz.ntmps49
  go_wp2
  go_ret
  exact ⟨rfl, rfl⟩
theorem rowP {w : World} {g : Nat} {Z : List PE} (hH : Sort.HoldsK encE 7 w g 0 Z.toArray) (hg : g < w.heap.size) : RowK encE 7 w g 0 Z.toArray :=
  ⟨fun _ => rfl, fun x v hv => ev_one [x.1] v (by simpa [ev, encE] using hv), hH, hg⟩
/-- the stable sort of a row of events. -/
theorem sorted_row {w : World} {g cap : Nat} {Z : List PE} (R : RowK encE 7 w g 0 Z.toArray) (h60 : Z.length ≤ 1152921504606846976) : Calls Tryz.prog 47 #[.slice (some ⟨g, 0, none⟩) Z.length cap, .func (.func 48) #[] #[]] w (St.MergedTo cfE encE 7 w g 0 Z.toArray 0 Z.length) := by
  have eg : ∀ args w, (callFunc 48 args).run Tryz.prog w = .ok (.enter 48 args) w := enters_of Tryz.func48 (by kernel_rfl) rfl
  have eI : ∀ args w, (callFunc 84 args).run Tryz.prog w = .ok (.enter 84 args) w := enters_of Tryz.func84 (by kernel_rfl) rfl
  have hS : Sort.SWO (ltOf cfE) := by rw [ltE]; exact swoK keyE
  have hC : CmpLays Tryz.prog 48 #[] encE 7 cfE g 0 Z.toArray.size w := fun m os dk _ x y => bydot_any _ x.1 y.1
  have h := St.sortStable_any St.laysE R (by simpa using h60) hS 48 #[] eg hC cap eI (fun a b dk W h1 h2 h3 h4 => St.ins_any R (by simp; omega) hS 48 #[] eg hC cap a b dk W h1 h2 h3 h4) Z.toArray rfl w (SWK.start R.hH)
  rw [List.size_toArray] at h
  exact h
/-- of neighbours with one dot the first one alone. -/
theorem compact_row {w W : World} {g cap : Nat} {Z : List PE} {d : Array PE} (R : RowK encE 7 w g 0 Z.toArray) (h60 : Z.length ≤ 1152921504606846976) (hcap : Z.length ≤ cap) (hs : d.size = Z.length) (hW : SWK encE 7 w g 0 d W) : Calls Tryz.prog 49 #[.slice (some ⟨g, 0, none⟩) Z.length cap, .func (.func 50) #[] #[]] W (St.CompTo (eqK keyE) encE 7 w g 0 cap d) := by
  have eg : ∀ args w, (callFunc 50 args).run Tryz.prog w = .ok (.enter 50 args) w := enters_of Tryz.func50 (by kernel_rfl) rfl
  have hE : St.EqLays Tryz.prog 50 #[] encE 7 (eqK keyE) g 0 Z.toArray.size w := fun m os dk _ x y => by
    rw [← eqE]
    exact onedot_any _ x.1 y.1
  have h := St.compactFunc_any St.laysC R (by simp; omega) cap (by simpa using hcap) default Tryz.zeroValue30 (eqK keyE) 50 #[] eg hE d (by simpa using hs) W hW
  rw [List.size_toArray] at h
  exact h
/-- what is copied, ahead of the first copy. -/
theorem copied_start {w w1 W : World} {g m : Nat} {l : List Evt} {Z : List PE} {d d1 : Array PE} (hl : Z.map PE.snd = l) (hZ : ∀ a ∈ Z, EventIs w w.heap.size a.1 a.2) (hg : w.heap.size ≤ g) (hb : Below w.heap.size w w1) (R : RowK encE 7 w1 g 0 Z.toArray)
    (hs1 : d1.size = Z.length) (hm1 : St.Merged (ltOf cfE) (St.row Z.toArray) (St.row d1) 0 Z.length) (hm : m ≤ d1.size) (hs : d.size = d1.size) (hW : SWK encE 7 w1 g 0 d W) (hf : St.seg (St.row d) 0 m = St.firsts (eqK keyE) (St.row d1) d1.size) :
    (sortE l).length = m ∧ Copied w g m (sortE l) 0 ((St.seg (St.row d) 0 m).map PE.fst) W := by
  have hz : St.seg (St.row Z.toArray) 0 Z.length = Z := St.seg_list Z
  have hk := hm1.keep
  have hst := hm1.srt
  rw [hz] at hk
  rw [ltE] at hk hst
  have hsort : (St.seg (St.row d) 0 m).map PE.snd = sortE l := by rw [hf, hs1, firsts_sort hst hk, hl]
  have hlen : (St.seg (St.row d) 0 m).length = m := by simp [St.seg]
  refine ⟨by rw [← hsort, List.length_map, hlen], ⟨by rw [List.length_map, hlen], swk_row hW R.hH (by rw [hs, hs1]; simp) R.hblk (by omega), hb.trans (swk_below hW hg hb.size), fun j p x hj => by omega, fun j p x _ hp hx => ?_⟩⟩
  rw [← hsort] at hx
  rw [List.getElem?_map, Option.map_eq_some_iff] at hp hx
  obtain ⟨a, ha, rfl⟩ := hp
  obtain ⟨b, hb, rfl⟩ := hx
  rw [ha] at hb
  cases hb
  have hmem : a ∈ St.seg (St.row d) 0 m := List.mem_of_getElem? ha
  rw [hf] at hmem
  obtain ⟨i, hi, rfl, _⟩ := (mem_firsts _ a).1 hmem
  refine hZ _ ((hk.mem (swoK keyE) _).1 (St.mem_seg.2 ⟨i, Nat.zero_le _, by omega, rfl⟩))

set_option maxHeartbeats 8000000 in
theorem psortE_any (w : World) (A : Option Addr) (l : List Evt) (n c : Nat) (h : EventsAt w w.heap.size A l n c) (h40 : n ≤ 1099511627776) : Calls Tryz.prog 26 #[.slice A n c] w (OwnsPost w (sortE l)) := by
  obtain ⟨ps, hlies, hmatch⟩ := h.evts
  obtain ⟨Z, rfl, hZl⟩ := zip_of ps l hmatch
  have hZn : Z.length = n := by rw [← h.len, ← hZl, List.length_map]
  have HZ : Hid (∀ a ∈ Z, EventIs w w.heap.size a.1 a.2) := Lib.hid (fun a ha => by
    obtain ⟨j, hj, rfl⟩ := List.getElem_of_mem ha
    exact hmatch.2 j _ _ (by simp [hj]) (by rw [← hZl]; simp [hj]))
  have C1 := pcloneE w A (Z.map PE.fst) n c (by rw [List.length_map, hZn]) h.nil hlies (by omega)
  have HL := Lib.hid hZl
  have HN := Lib.hid hZn
  have hwide := h.wide
  clear h hlies hmatch hZl hZn
  go_enter Tryz.func26, Tryz.ntmps26
  go_wp2_with fail
  refine C1.mono ?_
  rintro e w1 ⟨A1, c1, rfl, ho, hb⟩
  clear C1
  have HO := Lib.hid ho
  have HB := Lib.hid hb
  rcases ho.2 with ⟨e0, rfl⟩ | ⟨g, cap, _, e0, hg, hheap, hcap, hmax, _⟩
  · cases e0
    have hz : Z = [] := List.eq_nil_of_length_eq_zero HN.out
    have hl : l = [] := by rw [← HL.out, hz]; rfl
    subst hl
    have C2 := nil_sort w1 (.func (.func 48) #[] #[])
    have C3 := nil_comp w1 (.func (.func 50) #[] #[])
    clear ho hb
    go_wp2_with fail
    refine C2.mono ?_
    rintro e w2 ⟨rfl, rfl⟩
    go_wp2_with fail
    refine C3.mono ?_
    rintro e w3 ⟨rfl, rfl⟩
    clear C2 C3
    go_wp2
    refine wp_loop_rounds 1 ?_
    rw [rounds_succ]
    go_wp2
    go_ret
    exact ⟨none, 0, 0, rfl, EventsAt.none_ _ _, fun k hk => by omega, HB.out⟩
  · cases e0
    have hlt : g < w1.heap.size := (Array.getElem?_eq_some_iff.1 hheap).1
    obtain ⟨hH, _⟩ := own_holds HN.out HO.out (.inr hlt)
    have R := rowP hH hlt
    have C2 := sorted_row (cap := c1) R (by rw [HN.out]; omega)
    rw [HN.out] at C2
    have HR := Lib.hid R
    have HG := Lib.hid hg
    clear ho hb hheap hH R
    go_wp2_with fail
    refine C2.mono ?_
    rintro e w2 ⟨rfl, d1, hs1, hw1, hm1⟩
    have hs1 : d1.size = n := by rw [hs1]; simpa using HN.out
    have C3 := compact_row (cap := c1) HR.out (by rw [HN.out]; omega) (by rw [HN.out]; exact hcap) (by rw [HN.out]; exact hs1) hw1
    rw [HN.out] at C3
    have HM1 := Lib.hid hm1
    clear C2 hw1 hm1
    go_wp2_with fail
    refine C3.mono ?_
    rintro e w3 ⟨m, d2, hm, rfl, hs2, hw2, hf⟩
    obtain ⟨hlen, hcp⟩ := copied_start HL.out HZ.out HG.out HB.out HR.out (by rw [HN.out]; exact hs1) (by rw [HN.out]; exact HM1.out) hm hs2 hw2 hf
    have hmn : m ≤ n := by omega
    have HLEN := Lib.hid hlen
    have HCP := Lib.hid hcp
    clear C3 hw2 hf hlen hcp
    go_wp2
    go_loopw [13] (fun vi wr => ∃ (k : Nat) (ps : List EV), vi = .int .i64 (k : Int) ∧ k ≤ m ∧ Copied w g m (sortE l) k ps wr) (fun vi _ => m - (intOf vi).toNat)
    case atStart => exact ⟨0, _, by go_num, Nat.zero_le _, HCP.out⟩
    case round =>
      obtain ⟨k, ps2, rfl, hk, hcp⟩ := hrel
      have HC := Lib.hid hcp
      by_cases hlt2 : k < m
      · have hz : (k : Int) < (m : Int) := by omega
        have hkp : k < ps2.length := by rw [hcp.len]; exact hlt2
        have hkl : k < (sortE l).length := by rw [HLEN.out]; exact hlt2
        have hp := List.getElem?_eq_getElem hkp
        have hx := List.getElem?_eq_getElem hkl
        obtain ⟨c0, c1', c2, c3, c4, c5, c6⟩ := hcp.row.cell k _ hp
        have hold := (hcp.old k _ _ (Nat.le_refl _) hp hx).up hcp.bel
        have CC := pcopy_any wr _ _ hold
        have HX := Lib.hid hx
        have hfr := fun (w4 : World) (hb : Below wr.heap.size wr w4) => (hcp.row.below hb).free k _ hp
        have hct := fun (w4 : World) (hb : Below wr.heap.size wr w4) => (hcp.row.below hb).cell k _ hp
        have HFR := Lib.hid hfr
        have HCT := Lib.hid hct
        generalize ps2[k] = p at CC c0 c1' c2 c3 c4 c5 c6 HFR HCT
        obtain ⟨p1, p2, p3, p4, p5, p6, pA, pn, pc⟩ := p
        simp only [EV.val] at CC
        simp only at c0 c1' c2 c3 c4 c5 c6
        clear hp hx hold hfr hct hcp
        go_wp2_with fail
        refine CC.mono ?_
        rintro e w4 ⟨q, rfl, hq, hfq, hbq⟩
        have HN4 := Lib.hid (HC.out.next HG.out hlt2 HX.out hq hfq hbq)
        have f0 := HFR.out w4 hbq 0 (by omega)
        have f1 := HFR.out w4 hbq 1 (by omega)
        have f2 := HFR.out w4 hbq 2 (by omega)
        have f3 := HFR.out w4 hbq 3 (by omega)
        have f4 := HFR.out w4 hbq 4 (by omega)
        have f5 := HFR.out w4 hbq 5 (by omega)
        have f6 := HFR.out w4 hbq 6 (by omega)
        obtain ⟨d0, d1', d2', d3, d4, d5, d6⟩ := HCT.out w4 hbq
        simp only [Nat.add_zero] at f0
        obtain ⟨q1, q2, q3, q4, q5, q6, qA, qn, qc⟩ := q
        rw [putAt_eq] at HN4
        simp only [EV.val]
        simp only at HN4 d0 d1' d2' d3 d4 d5 d6
        clear CC hq hfq hbq HFR HCT c0 c1' c2 c3 c4 c5 c6
        go_wp2
        go_roundw
        case rel => exact ⟨k + 1, _, by go_num, by omega, HN4.out⟩
        case measure => simp [intOf]; omega
      · obtain rfl : k = m := by omega
        go_wp2
        go_ret
        exact HC.out.done HG.out HLEN.out (by omega) hmax (by omega)
end Go.Proofs.YtmebokpgiehgmaaGreat.Ev

/- The contract of the program's Sort of layer event, once more: what comes out is a row of one's own, each event in it a copy. For every list of at most 2^40 events. -/
namespace Go.Proofs.YtmebokpgiehgmaaGreat.Ev
open Go.ChangeShapes Go.WideShapes Go.ChangeAt Go.RowKit
set_option linter.unusedVariables false
set_option maxRecDepth 4000

/-- nothing comes out, or a row of copies. -/
def RowPost (w : World) (n : Nat) (l : List Evt) (e : Ending) (w' : World) : Prop :=
  (e = .returned (.slice none 0 0) ∧ sortE l = [] ∧ Below w.heap.size w w') ∨
  ∃ (g m c : Nat) (ps : List EV), e = .returned (.slice (some ⟨g, 0, none⟩) m c) ∧ w.heap.size ≤ g ∧ (sortE l).length = m ∧ m ≤ n ∧ m ≤ c ∧ c ≤ 9223372036854775807 ∧ Copied w g m (sortE l) m ps w'
set_option maxHeartbeats 8000000 in
theorem psortE_row (w : World) (A : Option Addr) (l : List Evt) (n c : Nat) (h : EventsAt w w.heap.size A l n c) (h40 : n ≤ 1099511627776) : Calls Tryz.prog 26 #[.slice A n c] w (RowPost w n l) := by
  obtain ⟨ps, hlies, hmatch⟩ := h.evts
  obtain ⟨Z, rfl, hZl⟩ := zip_of ps l hmatch
  have hZn : Z.length = n := by rw [← h.len, ← hZl, List.length_map]
  have HZ : Hid (∀ a ∈ Z, EventIs w w.heap.size a.1 a.2) := Lib.hid (fun a ha => by
    obtain ⟨j, hj, rfl⟩ := List.getElem_of_mem ha
    exact hmatch.2 j _ _ (by simp [hj]) (by rw [← hZl]; simp [hj]))
  have C1 := pcloneE w A (Z.map PE.fst) n c (by rw [List.length_map, hZn]) h.nil hlies (by omega)
  have HL := Lib.hid hZl
  have HN := Lib.hid hZn
  have hwide := h.wide
  clear h hlies hmatch hZl hZn
  go_enter Tryz.func26, Tryz.ntmps26
  go_wp2_with fail
  refine C1.mono ?_
  rintro e w1 ⟨A1, c1, rfl, ho, hb⟩
  clear C1
  have HO := Lib.hid ho
  have HB := Lib.hid hb
  rcases ho.2 with ⟨e0, rfl⟩ | ⟨g, cap, _, e0, hg, hheap, hcap, hmax, _⟩
  · cases e0
    have hz : Z = [] := List.eq_nil_of_length_eq_zero HN.out
    have hl : l = [] := by rw [← HL.out, hz]; rfl
    subst hl
    have C2 := nil_sort w1 (.func (.func 48) #[] #[])
    have C3 := nil_comp w1 (.func (.func 50) #[] #[])
    clear ho hb
    go_wp2_with fail
    refine C2.mono ?_
    rintro e w2 ⟨rfl, rfl⟩
    go_wp2_with fail
    refine C3.mono ?_
    rintro e w3 ⟨rfl, rfl⟩
    clear C2 C3
    go_wp2
    refine wp_loop_rounds 1 ?_
    rw [rounds_succ]
    go_wp2
    go_ret
    exact .inl ⟨rfl, rfl, HB.out⟩
  · cases e0
    have hlt : g < w1.heap.size := (Array.getElem?_eq_some_iff.1 hheap).1
    obtain ⟨hH, _⟩ := own_holds HN.out HO.out (.inr hlt)
    have R := rowP hH hlt
    have C2 := sorted_row (cap := c1) R (by rw [HN.out]; omega)
    rw [HN.out] at C2
    have HR := Lib.hid R
    have HG := Lib.hid hg
    clear ho hb hheap hH R
    go_wp2_with fail
    refine C2.mono ?_
    rintro e w2 ⟨rfl, d1, hs1, hw1, hm1⟩
    have hs1 : d1.size = n := by rw [hs1]; simpa using HN.out
    have C3 := compact_row (cap := c1) HR.out (by rw [HN.out]; omega) (by rw [HN.out]; exact hcap) (by rw [HN.out]; exact hs1) hw1
    rw [HN.out] at C3
    have HM1 := Lib.hid hm1
    clear C2 hw1 hm1
    go_wp2_with fail
    refine C3.mono ?_
    rintro e w3 ⟨m, d2, hm, rfl, hs2, hw2, hf⟩
    obtain ⟨hlen, hcp⟩ := copied_start HL.out HZ.out HG.out HB.out HR.out (by rw [HN.out]; exact hs1) (by rw [HN.out]; exact HM1.out) hm hs2 hw2 hf
    have hmn : m ≤ n := by omega
    have HLEN := Lib.hid hlen
    have HCP := Lib.hid hcp
    clear C3 hw2 hf hlen hcp
    go_wp2
    go_loopw [13] (fun vi wr => ∃ (k : Nat) (ps : List EV), vi = .int .i64 (k : Int) ∧ k ≤ m ∧ Copied w g m (sortE l) k ps wr) (fun vi _ => m - (intOf vi).toNat)
    case atStart => exact ⟨0, _, by go_num, Nat.zero_le _, HCP.out⟩
    case round =>
      obtain ⟨k, ps2, rfl, hk, hcp⟩ := hrel
      have HC := Lib.hid hcp
      by_cases hlt2 : k < m
      · have hz : (k : Int) < (m : Int) := by omega
        have hkp : k < ps2.length := by rw [hcp.len]; exact hlt2
        have hkl : k < (sortE l).length := by rw [HLEN.out]; exact hlt2
        have hp := List.getElem?_eq_getElem hkp
        have hx := List.getElem?_eq_getElem hkl
        obtain ⟨c0, c1', c2, c3, c4, c5, c6⟩ := hcp.row.cell k _ hp
        have hold := (hcp.old k _ _ (Nat.le_refl _) hp hx).up hcp.bel
        have CC := pcopy_any wr _ _ hold
        have HX := Lib.hid hx
        have hfr := fun (w4 : World) (hb : Below wr.heap.size wr w4) => (hcp.row.below hb).free k _ hp
        have hct := fun (w4 : World) (hb : Below wr.heap.size wr w4) => (hcp.row.below hb).cell k _ hp
        have HFR := Lib.hid hfr
        have HCT := Lib.hid hct
        generalize ps2[k] = p at CC c0 c1' c2 c3 c4 c5 c6 HFR HCT
        obtain ⟨p1, p2, p3, p4, p5, p6, pA, pn, pc⟩ := p
        simp only [EV.val] at CC
        simp only at c0 c1' c2 c3 c4 c5 c6
        clear hp hx hold hfr hct hcp
        go_wp2_with fail
        refine CC.mono ?_
        rintro e w4 ⟨q, rfl, hq, hfq, hbq⟩
        have HN4 := Lib.hid (HC.out.next HG.out hlt2 HX.out hq hfq hbq)
        have f0 := HFR.out w4 hbq 0 (by omega)
        have f1 := HFR.out w4 hbq 1 (by omega)
        have f2 := HFR.out w4 hbq 2 (by omega)
        have f3 := HFR.out w4 hbq 3 (by omega)
        have f4 := HFR.out w4 hbq 4 (by omega)
        have f5 := HFR.out w4 hbq 5 (by omega)
        have f6 := HFR.out w4 hbq 6 (by omega)
        obtain ⟨d0, d1', d2', d3, d4, d5, d6⟩ := HCT.out w4 hbq
        simp only [Nat.add_zero] at f0
        obtain ⟨q1, q2, q3, q4, q5, q6, qA, qn, qc⟩ := q
        rw [putAt_eq] at HN4
        simp only [EV.val]
        simp only at HN4 d0 d1' d2' d3 d4 d5 d6
        clear CC hq hfq hbq HFR HCT c0 c1' c2 c3 c4 c5 c6
        go_wp2
        go_roundw
        case rel => exact ⟨k + 1, _, by go_num, by omega, HN4.out⟩
        case measure => simp [intOf]; omega
      · obtain rfl : k = m := by omega
        go_wp2
        go_ret
        exact .inr ⟨g, k, c1, ps2, rfl, HG.out, HLEN.out, hmn, by omega, hmax, HC.out⟩
end Go.Proofs.YtmebokpgiehgmaaGreat.Ev

/- The contract of the program's Live of layer kills. For every list of at most 1024 events with at most 65536 kills each. -/
namespace Go.Proofs.YtmebokpgiehgmaaGreat.Kl
open Go.ChangeShapes Go.WideShapes Go.ChangeAt Go.RowKit
set_option linter.unusedVariables false
set_option maxRecDepth 4000

theorem dots_grown {w W : World} {A : Option Addr} {l : List Dt.Dot} {n c g : Nat} (h : Ev.DotsAt w w.heap.size A l n c) (hg : w.grownBy W (some g)) (ho : Ev.Off g A n) : Ev.DotsAt W W.heap.size A l n c := by
  refine ⟨h.len, h.nil, h.cap, h.max, h.wide, h.dots.1, fun hl => ?_⟩
  obtain ⟨ad, e, hB, hc⟩ := h.dots.2 hl
  have h0 : 0 < n := by rw [Dt.dv_length, h.len] at hl; omega
  exact ⟨ad, e, Nat.lt_of_lt_of_le hB hg.size, fun j u hu => (hg.cell_far _ (by rw [Ev.block_add]; exact hB) (by rw [Ev.block_add]; intro e2; cases e2; exact ho ad e h0 rfl)).trans (hc j u hu)⟩
theorem match_grown {w W : World} {ps : List Ev.EV} {l : List Ev.Evt} {g : Nat} (h : Ev.Match w w.heap.size ps l) (hg : w.grownBy W (some g)) (ho : ∀ q ∈ ps, Ev.Off g q.adr q.len) : Ev.Match W W.heap.size ps l :=
  ⟨h.1, fun k p x hp hx => by
    have q := h.2 k p x hp hx
    exact ⟨q.dev, q.num, q.kind, q.cid, q.fld, q.txt, q.fits, dots_grown q.kills hg (ho p (List.mem_of_getElem? hp))⟩⟩
theorem say_next (s : Dt.Dot → Bool) (l : List Dt.Dot) {j : Nat} {d : Dt.Dot} (h : l[j]? = some d) : (fun e => decide (e = d) || (s e || decide (e ∈ l.take j))) = fun e => s e || decide (e ∈ l.take (j + 1)) := by
  funext e
  rw [Ev.take_one h, Bool.eq_iff_iff]
  simp only [Bool.or_eq_true, decide_eq_true_eq, List.mem_append, List.mem_singleton]
  constructor
  · rintro (h | h | h)
    · exact .inr (.inr h)
    · exact .inl h
    · exact .inr (.inl h)
  · rintro (h | h | h)
    · exact .inr (.inl h)
    · exact .inr (.inr h)
    · exact .inl h
theorem say_all {l : List Ev.Evt} {k : Nat} {y : Ev.Evt} (h : l[k]? = some y) {n : Nat} (hn : y.kills.length = n) : (fun e => deadB (l.take k) e || decide (e ∈ y.kills.take n)) = fun e => deadB (l.take (k + 1)) e := by
  funext e
  rw [dead_next e h, List.take_of_length_le (l := y.kills) (by omega)]
theorem sort_sub {l : List Ev.Evt} {x : Ev.Evt} (h : x ∈ Ev.sortE l) : x ∈ l := by
  obtain ⟨j, hj, _⟩ := (Ev.sort_mem l x).1 h
  exact List.mem_of_getElem? hj

set_option maxHeartbeats 8000000 in
theorem plive_any (w : World) (A0 : Option Addr) (l0 : List Ev.Evt) (n0 c0 : Nat) (hl : Ev.EventsAt w w.heap.size A0 l0 n0 c0) (h10 : n0 ≤ 1024) (hk : ∀ x ∈ l0, x.kills.length ≤ 65536) :
    Calls Tryz.prog 17 #[.slice A0 n0 c0] w (EvFar w (liveE l0)) := by
  have hmm := @run_makeMap Tryz.prog
  have CS := Ev.psortE_row w A0 l0 n0 c0 hl (by omega)
  have HE : Hid (liveE l0 = (Ev.sortE l0).filter (liveB (Ev.sortE l0))) := Lib.hid rfl
  have HK := Lib.hid (fun x (hx : x ∈ Ev.sortE l0) => hk x (sort_sub hx))
  unfold Ev.RowPost at CS
  generalize Ev.sortE l0 = l at *
  generalize liveE l0 = out at *
  clear hl hk
  go_enter Tryz.func17, Tryz.ntmps17
  go_wp2_with fail
  refine CS.mono ?_
  rintro e w1 hpost
  clear CS
  have hbn : Below w1.heap.size w1 ((w1.alloc (.map #[] 0)).alloc (.cells #[.map (some w1.heap.size)] 54)) := Ev.below_new2 _ _ _
  have hmd : MapD ((w1.alloc (.map #[] 0)).alloc (.cells #[.map (some w1.heap.size)] 54)) w1.heap.size 0 (fun _ => false) := (mapD_new w1).up (Ev.below_new _ _)
  have hbox : ((w1.alloc (.map #[] 0)).alloc (.cells #[.map (some w1.heap.size)] 54)).cell? ⟨w1.heap.size + 1, 0, none⟩ = some (.map (some w1.heap.size)) := by simp [go_sem]
  have HBN := Lib.hid hbn
  have HMD := Lib.hid hmd
  have HBOX := Lib.hid hbox
  clear hbn hmd hbox
  rcases hpost with ⟨rfl, rfl, hb1⟩ | ⟨g, m, c, ps, rfl, hg, hlen, hmn, hmc, hcm, hcp⟩
  · have HB1 := Lib.hid hb1
    have CD := fun W => nil_delF W 28 #[.pointer (some ⟨w1.heap.size + 1, 0, none⟩)]
    clear hb1
    go_wp2
    generalize (w1.alloc (.map #[] 0)).alloc (.cells #[.map (some w1.heap.size)] 54) = w3 at *
    refine wp_loop_rounds 1 ?_
    rw [rounds_succ]
    go_wp2_with fail
    refine (CD w3).mono ?_
    rintro e w4 ⟨rfl, rfl⟩
    have HW := Lib.hid (HB1.out.trans (HBN.out.mono HB1.out.size))
    clear CD
    go_wp2
    go_ret
    rw [HE.out]
    exact ⟨none, 0, 0, rfl, ⟨Ev.EventsAt.none_ _ _, [], Dt.Lies.none_ _ _ _, Ev.Match.nil_ _ _, (fun p hp => by cases hp), (fun h => absurd h (by omega))⟩, HW.out⟩
  · have HCP := Lib.hid hcp
    have HG := Lib.hid hg
    have HLEN := Lib.hid hlen
    have HPL : Hid (ps.length = m) := Lib.hid hcp.len
    have HLT : Hid (g < w1.heap.size) := Lib.hid hcp.row.lt
    have HMT : Hid (Ev.Match w1 w1.heap.size ps l) := Lib.hid ⟨by rw [hcp.len, hlen], fun k p x hp hx => (hcp.new k p x (by have := (List.getElem?_eq_some_iff.1 hp).1; rw [hcp.len] at this; exact this) hp hx).1⟩
    have HOF : Hid (∀ q ∈ ps, Ev.Off g q.adr q.len ∧ (0 < q.len → ∀ ad : Addr, q.adr = some ad → w.heap.size ≤ ad.block) ∧ q.dev < 65536 ∧ q.num < 18446744073709551616) := Lib.hid (fun q hq => by
      obtain ⟨k, hk, rfl⟩ := List.getElem_of_mem hq
      have hkl : k < l.length := by rw [hlen, ← hcp.len]; exact hk
      obtain ⟨h1, h2, h3⟩ := hcp.new k _ _ (by rw [← hcp.len]; exact hk) (List.getElem?_eq_getElem hk) (List.getElem?_eq_getElem hkl)
      exact ⟨h3, free_far h2 (Nat.le_refl _), by rw [h1.dev]; exact h1.fits.dot.1, by rw [h1.num]; exact h1.fits.dot.2⟩)
    have hm10 : m ≤ 1024 := by omega
    clear hcp hg hlen
    go_wp2
    generalize hw3 : (w1.alloc (.map #[] 0)).alloc (.cells #[.map (some w1.heap.size)] 54) = w3 at *
    clear hw3
    go_loopw [14] (fun vi wr => ∃ k N : Nat, k ≤ m ∧ vi = .int .i64 (k : Int) ∧ N ≤ k * 65536 ∧ MapD wr w1.heap.size N (fun d => deadB (l.take k) d) ∧ Below w1.heap.size w1 wr ∧ wr.cell? ⟨w1.heap.size + 1, 0, none⟩ = some (.map (some w1.heap.size))) (fun vi _ => m - (intOf vi).toNat)
    case atStart => exact ⟨0, 0, Nat.zero_le _, rfl, Nat.le_refl _, by
      have e : (fun d => deadB (l.take 0) d) = fun _ => false := by funext d; simp [deadB]
      rw [e]; exact HMD.out, HBN.out, HBOX.out⟩
    case round =>
      obtain ⟨k, N, hk, rfl, hN, hmd, hbw, hbox⟩ := hrel
      have HMK := Lib.hid hmd
      have HBW := Lib.hid hbw
      have HBK := Lib.hid hbox
      clear hmd hbw hbox
      by_cases hlt : k < m
      · have hkp : k < ps.length := by rw [HPL.out]; exact hlt
        have hkl : k < l.length := by rw [HLEN.out]; exact hlt
        obtain ⟨q, hq⟩ : ∃ q, ps[k]? = some q := ⟨_, List.getElem?_eq_getElem hkp⟩
        obtain ⟨y, hy⟩ : ∃ y, l[k]? = some y := ⟨_, List.getElem?_eq_getElem hkl⟩
        have hqy := HMT.out.2 k q y hq hy
        have hyk : y.kills.length ≤ 65536 := HK.out y (List.mem_of_getElem? hy)
        obtain ⟨e0, e1, e2, e3, e4, e5, e6⟩ := (HCP.out.row.below HBW.out).cell k q hq
        have HDS := Lib.hid hqy.kills
        have hln := hqy.kills.len
        have HY := Lib.hid hy
        have hb4 := Ev.below_new wr q.box
        have HB4 := Lib.hid (HBW.out.trans (hb4.mono HBW.out.size))
        have HM4 := Lib.hid (HMK.out.up hb4)
        have HK4 := Lib.hid (Ev.stays hb4 HBK.out)
        have hbx := (Ev.box_new wr q _ (Below.refl _ _)).all
        obtain ⟨q1, q2, q3, q4, q5, q6, qA, qn, qc⟩ := q
        simp only [Ev.EV.box] at hbx HB4 HM4 HK4 HDS hln
        simp only at e0 e1 e2 e3 e4 e5 e6
        obtain ⟨x0, x1, x2, x3, x4, x5, x6⟩ := hbx
        clear hq hy hqy hb4 HBW HMK HBK hkp hkl
        go_wp2
        generalize wr.alloc (.cells #[.int .u16 (q1 : Int), .int .u64 (q2 : Int), .int .u8 (q3 : Int), .int .u64 (q4 : Int), .int .u8 (q5 : Int), .string q6, .slice qA qn qc] 30) = w4 at *
        clear x0 x1 x2 x3 x4 x5 x6 e0 e1 e2 e3 e4 e5 e6
        go_loopw [21] (fun vj wr => ∃ j N2 : Nat, j ≤ qn ∧ vj = .int .i64 (j : Int) ∧ N2 ≤ N + j ∧ MapD wr w1.heap.size N2 (fun d => deadB (l.take k) d || decide (d ∈ y.kills.take j)) ∧ Below w1.heap.size w1 wr ∧ wr.cell? ⟨w1.heap.size + 1, 0, none⟩ = some (.map (some w1.heap.size))) (fun vj _ => qn - (intOf vj).toNat)
        case atStart => exact ⟨0, N, Nat.zero_le _, rfl, Nat.le_refl _, by
          have e : (fun d => deadB (l.take k) d || decide (d ∈ y.kills.take 0)) = fun d => deadB (l.take k) d := by funext d; simp
          rw [e]; exact HM4.out, HB4.out, HK4.out⟩
        case round =>
          obtain ⟨j, N2, hj, rfl, hN2, hmd, hbw, hbox⟩ := hrel
          have HMJ := Lib.hid hmd
          have HBJ := Lib.hid hbw
          have HKJ := Lib.hid hbox
          clear hmd hbw hbox
          by_cases hjl : j < qn
          · obtain ⟨ad, a1, a2, rfl, hlx, hx1, hx2, c1, c3⟩ := ((HDS.out.below HBJ.out).dots.at_ (k := j) (by rw [HDS.out.len]; exact hjl))
            have c3' : wr.cell? ⟨(ad.add (j * 2)).block, (ad.add (j * 2)).off + 1, none⟩ = some (.int .u64 (a2 : Int)) := by rw [Dt.add_next]; exact c3
            have hb5 := Ev.below_new wr (dbox (a1, a2))
            have HB5 := Lib.hid (HBJ.out.trans (hb5.mono HBJ.out.size))
            have HM5 := Lib.hid (HMJ.out.up hb5)
            have hk5 := Ev.stays hb5 HKJ.out
            have HK5 := Lib.hid hk5
            obtain ⟨z1, z2⟩ := dbox_cells wr _ (a1, a2) (Below.refl _ _)
            have HSAY := Lib.hid (say_next (fun d => deadB (l.take k) d) y.kills hlx)
            have hN5 : N2 ≤ 8796093022208 := by omega
            simp only [dbox] at HB5 HM5 HK5 hk5 z1 z2
            clear hb5 hlx c3 HKJ HBJ HMJ
            go_wp2_with (first
              | (at_mapUpdate; refine wpList_putD rfl _ _ _ rfl w1.heap.size N2 (fun d => deadB (l.take k) d || decide (d ∈ y.kills.take j)) (a1, a2) rfl HM5.out hN5 ⟨hx1, hx2⟩ rfl rfl ?_; intro w6 hm6 hg6
                 have HM6 := Lib.hid hm6
                 have HG6 := Lib.hid hg6
                 clear hm6 hg6 c1 c3' z1 z2 hk5))
            have HB6 := Lib.hid (HB5.out.grown HG6.out HB5.out.size (fun i e => by cases e; exact Nat.le_refl _))
            have HK6 := Lib.hid (HG6.out.cell HK5.out (by simp))
            rw [HSAY.out] at HM6
            go_roundw
            case rel => exact ⟨j + 1, N2 + 1, by omega, by go_num, by omega, HM6.out, HB6.out, HK6.out⟩
            case measure => simp [intOf]; omega
          · obtain rfl : j = qn := by omega
            rw [say_all HY.out hln] at HMJ
            have hN3 : N2 ≤ (k + 1) * 65536 := by rw [hln] at hyk; omega
            go_wp2
            go_roundw
            case rel => exact ⟨k + 1, N2, by omega, by go_num, hN3, HMJ.out, HBJ.out, HKJ.out⟩
            case measure => simp [intOf]; omega
      · obtain rfl : k = m := by omega
        have htk : l.take k = l := List.take_of_length_le (by rw [HLEN.out]; exact Nat.le_refl _)
        rw [htk] at HMK
        have hgz : g < w1.heap.size := HLT.out
        have CD := pdelF wr g ps k c HPL.out (HCP.out.row.below HBW.out) hmc (by omega) hcm 28 #[.pointer (some ⟨w1.heap.size + 1, 0, none⟩)] (fun q => !((q.kind : Int) == 1) || deadB l (q.dev, q.num)) (enters_of Tryz.func28 (by kernel_rfl) rfl)
          (tells_live HBK.out HMK.out (by omega) (by omega) ps (fun q hq => (HOF.out q hq).2.2))
        clear htk hgz
        go_wp2_with fail
        refine CD.mono ?_
        rintro e w2 ⟨m2, hm2, rfl, hrow2, hg2⟩
        have hm3 := match_filter (w := w1) (B := w1.heap.size) (p := fun q => !(!((q.kind : Int) == 1) || deadB l (q.dev, q.num))) (f := liveB l) (fun q x h => by
          rw [eq_one, h.kind, ← Ev.is_dot h]; unfold liveB; simp) ps _ HMT.out
        rw [← HE.out] at hm3
        have hm4 := match_grown ((hm3.below HBW.out).more HBW.out.size) hg2 (fun q hq => (HOF.out q (List.mem_filter.1 hq).1).1)
        have hle : m2 ≤ k := by rw [← hm2, ← HPL.out]; exact List.length_filter_le _ _
        have hE := row_events hrow2 hm4 hm2 (by omega) hcm (by omega)
        have HFE : Hid (FarE w.heap.size w2 (some ⟨g, 0, none⟩) out m2 c) := Lib.hid ⟨hE, _, row_lies hrow2, hm4, (fun p hp => (HOF.out p (List.mem_filter.1 hp).1).2.1), (fun _ ad e => by cases e; exact HG.out)⟩
        have HBF := Lib.hid (bel_row (HCP.out.bel.trans (HBW.out.mono HCP.out.bel.size)) hg2 (Nat.le_trans HCP.out.bel.size HBW.out.size) HG.out)
        clear CD hm2 hrow2 hg2 hm3 hm4 hE
        go_wp2
        go_ret
        exact ⟨_, m2, c, rfl, HFE.out, HBF.out⟩
end Go.Proofs.YtmebokpgiehgmaaGreat.Kl

/- The laying of slices.SortFunc at a slice of runs: which functions and types of this program stand for those of the library's contract. -/
namespace Go.Proofs
open Go.Shelf
def Tryz.sortR_ren : Go.Shelf.Ren := ⟨fun | 6 => 68 | 15 => 57 | 14 => 89 | 28 => 80 | 29 => 81 | 20 => 107 | 21 => 108 | 22 => 109 | 23 => 110 | 24 => 111 | 25 => 112 | 26 => 113 | 27 => 114 | 46 => 121 | 47 => 93 | 48 => 94 | 49 => 122 | 50 => 123 | 57 => 125 | n => n, fun | 22 => 42 | 24 => 50 | 25 => 90 | 3 => 3 | 39 => 77 | 0 => 0 | 53 => 100 | 55 => 26 | 4 => 4 | 46 => 93 | 45 => 92 | 50 => 97 | 5 => 5 | 9 => 9 | 66 => 111 | 70 => 115 | 76 => 129 | 77 => 130 | n => n, fun | n => n⟩
theorem Tryz.sortR : Go.Proofs.SlLaysF0.n6 Tryz.prog Tryz.sortR_ren := {
  mixed := by kernel_rfl
  f6 := ⟨Tryz.f68.name, by decide, Tryz.func68.trans (congrArg some (by kernel_rfl))⟩
  f14 := ⟨Tryz.f89.name, by decide, Tryz.func89.trans (congrArg some (by kernel_rfl))⟩
  f15 := Tryz.func57.trans (congrArg some (by kernel_rfl))
  f20 := ⟨Tryz.f107.name, by decide, Tryz.func107.trans (congrArg some (by kernel_rfl))⟩
  f21 := ⟨Tryz.f108.name, by decide, Tryz.func108.trans (congrArg some (by kernel_rfl))⟩
  f22 := ⟨Tryz.f109.name, by decide, Tryz.func109.trans (congrArg some (by kernel_rfl))⟩
  f23 := ⟨Tryz.f110.name, by decide, Tryz.func110.trans (congrArg some (by kernel_rfl))⟩
  f24 := ⟨Tryz.f111.name, by decide, Tryz.func111.trans (congrArg some (by kernel_rfl))⟩
  f25 := ⟨Tryz.f112.name, by decide, Tryz.func112.trans (congrArg some (by kernel_rfl))⟩
  f26 := ⟨Tryz.f113.name, by decide, Tryz.func113.trans (congrArg some (by kernel_rfl))⟩
  f27 := ⟨Tryz.f114.name, by decide, Tryz.func114.trans (congrArg some (by kernel_rfl))⟩
  f28 := Tryz.func80.trans (congrArg some (by kernel_rfl))
  f29 := Tryz.func81.trans (congrArg some (by kernel_rfl))
  f46 := ⟨Tryz.f121.name, by decide, Tryz.func121.trans (congrArg some (by kernel_rfl))⟩
  f47 := Tryz.func93.trans (congrArg some (by kernel_rfl))
  f48 := Tryz.func94.trans (congrArg some (by kernel_rfl))
  f49 := ⟨Tryz.f122.name, by decide, Tryz.func122.trans (congrArg some (by kernel_rfl))⟩
  f50 := ⟨Tryz.f123.name, by decide, Tryz.func123.trans (congrArg some (by kernel_rfl))⟩
  f57 := ⟨Tryz.f125.name, by decide, Tryz.func125.trans (congrArg some (by kernel_rfl))⟩
  t0 := Tryz.underlying0
  a0 := Tryz.isAgg0
  z0 := Tryz.sizeOf0
  v0 := Tryz.zeroValue0
  t3 := Tryz.underlying3
  a3 := Tryz.isAgg3
  z3 := Tryz.sizeOf3
  v3 := Tryz.zeroValue3
  t4 := Tryz.underlying4
  a4 := Tryz.isAgg4
  z4 := Tryz.sizeOf4
  v4 := Tryz.zeroValue4
  t5 := Tryz.underlying5
  a5 := Tryz.isAgg5
  z5 := Tryz.sizeOf5
  v5 := Tryz.zeroValue5
  t9 := Tryz.underlying9
  a9 := Tryz.isAgg9
  z9 := Tryz.sizeOf9
  v9 := Tryz.zeroValue9
  t22 := Tryz.underlying42
  a22 := Tryz.isAgg42
  z22 := Tryz.sizeOf42
  v22 := Tryz.zeroValue42
  t25 := Tryz.underlying90
  a25 := Tryz.isAgg90
  z25 := Tryz.sizeOf90
  v25 := Tryz.zeroValue90
  t39 := Tryz.underlying77
  a39 := Tryz.isAgg77
  z39 := Tryz.sizeOf77
  v39 := Tryz.zeroValue77
  t45 := Tryz.underlying92
  a45 := Tryz.isAgg92
  z45 := Tryz.sizeOf92
  v45 := Tryz.zeroValue92
  t46 := Tryz.underlying93
  a46 := Tryz.isAgg93
  z46 := Tryz.sizeOf93
  v46 := Tryz.zeroValue93
  t50 := Tryz.underlying97
  a50 := Tryz.isAgg97
  z50 := Tryz.sizeOf97
  v50 := Tryz.zeroValue97
  t53 := Tryz.underlying100
  a53 := Tryz.isAgg100
  z53 := Tryz.sizeOf100
  v53 := Tryz.zeroValue100
  t55 := Tryz.underlying26
  a55 := Tryz.isAgg26
  z55 := Tryz.sizeOf26
  v55 := Tryz.zeroValue26
  t66 := Tryz.underlying111
  a66 := Tryz.isAgg111
  z66 := Tryz.sizeOf111
  v66 := Tryz.zeroValue111
  t70 := Tryz.underlying115
  a70 := Tryz.isAgg115
  z70 := Tryz.sizeOf115
  v70 := Tryz.zeroValue115
  t76 := Tryz.underlying129
  a76 := Tryz.isAgg129
  z76 := Tryz.sizeOf129
  v76 := Tryz.zeroValue129
  t77 := Tryz.underlying130
  a77 := Tryz.isAgg130
  z77 := Tryz.sizeOf130
  v77 := Tryz.zeroValue130 }
end Go.Proofs

/- The contract of slices.SortFunc as 'Norm' calls it: the same runs, in the order of their Lo. Condition: fewer than 2^62 runs. -/
namespace Go.Proofs.YtmebokpgiehgmaaGreat.Ru
open Go.ChangeShapes Go.WideShapes Go.ChangeAt Go.RowKit Go.Shelf
set_option linter.unusedVariables false
set_option maxRecDepth 4000

theorem nan_any (w : World) (x : Nat) : Calls Tryz.prog 90 #[.int .u64 (x : Int)] w fun e w' => e = .returned (.bool false) ∧ w' = w := by
  have h : ((x : Int) != (x : Int)) = false := by rw [bne_eq_false_iff_eq]
  generalize ((x : Nat) : Int) = y at *
  go_enter Tryz.func90, Tryz.ntmps90
  go_wp2
  go_ret
  exact ⟨rfl, rfl⟩
def cfR (x y : Run) : Int := Lib.compareInt x.1 y.1
theorem compare_any (w : World) (x y : Nat) : Calls Tryz.prog 70 #[.int .u64 (x : Int), .int .u64 (y : Int)] w fun e w' => e = .returned (.int .i64 (Lib.compareInt x y)) ∧ w' = w := by
  have hx := fun W => nan_any W x
  have hy := fun W => nan_any W y
  unfold Lib.compareInt
  by_cases h1 : (x : Int) < y
  · rw [if_pos h1]
    generalize ((x : Nat) : Int) = x at *
    generalize ((y : Nat) : Int) = y at *
    go_enter Tryz.func70, Tryz.ntmps70
    go_wp2_with fail
    refine (hx _).mono ?_
    rintro e w1 ⟨rfl, rfl⟩
    go_wp2_with fail
    refine (hy _).mono ?_
    rintro e w1 ⟨rfl, rfl⟩
    go_wp2
    go_ret
    exact ⟨rfl, rfl⟩
  · rw [if_neg h1]
    have d1 : decide ((x : Int) < y) = false := decide_eq_false h1
    by_cases h2 : (x : Int) > y
    · rw [if_pos h2]
      have d2 : decide ((y : Int) < x) = true := decide_eq_true h2
      clear h1
      generalize ((x : Nat) : Int) = x at *
      generalize ((y : Nat) : Int) = y at *
      go_enter Tryz.func70, Tryz.ntmps70
      go_wp2_with fail
      refine (hx _).mono ?_
      rintro e w1 ⟨rfl, rfl⟩
      go_wp2_with fail
      refine (hy _).mono ?_
      rintro e w1 ⟨rfl, rfl⟩
      go_wp2
      go_ret
      exact ⟨rfl, rfl⟩
    · rw [if_neg h2]
      have d2 : decide ((y : Int) < x) = false := decide_eq_false h2
      clear h1 h2
      generalize ((x : Nat) : Int) = x at *
      generalize ((y : Nat) : Int) = y at *
      go_enter Tryz.func70, Tryz.ntmps70
      go_wp2_with fail
      refine (hx _).mono ?_
      rintro e w1 ⟨rfl, rfl⟩
      go_wp2_with fail
      refine (hy _).mono ?_
      rintro e w1 ⟨rfl, rfl⟩
      go_wp2
      go_ret
      exact ⟨rfl, rfl⟩

/-- a run's two cells. -/
def encC (r : Run) : List Value := [.int .u64 (r.1 : Int), .int .u64 (r.2 : Int)]
theorem closure_any (x y : Run) (W : World) : Calls Tryz.prog 69 #[.agg #[.int .u64 (x.1 : Int), .int .u64 (x.2 : Int)], .agg #[.int .u64 (y.1 : Int), .int .u64 (y.2 : Int)]] W fun e w' => e = .returned (.int .i64 (cfR x y)) ∧ ∃ q os', w' = Sort.grow (W.drewN q) os' := by
  have hcon : ∀ W', Calls Tryz.prog 70 #[.int .u64 (x.1 : Int), .int .u64 (y.1 : Int)] W' fun e w' => e = .returned (.int .i64 (cfR x y)) ∧ w' = W' := fun W' => compare_any W' x.1 y.1
  generalize cfR x y = r at hcon ⊢
  go_enter Tryz.func69, Tryz.ntmps69
  go_wp2_with (go_at_call 70; refine (hcon _).mono ?_; rintro e w' ⟨rfl, rfl⟩)
  go_ret
  exact ⟨rfl, 0, _, by rw [Sort.alloc_eq_grow, Sort.alloc_eq_grow, Sort.grow_grow]; rfl⟩
theorem ltR (x y : Run) : ltOf cfR x y = decide (x.1 < y.1) := by
  unfold ltOf cfR Lib.compareInt
  by_cases h1 : (x.1 : Int) < y.1
  · have : x.1 < y.1 := by omega
    simp [this]
  · by_cases h2 : (y.1 : Int) < x.1
    · have h3 : ¬ x.1 < y.1 := by omega
      have h4 : y.1 < x.1 := by omega
      simp [h3, h4]
    · have h3 : ¬ x.1 < y.1 := by omega
      have h4 : ¬ y.1 < x.1 := by omega
      simp [h3, h4]
theorem swoR : Sort.SWO (ltOf cfR) where
  irrefl x := by rw [ltR]; simp
  trans x y z h1 h2 := by rw [ltR] at *; simp at *; omega
  ntrans x y z h1 h2 := by rw [ltR] at *; simp at *; omega

theorem flat_rv (l : List Run) (j : Nat) (hj : j < l.length * 2) : (rv l)[j]? = some (Sort.flatK encC 2 l.toArray)[j]! := by
  rw [Sort.get_flatK _ _ _ _ (by simpa using hj)]
  have hk : j / 2 < l.length := by omega
  have hg : l[j / 2]? = some l[j / 2] := List.getElem?_eq_getElem hk
  obtain ⟨g1, g2⟩ := rv_get hg
  have e : l.toArray[j / 2]! = l[j / 2] := by rw [getElem!_pos _ _ (by simpa using hk)]; simp
  rw [e]
  rcases Nat.mod_two_eq_zero_or_one j with h | h
  · rw [h]
    have : j / 2 * 2 = j := by omega
    rw [this] at g1
    simpa [encC] using g1
  · rw [h]
    have : j / 2 * 2 + 1 = j := by omega
    rw [this] at g2
    simpa [encC] using g2

theorem sort_any (w : World) (B g cap n : Nat) (d : List Run) (hn : d.length = n) (h62 : n < 4611686018427387904) (h : w.ownsRow B 50 2 (.slice (some ⟨g, 0, none⟩) n cap) n (rv d)) :
    Calls Tryz.prog 68 #[.slice (some ⟨g, 0, none⟩) n cap, .func (.func 69) #[] #[]] w fun e w' => e = .returned (.tuple #[]) ∧ ∃ m : List Run, m.Perm d ∧ Rise m ∧ w'.ownsRow B 50 2 (.slice (some ⟨g, 0, none⟩) n cap) n (rv m) ∧ w.grownBy w' (some g) := by
  subst hn
  obtain ⟨hlen, ⟨hz, _⟩ | ⟨g', cap', cur, e, hB, hheap, hle, hmx, hsz, htk⟩⟩ := h
  · cases hz
  · cases e
    have hlt : g < w.heap.size := (Array.getElem?_eq_some_iff.1 hheap).1
    have hcell : ∀ j, j < d.length * 2 → cur[j]? = (rv d)[j]? := fun j hj => by
      rw [← htk, List.getElem?_take, if_pos hj]
      simp
    have hH : Sort.HoldsK encC 2 w g 0 d.toArray := fun j hj => by
      have hj' : j < d.length * 2 := by simpa using hj
      refine ⟨?_, by simp [World.frozen?, hheap]⟩
      rw [Nat.zero_add, show id (Sort.flatK encC 2 d.toArray)[j]! = (Sort.flatK encC 2 d.toArray)[j]! from rfl, ← flat_rv d j hj', ← hcell j hj']
      simp [World.cell?, hheap]
    have eg : ∀ args w, (callFunc 69 args).run Tryz.prog w = .ok (.enter 69 args) w := enters_of Tryz.func69 (by kernel_rfl) rfl
    have hcon := AnyQ.slices_SortFunc Tryz.sortR 2 Tryz.isAgg50 Tryz.sizeOf50 encC (fun _ => rfl) (fun x v hv => by simp [encC] at hv; rcases hv with rfl | rfl <;> rfl) cfR swoR 69 #[] g 0 cap d.toArray w eg (fun m os dk _ x y => closure_any x y _) hH hlt (by simpa using h62)
    change Calls Tryz.prog 68 _ _ _ at hcon
    rw [List.size_toArray] at hcon
    refine hcon.mono ?_
    rintro e w' ⟨rfl, d', q, os, hp, hs, rfl⟩
    have h1 : d'.size = d.length := by simpa using hp.1
    refine ⟨rfl, d'.toList, ?_, ?_, ?_, ?_⟩
    · have h3 := hp.2.2
      have e1 : d'.extract 0 d.length = d' := by rw [← h1]; simp
      have e2 : d.toArray.extract 0 d.length = d.toArray := by simp
      rw [e1, e2] at h3
      exact h3
    · refine List.pairwise_iff_getElem.2 fun i j hi hj hij => ?_
      rw [Array.length_toList] at hi hj
      have := hs i j (Nat.zero_le _) hij (by omega)
      rw [ltR, getElem!_pos d' j hj, getElem!_pos d' i hi] at this
      simpa using this
    · refine ⟨by rw [rv_length, Array.length_toList, h1], .inr ⟨g, cap, Sort.putCells id 0 (Sort.flatK encC 2 d') cur, rfl, hB, ?_, hle, hmx, by simp [Sort.putCells, hsz], ?_⟩⟩
      · show ((w.heap.modify g (Sort.onCells (Sort.putCells id 0 (Sort.flatK encC 2 d')))) ++ os)[g]? = _
        rw [Array.getElem?_append_left (by simpa using hlt), Array.getElem?_modify, if_pos rfl, hheap]
        rfl
      · apply List.ext_getElem?
        intro j
        rw [List.getElem?_take]
        by_cases hj : j < d.length * 2
        · rw [if_pos hj]
          have hf := flat_rv d'.toList j (by rw [Array.length_toList, h1]; exact hj)
          rw [Array.toArray_toList] at hf
          rw [hf]
          have hc : cur[j]? = some cur[j] := Array.getElem?_eq_getElem (by omega)
          simp [Sort.putCells, hc, h1, hj]
        · rw [if_neg hj]
          exact (List.getElem?_eq_none (by rw [rv_length, Array.length_toList, h1]; omega)).symm
    · refine ⟨rfl, rfl, rfl, ?_, fun k hk hne => ?_⟩
      · show w.heap.size ≤ ((w.heap.modify g _) ++ os).size
        simp
      · show ((w.heap.modify g _) ++ os)[k]? = _
        rw [Array.getElem?_append_left (by simpa using hk), Array.getElem?_modify, if_neg (fun e => hne (by rw [e]))]
theorem ins_nil (w : World) (fv : Value) : Calls Tryz.prog 107 #[.slice none 0 0, .int .i64 0, .int .i64 0, fv] w fun e w' => e = .returned (.tuple #[]) ∧ w' = w := by
  go_enter Tryz.func107, Tryz.ntmps107
  go_wp2
  refine wp_loop_rounds 1 ?_
  rw [rounds_succ]
  go_wp2
  go_end0
  exact ⟨rfl, rfl⟩
theorem pdq_nil (w : World) (lim : Int) (fv : Value) : Calls Tryz.prog 89 #[.slice none 0 0, .int .i64 0, .int .i64 0, .int .i64 lim, fv] w fun e w' => e = .returned (.tuple #[]) ∧ w' = w := by
  have hi := fun W => ins_nil W fv
  go_enter Tryz.func89, Tryz.ntmps89
  go_wp2
  refine wp_loop_rounds 1 ?_
  rw [rounds_succ]
  go_wp2_with (go_at_call 107; refine (hi _).mono ?_; rintro e w' ⟨rfl, rfl⟩)
  (try simp only [Exit.inBlock, Exit.then]); refine bodyPost_ret (results_none rfl _ _ _) rfl ?_
  exact ⟨rfl, rfl⟩
theorem len_nil (w : World) : Calls Tryz.prog 57 #[.int .u64 0] w fun e w' => e = .returned (.int .i64 (Lib.bitLen 0 : Nat)) ∧ w' = w := by
  have h := Any.bits_Len (SlLaysF0.n15.bits (P := Tryz.prog) (ρ := Tryz.sortR_ren) { Tryz.sortR with }) 0 w (by omega) (by omega)
  change Calls Tryz.prog 57 _ _ _ at h
  exact h
theorem sort_nil (w : World) : Calls Tryz.prog 68 #[.slice none 0 0, .func (.func 69) #[] #[]] w fun e w' => e = .returned (.tuple #[]) ∧ w' = w := by
  have hl := fun W => len_nil W
  have hp := fun lim W => pdq_nil W lim (.func (.func 69) #[] #[])
  go_enter Tryz.func68, Tryz.ntmps68
  go_wp2_with (first | (go_at_call 57; refine (hl _).mono ?_; rintro e w' ⟨rfl, rfl⟩) | (go_at_call 89; refine (hp _ _).mono ?_; rintro e w' ⟨rfl, rfl⟩))
  go_end0
  exact ⟨rfl, rfl⟩
end Go.Proofs.YtmebokpgiehgmaaGreat.Ru

/- The contract of the program's 'Norm': the list in order of the same numbers. Condition: at most 2^42 runs. -/
namespace Go.Proofs.YtmebokpgiehgmaaGreat.Ru
open Go.ChangeShapes Go.WideShapes Go.ChangeAt Go.RowKit Go.Shelf
set_option linter.unusedVariables false
set_option maxRecDepth 4000

theorem joined_nil (w : World) : Calls Tryz.prog 71 #[.slice none 0 0] w fun e w' => e = .returned (.slice none 0 0) ∧ w' = w := by
  go_enter Tryz.func71, Tryz.ntmps71
  go_wp2
  refine wp_loop_rounds 1 ?_
  rw [rounds_succ]
  go_wp2
  go_ret
  exact ⟨rfl, rfl⟩

theorem perm_length {l m : List Run} (h : m.Perm l) {n : Nat} (hl : l.length = n) : m.length = n := by rw [h.length_eq, hl]
theorem pnorm_any (w : World) (A : Option Addr) (l : List Run) (n c : Nat) (hl : l.length = n) (hb : Runs w w.heap.size A l) (h42 : n ≤ 4398046511104) :
    Calls Tryz.prog 55 #[.slice A n c] w (RunPost w (nrm l)) := by
  have HL := Lib.hid hl
  have HB := Lib.hid hb
  have L0 : Hid (Below w.heap.size w (w.alloc (.cells #[.slice A n c] 42))) := below_new _ _
  have HC : Hid (Calls Tryz.prog 67 #[.func (.func 83) #[] #[.pointer (some ⟨w.heap.size, 0, none⟩)]] (w.alloc (.cells #[.slice A n c] 42)) (RunPost (w.alloc (.cells #[.slice A n c] 42)) (tells l))) :=
    collect_any _ w.heap.size A l n c hl (by simp) (Boxed.new w 42 (.slice A n c)).cell (hb.up L0.out) h42
  clear hl hb
  go_enter Tryz.func55, Tryz.ntmps55
  go_wp2_with fail
  refine (telling_any w A n c).mono ?_
  rintro e w1 ⟨rfl, rfl⟩
  go_wp2_with fail
  refine HC.out.mono ?_
  rintro e w2 ⟨A2, n2, c2, rfl, hn2, ho2, hb2⟩
  have hn3 : n2 ≤ 4398046511104 := by
    rw [← hn2]
    refine Nat.le_trans (List.length_filter_le _ _) ?_
    rw [HL.out]; exact h42
  have HO := Lib.hid (own_less ho2 L0.out.size)
  have HW : Hid (Below w.heap.size w w2) := L0.out.trans (hb2.mono L0.out.size)
  have HN := Lib.hid hn2
  clear ho2 hb2 hn2 HC L0
  rcases A2 with _ | ad
  · obtain ⟨rfl, rfl⟩ := (own_len HO.out).2.2 rfl
    have hz : Hid (nrm l = []) := by
      show _ = _
      rw [← joined_norm (l := l) (m := []) (by rw [List.eq_nil_of_length_eq_zero HN.out]) List.Pairwise.nil]
      rfl
    go_wp2_with fail
    refine (sort_nil _).mono ?_
    rintro e w3 ⟨rfl, rfl⟩
    go_wp2_with fail
    refine (joined_nil _).mono ?_
    rintro e w3 ⟨rfl, rfl⟩
    go_wp2
    go_ret
    rw [hz.out]
    exact ⟨none, 0, 0, rfl, rfl, World.ownsRow_nil _ _ _ _, HW.out⟩
  · obtain ⟨g, cap, e, hBg⟩ : ∃ g cap, Value.slice (some ad) n2 c2 = .slice (some ⟨g, 0, none⟩) n2 cap ∧ w.heap.size ≤ g := own_shape (w := w) HO.out (.inr (fun h => by cases h))
    cases e
    go_wp2_with fail
    refine (sort_any w2 w.heap.size g c2 n2 (tells l) HN.out (by omega) HO.out).mono ?_
    rintro e w3 ⟨rfl, m, hp, hr, ho3, hg3⟩
    have HJ := Lib.hid (joined_norm hp hr)
    have HC : Hid (Calls Tryz.prog 71 #[.slice (some ⟨g, 0, none⟩) n2 c2] w3 fun e w' => ∃ k, e = .returned (.slice (some ⟨g, 0, none⟩) k c2) ∧ (joinL m).length = k ∧ w'.ownsRow w.heap.size 50 2 (.slice (some ⟨g, 0, none⟩) k c2) k (rv (joinL m)) ∧ w3.grownBy w' (some g)) :=
      joined_any w3 w.heap.size g c2 n2 m (perm_length hp HN.out) ho3 (fun r h => (List.mem_filter.1 (hp.mem_iff.1 h)).2) hr hn3
    have HG := Lib.hid hg3
    clear hp hr ho3 hg3
    go_wp2_with fail
    refine HC.out.mono ?_
    rintro e w4 ⟨k, rfl, hk, ho4, hg4⟩
    rw [HJ.out] at hk ho4
    have HO4 := Lib.hid ho4
    have HK := Lib.hid hk
    have HW4 : Hid (Below w.heap.size w w4) := HW.out.grown (grown_trans HG.out hg4) HW.out.size (fun j e => by cases e; exact hBg)
    clear ho4 hg4 hk
    go_wp2
    go_ret
    exact ⟨_, k, c2, rfl, HK.out, HO4.out, HW4.out⟩
end Go.Proofs.YtmebokpgiehgmaaGreat.Ru
