/- Words and contracts that the proofs of this seat stand on, part 15 of 18. -/
import Derived.Test.YtmebokpgiehgmaaMgN
import Derived.Test.YtmebokpgiehgmaaMgI
import Derived.Test.YtmebokpgiehgmaaMgJ

/- The contracts of the program's Edit and Delete of layer kills. For every list of at most 1024 events with at most 1024 kills each. -/
namespace Go.Proofs.Ytmebokpgiehgmaa.Kl
open Go.ChangeShapes Go.WideShapes Go.ChangeAt Go.RowKit
set_option linter.unusedVariables false
set_option maxRecDepth 4000

theorem many_few {l : List Ev.Evt} (h : ∀ x ∈ l, x.kills.length ≤ 1024) : Ev.manyE l ≤ l.length * 1025 := by
  unfold Ev.manyE
  induction l with
  | nil => simp
  | cons x l ih =>
    have h1 := h x (List.mem_cons_self ..)
    have h2 := ih (fun y hy => h y (List.mem_cons_of_mem _ hy))
    simp only [List.map_cons, List.sum_cons, List.length_cons]
    omega
/-- what may be written lies in blocks from B on. -/
theorem free_far {w : World} {B B' n : Nat} {A : Option Addr} (h : Ev.Free w B A n) (hB : B' ≤ B) : 0 < n → ∀ ad : Addr, A = some ad → B' ≤ ad.block := fun h0 ad e => by
  obtain ⟨a2, e2, hb, _⟩ := h 0 h0
  rw [e] at e2
  cases e2
  omega
/-- a list of one's own: none, or a row that may be written. -/
theorem row_of {w : World} {B n c : Nat} {A : Option Addr} {ps : List Ev.EV} (hn : ps.length = n) (h : w.ownsRow B 38 7 (.slice A n c) n (Ev.ev ps)) :
    (A = none ∧ n = 0 ∧ c = 0 ∧ ps = []) ∨ ∃ g : Nat, A = some ⟨g, 0, none⟩ ∧ B ≤ g ∧ n ≤ c ∧ c ≤ 9223372036854775807 ∧ Ev.RowE w g ps := by
  rcases h.2 with ⟨e0, h0⟩ | ⟨g, cap', cur, e, hB, hheap, hle, hmx, hsz, htk⟩
  · simp only [Value.slice.injEq] at e0
    obtain ⟨rfl, rfl, rfl⟩ := e0
    exact .inl ⟨rfl, rfl, rfl, List.eq_nil_of_length_eq_zero hn⟩
  · cases e
    subst hn
    have hlt : g < w.heap.size := (Array.getElem?_eq_some_iff.1 hheap).1
    have hcell : ∀ k p, ps[k]? = some p → ∀ j, j < 7 → w.cell? ⟨g, k * 7 + j, none⟩ = p.cells[j]? := fun k p hp j hj => by
      have hk := (List.getElem?_eq_some_iff.1 hp).1
      rw [← Ev.ev_get hp j hj, ← htk, List.getElem?_take, if_pos (by omega)]
      simp [World.cell?, hheap]
    refine .inr ⟨g, rfl, hB, hle, by unfold maxLen at hmx; omega, hlt, fun k p hp => ⟨?_, ?_, ?_, ?_, ?_, ?_, ?_⟩, fun k p hp j hj => by simp [World.frozen?, hheap]⟩
    · exact hcell k p hp 0 (by omega)
    · exact hcell k p hp 1 (by omega)
    · exact hcell k p hp 2 (by omega)
    · exact hcell k p hp 3 (by omega)
    · exact hcell k p hp 4 (by omega)
    · exact hcell k p hp 5 (by omega)
    · exact hcell k p hp 6 (by omega)
/-- a row of events. -/
theorem row_events {w : World} {g m c : Nat} {ps : List Ev.EV} {l : List Ev.Evt} (hr : Ev.RowE w g ps) (hm : Ev.Match w w.heap.size ps l) (hl : ps.length = m) (hc : m ≤ c) (hmx : c ≤ 9223372036854775807) (hw : m ≤ 2199023255552) : Ev.EventsAt w w.heap.size (some ⟨g, 0, none⟩) l m c :=
  ⟨by rw [← hm.1]; exact hl, (fun e => by cases e), hc, hmx, hw, ps, row_lies hr, hm⟩
theorem match_filter {w : World} {B : Nat} {p : Ev.EV → Bool} {f : Ev.Evt → Bool} (hpf : ∀ q x, Ev.EventIs w B q x → p q = f x) : ∀ (ps : List Ev.EV) (l : List Ev.Evt), Ev.Match w B ps l → Ev.Match w B (ps.filter p) (l.filter f)
  | [], [], _ => Ev.Match.nil_ _ _
  | [], _ :: _, h => by have := h.1; simp at this
  | _ :: _, [], h => by have := h.1; simp at this
  | q :: ps, x :: l, h => by
    have h0 : Ev.EventIs w B q x := h.2 0 q x rfl rfl
    have ih := match_filter hpf ps l ⟨by have := h.1; simpa using this, fun k r y hr hy => h.2 (k + 1) r y (by simpa using hr) (by simpa using hy)⟩
    have e := hpf q x h0
    cases hx : f x with
    | false => rw [hx] at e; rw [List.filter_cons_of_neg (by rw [e]; decide), List.filter_cons_of_neg (by rw [hx]; decide)]; exact ih
    | true =>
      rw [hx] at e
      rw [List.filter_cons_of_pos e, List.filter_cons_of_pos hx]
      refine ⟨by rw [List.length_cons, List.length_cons, ih.1], fun k r y hr hy => ?_⟩
      cases k with
      | zero =>
        simp at hr hy
        subst hr hy
        exact h0
      | succ k => exact ih.2 k r y (by simpa using hr) (by simpa using hy)
theorem edit_two (l : List Ev.Evt) (cid f : Nat) : l.filter (editB cid f) = (l.filter (delB cid)).filter (fun x => decide (x.fld = f)) := by
  rw [List.filter_filter]
  congr 1
  funext x
  unfold editB delB
  rw [Bool.and_comm]
theorem bel_row {B : Nat} {a w w' : World} {g : Nat} (h : Below B a w) (hg : w.grownBy w' (some g)) (hB : B ≤ w.heap.size) (hr : B ≤ g) : Below B a w' := h.grown hg hB (fun k e => by cases e; exact hr)
set_option maxHeartbeats 1000000 in
/-- nothing is struck from no list. -/
theorem nil_delF (w : World) (g : Nat) (cb : Array Value) : Calls Try.prog 24 #[.slice none 0 0, .func (.func g) #[] cb] w fun e w' => e = .returned (.slice none 0 0) ∧ w' = w := by
  have C : Calls Try.prog 36 #[.slice none 0 0, .func (.func g) #[] cb] w fun e w' => e = .returned (.int .i64 (-1)) ∧ w' = w := by
    go_enter Try.func36, Try.ntmps36
    go_wp2
    refine wp_loop_rounds 1 ?_
    rw [rounds_succ]
    go_wp2
    go_ret
    exact ⟨rfl, rfl⟩
  go_enter Try.func24, Try.ntmps24
  go_wp2_with fail
  refine C.mono ?_
  rintro e w1 ⟨rfl, rfl⟩
  clear C
  go_wp2
  go_ret
  exact ⟨rfl, rfl⟩

set_option maxHeartbeats 4000000 in
theorem pedit_any (w : World) (A0 : Option Addr) (l : List Ev.Evt) (n c0 cid f : Nat) (hl : Ev.EventsAt w w.heap.size A0 l n c0) (hn : n ≤ 1024) (hk : ∀ x ∈ l, x.kills.length ≤ 1024) :
    Calls Try.prog 9 #[.slice A0 n c0, .int .u64 (cid : Int), .int .u8 (f : Int)] w (DotsFar w (Ev.dotsE (l.filter (editB cid f)))) := by
  have hmany : Ev.manyE (l.filter (editB cid f)) ≤ 8796093022208 := by
    have h1 := many_few (l := l.filter (editB cid f)) (fun x hx => hk x (List.mem_filter.1 hx).1)
    have h2 := List.length_filter_le (editB cid f) l
    have h3 := hl.len
    omega
  have HMY := Lib.hid hmany
  have HB0 := Lib.hid (Ev.below_new w (.cells #[.int .u8 (f : Int)] 5))
  have CE := pedits (w.alloc (.cells #[.int .u8 (f : Int)] 5)) A0 l n c0 cid (hl.up HB0.out) (by omega)
  have hc0 : (w.alloc (.cells #[.int .u8 (f : Int)] 5)).cell? ⟨w.heap.size, 0, none⟩ = some (.int .u8 (f : Int)) := by simp [go_sem]
  have HC := Lib.hid hc0
  have HSZ := Lib.hid (Ev.alloc_size w (.cells #[.int .u8 (f : Int)] 5))
  have HE2 := Lib.hid (edit_two l cid f)
  clear hl hk hmany hc0
  go_enter Try.func9, Try.ntmps9
  go_wp2_with fail
  generalize w.alloc (.cells #[.int .u8 (f : Int)] 5) = w0 at *
  refine CE.mono ?_
  rintro e w1 ⟨A, m, c, ps, rfl, hm, hmn, hma, ho, hb⟩
  have HB1 := Lib.hid (HB0.out.trans (hb.mono HB0.out.size))
  rcases row_of hm ho with ⟨rfl, rfl, rfl, rfl⟩ | ⟨g, rfl, hg, hmc, hcm, hrow⟩
  · have hz : l.filter (editB cid f) = [] := by
      rw [HE2.out, List.eq_nil_of_length_eq_zero (l := l.filter (delB cid)) (by rw [← hma.1]; rfl)]
      rfl
    have CD := nil_delF w1 22 #[.pointer (some ⟨w.heap.size, 0, none⟩)]
    have CX : Calls Try.prog 23 #[.slice none 0 0] w1 (Ev.OwnDots w1 (Ev.dotsE (l.filter (editB cid f)))) := by
      rw [hz]
      exact Ev.pdotsE_any w1 none [] 0 0 (Ev.EventsAt.none_ _ _) (by decide)
    clear CE hm hmn hma ho hb hz HE2 HMY
    go_wp2_with fail
    refine CD.mono ?_
    rintro e w2 ⟨rfl, rfl⟩
    go_wp2_with fail
    refine CX.mono ?_
    rintro e V ⟨A3, m3, c3, rfl, h3, hf3, hb3⟩
    have H3 := Lib.hid h3
    have HF3 := Lib.hid (free_far hf3 HB1.out.size)
    have HB3 := Lib.hid (HB1.out.trans (hb3.mono HB1.out.size))
    clear h3 hf3 hb3 CX CD
    go_wp2
    go_ret
    exact ⟨A3, m3, c3, rfl, H3.out, HF3.out, HB3.out⟩
  · have hgz : w.heap.size < g := by have := HSZ.out; omega
    have CD := pdelF w1 g ps m c hm hrow hmc (by omega) hcm 22 #[.pointer (some ⟨w.heap.size, 0, none⟩)] (fun q => (q.fld : Int) != (f : Int)) (enters_of Try.func22 (by kernel_rfl) rfl)
      (tells_edit (Ev.stays hb HC.out) (by simp; omega) ps)
    have HM := Lib.hid hm
    have HMA := Lib.hid hma
    have HB := Lib.hid hb
    have HG := Lib.hid hg
    have hmf : m ≤ 1024 := by omega
    clear CE hm hmn hma ho hb hrow hg
    go_wp2_with fail
    refine CD.mono ?_
    rintro e w2 ⟨m2, hm2, rfl, hrow2, hg2⟩
    have hB2 : Below w0.heap.size w0 w2 := bel_row HB.out hg2 HB.out.size HG.out
    have hm3 := match_filter (w := w0) (B := w0.heap.size) (p := fun q => !((q.fld : Int) != (f : Int))) (f := fun x => decide (x.fld = f)) (fun q x h => by
      rw [bne, eq_u8, h.fld, Bool.not_not]) ps _ HMA.out
    rw [← HE2.out] at hm3
    have hle : m2 ≤ m := by rw [← hm2, ← HM.out]; exact List.length_filter_le _ _
    have hE := row_events hrow2 ((hm3.below hB2).more hB2.size) hm2 (by omega) hcm (by omega)
    have HW2 := Lib.hid (HB0.out.trans (hB2.mono HB0.out.size))
    have CX := Ev.pdotsE_any w2 _ _ m2 c hE HMY.out
    clear CD hm2 hrow2 hg2 hB2 hm3 hE
    go_wp2_with fail
    refine CX.mono ?_
    rintro e V ⟨A3, m3, c3, rfl, h3, hf3, hb3⟩
    have H3 := Lib.hid h3
    have HF3 := Lib.hid (free_far hf3 HW2.out.size)
    have HB3 := Lib.hid (HW2.out.trans (hb3.mono HW2.out.size))
    clear h3 hf3 hb3 CX
    go_wp2
    go_ret
    exact ⟨A3, m3, c3, rfl, H3.out, HF3.out, HB3.out⟩

set_option maxHeartbeats 4000000 in
theorem pdel_any (w : World) (A0 : Option Addr) (l : List Ev.Evt) (n c0 cid : Nat) (hl : Ev.EventsAt w w.heap.size A0 l n c0) (hn : n ≤ 1024) (hk : ∀ x ∈ l, x.kills.length ≤ 1024) :
    Calls Try.prog 11 #[.slice A0 n c0, .int .u64 (cid : Int)] w (DotsFar w (Ev.dotsE (l.filter (delB cid)))) := by
  have hmany : Ev.manyE (l.filter (delB cid)) ≤ 8796093022208 := by
    have h1 := many_few (l := l.filter (delB cid)) (fun x hx => hk x (List.mem_filter.1 hx).1)
    have h2 := List.length_filter_le (delB cid) l
    have h3 := hl.len
    omega
  have HMY := Lib.hid hmany
  have CE := pedits w A0 l n c0 cid hl (by omega)
  clear hl hk hmany
  go_enter Try.func11, Try.ntmps11
  go_wp2_with fail
  refine CE.mono ?_
  rintro e w1 ⟨A, m, c, ps, rfl, hm, hmn, hma, ho, hb⟩
  have hE := Ev.own_events hb hma hm (by omega) ho
  have HB1 := Lib.hid hb
  have CX := Ev.pdotsE_any w1 _ _ m c hE HMY.out
  clear CE hm hmn hma ho hb hE
  go_wp2_with fail
  refine CX.mono ?_
  rintro e V ⟨A3, m3, c3, rfl, h3, hf3, hb3⟩
  have H3 := Lib.hid h3
  have HF3 := Lib.hid (free_far hf3 HB1.out.size)
  have HB3 := Lib.hid (HB1.out.trans (hb3.mono HB1.out.size))
  clear h3 hf3 hb3 CX
  go_wp2
  go_ret
  exact ⟨A3, m3, c3, rfl, H3.out, HF3.out, HB3.out⟩
end Go.Proofs.Ytmebokpgiehgmaa.Kl

/- The contract of the program's Sort of layer event. For every list of at most 2^40 events. -/
namespace Go.Proofs.Ytmebokpgiehgmaa.Ev
open Go.ChangeShapes Go.WideShapes Go.ChangeAt Go.RowKit
set_option linter.unusedVariables false
set_option maxRecDepth 4000

/-- how two events' dots stand, as byDot tells. -/
def cfE (a b : PE) : Int := cmpE a.1 b.1
theorem ltE : ltOf cfE = ltK keyE := by
  funext a b
  show ltOf cmpE a.1 b.1 = Dt.aheadD a.2.dot b.2.dot
  rw [lt_dot, a.same, b.same]
theorem eqE (a b : PE) : oneE a.1 b.1 = eqK keyE a b := by
  show decide (a.1.dot = b.1.dot) = decide (a.2.dot = b.2.dot)
  rw [a.same, b.same]
theorem nil_ins (w : World) (fv : Value) : Calls Try.prog 54 #[.slice none 0 0, .int .i64 0, .int .i64 0, fv] w fun e w' => e = .returned (.tuple #[]) ∧ w' = w := by
  go_enter Try.func54, Try.ntmps54
  go_wp2
  refine wp_loop_rounds 1 ?_
  rw [rounds_succ]
  go_wp2
  go_end0
  exact ⟨rfl, rfl⟩
set_option maxHeartbeats 2000000 in
theorem nil_stable (w : World) (fv : Value) : Calls Try.prog 49 #[.slice none 0 0, .int .i64 0, fv] w fun e w' => e = .returned (.tuple #[]) ∧ w' = w := by
  have C := nil_ins w fv
  go_enter Try.func49, Try.ntmps49
  go_wp2
  refine wp_loop_rounds 1 ?_
  rw [rounds_succ]
  go_wp2_with fail
  refine C.mono ?_
  rintro e w1 ⟨rfl, rfl⟩
  clear C
  go_wp2
  refine wp_loop_rounds 1 ?_
  rw [rounds_succ]
  go_wp2
  go_end0
  exact ⟨rfl, rfl⟩
theorem nil_sort (w : World) (fv : Value) : Calls Try.prog 39 #[.slice none 0 0, fv] w fun e w' => e = .returned (.tuple #[]) ∧ w' = w := by
  have C := nil_stable w fv
  go_enter Try.func39, Try.ntmps39
  go_wp2_with fail
  refine C.mono ?_
  rintro e w1 ⟨rfl, rfl⟩
  clear C
  go_wp2
  go_end0
  exact ⟨rfl, rfl⟩
theorem nil_comp (w : World) (fv : Value) : Calls Try.prog 41 #[.slice none 0 0, fv] w fun e w' => e = .returned (.slice none 0 0) ∧ w' = w := by
  go_enter Try.func41, Try.ntmps41
  go_wp2
  go_ret
  exact ⟨rfl, rfl⟩
theorem rowP {w : World} {g : Nat} {Z : List PE} (hH : Sort.HoldsK encE 7 w g 0 Z.toArray) (hg : g < w.heap.size) : RowK encE 7 w g 0 Z.toArray :=
  ⟨fun _ => rfl, fun x v hv => ev_one [x.1] v (by simpa [ev, encE] using hv), hH, hg⟩
/-- the stable sort of a row of events. -/
theorem sorted_row {w : World} {g cap : Nat} {Z : List PE} (R : RowK encE 7 w g 0 Z.toArray) (h60 : Z.length ≤ 1152921504606846976) : Calls Try.prog 39 #[.slice (some ⟨g, 0, none⟩) Z.length cap, .func (.func 40) #[] #[]] w (St.MergedTo cfE encE 7 w g 0 Z.toArray 0 Z.length) := by
  have eg : ∀ args w, (callFunc 40 args).run Try.prog w = .ok (.enter 40 args) w := enters_of Try.func40 (by kernel_rfl) rfl
  have eI : ∀ args w, (callFunc 54 args).run Try.prog w = .ok (.enter 54 args) w := enters_of Try.func54 (by kernel_rfl) rfl
  have hS : Sort.SWO (ltOf cfE) := by rw [ltE]; exact swoK keyE
  have hC : CmpLays Try.prog 40 #[] encE 7 cfE g 0 Z.toArray.size w := fun m os dk _ x y => bydot_any _ x.1 y.1
  have h := St.sortStable_any St.laysE R (by simpa using h60) hS 40 #[] eg hC cap eI (fun a b dk W h1 h2 h3 h4 => St.ins_any R (by simp; omega) hS 40 #[] eg hC cap a b dk W h1 h2 h3 h4) Z.toArray rfl w (SWK.start R.hH)
  rw [List.size_toArray] at h
  exact h
/-- of neighbours with one dot the first one alone. -/
theorem compact_row {w W : World} {g cap : Nat} {Z : List PE} {d : Array PE} (R : RowK encE 7 w g 0 Z.toArray) (h60 : Z.length ≤ 1152921504606846976) (hcap : Z.length ≤ cap) (hs : d.size = Z.length) (hW : SWK encE 7 w g 0 d W) : Calls Try.prog 41 #[.slice (some ⟨g, 0, none⟩) Z.length cap, .func (.func 42) #[] #[]] W (St.CompTo (eqK keyE) encE 7 w g 0 cap d) := by
  have eg : ∀ args w, (callFunc 42 args).run Try.prog w = .ok (.enter 42 args) w := enters_of Try.func42 (by kernel_rfl) rfl
  have hE : St.EqLays Try.prog 42 #[] encE 7 (eqK keyE) g 0 Z.toArray.size w := fun m os dk _ x y => by
    rw [← eqE]
    exact onedot_any _ x.1 y.1
  have h := St.compactFunc_any St.laysC R (by simp; omega) cap (by simpa using hcap) default Try.zeroValue38 (eqK keyE) 42 #[] eg hE d (by simpa using hs) W hW
  rw [List.size_toArray] at h
  exact h
/-- what is copied, ahead of the first copy. -/
theorem copied_start {w w1 W : World} {g m : Nat} {l : List Evt} {Z : List PE} {d d1 : Array PE} (hl : Z.map PE.snd = l) (hZ : ∀ a ∈ Z, EventIs w w.heap.size a.1 a.2) (hg : w.heap.size ≤ g) (hb : Below w.heap.size w w1) (R : RowK encE 7 w1 g 0 Z.toArray)
    (hs1 : d1.size = Z.length) (hm1 : St.Merged (ltOf cfE) (St.row Z.toArray) (St.row d1) 0 Z.length) (hm : m ≤ d1.size) (hs : d.size = d1.size) (hW : SWK encE 7 w1 g 0 d W) (hf : St.seg (St.row d) 0 m = St.firsts (eqK keyE) (St.row d1) d1.size) :
    (sortE l).length = m ∧ Copied w g m (sortE l) 0 ((St.seg (St.row d) 0 m).map PE.fst) W := by
  have hz : St.seg (St.row Z.toArray) 0 Z.length = Z := St.seg_list Z
  have hk := hm1.keep
  have hst := hm1.srt
  rw [hz] at hk
  rw [ltE] at hk hst
  have hsort : (St.seg (St.row d) 0 m).map PE.snd = sortE l := by rw [hf, hs1, firsts_sort hst hk, hl]
  have hlen : (St.seg (St.row d) 0 m).length = m := by simp [St.seg]
  refine ⟨by rw [← hsort, List.length_map, hlen], ⟨by rw [List.length_map, hlen], swk_row hW R.hH (by rw [hs, hs1]; simp) R.hblk (by omega), hb.trans (swk_below hW hg hb.size), fun j p x hj => by omega, fun j p x _ hp hx => ?_⟩⟩
  rw [← hsort] at hx
  rw [List.getElem?_map, Option.map_eq_some_iff] at hp hx
  obtain ⟨a, ha, rfl⟩ := hp
  obtain ⟨b, hb, rfl⟩ := hx
  rw [ha] at hb
  cases hb
  have hmem : a ∈ St.seg (St.row d) 0 m := List.mem_of_getElem? ha
  rw [hf] at hmem
  obtain ⟨i, hi, rfl, _⟩ := (mem_firsts _ a).1 hmem
  refine hZ _ ((hk.mem (swoK keyE) _).1 (St.mem_seg.2 ⟨i, Nat.zero_le _, by omega, rfl⟩))

set_option maxHeartbeats 8000000 in
theorem psortE_any (w : World) (A : Option Addr) (l : List Evt) (n c : Nat) (h : EventsAt w w.heap.size A l n c) (h40 : n ≤ 1099511627776) : Calls Try.prog 30 #[.slice A n c] w (OwnsPost w (sortE l)) := by
  obtain ⟨ps, hlies, hmatch⟩ := h.evts
  obtain ⟨Z, rfl, hZl⟩ := zip_of ps l hmatch
  have hZn : Z.length = n := by rw [← h.len, ← hZl, List.length_map]
  have HZ : Hid (∀ a ∈ Z, EventIs w w.heap.size a.1 a.2) := Lib.hid (fun a ha => by
    obtain ⟨j, hj, rfl⟩ := List.getElem_of_mem ha
    exact hmatch.2 j _ _ (by simp [hj]) (by rw [← hZl]; simp [hj]))
  have C1 := pcloneE w A (Z.map PE.fst) n c (by rw [List.length_map, hZn]) h.nil hlies (by omega)
  have HL := Lib.hid hZl
  have HN := Lib.hid hZn
  have hwide := h.wide
  clear h hlies hmatch hZl hZn
  go_enter Try.func30, Try.ntmps30
  go_wp2_with fail
  refine C1.mono ?_
  rintro e w1 ⟨A1, c1, rfl, ho, hb⟩
  clear C1
  have HO := Lib.hid ho
  have HB := Lib.hid hb
  rcases ho.2 with ⟨e0, rfl⟩ | ⟨g, cap, _, e0, hg, hheap, hcap, hmax, _⟩
  · cases e0
    have hz : Z = [] := List.eq_nil_of_length_eq_zero HN.out
    have hl : l = [] := by rw [← HL.out, hz]; rfl
    subst hl
    have C2 := nil_sort w1 (.func (.func 40) #[] #[])
    have C3 := nil_comp w1 (.func (.func 42) #[] #[])
    clear ho hb
    go_wp2_with fail
    refine C2.mono ?_
    rintro e w2 ⟨rfl, rfl⟩
    go_wp2_with fail
    refine C3.mono ?_
    rintro e w3 ⟨rfl, rfl⟩
    clear C2 C3
    go_wp2
    refine wp_loop_rounds 1 ?_
    rw [rounds_succ]
    go_wp2
    go_ret
    exact ⟨none, 0, 0, rfl, EventsAt.none_ _ _, fun k hk => by omega, HB.out⟩
  · cases e0
    have hlt : g < w1.heap.size := (Array.getElem?_eq_some_iff.1 hheap).1
    obtain ⟨hH, _⟩ := own_holds HN.out HO.out (.inr hlt)
    have R := rowP hH hlt
    have C2 := sorted_row (cap := c1) R (by rw [HN.out]; omega)
    rw [HN.out] at C2
    have HR := Lib.hid R
    have HG := Lib.hid hg
    clear ho hb hheap hH R
    go_wp2_with fail
    refine C2.mono ?_
    rintro e w2 ⟨rfl, d1, hs1, hw1, hm1⟩
    have hs1 : d1.size = n := by rw [hs1]; simpa using HN.out
    have C3 := compact_row (cap := c1) HR.out (by rw [HN.out]; omega) (by rw [HN.out]; exact hcap) (by rw [HN.out]; exact hs1) hw1
    rw [HN.out] at C3
    have HM1 := Lib.hid hm1
    clear C2 hw1 hm1
    go_wp2_with fail
    refine C3.mono ?_
    rintro e w3 ⟨m, d2, hm, rfl, hs2, hw2, hf⟩
    obtain ⟨hlen, hcp⟩ := copied_start HL.out HZ.out HG.out HB.out HR.out (by rw [HN.out]; exact hs1) (by rw [HN.out]; exact HM1.out) hm hs2 hw2 hf
    have hmn : m ≤ n := by omega
    have HLEN := Lib.hid hlen
    have HCP := Lib.hid hcp
    clear C3 hw2 hf hlen hcp
    go_wp2
    go_loopw [13] (fun vi wr => ∃ (k : Nat) (ps : List EV), vi = .int .i64 (k : Int) ∧ k ≤ m ∧ Copied w g m (sortE l) k ps wr) (fun vi _ => m - (intOf vi).toNat)
    case atStart => exact ⟨0, _, by go_num, Nat.zero_le _, HCP.out⟩
    case round =>
      obtain ⟨k, ps2, rfl, hk, hcp⟩ := hrel
      have HC := Lib.hid hcp
      by_cases hlt2 : k < m
      · have hz : (k : Int) < (m : Int) := by omega
        have hkp : k < ps2.length := by rw [hcp.len]; exact hlt2
        have hkl : k < (sortE l).length := by rw [HLEN.out]; exact hlt2
        have hp := List.getElem?_eq_getElem hkp
        have hx := List.getElem?_eq_getElem hkl
        obtain ⟨c0, c1', c2, c3, c4, c5, c6⟩ := hcp.row.cell k _ hp
        have hold := (hcp.old k _ _ (Nat.le_refl _) hp hx).up hcp.bel
        have CC := pcopy_any wr _ _ hold
        have HX := Lib.hid hx
        have hfr := fun (w4 : World) (hb : Below wr.heap.size wr w4) => (hcp.row.below hb).free k _ hp
        have hct := fun (w4 : World) (hb : Below wr.heap.size wr w4) => (hcp.row.below hb).cell k _ hp
        have HFR := Lib.hid hfr
        have HCT := Lib.hid hct
        generalize ps2[k] = p at CC c0 c1' c2 c3 c4 c5 c6 HFR HCT
        obtain ⟨p1, p2, p3, p4, p5, p6, pA, pn, pc⟩ := p
        simp only [EV.val] at CC
        simp only at c0 c1' c2 c3 c4 c5 c6
        clear hp hx hold hfr hct hcp
        go_wp2_with fail
        refine CC.mono ?_
        rintro e w4 ⟨q, rfl, hq, hfq, hbq⟩
        have HN4 := Lib.hid (HC.out.next HG.out hlt2 HX.out hq hfq hbq)
        have f0 := HFR.out w4 hbq 0 (by omega)
        have f1 := HFR.out w4 hbq 1 (by omega)
        have f2 := HFR.out w4 hbq 2 (by omega)
        have f3 := HFR.out w4 hbq 3 (by omega)
        have f4 := HFR.out w4 hbq 4 (by omega)
        have f5 := HFR.out w4 hbq 5 (by omega)
        have f6 := HFR.out w4 hbq 6 (by omega)
        obtain ⟨d0, d1', d2', d3, d4, d5, d6⟩ := HCT.out w4 hbq
        simp only [Nat.add_zero] at f0
        obtain ⟨q1, q2, q3, q4, q5, q6, qA, qn, qc⟩ := q
        rw [putAt_eq] at HN4
        simp only [EV.val]
        simp only at HN4 d0 d1' d2' d3 d4 d5 d6
        clear CC hq hfq hbq HFR HCT c0 c1' c2 c3 c4 c5 c6
        go_wp2
        go_roundw
        case rel => exact ⟨k + 1, _, by go_num, by omega, HN4.out⟩
        case measure => simp [intOf]; omega
      · obtain rfl : k = m := by omega
        go_wp2
        go_ret
        exact HC.out.done HG.out HLEN.out (by omega) hmax (by omega)
end Go.Proofs.Ytmebokpgiehgmaa.Ev

/- The contract of the program's Sort of layer event, once more: what comes out is a row of one's own, each event in it a copy. For every list of at most 2^40 events. -/
namespace Go.Proofs.Ytmebokpgiehgmaa.Ev
open Go.ChangeShapes Go.WideShapes Go.ChangeAt Go.RowKit
set_option linter.unusedVariables false
set_option maxRecDepth 4000

/-- nothing comes out, or a row of copies. -/
def RowPost (w : World) (n : Nat) (l : List Evt) (e : Ending) (w' : World) : Prop :=
  (e = .returned (.slice none 0 0) ∧ sortE l = [] ∧ Below w.heap.size w w') ∨
  ∃ (g m c : Nat) (ps : List EV), e = .returned (.slice (some ⟨g, 0, none⟩) m c) ∧ w.heap.size ≤ g ∧ (sortE l).length = m ∧ m ≤ n ∧ m ≤ c ∧ c ≤ 9223372036854775807 ∧ Copied w g m (sortE l) m ps w'
set_option maxHeartbeats 8000000 in
theorem psortE_row (w : World) (A : Option Addr) (l : List Evt) (n c : Nat) (h : EventsAt w w.heap.size A l n c) (h40 : n ≤ 1099511627776) : Calls Try.prog 30 #[.slice A n c] w (RowPost w n l) := by
  obtain ⟨ps, hlies, hmatch⟩ := h.evts
  obtain ⟨Z, rfl, hZl⟩ := zip_of ps l hmatch
  have hZn : Z.length = n := by rw [← h.len, ← hZl, List.length_map]
  have HZ : Hid (∀ a ∈ Z, EventIs w w.heap.size a.1 a.2) := Lib.hid (fun a ha => by
    obtain ⟨j, hj, rfl⟩ := List.getElem_of_mem ha
    exact hmatch.2 j _ _ (by simp [hj]) (by rw [← hZl]; simp [hj]))
  have C1 := pcloneE w A (Z.map PE.fst) n c (by rw [List.length_map, hZn]) h.nil hlies (by omega)
  have HL := Lib.hid hZl
  have HN := Lib.hid hZn
  have hwide := h.wide
  clear h hlies hmatch hZl hZn
  go_enter Try.func30, Try.ntmps30
  go_wp2_with fail
  refine C1.mono ?_
  rintro e w1 ⟨A1, c1, rfl, ho, hb⟩
  clear C1
  have HO := Lib.hid ho
  have HB := Lib.hid hb
  rcases ho.2 with ⟨e0, rfl⟩ | ⟨g, cap, _, e0, hg, hheap, hcap, hmax, _⟩
  · cases e0
    have hz : Z = [] := List.eq_nil_of_length_eq_zero HN.out
    have hl : l = [] := by rw [← HL.out, hz]; rfl
    subst hl
    have C2 := nil_sort w1 (.func (.func 40) #[] #[])
    have C3 := nil_comp w1 (.func (.func 42) #[] #[])
    clear ho hb
    go_wp2_with fail
    refine C2.mono ?_
    rintro e w2 ⟨rfl, rfl⟩
    go_wp2_with fail
    refine C3.mono ?_
    rintro e w3 ⟨rfl, rfl⟩
    clear C2 C3
    go_wp2
    refine wp_loop_rounds 1 ?_
    rw [rounds_succ]
    go_wp2
    go_ret
    exact .inl ⟨rfl, rfl, HB.out⟩
  · cases e0
    have hlt : g < w1.heap.size := (Array.getElem?_eq_some_iff.1 hheap).1
    obtain ⟨hH, _⟩ := own_holds HN.out HO.out (.inr hlt)
    have R := rowP hH hlt
    have C2 := sorted_row (cap := c1) R (by rw [HN.out]; omega)
    rw [HN.out] at C2
    have HR := Lib.hid R
    have HG := Lib.hid hg
    clear ho hb hheap hH R
    go_wp2_with fail
    refine C2.mono ?_
    rintro e w2 ⟨rfl, d1, hs1, hw1, hm1⟩
    have hs1 : d1.size = n := by rw [hs1]; simpa using HN.out
    have C3 := compact_row (cap := c1) HR.out (by rw [HN.out]; omega) (by rw [HN.out]; exact hcap) (by rw [HN.out]; exact hs1) hw1
    rw [HN.out] at C3
    have HM1 := Lib.hid hm1
    clear C2 hw1 hm1
    go_wp2_with fail
    refine C3.mono ?_
    rintro e w3 ⟨m, d2, hm, rfl, hs2, hw2, hf⟩
    obtain ⟨hlen, hcp⟩ := copied_start HL.out HZ.out HG.out HB.out HR.out (by rw [HN.out]; exact hs1) (by rw [HN.out]; exact HM1.out) hm hs2 hw2 hf
    have hmn : m ≤ n := by omega
    have HLEN := Lib.hid hlen
    have HCP := Lib.hid hcp
    clear C3 hw2 hf hlen hcp
    go_wp2
    go_loopw [13] (fun vi wr => ∃ (k : Nat) (ps : List EV), vi = .int .i64 (k : Int) ∧ k ≤ m ∧ Copied w g m (sortE l) k ps wr) (fun vi _ => m - (intOf vi).toNat)
    case atStart => exact ⟨0, _, by go_num, Nat.zero_le _, HCP.out⟩
    case round =>
      obtain ⟨k, ps2, rfl, hk, hcp⟩ := hrel
      have HC := Lib.hid hcp
      by_cases hlt2 : k < m
      · have hz : (k : Int) < (m : Int) := by omega
        have hkp : k < ps2.length := by rw [hcp.len]; exact hlt2
        have hkl : k < (sortE l).length := by rw [HLEN.out]; exact hlt2
        have hp := List.getElem?_eq_getElem hkp
        have hx := List.getElem?_eq_getElem hkl
        obtain ⟨c0, c1', c2, c3, c4, c5, c6⟩ := hcp.row.cell k _ hp
        have hold := (hcp.old k _ _ (Nat.le_refl _) hp hx).up hcp.bel
        have CC := pcopy_any wr _ _ hold
        have HX := Lib.hid hx
        have hfr := fun (w4 : World) (hb : Below wr.heap.size wr w4) => (hcp.row.below hb).free k _ hp
        have hct := fun (w4 : World) (hb : Below wr.heap.size wr w4) => (hcp.row.below hb).cell k _ hp
        have HFR := Lib.hid hfr
        have HCT := Lib.hid hct
        generalize ps2[k] = p at CC c0 c1' c2 c3 c4 c5 c6 HFR HCT
        obtain ⟨p1, p2, p3, p4, p5, p6, pA, pn, pc⟩ := p
        simp only [EV.val] at CC
        simp only at c0 c1' c2 c3 c4 c5 c6
        clear hp hx hold hfr hct hcp
        go_wp2_with fail
        refine CC.mono ?_
        rintro e w4 ⟨q, rfl, hq, hfq, hbq⟩
        have HN4 := Lib.hid (HC.out.next HG.out hlt2 HX.out hq hfq hbq)
        have f0 := HFR.out w4 hbq 0 (by omega)
        have f1 := HFR.out w4 hbq 1 (by omega)
        have f2 := HFR.out w4 hbq 2 (by omega)
        have f3 := HFR.out w4 hbq 3 (by omega)
        have f4 := HFR.out w4 hbq 4 (by omega)
        have f5 := HFR.out w4 hbq 5 (by omega)
        have f6 := HFR.out w4 hbq 6 (by omega)
        obtain ⟨d0, d1', d2', d3, d4, d5, d6⟩ := HCT.out w4 hbq
        simp only [Nat.add_zero] at f0
        obtain ⟨q1, q2, q3, q4, q5, q6, qA, qn, qc⟩ := q
        rw [putAt_eq] at HN4
        simp only [EV.val]
        simp only at HN4 d0 d1' d2' d3 d4 d5 d6
        clear CC hq hfq hbq HFR HCT c0 c1' c2 c3 c4 c5 c6
        go_wp2
        go_roundw
        case rel => exact ⟨k + 1, _, by go_num, by omega, HN4.out⟩
        case measure => simp [intOf]; omega
      · obtain rfl : k = m := by omega
        go_wp2
        go_ret
        exact .inr ⟨g, k, c1, ps2, rfl, HG.out, HLEN.out, hmn, by omega, hmax, HC.out⟩
end Go.Proofs.Ytmebokpgiehgmaa.Ev

/- The contract of the program's Live of layer kills. For every list of at most 1024 events with at most 65536 kills each. -/
namespace Go.Proofs.Ytmebokpgiehgmaa.Kl
open Go.ChangeShapes Go.WideShapes Go.ChangeAt Go.RowKit
set_option linter.unusedVariables false
set_option maxRecDepth 4000

theorem dots_grown {w W : World} {A : Option Addr} {l : List Dt.Dot} {n c g : Nat} (h : Ev.DotsAt w w.heap.size A l n c) (hg : w.grownBy W (some g)) (ho : Ev.Off g A n) : Ev.DotsAt W W.heap.size A l n c := by
  refine ⟨h.len, h.nil, h.cap, h.max, h.wide, h.dots.1, fun hl => ?_⟩
  obtain ⟨ad, e, hB, hc⟩ := h.dots.2 hl
  have h0 : 0 < n := by rw [Dt.dv_length, h.len] at hl; omega
  exact ⟨ad, e, Nat.lt_of_lt_of_le hB hg.size, fun j u hu => (hg.cell_far _ (by rw [Ev.block_add]; exact hB) (by rw [Ev.block_add]; intro e2; cases e2; exact ho ad e h0 rfl)).trans (hc j u hu)⟩
theorem match_grown {w W : World} {ps : List Ev.EV} {l : List Ev.Evt} {g : Nat} (h : Ev.Match w w.heap.size ps l) (hg : w.grownBy W (some g)) (ho : ∀ q ∈ ps, Ev.Off g q.adr q.len) : Ev.Match W W.heap.size ps l :=
  ⟨h.1, fun k p x hp hx => by
    have q := h.2 k p x hp hx
    exact ⟨q.dev, q.num, q.kind, q.cid, q.fld, q.txt, q.fits, dots_grown q.kills hg (ho p (List.mem_of_getElem? hp))⟩⟩
theorem say_next (s : Dt.Dot → Bool) (l : List Dt.Dot) {j : Nat} {d : Dt.Dot} (h : l[j]? = some d) : (fun e => decide (e = d) || (s e || decide (e ∈ l.take j))) = fun e => s e || decide (e ∈ l.take (j + 1)) := by
  funext e
  rw [Ev.take_one h, Bool.eq_iff_iff]
  simp only [Bool.or_eq_true, decide_eq_true_eq, List.mem_append, List.mem_singleton]
  constructor
  · rintro (h | h | h)
    · exact .inr (.inr h)
    · exact .inl h
    · exact .inr (.inl h)
  · rintro (h | h | h)
    · exact .inr (.inl h)
    · exact .inr (.inr h)
    · exact .inl h
theorem say_all {l : List Ev.Evt} {k : Nat} {y : Ev.Evt} (h : l[k]? = some y) {n : Nat} (hn : y.kills.length = n) : (fun e => deadB (l.take k) e || decide (e ∈ y.kills.take n)) = fun e => deadB (l.take (k + 1)) e := by
  funext e
  rw [dead_next e h, List.take_of_length_le (l := y.kills) (by omega)]
theorem sort_sub {l : List Ev.Evt} {x : Ev.Evt} (h : x ∈ Ev.sortE l) : x ∈ l := by
  obtain ⟨j, hj, _⟩ := (Ev.sort_mem l x).1 h
  exact List.mem_of_getElem? hj

set_option maxHeartbeats 8000000 in
theorem plive_any (w : World) (A0 : Option Addr) (l0 : List Ev.Evt) (n0 c0 : Nat) (hl : Ev.EventsAt w w.heap.size A0 l0 n0 c0) (h10 : n0 ≤ 1024) (hk : ∀ x ∈ l0, x.kills.length ≤ 65536) :
    Calls Try.prog 16 #[.slice A0 n0 c0] w (EvFar w (liveE l0)) := by
  have hmm := @run_makeMap Try.prog
  have CS := Ev.psortE_row w A0 l0 n0 c0 hl (by omega)
  have HE : Hid (liveE l0 = (Ev.sortE l0).filter (liveB (Ev.sortE l0))) := Lib.hid rfl
  have HK := Lib.hid (fun x (hx : x ∈ Ev.sortE l0) => hk x (sort_sub hx))
  unfold Ev.RowPost at CS
  generalize Ev.sortE l0 = l at *
  generalize liveE l0 = out at *
  clear hl hk
  go_enter Try.func16, Try.ntmps16
  go_wp2_with fail
  refine CS.mono ?_
  rintro e w1 hpost
  clear CS
  have hbn : Below w1.heap.size w1 ((w1.alloc (.map #[] 0)).alloc (.cells #[.map (some w1.heap.size)] 51)) := Ev.below_new2 _ _ _
  have hmd : MapD ((w1.alloc (.map #[] 0)).alloc (.cells #[.map (some w1.heap.size)] 51)) w1.heap.size 0 (fun _ => false) := (mapD_new w1).up (Ev.below_new _ _)
  have hbox : ((w1.alloc (.map #[] 0)).alloc (.cells #[.map (some w1.heap.size)] 51)).cell? ⟨w1.heap.size + 1, 0, none⟩ = some (.map (some w1.heap.size)) := by simp [go_sem]
  have HBN := Lib.hid hbn
  have HMD := Lib.hid hmd
  have HBOX := Lib.hid hbox
  clear hbn hmd hbox
  rcases hpost with ⟨rfl, rfl, hb1⟩ | ⟨g, m, c, ps, rfl, hg, hlen, hmn, hmc, hcm, hcp⟩
  · have HB1 := Lib.hid hb1
    have CD := fun W => nil_delF W 31 #[.pointer (some ⟨w1.heap.size + 1, 0, none⟩)]
    clear hb1
    go_wp2
    generalize (w1.alloc (.map #[] 0)).alloc (.cells #[.map (some w1.heap.size)] 51) = w3 at *
    refine wp_loop_rounds 1 ?_
    rw [rounds_succ]
    go_wp2_with fail
    refine (CD w3).mono ?_
    rintro e w4 ⟨rfl, rfl⟩
    have HW := Lib.hid (HB1.out.trans (HBN.out.mono HB1.out.size))
    clear CD
    go_wp2
    go_ret
    rw [HE.out]
    exact ⟨none, 0, 0, rfl, ⟨Ev.EventsAt.none_ _ _, [], Dt.Lies.none_ _ _ _, Ev.Match.nil_ _ _, (fun p hp => by cases hp), (fun h => absurd h (by omega))⟩, HW.out⟩
  · have HCP := Lib.hid hcp
    have HG := Lib.hid hg
    have HLEN := Lib.hid hlen
    have HPL : Hid (ps.length = m) := Lib.hid hcp.len
    have HLT : Hid (g < w1.heap.size) := Lib.hid hcp.row.lt
    have HMT : Hid (Ev.Match w1 w1.heap.size ps l) := Lib.hid ⟨by rw [hcp.len, hlen], fun k p x hp hx => (hcp.new k p x (by have := (List.getElem?_eq_some_iff.1 hp).1; rw [hcp.len] at this; exact this) hp hx).1⟩
    have HOF : Hid (∀ q ∈ ps, Ev.Off g q.adr q.len ∧ (0 < q.len → ∀ ad : Addr, q.adr = some ad → w.heap.size ≤ ad.block) ∧ q.dev < 65536 ∧ q.num < 18446744073709551616) := Lib.hid (fun q hq => by
      obtain ⟨k, hk, rfl⟩ := List.getElem_of_mem hq
      have hkl : k < l.length := by rw [hlen, ← hcp.len]; exact hk
      obtain ⟨h1, h2, h3⟩ := hcp.new k _ _ (by rw [← hcp.len]; exact hk) (List.getElem?_eq_getElem hk) (List.getElem?_eq_getElem hkl)
      exact ⟨h3, free_far h2 (Nat.le_refl _), by rw [h1.dev]; exact h1.fits.dot.1, by rw [h1.num]; exact h1.fits.dot.2⟩)
    have hm10 : m ≤ 1024 := by omega
    clear hcp hg hlen
    go_wp2
    generalize hw3 : (w1.alloc (.map #[] 0)).alloc (.cells #[.map (some w1.heap.size)] 51) = w3 at *
    clear hw3
    go_loopw [14] (fun vi wr => ∃ k N : Nat, k ≤ m ∧ vi = .int .i64 (k : Int) ∧ N ≤ k * 65536 ∧ MapD wr w1.heap.size N (fun d => deadB (l.take k) d) ∧ Below w1.heap.size w1 wr ∧ wr.cell? ⟨w1.heap.size + 1, 0, none⟩ = some (.map (some w1.heap.size))) (fun vi _ => m - (intOf vi).toNat)
    case atStart => exact ⟨0, 0, Nat.zero_le _, rfl, Nat.le_refl _, by
      have e : (fun d => deadB (l.take 0) d) = fun _ => false := by funext d; simp [deadB]
      rw [e]; exact HMD.out, HBN.out, HBOX.out⟩
    case round =>
      obtain ⟨k, N, hk, rfl, hN, hmd, hbw, hbox⟩ := hrel
      have HMK := Lib.hid hmd
      have HBW := Lib.hid hbw
      have HBK := Lib.hid hbox
      clear hmd hbw hbox
      by_cases hlt : k < m
      · have hkp : k < ps.length := by rw [HPL.out]; exact hlt
        have hkl : k < l.length := by rw [HLEN.out]; exact hlt
        obtain ⟨q, hq⟩ : ∃ q, ps[k]? = some q := ⟨_, List.getElem?_eq_getElem hkp⟩
        obtain ⟨y, hy⟩ : ∃ y, l[k]? = some y := ⟨_, List.getElem?_eq_getElem hkl⟩
        have hqy := HMT.out.2 k q y hq hy
        have hyk : y.kills.length ≤ 65536 := HK.out y (List.mem_of_getElem? hy)
        obtain ⟨e0, e1, e2, e3, e4, e5, e6⟩ := (HCP.out.row.below HBW.out).cell k q hq
        have HDS := Lib.hid hqy.kills
        have hln := hqy.kills.len
        have HY := Lib.hid hy
        have hb4 := Ev.below_new wr q.box
        have HB4 := Lib.hid (HBW.out.trans (hb4.mono HBW.out.size))
        have HM4 := Lib.hid (HMK.out.up hb4)
        have HK4 := Lib.hid (Ev.stays hb4 HBK.out)
        have hbx := (Ev.box_new wr q _ (Below.refl _ _)).all
        obtain ⟨q1, q2, q3, q4, q5, q6, qA, qn, qc⟩ := q
        simp only [Ev.EV.box] at hbx HB4 HM4 HK4 HDS hln
        simp only at e0 e1 e2 e3 e4 e5 e6
        obtain ⟨x0, x1, x2, x3, x4, x5, x6⟩ := hbx
        clear hq hy hqy hb4 HBW HMK HBK hkp hkl
        go_wp2
        generalize wr.alloc (.cells #[.int .u16 (q1 : Int), .int .u64 (q2 : Int), .int .u8 (q3 : Int), .int .u64 (q4 : Int), .int .u8 (q5 : Int), .string q6, .slice qA qn qc] 38) = w4 at *
        clear x0 x1 x2 x3 x4 x5 x6 e0 e1 e2 e3 e4 e5 e6
        go_loopw [21] (fun vj wr => ∃ j N2 : Nat, j ≤ qn ∧ vj = .int .i64 (j : Int) ∧ N2 ≤ N + j ∧ MapD wr w1.heap.size N2 (fun d => deadB (l.take k) d || decide (d ∈ y.kills.take j)) ∧ Below w1.heap.size w1 wr ∧ wr.cell? ⟨w1.heap.size + 1, 0, none⟩ = some (.map (some w1.heap.size))) (fun vj _ => qn - (intOf vj).toNat)
        case atStart => exact ⟨0, N, Nat.zero_le _, rfl, Nat.le_refl _, by
          have e : (fun d => deadB (l.take k) d || decide (d ∈ y.kills.take 0)) = fun d => deadB (l.take k) d := by funext d; simp
          rw [e]; exact HM4.out, HB4.out, HK4.out⟩
        case round =>
          obtain ⟨j, N2, hj, rfl, hN2, hmd, hbw, hbox⟩ := hrel
          have HMJ := Lib.hid hmd
          have HBJ := Lib.hid hbw
          have HKJ := Lib.hid hbox
          clear hmd hbw hbox
          by_cases hjl : j < qn
          · obtain ⟨ad, a1, a2, rfl, hlx, hx1, hx2, c1, c3⟩ := ((HDS.out.below HBJ.out).dots.at_ (k := j) (by rw [HDS.out.len]; exact hjl))
            have c3' : wr.cell? ⟨(ad.add (j * 2)).block, (ad.add (j * 2)).off + 1, none⟩ = some (.int .u64 (a2 : Int)) := by rw [Dt.add_next]; exact c3
            have hb5 := Ev.below_new wr (dbox (a1, a2))
            have HB5 := Lib.hid (HBJ.out.trans (hb5.mono HBJ.out.size))
            have HM5 := Lib.hid (HMJ.out.up hb5)
            have hk5 := Ev.stays hb5 HKJ.out
            have HK5 := Lib.hid hk5
            obtain ⟨z1, z2⟩ := dbox_cells wr _ (a1, a2) (Below.refl _ _)
            have HSAY := Lib.hid (say_next (fun d => deadB (l.take k) d) y.kills hlx)
            have hN5 : N2 ≤ 8796093022208 := by omega
            simp only [dbox] at HB5 HM5 HK5 hk5 z1 z2
            clear hb5 hlx c3 HKJ HBJ HMJ
            go_wp2_with (first
              | (at_mapUpdate; refine wpList_putD rfl _ _ _ rfl w1.heap.size N2 (fun d => deadB (l.take k) d || decide (d ∈ y.kills.take j)) (a1, a2) rfl HM5.out hN5 ⟨hx1, hx2⟩ rfl rfl ?_; intro w6 hm6 hg6
                 have HM6 := Lib.hid hm6
                 have HG6 := Lib.hid hg6
                 clear hm6 hg6 c1 c3' z1 z2 hk5))
            have HB6 := Lib.hid (HB5.out.grown HG6.out HB5.out.size (fun i e => by cases e; exact Nat.le_refl _))
            have HK6 := Lib.hid (HG6.out.cell HK5.out (by simp))
            rw [HSAY.out] at HM6
            go_roundw
            case rel => exact ⟨j + 1, N2 + 1, by omega, by go_num, by omega, HM6.out, HB6.out, HK6.out⟩
            case measure => simp [intOf]; omega
          · obtain rfl : j = qn := by omega
            rw [say_all HY.out hln] at HMJ
            have hN3 : N2 ≤ (k + 1) * 65536 := by rw [hln] at hyk; omega
            go_wp2
            go_roundw
            case rel => exact ⟨k + 1, N2, by omega, by go_num, hN3, HMJ.out, HBJ.out, HKJ.out⟩
            case measure => simp [intOf]; omega
      · obtain rfl : k = m := by omega
        have htk : l.take k = l := List.take_of_length_le (by rw [HLEN.out]; exact Nat.le_refl _)
        rw [htk] at HMK
        have hgz : g < w1.heap.size := HLT.out
        have CD := pdelF wr g ps k c HPL.out (HCP.out.row.below HBW.out) hmc (by omega) hcm 31 #[.pointer (some ⟨w1.heap.size + 1, 0, none⟩)] (fun q => !((q.kind : Int) == 1) || deadB l (q.dev, q.num)) (enters_of Try.func31 (by kernel_rfl) rfl)
          (tells_live HBK.out HMK.out (by omega) (by omega) ps (fun q hq => (HOF.out q hq).2.2))
        clear htk hgz
        go_wp2_with fail
        refine CD.mono ?_
        rintro e w2 ⟨m2, hm2, rfl, hrow2, hg2⟩
        have hm3 := match_filter (w := w1) (B := w1.heap.size) (p := fun q => !(!((q.kind : Int) == 1) || deadB l (q.dev, q.num))) (f := liveB l) (fun q x h => by
          rw [eq_one, h.kind, ← Ev.is_dot h]; unfold liveB; simp) ps _ HMT.out
        rw [← HE.out] at hm3
        have hm4 := match_grown ((hm3.below HBW.out).more HBW.out.size) hg2 (fun q hq => (HOF.out q (List.mem_filter.1 hq).1).1)
        have hle : m2 ≤ k := by rw [← hm2, ← HPL.out]; exact List.length_filter_le _ _
        have hE := row_events hrow2 hm4 hm2 (by omega) hcm (by omega)
        have HFE : Hid (FarE w.heap.size w2 (some ⟨g, 0, none⟩) out m2 c) := Lib.hid ⟨hE, _, row_lies hrow2, hm4, (fun p hp => (HOF.out p (List.mem_filter.1 hp).1).2.1), (fun _ ad e => by cases e; exact HG.out)⟩
        have HBF := Lib.hid (bel_row (HCP.out.bel.trans (HBW.out.mono HCP.out.bel.size)) hg2 (Nat.le_trans HCP.out.bel.size HBW.out.size) HG.out)
        clear CD hm2 hrow2 hg2 hm3 hm4 hE
        go_wp2
        go_ret
        exact ⟨_, m2, c, rfl, HFE.out, HBF.out⟩
end Go.Proofs.Ytmebokpgiehgmaa.Kl

/- The contract of the program's Dead of layer kills. For every list. -/
namespace Go.Proofs.Ytmebokpgiehgmaa.Kl
open Go.ChangeShapes Go.WideShapes Go.ChangeAt Go.RowKit
set_option linter.unusedVariables false
set_option maxRecDepth 4000

/-- the function that Dead hands over. -/
theorem tells_dead {w : World} {b : Nat} (d : Dt.Dot) (hc1 : w.cell? ⟨b, 0, none⟩ = some (.int .u16 (d.1 : Int))) (hc2 : w.cell? ⟨b, 1, none⟩ = some (.int .u64 (d.2 : Int))) (Z : List Ev.PE) (hZ : ∀ a ∈ Z, Ev.EventIs w w.heap.size a.1 a.2) :
    TellsE Ev.PE.fst 27 #[.pointer (some ⟨b, 0, none⟩)] (fun a => decide (d ∈ a.2.kills)) Z w none := by
  intro W a ha hg
  have hb := bel_grownN hg
  have hq := (hZ a ha).up hb
  obtain ⟨q, y, hsame⟩ := a
  simp only at hq
  show Calls Try.prog 27 #[.agg #[.int .u16 (q.dev : Int), .int .u64 (q.num : Int), .int .u8 (q.kind : Int), .int .u64 (q.cid : Int), .int .u8 (q.fld : Int), .string q.txt, .slice q.adr q.len q.cap], .pointer (some ⟨b, 0, none⟩)] W fun e w' => e = .returned (.bool (decide (d ∈ y.kills))) ∧ Below W.heap.size W w'
  have hb0 := Ev.below_new W q.box
  have hbx := (Ev.box_new W q _ (Below.refl _ _)).all
  have hp1 := Ev.stays hb0 (Ev.stays hb hc1)
  have hp2 := Ev.stays hb0 (Ev.stays hb hc2)
  have CK := Ev.pkillsE_any (W.alloc q.box) q y d (hq.up hb0)
  have HB := Lib.hid hb0
  clear hb0 hc1 hc2 hg hb hq hZ ha hsame
  obtain ⟨d1, d2⟩ := d
  obtain ⟨bb, hbb⟩ : ∃ bb, decide ((d1, d2) ∈ y.kills) = bb := ⟨_, rfl⟩
  rw [hbb] at CK ⊢
  clear hbb
  simp only [Ev.EV.val, Ev.EV.box] at CK hbx hp1 hp2 HB
  obtain ⟨x0, x1, x2, x3, x4, x5, x6⟩ := hbx
  go_enter Try.func27, Try.ntmps27
  go_wp2_with fail
  refine CK.mono ?_
  rintro e V ⟨rfl, hbV⟩
  have HV := Lib.hid (HB.out.trans (hbV.mono HB.out.size))
  clear CK hbV x0 x1 x2 x3 x4 x5 x6 hp1 hp2
  go_wp2
  go_ret
  exact ⟨rfl, HV.out⟩

set_option maxHeartbeats 4000000 in
theorem pdead_any (w : World) (A0 : Option Addr) (l : List Ev.Evt) (n c0 : Nat) (d : Dt.Dot) (hl : Ev.EventsAt w w.heap.size A0 l n c0) :
    Calls Try.prog 13 #[.slice A0 n c0, .agg #[.int .u16 (d.1 : Int), .int .u64 (d.2 : Int)]] w fun e w' => e = .returned (.bool (deadB l d)) ∧ Below w.heap.size w w' := by
  have HB : Hid (Below w.heap.size w (w.alloc (dbox d))) := Lib.hid (Ev.below_new _ _)
  obtain ⟨hx1, hx2⟩ := dbox_cells w _ d (Below.refl _ _)
  obtain ⟨ps, hlies, hmatch⟩ := (hl.up HB.out).evts
  obtain ⟨Z, rfl, rfl⟩ := Ev.zip_of ps l hmatch
  have hZn : Z.length = n := by rw [← hl.len, List.length_map]
  have CC := pcontE Ev.PE.fst (w.alloc (dbox d)) A0 Z n c0 hZn hlies (Nat.le_trans hl.wide (by decide)) 27 #[.pointer (some ⟨w.heap.size, 0, none⟩)] (fun a => decide (d ∈ a.2.kills)) (enters_of Try.func27 (by kernel_rfl) rfl)
    (tells_dead d hx1 hx2 Z (fun a ha => by
      obtain ⟨j, hj, rfl⟩ := List.getElem_of_mem ha
      exact hmatch.2 j _ _ (by simp [hj]) (by simp [hj])))
  have HD : Hid (deadB (Z.map Ev.PE.snd) d = Z.any (fun a => decide (d ∈ a.2.kills))) := Lib.hid (by unfold deadB; rw [List.any_map]; rfl)
  clear hl hlies hmatch hZn hx1 hx2
  generalize Z.any (fun a => decide (d ∈ a.2.kills)) = bb at *
  obtain ⟨d1, d2⟩ := d
  simp only [dbox] at HB CC
  go_enter Try.func13, Try.ntmps13
  go_wp2_with fail
  refine CC.mono ?_
  rintro e V ⟨rfl, hbV⟩
  have HV := Lib.hid (HB.out.trans (hbV.mono HB.out.size))
  clear CC hbV
  go_wp2
  go_ret
  exact ⟨Ev.ret_bool HD.out.symm, HV.out⟩
end Go.Proofs.Ytmebokpgiehgmaa.Kl

/- What the walks of layer kills ask, of the program's own functions. -/
namespace Go.Proofs.Ytmebokpgiehgmaa.Kl
open Go.ChangeShapes Go.WideShapes Go.ChangeAt Go.RowKit
set_option linter.unusedVariables false

theorem pkl : PKl where
  editF := fun w A l n c cid f h hn hk _ _ => pedit_any w A l n c cid f h hn hk
  delF := fun w A l n c cid h hn hk _ => pdel_any w A l n c cid h hn hk
  dead := fun w A l n c d h _ _ _ => pdead_any w A l n c d h
  liveF := fun w A l n c h hn hk => plive_any w A l n c h hn hk
end Go.Proofs.Ytmebokpgiehgmaa.Kl

/- The contracts of the document's Keep, Drop and Strip of layer kills. For every list of at most 2^40 dots and every context that is small. -/
namespace Go.Proofs.Ytmebokpgiehgmaa.Kl
open Go.ChangeShapes Go.WideShapes Go.ChangeAt Go.RowKit
set_option linter.unusedVariables false
set_option maxRecDepth 4000

theorem puts_len (l m : List Dt.Dot) : (l.foldl Dt.putD m).length ≤ m.length + l.length := by
  induction l generalizing m with
  | nil => exact Nat.le_refl _
  | cons x l ih =>
    have h1 := ih (Dt.putD m x)
    have h2 := Dt.put_length m x
    rw [List.foldl_cons, List.length_cons]
    omega
def keepTo (f : Dt.Dot → Bool) (l : List Dt.Dot) (k : Nat) : List Dt.Dot := Dt.sortD ((l.take k).filter f)
theorem keep_len (f : Dt.Dot → Bool) (l : List Dt.Dot) (k : Nat) : (keepTo f l k).length ≤ k := by
  have h1 := puts_len ((l.take k).filter f) []
  have h2 := List.length_filter_le f (l.take k)
  have h3 := List.length_take_le k l
  show (((l.take k).filter f).foldl Dt.putD []).length ≤ k
  simp only [List.length_nil] at h1
  omega
theorem keep_skip {f : Dt.Dot → Bool} {l : List Dt.Dot} {k : Nat} {d : Dt.Dot} (h : l[k]? = some d) (hf : f d = false) : keepTo f l (k + 1) = keepTo f l k := by
  unfold keepTo
  rw [Ev.take_one h, List.filter_append]
  simp [hf]
theorem keep_take {f : Dt.Dot → Bool} {l : List Dt.Dot} {k : Nat} {d : Dt.Dot} (h : l[k]? = some d) (hf : f d = true) : keepTo f l (k + 1) = Dt.putD (keepTo f l k) d := by
  unfold keepTo Dt.sortD
  rw [Ev.take_one h, List.filter_append, List.foldl_append]
  simp [hf]
theorem keep_all {f : Dt.Dot → Bool} {l : List Dt.Dot} {n : Nat} (h : l.length = n) : keepTo f l n = Dt.sortD (l.filter f) := by
  unfold keepTo
  rw [List.take_of_length_le (by rw [h]; exact Nat.le_refl _)]

theorem box_ev (w V : World) (q : Ev.EV) (hb : Below (w.alloc q.box).heap.size (w.alloc q.box) V) : Ev.CellsAt V ⟨w.heap.size, 0, none⟩ q :=
  Ev.box_new w q V (by rw [Ev.alloc_size] at hb; exact hb)
end Go.Proofs.Ytmebokpgiehgmaa.Kl

/- The contract of the document's Strip of layer kills. For every event and every context that is small. -/
namespace Go.Proofs.Ytmebokpgiehgmaa.Kl
open Go.ChangeShapes Go.WideShapes Go.ChangeAt Go.RowKit
set_option linter.unusedVariables false
set_option maxRecDepth 4000

/-- block g is these cells, of the type t, and may be written. -/
def At (w : World) (g : Nat) (t : TypeId) (cs : Array Value) : Prop := w.heap[g]? = some (.cells cs t (0, 0))
theorem At.lt {w : World} {g : Nat} {t : TypeId} {cs : Array Value} (h : At w g t cs) : g < w.heap.size := by
  rcases Nat.lt_or_ge g w.heap.size with hl | hl
  · exact hl
  · unfold At at h; rw [Array.getElem?_eq_none hl] at h; cases h
theorem At.cell {w : World} {g : Nat} {t : TypeId} {cs : Array Value} (h : At w g t cs) (i : Nat) : w.cell? ⟨g, i, none⟩ = cs[i]? := cell_of_row w g i cs t (0, 0) h
theorem At.frozen {w : World} {g : Nat} {t : TypeId} {cs : Array Value} (h : At w g t cs) (i : Nat) : w.frozen? ⟨g, i, none⟩ = false := by
  unfold At at h
  simp [World.frozen?, h]
theorem At.new (w : World) (t : TypeId) (cs : Array Value) : At (w.alloc (.cells cs t)) w.heap.size t cs := heap_alloc_new w _
theorem At.below {w w' : World} {g B : Nat} {t : TypeId} {cs : Array Value} (h : At w g t cs) (hb : Below B w w') (hg : g < B) : At w' g t cs := (hb.block g hg).trans h
theorem At.set {w : World} {g : Nat} {t : TypeId} {cs : Array Value} (h : At w g t cs) (i : Nat) (u : Value) : At (w.setCell ⟨g, i, none⟩ u) g t (cs.setIfInBounds i u) := by
  unfold At at h ⊢
  simp [World.setCell, Array.getElem?_modify, h]
theorem At.other {w : World} {g h i : Nat} {t : TypeId} {cs : Array Value} (k : At w g t cs) (hne : g ≠ h) (u : Value) : At (w.setCell ⟨h, i, none⟩ u) g t cs := (Below.heap_setCell w ⟨h, i, none⟩ u g (fun e => hne e)).trans k
theorem bel_set {w V : World} {g i : Nat} (h : Below w.heap.size w V) (hg : w.heap.size ≤ g) (u : Value) : Below w.heap.size w (V.setCell ⟨g, i, none⟩ u) := h.setCell hg u
abbrev ebox (q : Ev.EV) : Array Value := #[.int .u16 (q.dev : Int), .int .u64 (q.num : Int), .int .u8 (q.kind : Int), .int .u64 (q.cid : Int), .int .u8 (q.fld : Int), .string q.txt, .slice q.adr q.len q.cap]
abbrev zcells : Array Value := #[.int .u16 0, .int .u64 0, .int .u8 0, .int .u64 0, .int .u8 0, .string ⟨#[]⟩, .slice none 0 0]
theorem ev_cells {V : World} {g : Nat} {q : Ev.EV} (h : At V g 38 (ebox q)) : V.cell? ⟨g, 0, none⟩ = some (.int .u16 (q.dev : Int)) ∧ V.cell? ⟨g, 1, none⟩ = some (.int .u64 (q.num : Int)) ∧ V.cell? ⟨g, 2, none⟩ = some (.int .u8 (q.kind : Int)) ∧ V.cell? ⟨g, 3, none⟩ = some (.int .u64 (q.cid : Int)) ∧ V.cell? ⟨g, 4, none⟩ = some (.int .u8 (q.fld : Int)) ∧ V.cell? ⟨g, 5, none⟩ = some (.string q.txt) ∧ V.cell? ⟨g, 6, none⟩ = some (.slice q.adr q.len q.cap) :=
  ⟨h.cell 0, h.cell 1, h.cell 2, h.cell 3, h.cell 4, h.cell 5, h.cell 6⟩
/-- an event without its kills. -/
theorem ev_bare {w : World} {B : Nat} {q : Ev.EV} {e : Ev.Evt} (h : Ev.EventIs w B q e) : Ev.EventIs w B ⟨q.dev, q.num, q.kind, q.cid, q.fld, q.txt, none, 0, 0⟩ ⟨e.dot, e.kind, e.cid, e.fld, e.txt, []⟩ :=
  ⟨h.dev, h.num, h.kind, h.cid, h.fld, h.txt, ⟨h.fits.dot, h.fits.kind, h.fits.cid, h.fits.fld, h.fits.txt⟩, Ev.DotsAt.none_ _ _⟩
/-- the result's cells, filled: what was made ahead of the call stays. -/
theorem strip_done {w V : World} (h : Below w.heap.size w V) (u0 u1 u2 u3 u4 u5 u6 : Value) : Below w.heap.size w (((((((V.setCell ⟨w.heap.size + 1, 0, none⟩ u0).setCell ⟨w.heap.size + 1, 1, none⟩ u1).setCell ⟨w.heap.size + 1, 2, none⟩ u2).setCell ⟨w.heap.size + 1, 3, none⟩ u3).setCell ⟨w.heap.size + 1, 4, none⟩ u4).setCell ⟨w.heap.size + 1, 5, none⟩ u5).setCell ⟨w.heap.size + 1, 6, none⟩ u6) :=
  bel_set (bel_set (bel_set (bel_set (bel_set (bel_set (bel_set h (Nat.le_succ _) u0) (Nat.le_succ _) u1) (Nat.le_succ _) u2) (Nat.le_succ _) u3) (Nat.le_succ _) u4) (Nat.le_succ _) u5) (Nat.le_succ _) u6

end Go.Proofs.Ytmebokpgiehgmaa.Kl

/- KillsParts: the law's walk. -/
namespace Go.Proofs.Ytmebokpgiehgmaa.Kl
open Go.ChangeShapes Go.WideShapes Go.ChangeAt Go.RowKit
set_option linter.unusedVariables false
set_option maxRecDepth 4000

/-- a row of one event. -/
theorem evts_one (W : World) (q : Ev.EV) (x : Ev.Evt) (h : Ev.EventIs W W.heap.size q x) : Ev.EventsAt (W.alloc q.box) (W.alloc q.box).heap.size (some ⟨W.heap.size, 0, none⟩) [x] 1 1 := by
  refine ⟨rfl, (fun e => by cases e), Nat.le_refl _, by decide, by decide, [q], Ev.lies_evt W q, rfl, fun k p y hp hy => ?_⟩
  have hk : k = 0 := by have := (List.getElem?_eq_some_iff.1 hp).1; simp at this; omega
  subst hk
  cases hp; cases hy
  exact h.up (Ev.below_new W _)

theorem later_one {f : FuncId} {args : Array Value} {w W : World} {x : Ev.Evt} (hW : Below w.heap.size w W) (h : Calls Try.prog f args W (OnePost W x)) :
    Calls Try.prog f args W fun e V => ∃ q : Ev.EV, e = .returned q.val ∧ Ev.EventIs V V.heap.size q x ∧ Below w.heap.size w V ∧ Below W.heap.size W V := h.mono fun e V ⟨q, h1, h2, h3⟩ => ⟨q, h1, h2, hW.trans (h3.mono hW.size), h3⟩
theorem same_one {w W : World} {p q : Ev.EV} {x : Ev.Evt} (hW : Below w.heap.size w W) (h1 : Ev.EventIs W W.heap.size p x) (h2 : Ev.EventIs W W.heap.size q x) :
    Calls Try.prog 29 #[p.val, q.val] W fun e V => e = .returned (.bool true) ∧ Below w.heap.size w V :=
  later hW ((Ev.rsame_any W p q x x h1 h2).mono fun e V ⟨h3, h4⟩ => ⟨by rw [h3, decide_eq_true rfl], h4⟩)
/-- an append to a list of one's own, one operation of a region. -/
theorem step_dots {ops : Array Oper} {o : Oper} {a : Act} {K : Act → World → Prop} {Q : Exit → Act → World → Prop} {E : Prop} (hwa : Region.wanted o (yielded ops a.tmps) = true) (s x : Operand) (ho : o.op = .call { callee := .builtin .append, args := #[s, x], argTypes := #[30, 30] }) (hty : o.type = 30)
    (w W : World) (k q : Nat) (v : Value) (xs : List Dt.Dot) (A : Option Addr) (m : List Dt.Dot) (n c : Nat) (hs : a.eval s = v) (hx : a.eval x = .slice A n c) (hbl : Below W.heap.size W w) (hw : w.ownsRow W.heap.size 26 2 v k (Dt.dv xs)) (hd : Ev.DotsAt w w.heap.size A m n c)
    (hq : k + n = q) (hn : q ≤ 8796093022208)
    (hK : ∀ A' c' w', w'.ownsRow W.heap.size 26 2 (.slice A' q c') q (Dt.dv (xs ++ m)) → w.grownBy w' v.ownBlock → Below W.heap.size W w' → K (a.put o.dst (.slice A' q c')) w') :
    if Region.wanted o (yielded ops a.tmps) = true then Oper.wp Try.prog o a w K Q else E := by
  subst hq
  rw [if_pos hwa]
  obtain ⟨A', c', w', hr, h2, h3⟩ := Dt.run_any w W.heap.size k v xs A m n c hw hd.nil hd.dots.2 hd.len hn hbl.size
  rw [← hty] at hr
  unfold Oper.wp execOp
  simp only [ho, resolve, invoke, builtin, Sem.run_bind, Sem.run_pure, Result.andThen_ok, List.map_toArray, List.map_cons, List.map_nil, hs, hx]
  rw [hty] at hr ⊢
  rw [hr]
  exact hK _ _ _ h2 h3 (Dt.any_grown hw hbl h3)
theorem own_lit {W V : World} (hB : Below W.heap.size W V) : (V.alloc (.cells #[] 26)).ownsRow W.heap.size 26 2 (.slice (some ⟨V.heap.size, 0, none⟩) 0 0) 0 (Dt.dv []) :=
  World.ownsRow_lit V #[] 0 hB.size (by simp [maxLen]) rfl

theorem own_dots {w : World} {B n c : Nat} {A : Option Addr} {m : List Dt.Dot} (h : w.ownsRow B 26 2 (.slice A n c) n (Dt.dv m)) (hf : Dt.Fit m) (hw : n ≤ 8796093022208) : Ev.DotsAt w w.heap.size A m n c := by
  have h1 := h.1
  rw [Dt.dv_length] at h1
  obtain ⟨h2, h3, h4⟩ := Dt.own_len h
  exact ⟨by omega, h4, h2, h3, hw, Dt.dots_own h hf⟩

end Go.Proofs.Ytmebokpgiehgmaa.Kl
