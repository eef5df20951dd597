/- Words and contracts that the proofs of this seat stand on, part 19 of 20. -/
import Derived.Test.YtmhghgogehmehaaGreatMgR
import Derived.Test.YtmhghgogehmehaaGreatMgH
import Derived.Test.YtmhghgogehmehaaGreatMgQ
import Derived.Test.YtmhghgogehmehaaGreatMgM
import Derived.Test.YtmhghgogehmehaaGreatMgP
import Derived.Test.YtmhghgogehmehaaGreatMgK

/- The contract of the program's Sort of layer dot. For every list of at most 2^42 dots. -/
namespace Go.Proofs.YtmhghgogehmehaaGreat.Dt
open Go.ChangeShapes Go.WideShapes Go.ChangeAt Go.RowKit Go.Lib
set_option linter.unusedVariables false

/-- dots in order, each once: what Compact leaves of sorted ones. -/
theorem ris_at {d : Array Dot} (h : Ris d.toList) {i j : Nat} (hij : i ≤ j) (hj : j < d.size) : aheadD d[j]! d[i]! = false := by
  rcases Nat.eq_or_lt_of_le hij with rfl | hlt
  · exact ahead_irr _
  · have h1 := List.pairwise_iff_getElem.1 h i j (by simpa using Nat.lt_trans hlt hj) (by simpa using hj) hlt
    rw [getElem!_pos d j hj, getElem!_pos d i (Nat.lt_trans hlt hj)]
    simpa using h1
theorem comp_ord {d : Array Dot} (h : Ris d.toList) (m : Nat) (hm : m ≤ d.size) : Ord (compactUpTo d m) ∧ ∀ x, x ∈ compactUpTo d m ↔ ∃ j, j < m ∧ d[j]! = x := by
  induction m with
  | zero => exact ⟨List.Pairwise.nil, fun x => ⟨fun hx => absurd hx (by simp [compactUpTo]), fun ⟨j, hj, _⟩ => absurd hj (Nat.not_lt_zero _)⟩⟩
  | succ m ih =>
    obtain ⟨h1, h3⟩ := ih (by omega)
    rw [compactUpTo_succ]
    cases hk : keeps d m with
    | false =>
      simp only [Bool.false_eq_true, if_false, List.append_nil]
      refine ⟨h1, fun x => ?_⟩
      rw [h3]
      have hk2 : ¬ (m = 0 ∨ d[m]! ≠ d[m - 1]!) := of_decide_eq_false hk
      constructor
      · rintro ⟨j, hj, e⟩
        exact ⟨j, by omega, e⟩
      · rintro ⟨j, hj, e⟩
        by_cases e2 : j = m
        · subst e2
          have h4 : d[j]! = d[j - 1]! := Classical.byContradiction fun h5 => hk2 (.inr h5)
          exact ⟨j - 1, by omega, by rw [← h4]; exact e⟩
        · exact ⟨j, by omega, e⟩
    | true =>
      simp only [if_true]
      have hk2 : m = 0 ∨ d[m]! ≠ d[m - 1]! := of_decide_eq_true hk
      have hlt : ∀ x ∈ compactUpTo d m, aheadD x d[m]! = true := by
        intro x hx
        obtain ⟨j, hj, rfl⟩ := (h3 x).1 hx
        have h4 := ris_at h (i := j) (j := m - 1) (by omega) (by omega)
        have h5 := ris_at h (i := m - 1) (j := m) (by omega) (by omega)
        have h6 : aheadD d[m - 1]! d[m]! = true := ahead_all h5 (hk2.resolve_left (by omega))
        by_cases e : d[j]! = d[m - 1]!
        · rw [e]; exact h6
        · exact ahead_trans (ahead_all h4 (fun e2 => e e2.symm)) h6
      refine ⟨List.pairwise_append.2 ⟨h1, List.pairwise_singleton _ _, fun a ha b hb => ?_⟩, fun x => ?_⟩
      · rw [List.mem_singleton] at hb
        rw [hb]
        exact hlt a ha
      · rw [List.mem_append, h3, List.mem_singleton]
        constructor
        · rintro (⟨j, hj, e⟩ | e)
          · exact ⟨j, by omega, e⟩
          · exact ⟨m, by omega, e.symm⟩
        · rintro ⟨j, hj, e⟩
          by_cases e2 : j = m
          · subst e2; exact .inr e.symm
          · exact .inl ⟨j, by omega, e⟩
theorem comp_sort {l m : List Dot} (hp : m.Perm l) (hr : Ris m) : compactUpTo m.toArray m.length = sortD l := by
  obtain ⟨h1, h3⟩ := comp_ord (d := m.toArray) (by simpa using hr) m.length (by simp)
  refine sort_uniq h1 (fun x => ?_)
  rw [h3, ← hp.mem_iff]
  constructor
  · rintro ⟨j, hj, rfl⟩
    rw [getElem!_pos _ _ (by simpa using hj)]
    simp
  · intro hx
    obtain ⟨j, hj, rfl⟩ := List.getElem_of_mem hx
    exact ⟨j, hj, by rw [getElem!_pos _ _ (by simpa using hj)]; simp⟩

set_option maxHeartbeats 1000000 in
set_option maxRecDepth 100000 in
theorem pclone_any (w : World) (A : Option Addr) (l : List Dot) (n c : Nat) (hl : l.length = n) (hA : A = none → n = 0 ∧ c = 0) (hb : Dots w w.heap.size A l) (h42 : n ≤ 4398046511104) :
    Calls Tryz.prog 61 #[.slice A n c] w (DotPost w l) := by
  have HL := Lib.hid hl
  have HB := Lib.hid hb
  cases A with
  | none =>
    obtain ⟨rfl, rfl⟩ := hA rfl
    obtain rfl := List.eq_nil_of_length_eq_zero hl
    have q : ∀ W : World, (binOp .eql 26 (.slice none 0 0) (.slice none 0 0)).run Tryz.prog W = .ok (.bool true) W := fun W => Lib.run_eql_slice_nil W 26 25 none 0 0 0 0 Tryz.underlying26
    clear hA hl hb
    go_enter Tryz.func61, Tryz.ntmps61
    go_wp2
    go_ret
    exact ⟨none, 0, 0, rfl, rfl, World.ownsRow_nil _ _ _ _, Below.refl _ _⟩
  | some ad =>
    have q : ∀ W : World, (binOp .eql 26 (.slice (some ad) n c) (.slice none 0 0)).run Tryz.prog W = .ok (.bool false) W := fun W => Lib.run_eql_slice_nil W 26 25 (some ad) n c 0 0 Tryz.underlying26
    have HW := Lib.hid (below_new w (.cells #[] 25))
    have hO : (w.alloc (.cells #[] 25)).ownsRow w.heap.size 25 2 (.slice (some ⟨w.heap.size, 0, none⟩) 0 0) 0 (dv []) := World.ownsRow_lit w #[] 0 (Nat.le_refl _) (Nat.zero_le _) rfl
    have HO := Lib.hid hO
    have HB2 : Hid (Lies (w.alloc (.cells #[] 25)) (w.alloc (.cells #[] 25)).heap.size (some ad) (dv l)) := (hb.up HW.out).2
    clear hA hl hb hO
    go_enter Tryz.func61, Tryz.ntmps61
    go_wp2_with (at_builtin; refine wpList_any rfl (.tmp 5) (.tmp 6) rfl rfl _ w.heap.size 0 (.slice (some ⟨w.heap.size, 0, none⟩) 0 0) [] (some ad) l n c rfl rfl HO.out (fun h => by cases h) HB2.out HL.out (by omega) HW.out.size ?_; intro A3 c3 V3 ho3 hg3; have HO3 := Lib.hid ho3; have HW3 := Lib.hid (any_grown HO.out HW.out hg3); clear ho3 hg3)
    go_ret
    have h0 : 0 + n = n := Nat.zero_add n
    have ho := HO3.out
    rw [h0] at ho
    exact ⟨A3, n, c3, by rw [← h0]; rfl, HL.out, ho, HW3.out⟩

theorem compact_nil (w : World) : Calls Tryz.prog 63 #[.slice none 0 0] w fun e w' => e = .returned (.slice none 0 0) ∧ w' = w := by
  go_enter Tryz.func63, Tryz.ntmps63
  go_wp2
  go_ret
  exact ⟨rfl, rfl⟩
theorem fit_perm {m l : List Dot} (h : m.Perm l) (hf : Fit l) : Fit m := fun r hr => hf r (h.mem_iff.1 hr)
set_option maxHeartbeats 1000000 in
theorem psort_any (w : World) (A : Option Addr) (l : List Dot) (n c : Nat) (hl : l.length = n) (hA : A = none → n = 0 ∧ c = 0) (hb : Dots w w.heap.size A l) (h42 : n ≤ 4398046511104) :
    Calls Tryz.prog 34 #[.slice A n c] w (DotPost w (sortD l)) := by
  have CC := pclone_any w A l n c hl hA hb h42
  have HF := Lib.hid hb.1
  have HL := Lib.hid hl
  clear hl hA hb
  go_enter Tryz.func34, Tryz.ntmps34
  go_wp2_with fail
  refine CC.mono ?_
  rintro e w1 ⟨A1, n1, c1, rfl, hn1, ho1, hb1⟩
  obtain rfl : n = n1 := by rw [← HL.out]; exact hn1
  have HB1 := Lib.hid hb1
  clear CC hb1
  rcases ho1.2 with ⟨h0, h1⟩ | ⟨g, cap, cur, h0, hg, _⟩
  · cases h0
    obtain rfl := List.eq_nil_of_length_eq_zero HL.out
    have hs := fun W => sort_nil W
    have hc := fun W => compact_nil W
    clear ho1 hn1 h1
    go_wp2_with fail
    refine (hs _).mono ?_
    rintro e w2 ⟨rfl, rfl⟩
    go_wp2_with fail
    refine (hc _).mono ?_
    rintro e w3 ⟨rfl, rfl⟩
    go_wp2
    go_ret
    exact ⟨none, 0, 0, rfl, rfl, World.ownsRow_nil _ _ _ _, HB1.out⟩
  · cases h0
    have CS := sort_any w1 w.heap.size g c1 n l HL.out (by omega) ho1
    have HG := Lib.hid hg
    clear ho1 hn1
    go_wp2_with fail
    refine CS.mono ?_
    rintro e w2 ⟨rfl, m, hp, hr, ho2, hg2⟩
    have hm : m.length = n := by rw [hp.length_eq]; exact HL.out
    have CK := pcompact_any w2 w.heap.size g c1 n m hm (by omega) ho2
    have hcs := comp_sort hp hr
    rw [hm] at hcs
    rw [hcs] at CK
    have HB2 : Hid (Below w.heap.size w w2) := HB1.out.grown hg2 HB1.out.size (fun k hk => by cases hk; exact HG.out)
    clear CS hp hr ho2 hg2 hm hcs
    go_wp2_with fail
    refine CK.mono ?_
    rintro e w3 ⟨k, rfl, hk, ho3, hg3⟩
    have HB3 : Hid (Below w.heap.size w w3) := HB2.out.grown hg3 HB2.out.size (fun k hk => by cases hk; exact HG.out)
    have HK := Lib.hid hk
    have HO3 := Lib.hid ho3
    clear hk ho3 hg3
    go_wp2
    go_ret
    exact ⟨_, k, c1, rfl, HK.out.symm, HO3.out, HB3.out⟩
end Go.Proofs.YtmhghgogehmehaaGreat.Dt

/- The contracts of the program's good and PutDots of layer dcode. -/
namespace Go.Proofs.YtmhghgogehmehaaGreat.Dc
open Go.ChangeShapes Go.WideShapes Go.ChangeAt Go.RowKit
set_option linter.unusedVariables false
set_option maxRecDepth 4000

theorem fit_filter {l : List Dot} (h : Dt.Fit l) (p : Dot → Bool) : Dt.Fit (l.filter p) := fun x hx => h x (List.mem_filter.1 hx).1
theorem len_filter (l : List Dot) (p : Dot → Bool) (k : Nat) : ((l.take k).filter p).length ≤ l.length := Nat.le_trans (List.length_filter_le _ _) (by rw [List.length_take]; omega)
/-- dots that may be. -/
def GoodPost (w : World) (l : List Dot) (r : Ending) (V : World) : Prop :=
  ∃ (A : Option Addr) (m c : Nat), r = .returned (.slice A m c) ∧ (l.filter Dt.mayD).length = m ∧ V.ownsRow w.heap.size 25 2 (.slice A m c) m (Dt.dv (l.filter Dt.mayD)) ∧ Below w.heap.size w V
set_option maxHeartbeats 8000000 in
theorem pgoods_any (w : World) (A : Option Addr) (l : List Dot) (n c : Nat) (hl : l.length = n) (hd : Dt.Dots w w.heap.size A l) (hn : n ≤ 1048576) :
    Calls Tryz.prog 35 #[.slice A n c] w (GoodPost w l) := by
  have HD := Lib.hid hd
  have HL := Lib.hid hl
  clear hl hd
  go_enter Tryz.func35, Tryz.ntmps35
  go_wp2_with fail
  go_loopw [3, 8] (fun v i wr => ∃ (k m4 c4 : Nat) (A4 : Option Addr), k ≤ n ∧ i = .int .i64 (k : Int) ∧ v = .slice A4 m4 c4 ∧ ((l.take k).filter Dt.mayD).length = m4 ∧ wr.ownsRow w.heap.size 25 2 (.slice A4 m4 c4) m4 (Dt.dv ((l.take k).filter Dt.mayD)) ∧ Below w.heap.size w wr) (fun _ i _ => n - (intOf i).toNat)
  case atStart => exact ⟨0, 0, 0, none, Nat.zero_le _, rfl, rfl, rfl, World.ownsRow_nil _ _ _ _, Below.refl _ _⟩
  case round =>
    obtain ⟨k, m4, c4, A4, hk, rfl, rfl, hm4, ho, hw⟩ := hrel
    have HM := Lib.hid hm4
    have HO := Lib.hid ho
    have HW := Lib.hid hw
    have hm4n : m4 ≤ 1048576 := by rw [← hm4]; exact Nat.le_trans (len_filter l _ k) (by rw [HL.out]; exact hn)
    clear hm4 ho hw
    by_cases hlt : k < n
    · obtain ⟨ad, x, rfl, hB, hlx, hx1, hx2, hcx⟩ := HD.out.cells (k := k) (by rw [HL.out]; exact hlt)
      obtain ⟨e1, e2⟩ := hcx wr HW.out
      have HN := Lib.hid (Dt.filter_next Dt.mayD hlx)
      have s0 : (k : Int) < (n : Int) := by omega
      have s3 : (0 : Int) ≤ (k : Int) := by omega
      have C5 := Lib.hid (Dt.pgood_x (wr.alloc (dbox x)) x)
      have V5 := Lib.hid (dbox_new wr x)
      have B5 := Lib.hid (below_new wr (dbox x))
      clear hlx hcx
      go_wp2_with fail
      have hs5 := alloc_size wr (dbox x)
      rw [show wr.heap.size + 1 = (wr.alloc (dbox x)).heap.size from hs5.symm] at V5
      obtain ⟨b0, b1⟩ := V5.out _ (below_new _ (dbox x))
      generalize wr.alloc (dbox x) = w5 at *
      cases hmx : Dt.mayD x with
      | false =>
        rw [hmx] at C5
        have HE : Hid ((l.take (k + 1)).filter Dt.mayD = (l.take k).filter Dt.mayD) := Lib.hid (by rw [HN.out]; simp [hmx])
        refine C5.out.mono ?_
        rintro e w6 ⟨rfl, rfl⟩
        have B6 := Lib.hid (B5.out.trans ((below_new w5 (dbox x)).mono B5.out.size))
        have O6 := Lib.hid (Dt.own_kept HO.out B6.out)
        have W6 := Lib.hid (HW.out.trans (B6.out.mono HW.out.size))
        clear C5 V5 b0 b1 e1 e2
        go_wp2
        go_roundw
        case rel => exact ⟨k + 1, m4, c4, A4, hlt, by go_num, rfl, by rw [HE.out]; exact HM.out, by rw [HE.out]; exact O6.out, W6.out⟩
        case measure => simp [intOf]; omega
      | true =>
        rw [hmx] at C5
        have HE : Hid ((l.take (k + 1)).filter Dt.mayD = (l.take k).filter Dt.mayD ++ [x]) := Lib.hid (by rw [HN.out]; simp [hmx])
        refine C5.out.mono ?_
        rintro e w6 ⟨rfl, rfl⟩
        have B6 := Lib.hid (B5.out.trans ((below_new w5 (dbox x)).mono B5.out.size))
        have O6 := Lib.hid (Dt.own_kept HO.out B6.out)
        have W6 := Lib.hid (HW.out.trans (B6.out.mono HW.out.size))
        generalize w5.alloc (dbox x) = w6 at *
        have W7 := Lib.hid (bel_alloc (dbox x) W6.out)
        have HOB : Hid (∀ j, (Value.slice A4 m4 c4).ownBlock = some j → w.heap.size ≤ j) := Lib.hid (fun j hj => (O6.out.lt j hj).1)
        clear C5 V5 e1 e2
        go_wp2_with (at_builtin; refine Dt.wpList_any rfl (.tmp 14) (.tmp 16) rfl rfl _ w.heap.size m4 (.slice A4 m4 c4) ((l.take k).filter Dt.mayD) (some ⟨w6.heap.size, 0, none⟩) [x] 1 1 rfl rfl (O6.out.alloc _) (fun h => by cases h) (Dt.lies_one w6 x) rfl (by omega) W7.out.size ?_; intro A8 c8 w8 ho8 hg8; have O8 := Lib.hid ho8; have W8 := Lib.hid (W7.out.grown hg8 W7.out.size HOB.out); clear ho8 hg8)
        go_roundw
        case rel => exact ⟨k + 1, m4 + 1, c8, A8, hlt, by go_num, rfl, by rw [HE.out, List.length_append, HM.out]; rfl, by rw [HE.out]; exact O8.out, W8.out⟩
        case measure => simp [intOf]; omega
    · obtain rfl : k = n := by omega
      have hall : l.take k = l := List.take_of_length_le (by rw [HL.out]; exact Nat.le_refl _)
      rw [hall] at HO HM
      clear hall
      go_wp2
      go_ret
      exact ⟨A4, m4, c4, rfl, HM.out, HO.out, HW.out⟩
set_option maxHeartbeats 8000000 in
theorem pputdots_any (w : World) (B g : Nat) (rb : Option Nat) (m : List Nat) (A : Option Addr) (l : List Dot) (n c : Nat) (h : Nu.PW w B g rb m) (hBw : B ≤ w.heap.size) (hl : l.length = n) (hd : Dt.Dots w B A l) (hn : n ≤ 1048576) (hm : m.length ≤ 1099511627776) :
    Calls Tryz.prog 9 #[.pointer (some ⟨g, 0, none⟩), .slice A n c] w (Nu.WPost w B g rb (m ++ dotsB (someD l))) := by
  have HL := Lib.hid hl
  have HP := Lib.hid h
  have hgw : g < w.heap.size := h.base.2
  have HRW : Hid (∀ k, rb = some k → k < w.heap.size) := Lib.hid (fun k e => (h.row k e).2)
  have HF := Lib.hid hd.1
  have CG := pgoods_any w A l n c hl (hd.more hBw) hn
  clear h hl hd hBw
  go_enter Tryz.func9, Tryz.ntmps9
  go_wp2_with fail
  refine CG.mono ?_
  rintro e wr ⟨A4, m4, c4, rfl, hm4, ho, hw⟩
  have HM := Lib.hid hm4
  have HO := Lib.hid ho
  have HW := Lib.hid hw
  have hm4n : m4 ≤ 1048576 := by rw [← hm4]; exact Nat.le_trans (List.length_filter_le _ _) (by rw [HL.out]; exact hn)
  clear hm4 ho hw CG
  have hfl := fit_filter HF.out Dt.mayD
  obtain ⟨q1, q2, q3⟩ := Dt.own_len HO.out
  have CS := Dt.psort_any wr A4 (l.filter Dt.mayD) m4 c4 HM.out q3 (Dt.dots_own HO.out hfl) (by omega)
  have hfs : Dt.Fit (someD l) := by
    have := (some_fit HF.out l.length).1
    rwa [List.take_of_length_le (Nat.le_refl _)] at this
  have hsl := some_len l
  have HFS := Lib.hid hfs
  have HSL : Hid ((someD l).length ≤ 1048576) := Lib.hid (by rw [HL.out] at hsl; omega)
  have CS2 : Calls Tryz.prog 34 #[.slice A4 m4 c4] wr (Dt.DotPost wr (someD l)) := CS
  clear CS hfl q1 q2 q3 hfs hsl HF
  obtain ⟨S, hS⟩ : ∃ S, someD l = S := ⟨_, rfl⟩
  rw [hS] at CS2 HFS HSL
  have HSS := Lib.hid hS
  clear hS
  go_wp2_with fail
  refine CS2.mono ?_
  intro e v0 hp
  obtain ⟨A5, n5, c5, rfl, hn5, nil5, cap5, max5, hD5, ho5, hb5⟩ := Dt.post_dots hp HFS.out
  have Y0 := Lib.hid (HW.out.trans (hb5.mono HW.out.size))
  have L5 : Hid (DL w.heap.size v0 A5 S n5 c5) := Lib.hid ⟨hn5, nil5, cap5, max5, hD5, fun ad e => by subst e; exact Nat.le_trans HW.out.size (ho5.lt ad.block rfl).1⟩
  have HN5 := Lib.hid hn5
  have hn5b : n5 ≤ 1048576 := by rw [← hn5]; exact HSL.out
  have hwr : IntKind.u64.wrap (n5 : Int) = (n5 : Int) := by rw [IntKind.wrap_u64]; omega
  have W0 := Lib.hid (WS.start (pw_up HP.out Y0.out))
  clear hp hn5 nil5 cap5 max5 hD5 ho5 hb5 CS2 HO HM
  go_wp2_with fail
  refine (ws_num W0.out n5 (by show n5 < 18446744073709551616; omega) (by omega)).mono ?_
  rintro e v1 ⟨rfl, q1⟩
  have W1 := Lib.hid q1
  clear q1 W0
  go_wp2_with fail
  go_loopw [17] (fun i wq => ∃ k : Nat, k ≤ n5 ∧ i = .int .i64 (k : Int) ∧ WS v0 wq B g rb (m ++ Nu.enc S.length ++ (S.take k).flatMap dotB)) (fun i _ => n5 - (intOf i).toNat)
  case atStart => exact ⟨0, Nat.zero_le _, rfl, by rw [List.take_zero, List.flatMap_nil, List.append_nil, HN5.out]; exact W1.out⟩
  case round =>
    clear W1
    obtain ⟨k2, hk2, rfl, q2⟩ := hrel
    have W2 := Lib.hid q2
    clear q2
    by_cases hlt2 : k2 < n5
    · obtain ⟨ad, x, rfl, hB, hlx, hx1, hx2, hcx⟩ := (L5.out.two W2.out.two hgw HRW.out).dots.cells (k := k2) (by rw [HN5.out]; exact hlt2)
      obtain ⟨e1, e2⟩ := hcx wr (Below.refl _ _)
      have HN := Lib.hid (dots_next (l := m) hlx)
      have hlen : (m ++ Nu.enc S.length ++ (S.take k2).flatMap dotB).length ≤ 35184372088832 := by
        have h1 := flat_le (f := dotB) (k := 18) dotB_le (S.take k2)
        have h2 : (S.take k2).length ≤ S.length := by rw [List.length_take]; omega
        have h3 := enc_le S.length
        have h4 := HSL.out
        rw [List.length_append, List.length_append]
        omega
      have s0 : (k2 : Int) < (n5 : Int) := by omega
      have s3 : (0 : Int) ≤ (k2 : Int) := by omega
      have W3 := Lib.hid (W2.out.more (below_new wr (dbox x)))
      obtain ⟨b0, b1⟩ := dbox_new wr x (wr.alloc (dbox x)) (by rw [← alloc_size wr (dbox x)]; exact Below.refl _ _)
      clear hlx hcx
      go_wp2_with fail
      generalize wr.alloc (dbox x) = w3 at *
      refine (W3.out.step (m2 := m ++ Nu.enc S.length ++ (S.take k2).flatMap dotB ++ dotB x) (fun r hr => pputdot_any w3 B g r _ x hr hx1 hx2 hlen)).mono ?_
      rintro e w4 ⟨rfl, q4⟩
      have W4 := Lib.hid q4
      clear q4 e1 e2 b0 b1
      go_wp2
      go_roundw
      case rel => exact ⟨k2 + 1, hlt2, by go_num, by rw [HN.out]; exact W4.out⟩
      case measure => simp [intOf]; omega
    · obtain rfl : k2 = n5 := by omega
      go_wp2
      go_end0
      have hW := W2.out
      rw [List.take_of_length_le (by rw [HN5.out]; exact Nat.le_refl _)] at hW
      rw [HSS.out]
      unfold dotsB
      rw [← List.append_assoc]
      exact (hW.from Y0.out).post
end Go.Proofs.YtmhghgogehmehaaGreat.Dc

/- The contracts of the program's Dot, of the function that Dots hands to listOf, of listOf at dots, and of Dots, of layer dcode. -/
namespace Go.Proofs.YtmhghgogehmehaaGreat.Dc
open Go.ChangeShapes Go.WideShapes Go.ChangeAt Go.RowKit
set_option linter.unusedVariables false
set_option maxRecDepth 4000

theorem dotR_may {s : St} (hs : Sound s) (hm : Dt.mayD (dotN s) = true) : dotR s = (dotN s, dotS s) := by
  refine dotR_good ?_ hm
  rcases Nat.eq_zero_or_pos (dotS s).2 with h | h
  · exact h
  · have h1 := num_zero (s := uptoS 65535 s) (upto_sound hs) (show (dotS s).2 ≠ 0 by omega)
    have h2 := (Dt.may_iff _).1 hm
    have h3 : (dotN s).2 = numN (uptoS 65535 s) := rfl
    omega
theorem dotR_not {s : St} (hm : Dt.mayD (dotN s) = false) : dotR s = ((0, 0), failS 4 (dotS s)) := dotR_no (fun h => by rw [hm] at h; cases h.2)

set_option maxHeartbeats 4000000 in
theorem pdot_any (w : World) (h B : Nat) (l : List Nat) (e : Nat) (k : Nu.PR w h B l e) (hB : B ≤ h) :
    Calls Tryz.prog 18 #[.pointer (some ⟨h, 0, none⟩)] w (Nu.PPost w h B (dval (dotR (l, e)).1) (dotR (l, e)).2.1 (dotR (l, e)).2.2) := by
  have hh : h < w.heap.size := k.lt
  have K0 := Lib.hid (pr_new k hB (dbox (0, 0)))
  have G0 := Lib.hid (grown_new (Nu.turn_refl w (some h)) (dbox (0, 0)))
  have R0 := Lib.hid (Nu.At.new w 25 #[.int .u16 0, .int .u64 0])
  have C1 := pdev_any (w.alloc (dbox (0, 0))) h B (l, e) K0.out hB
  have hS : dotS (l, e) = numS (uptoS 65535 (l, e)) := rfl
  have hN : dotN (l, e) = (uptoN 65535 (l, e), numN (uptoS 65535 (l, e))) := rfl
  have hf := dotN_fit (s := (l, e)) (Nu.small_of k)
  have hgood := dotR_may (s := (l, e)) (sound_pr k)
  have hno := dotR_not (s := (l, e))
  obtain ⟨D, hD⟩ : ∃ D, dotR (l, e) = D := ⟨_, rfl⟩
  rw [hD, hS, hN] at hgood hno
  rw [hN] at hf
  rw [hD]
  obtain ⟨dev, hdev⟩ : ∃ dev, uptoN 65535 (l, e) = dev := ⟨_, rfl⟩
  obtain ⟨s1, hs1⟩ : ∃ s1, uptoS 65535 (l, e) = s1 := ⟨_, rfl⟩
  obtain ⟨num, hnum⟩ : ∃ num, numN s1 = num := ⟨_, rfl⟩
  obtain ⟨s2, hs2⟩ : ∃ s2, numS s1 = s2 := ⟨_, rfl⟩
  rw [hdev, hs1, hnum, hs2] at hgood hno
  rw [hdev, hs1, hnum] at hf
  rw [hdev, hs1] at C1
  have HG := Lib.hid hgood
  have HNO := Lib.hid hno
  have hd1 : dev < 65536 := hf.1
  have HNUM := Lib.hid hnum
  have HS2 := Lib.hid hs2
  clear hS hN hf hD hgood hno hdev hs1 hnum hs2 k
  go_enter Tryz.func18, Tryz.ntmps18
  go_wp2_with fail
  refine C1.mono ?_
  rintro r w1 ⟨rfl, k1, g1⟩
  have C2 := pnum_st w1 h B s1 k1 hB
  rw [HNUM.out, HS2.out] at C2
  have G1 := Lib.hid (G0.out.trans g1)
  have R1 := Lib.hid (R0.out.kept g1 (fun e => by cases e; omega))
  clear k1 g1 K0 G0 R0 C1
  go_wp2_with fail
  refine C2.mono ?_
  rintro r w2 ⟨rfl, k2, g2⟩
  have K2 := Lib.hid (pr_new k2 hB (dbox (dev, num)))
  have G2 := Lib.hid (grown_new (G1.out.trans g2) (dbox (dev, num)))
  have hs2 : w.heap.size < w2.heap.size := Nat.lt_of_lt_of_le R1.out.lt g2.size
  have R2 := Lib.hid ((R1.out.kept g2 (fun e => by cases e; omega)).kept (Nu.turn_below (below_new w2 (dbox (dev, num))) none) (by simp))
  have V2 := Lib.hid (dbox_new w2 (dev, num))
  clear k2 g2 G1 R1 C2
  obtain ⟨b0, b1⟩ := V2.out _ (by have h := Below.refl (w2.alloc (dbox (dev, num))).heap.size (w2.alloc (dbox (dev, num))); rw [alloc_size] at h; exact h)
  rw [show w2.heap.size + 1 = (w2.alloc (dbox (dev, num))).heap.size from (alloc_size _ _).symm] at V2
  go_wp2_with fail
  generalize w2.alloc (dbox (dev, num)) = w3 at *
  have HGd := Lib.hid (Dt.pgood_x w3 (dev, num))
  have HBG := Lib.hid (below_new w3 (dbox (dev, num)))
  have K3 := Lib.hid (pr_new K2.out hB (dbox (dev, num)))
  have G3 := Lib.hid (grown_new G2.out (dbox (dev, num)))
  have R3 := Lib.hid (R2.out.kept (Nu.turn_below HBG.out none) (by simp))
  obtain ⟨b2, b3⟩ := V2.out _ HBG.out
  cases hm : Dt.mayD (dev, num) with
  | true =>
    rw [hm] at HGd
    have HD := Lib.hid (HG.out hm)
    have Q3 := R3.out.set 0 (.int .u16 (dev : Int))
    have Q4 := Q3.set 1 (.int .u64 (num : Int))
    have z0 := R3.out.cell 0
    have z1 := Q3.cell 1
    have f0 := R3.out.frozen 0
    have f1 := Q3.frozen 1
    have g0 := Q4.cell 0
    have g1 := Q4.cell 1
    simp at z0 z1 g0 g1
    have KF := Lib.hid (pr_set (pr_set K3.out hB hh 0 (.int .u16 (dev : Int))) hB hh 1 (.int .u64 (num : Int)))
    have GF := Lib.hid (grown_set (grown_set G3.out (Nat.le_refl _) 0 (.int .u16 (dev : Int))) (Nat.le_refl _) 1 (.int .u64 (num : Int)))
    clear Q3 Q4 HG HNO
    refine HGd.out.mono ?_
    rintro r w4 ⟨rfl, rfl⟩
    generalize w3.alloc (dbox (dev, num)) = w4 at *
    go_wp2
    refine bodyPost_ret (v := dval (dev, num)) ?_ rfl ?_
    · simp [results, Tryz.f18, go_sem, g0, g1]
    · rw [HD.out]
      exact ⟨rfl, KF.out, GF.out⟩
  | false =>
    rw [hm] at HGd
    have HD := Lib.hid (HNO.out hm)
    have CF := Nu.fail_any _ h B _ _ 4 K3.out hB (by decide)
    clear HG HNO b2 b3
    refine HGd.out.mono ?_
    rintro r w4 ⟨rfl, rfl⟩
    go_wp2_with fail
    refine CF.mono ?_
    rintro r w5 ⟨rfl, k5, g5⟩
    have R5 := Lib.hid (R3.out.kept g5 (fun e => by cases e; omega))
    have G5 := Lib.hid (G3.out.trans g5)
    have K5 := Lib.hid k5
    have Q3 := R5.out.set 0 (.int .u16 0)
    have Q4 := Q3.set 1 (.int .u64 0)
    have z0 := R5.out.cell 0
    have z1 := Q3.cell 1
    have f0 := R5.out.frozen 0
    have f1 := Q3.frozen 1
    have g0 := Q4.cell 0
    have g1 := Q4.cell 1
    simp at z0 z1 g0 g1
    have KF := Lib.hid (pr_set (pr_set K5.out hB hh 0 (.int .u16 0)) hB hh 1 (.int .u64 0))
    have GF := Lib.hid (grown_set (grown_set G5.out (Nat.le_refl _) 0 (.int .u16 0)) (Nat.le_refl _) 1 (.int .u64 0))
    clear Q3 Q4 k5 g5 CF
    go_wp2
    refine bodyPost_ret (v := dval (0, 0)) ?_ rfl ?_
    · simp [results, Tryz.f18, go_sem, g0, g1]
    · rw [HD.out]
      exact ⟨rfl, KF.out, GF.out⟩

/-- the last dot that was read; ahead of all the empty one. -/
def lastD (o : List Dot) : Dot := o.getLast?.getD (0, 0)
theorem last_snoc (o : List Dot) (d : Dot) : lastD (o ++ [d]) = d := by
  unfold lastD
  rw [List.getLast?_append]
  rfl
/-- a dot is read that is to stand behind this one. -/
def closS (x : Dot) (s : St) : St := if Dt.aheadD x (dotR s).1 = true then (dotR s).2 else failS 4 (dotR s).2
theorem clos_last {o : List Dot} {s : St} (hs : Sound s) : closS (lastD o) s = dotsS o s := by
  unfold closS
  by_cases h : (dotR s).2.2 = 0
  · obtain ⟨_, h2, h3⟩ := dotR_ok h
    have h4 : stepsB o (dotR s).1 = Dt.aheadD (lastD o) (dotR s).1 := by
      unfold stepsB lastD
      cases o.getLast? with
      | none =>
        have h5 := (Dt.may_iff _).1 h2
        rw [h3]
        show true = Dt.aheadD (0, 0) (dotN s)
        unfold Dt.aheadD
        exact (decide_eq_true (.inl (show 0 < (dotN s).1 by omega))).symm
      | some x => rfl
    cases ha : Dt.aheadD (lastD o) (dotR s).1 with
    | true =>
      have e : dotsS o s = (dotR s).2 := if_neg (fun h5 => by rw [h4, ha] at h5; cases h5.2)
      rw [if_pos rfl, e]
    | false =>
      have e : dotsS o s = failS 4 (dotR s).2 := if_pos ⟨h, by rw [h4, ha]⟩
      rw [if_neg (fun h => by cases h), e]
  · have e : dotsS o s = (dotR s).2 := if_neg (fun h2 => h h2.1)
    rw [e, fail_self (dotR_sound hs) h, ite_self]
/-- the writing of one block more. -/
theorem two_grown {w V : World} {h : Nat} {rb : Option Nat} (hg : w.grownBy V (some h)) : Nu.Two w V h rb := ⟨hg.os, hg.tape, hg.output, hg.size, fun k hk h1 _ => hg.block k hk (fun e => by cases e; exact h1 rfl)⟩
theorem two_set {w V : World} {h b : Nat} (ht : Nu.Two w V h (some b)) (i : Nat) (u : Value) : Nu.Two w (V.setCell ⟨b, i, none⟩ u) h (some b) :=
  ⟨ht.os, ht.tape, ht.output, by simpa [World.setCell] using ht.size, fun k hk h1 h2 => (Below.heap_setCell V ⟨b, i, none⟩ u k (fun e => by have e : b = k := e.symm; exact h2 (by rw [e]))).trans (ht.block k hk h1 h2)⟩
theorem two_far {w V : World} {h g : Nat} {rb : Option Nat} (ht : Nu.Two w V h rb) (hg : w.heap.size ≤ g) (i : Nat) (u : Value) : Nu.Two w (V.setCell ⟨g, i, none⟩ u) h rb :=
  ⟨ht.os, ht.tape, ht.output, by simpa [World.setCell] using ht.size, fun k hk h1 h2 => (Below.heap_setCell V ⟨g, i, none⟩ u k (fun e => by have e : g = k := e.symm; omega)).trans (ht.block k hk h1 h2)⟩
/-- what the function works on: the reader, the last dot, its own result, the new dot. -/
structure CW (w : World) (h B b g : Nat) (x d : Dot) (s : St) (V : World) : Prop where
  rr : Nu.PR V h B s.1 s.2
  gr : w.grownBy V (some h)
  last : Nu.At V b 25 #[.int .u16 (x.1 : Int), .int .u64 (x.2 : Int)]
  res : Nu.At V w.heap.size 25 #[.int .u16 0, .int .u64 0]
  box : Nu.At V g 25 #[.int .u16 (d.1 : Int), .int .u64 (d.2 : Int)]
theorem CW.below {w V U : World} {h B b g : Nat} {x d : Dot} {s : St} (k : CW w h B b g x d s V) (hB : B ≤ h) (hb : Below V.heap.size V U) : CW w h B b g x d s U :=
  ⟨pr_below k.rr hB hb, grown_below k.gr hb, k.last.below hb k.last.lt, k.res.below hb k.res.lt, k.box.below hb k.box.lt⟩
theorem CW.read {w V U : World} {h B b g : Nat} {x d : Dot} {s s' : St} (k : CW w h B b g x d s V) (hr : Nu.PR U h B s'.1 s'.2) (hg : V.grownBy U (some h)) (h1 : h < b) (h2 : h < w.heap.size) (h3 : h < g) : CW w h B b g x d s' U :=
  ⟨hr, k.gr.trans hg, k.last.kept hg (fun e => by cases e; omega), k.res.kept hg (fun e => by cases e; omega), k.box.kept hg (fun e => by cases e; omega)⟩
/-- what the function leaves. -/
def ClosPost (w : World) (h B b : Nat) (d : Dot) (s : St) (r : Ending) (V : World) : Prop :=
  r = .returned (dval d) ∧ Nu.PR V h B s.1 s.2 ∧ Nu.At V b 25 #[.int .u16 (d.1 : Int), .int .u64 (d.2 : Int)] ∧ Nu.Two w V h (some b)
theorem CW.done {w V : World} {h B b g : Nat} {x d : Dot} {s : St} (k : CW w h B b g x d s V) (hB : B ≤ h) (h1 : h < b) (h2 : b < w.heap.size) (a1 a2 : Value) :
    ClosPost w h B b d s (.returned (dval d)) ((((V.setCell ⟨b, 0, none⟩ (.int .u16 (d.1 : Int))).setCell ⟨b, 1, none⟩ (.int .u64 (d.2 : Int))).setCell ⟨w.heap.size, 0, none⟩ a1).setCell ⟨w.heap.size, 1, none⟩ a2) := by
  have q1 := (k.last.set 0 (.int .u16 (d.1 : Int))).set 1 (.int .u64 (d.2 : Int))
  have q2 : Nu.At ((V.setCell ⟨b, 0, none⟩ (.int .u16 (d.1 : Int))).setCell ⟨b, 1, none⟩ (.int .u64 (d.2 : Int))) b 25 #[.int .u16 (d.1 : Int), .int .u64 (d.2 : Int)] := q1
  refine ⟨rfl, pr_set (pr_set (pr_set (pr_set k.rr hB h1 0 _) hB h1 1 _) hB (by omega) 0 _) hB (by omega) 1 _, ?_, two_far (two_far (two_set (two_set (two_grown k.gr) 0 _) 1 _) (Nat.le_refl _) 0 _) (Nat.le_refl _) 1 _⟩
  exact (q2.kept (Nu.turn_set _ w.heap.size 0 a1) (fun e => by cases e; omega)).kept (Nu.turn_set _ w.heap.size 1 a2) (fun e => by cases e; omega)

set_option maxHeartbeats 8000000 in
theorem pclos_any (w : World) (h B b : Nat) (x : Dot) (s : St) (k : Nu.PR w h B s.1 s.2) (hB : B ≤ h) (hb : h < b) (hx : Nu.At w b 25 #[.int .u16 (x.1 : Int), .int .u64 (x.2 : Int)]) :
    Calls Tryz.prog 49 #[.pointer (some ⟨h, 0, none⟩), .pointer (some ⟨b, 0, none⟩)] w (ClosPost w h B b (dotR s).1 (closS x s)) := by
  have hh : h < w.heap.size := k.lt
  have hbw : b < w.heap.size := hx.lt
  have K0 := Lib.hid (pr_new k hB (dbox (0, 0)))
  have G0 := Lib.hid (grown_new (Nu.turn_refl w (some h)) (dbox (0, 0)))
  have R0 := Lib.hid (Nu.At.new w 25 #[.int .u16 0, .int .u64 0])
  have X0 := Lib.hid (hx.kept (Nu.turn_below (below_new w (dbox (0, 0))) none) (by simp))
  have C1 : Calls Tryz.prog 18 #[.pointer (some ⟨h, 0, none⟩)] (w.alloc (dbox (0, 0))) (Nu.PPost (w.alloc (dbox (0, 0))) h B (dval (dotR s).1) (dotR s).2.1 (dotR s).2.2) := pdot_any (w.alloc (dbox (0, 0))) h B s.1 s.2 K0.out hB
  have hC : closS x s = if Dt.aheadD x (dotR s).1 = true then (dotR s).2 else failS 4 (dotR s).2 := rfl
  obtain ⟨E, hE⟩ : ∃ E, closS x s = E := ⟨_, rfl⟩
  rw [hE] at hC ⊢
  obtain ⟨D, hD⟩ : ∃ D, dotR s = D := ⟨_, rfl⟩
  rw [hD] at hC C1 ⊢
  obtain ⟨d, s'⟩ := D
  have HC := Lib.hid hC
  clear hC hE hD k hx
  go_enter Tryz.func49, Tryz.ntmps49
  go_wp2_with fail
  refine C1.mono ?_
  rintro r w1 ⟨rfl, k1, g1⟩
  have hg1 : w.heap.size < w1.heap.size := by have := g1.size; rw [alloc_size] at this; omega
  have W2 : Hid (CW w h B b w1.heap.size x d s' (w1.alloc (dbox d))) := Lib.hid
    ⟨pr_new k1 hB _, grown_new (G0.out.trans g1) _, (X0.out.kept g1 (fun e => by cases e; omega)).kept (Nu.turn_below (below_new w1 (dbox d)) none) (by simp), (R0.out.kept g1 (fun e => by cases e; omega)).kept (Nu.turn_below (below_new w1 (dbox d)) none) (by simp), Nu.At.new w1 _ _⟩
  have x0 : (w1.alloc (dbox d)).cell? ⟨b, 0, none⟩ = some (.int .u16 (x.1 : Int)) := W2.out.last.cell 0
  have x1 : (w1.alloc (dbox d)).cell? ⟨b, 1, none⟩ = some (.int .u64 (x.2 : Int)) := W2.out.last.cell 1
  have C2 := Dt.pcmp_any (w1.alloc (dbox d)) x d
  have hcg := cmp_ge x d
  clear k1 g1 K0 G0 R0 X0 C1
  go_wp2_with fail
  generalize w1.alloc (dbox d) = w2 at *
  obtain ⟨g, hg⟩ : ∃ g, w1.heap.size = g := ⟨_, rfl⟩
  rw [hg] at W2 hg1 ⊢
  refine C2.mono ?_
  rintro r w3 ⟨rfl, hb3⟩
  have W3 := Lib.hid (W2.out.below hB hb3)
  generalize Dt.cmpD x d = z at *
  clear x0 x1 C2 W2 hb3 hg
  have hgh : h < g := by omega
  cases ha : Dt.aheadD x d with
  | true =>
    rw [ha] at hcg
    have HE : Hid (E = s') := Lib.hid (by rw [HC.out]; exact if_pos ha)
    have q1 := W3.out.last.set 0 (.int .u16 (d.1 : Int))
    have q2 := q1.set 1 (.int .u64 (d.2 : Int))
    have q3 := W3.out.res.kept (Nu.turn_set w3 b 0 (.int .u16 (d.1 : Int))) (fun e => by cases e; omega)
    have q4 := q3.kept (Nu.turn_set _ b 1 (.int .u64 (d.2 : Int))) (fun e => by cases e; omega)
    have q5 := q4.set 0 (.int .u16 (d.1 : Int))
    have q6 := q5.set 1 (.int .u64 (d.2 : Int))
    have p1 := W3.out.box.kept (Nu.turn_set w3 b 0 (.int .u16 (d.1 : Int))) (fun e => by cases e; omega)
    have p2 := p1.kept (Nu.turn_set _ b 1 (.int .u64 (d.2 : Int))) (fun e => by cases e; omega)
    have c0 := W3.out.box.cell 0
    have c1 := W3.out.box.cell 1
    have c2 := W3.out.last.cell 0
    have c3 := q1.cell 1
    have f0 := W3.out.last.frozen 0
    have f1 := q1.frozen 1
    have c4 := p2.cell 0
    have c5 := p2.cell 1
    have c6 := q4.cell 0
    have c7 := q5.cell 1
    have f2 := q4.frozen 0
    have f3 := q5.frozen 1
    have e0 := q6.cell 0
    have e1 := q6.cell 1
    simp at c0 c1 c2 c3 c4 c5 c6 c7 e0 e1
    have HF := Lib.hid (W3.out.done hB hb hbw (.int .u16 (d.1 : Int)) (.int .u64 (d.2 : Int)))
    clear q1 q2 q3 q4 q5 q6 p1 p2
    clear ha
    go_wp2
    refine bodyPost_ret (v := dval d) ?_ rfl ?_
    · simp [results, Tryz.f49, go_sem, e0, e1]
    · rw [HE.out]
      exact HF.out
  | false =>
    rw [ha] at hcg
    have HE : Hid (E = failS 4 s') := Lib.hid (by rw [HC.out]; exact if_neg (fun h2 => by rw [ha] at h2; cases h2))
    have CF := Nu.fail_any w3 h B s'.1 s'.2 4 W3.out.rr hB (by decide)
    clear ha
    go_wp2_with fail
    refine CF.mono ?_
    rintro r w5 ⟨rfl, k5, g5⟩
    have W5 := Lib.hid (W3.out.read (s' := failS 4 s') k5 g5 hb hh hgh)
    clear k5 g5 CF W3 hcg
    have q1 := W5.out.last.set 0 (.int .u16 (d.1 : Int))
    have q2 := q1.set 1 (.int .u64 (d.2 : Int))
    have q3 := W5.out.res.kept (Nu.turn_set w5 b 0 (.int .u16 (d.1 : Int))) (fun e => by cases e; omega)
    have q4 := q3.kept (Nu.turn_set _ b 1 (.int .u64 (d.2 : Int))) (fun e => by cases e; omega)
    have q5 := q4.set 0 (.int .u16 (d.1 : Int))
    have q6 := q5.set 1 (.int .u64 (d.2 : Int))
    have p1 := W5.out.box.kept (Nu.turn_set w5 b 0 (.int .u16 (d.1 : Int))) (fun e => by cases e; omega)
    have p2 := p1.kept (Nu.turn_set _ b 1 (.int .u64 (d.2 : Int))) (fun e => by cases e; omega)
    have c0 := W5.out.box.cell 0
    have c1 := W5.out.box.cell 1
    have c2 := W5.out.last.cell 0
    have c3 := q1.cell 1
    have f0 := W5.out.last.frozen 0
    have f1 := q1.frozen 1
    have c4 := p2.cell 0
    have c5 := p2.cell 1
    have c6 := q4.cell 0
    have c7 := q5.cell 1
    have f2 := q4.frozen 0
    have f3 := q5.frozen 1
    have e0 := q6.cell 0
    have e1 := q6.cell 1
    simp at c0 c1 c2 c3 c4 c5 c6 c7 e0 e1
    have HF := Lib.hid (W5.out.done hB hb hbw (.int .u16 (d.1 : Int)) (.int .u64 (d.2 : Int)))
    clear q1 q2 q3 q4 q5 q6 p1 p2
    go_wp2
    refine bodyPost_ret (v := dval d) ?_ rfl ?_
    · simp [results, Tryz.f49, go_sem, e0, e1]
    · rw [HE.out]
      exact HF.out
end Go.Proofs.YtmhghgogehmehaaGreat.Dc

/- The contracts of the program's listOf at dots, and of Dots, of layer dcode. -/
namespace Go.Proofs.YtmhghgogehmehaaGreat.Dc
open Go.ChangeShapes Go.WideShapes Go.ChangeAt Go.RowKit
set_option linter.unusedVariables false
set_option maxRecDepth 4000

theorem own_two {w U : World} {base n size g : Nat} {rb : Option Nat} {e : TypeId} {v : Value} {xs : List Value} (h : w.ownsRow base e size v n xs) (ht : Nu.Two w U g rb) (hne : ∀ q, v.ownBlock = some q → q ≠ g ∧ some q ≠ rb) : U.ownsRow base e size v n xs := by
  refine ⟨h.1, ?_⟩
  rcases h.2 with hn | ⟨k, cap, cur, rfl, hb, hgg, rest⟩
  · exact .inl hn
  · refine .inr ⟨k, cap, cur, rfl, hb, ?_, rest⟩
    obtain ⟨h1, h2⟩ := hne k rfl
    rw [ht.block k (Array.getElem?_eq_some_iff.1 hgg).1 h1 h2]
    exact hgg
theorem two_row {w V U : World} {h : Nat} {rb row : Option Nat} (ht : Nu.Two w V h rb) (hg : V.grownBy U row) (hr : ∀ q, row = some q → w.heap.size ≤ q) : Nu.Two w U h rb :=
  ⟨hg.os.trans ht.os, hg.tape.trans ht.tape, hg.output.trans ht.output, Nat.le_trans ht.size hg.size, fun q hq h1 h2 => (hg.block q (Nat.lt_of_lt_of_le hq ht.size) (fun e => by have := hr q e.symm; omega)).trans (ht.block q hq h1 h2)⟩
theorem grown_two {w V U : World} {h b : Nat} (hg : w.grownBy V (some h)) (ht : Nu.Two V U h (some b)) (hb : w.heap.size ≤ b) : w.grownBy U (some h) :=
  ⟨ht.os.trans hg.os, ht.tape.trans hg.tape, ht.output.trans hg.output, Nat.le_trans hg.size ht.size, fun q hq hne => (ht.block q (Nat.lt_of_lt_of_le hq hg.size) (fun e => hne (by rw [e])) (fun e => by cases e; omega)).trans (hg.block q hq hne)⟩
theorem DL.less {B0 B1 n c : Nat} {V : World} {A : Option Addr} {l : List Dot} (h : DL B0 V A l n c) (hB : B1 ≤ B0) : DL B1 V A l n c := ⟨h.len, h.nil, h.cap, h.max, h.dots, fun ad e => Nat.le_trans hB (h.far ad e)⟩
theorem DL.none_ (B0 : Nat) (w : World) : DL B0 w none [] 0 0 := ⟨rfl, (fun _ => ⟨rfl, rfl⟩), Nat.le_refl _, by decide, Dt.Dots.none_ _ _ _, fun ad e => by cases e⟩
/-- dots of one's own, beside a reader and the last dot. -/
structure DQ (w : World) (h B b : Nat) (V : World) (A : Option Addr) (m c : Nat) (o : List Dot) (s : St) : Prop where
  len : o.length = m
  fit : Dt.Fit o
  own : V.ownsRow w.heap.size 25 2 (.slice A m c) m (Dt.dv o)
  rr : Nu.PR V h B s.1 s.2
  two : Nu.Two w V h (some b)
  last : Nu.At V b 25 #[.int .u16 ((lastD o).1 : Int), .int .u64 ((lastD o).2 : Int)]
theorem DQ.dl {w V : World} {h B b m c : Nat} {A : Option Addr} {o : List Dot} {s : St} (k : DQ w h B b V A m c o s) : DL w.heap.size V A o m c := by
  obtain ⟨h1, h2, h3⟩ := Dt.own_len k.own
  exact ⟨k.len, h3, h1, h2, Dt.dots_own k.own k.fit, fun ad e => by subst e; exact (k.own.lt ad.block rfl).1⟩
theorem DQ.apart {w V : World} {h B b m c : Nat} {A : Option Addr} {o : List Dot} {s : St} (k : DQ w h B b V A m c o s) (hh : h < w.heap.size) (hb : b < w.heap.size) : ∀ q, (Value.slice A m c).ownBlock = some q → q ≠ h ∧ some q ≠ some b := fun q hq => by
  have := (k.own.lt q hq).1
  exact ⟨by omega, fun e => by cases e; omega⟩
/-- a dot more. -/
theorem DQ.more {w V V1 U : World} {h B b m c c8 : Nat} {A A8 : Option Addr} {o : List Dot} {d : Dot} {s s' : St} (k : DQ w h B b V A m c o s) (hh : h < w.heap.size) (hB : B ≤ h) (hb : b < w.heap.size) (hd : d.1 < 65536 ∧ d.2 < big)
    (hr : Nu.PR V1 h B s'.1 s'.2) (hx : Nu.At V1 b 25 #[.int .u16 (d.1 : Int), .int .u64 (d.2 : Int)]) (ht : Nu.Two V V1 h (some b))
    (ho : U.ownsRow w.heap.size 25 2 (.slice A8 (m + 1) c8) (m + 1) (Dt.dv (o ++ [d]))) (hg : (V1.alloc (dbox d)).grownBy U (Value.slice A m c).ownBlock) : DQ w h B b U A8 (m + 1) c8 (o ++ [d]) s' := by
  have hrow : ∀ t, (Value.slice A m c).ownBlock = some t → w.heap.size ≤ t := fun t ht => (k.own.lt t ht).1
  refine ⟨by rw [List.length_append, k.len]; rfl, fun x hx => ?_, ho, pr_row (pr_new hr hB (dbox d)) hB hg (fun t ht => by have := hrow t ht; omega), two_row (two_row (Nu.two_trans k.two ht (.inl rfl)) (Nu.turn_below (below_new V1 (dbox d)) none) (fun q e => by cases e)) hg hrow, ?_⟩
  · rcases List.mem_append.1 hx with hx | hx
    · exact k.fit x hx
    · rw [List.mem_singleton] at hx
      rw [hx]
      exact hd
  · rw [last_snoc]
    exact (hx.kept (Nu.turn_below (below_new V1 (dbox d)) none) (by simp)).kept hg (fun e => by have := hrow b e.symm; omega)
theorem dots_step {num k : Nat} {o : List Dot} {s s0 : St} (hk : k < num) (he : s.2 = 0) (hL : dotsL num [] s0 = dotsL (num - k) o s) : dotsL num [] s0 = dotsL (num - (k + 1)) (o ++ [(dotR s).1]) (dotsS o s) := by
  rw [hL, show num - k = num - (k + 1) + 1 by omega]
  conv => lhs; unfold dotsL
  rw [if_pos he]
/-- what stands between two rounds. -/
def DKeepL (w : World) (h B b L num : Nat) (s0 : St) (k m c : Nat) (A : Option Addr) (o : List Dot) (s : St) (V : World) : Prop :=
  k ≤ num ∧ DQ w h B b V A m c o s ∧ dotsL num [] s0 = dotsL (num - k) o s ∧ (s.2 = 0 → m + s.1.length ≤ L)
/-- what listOf answers at dots. -/
def DotsMade (w : World) (h B b : Nat) (D : List Dot × St) (r : Ending) (V : World) : Prop :=
  ∃ (A : Option Addr) (m c : Nat) (o : List Dot), r = .returned (.slice A m c) ∧ DL w.heap.size V A o m c ∧ Nu.PR V h B D.2.1 D.2.2 ∧ Nu.Two w V h (some b) ∧ (D.2.2 = 0 → o = D.1) ∧ (D.2.2 ≠ 0 → o = [])
theorem made_none {w V : World} {h B b : Nat} {D : List Dot × St} {s : St} (hD : D.2 = s) (he : s.2 ≠ 0) (hr : Nu.PR V h B s.1 s.2) (ht : Nu.Two w V h (some b)) : DotsMade w h B b D (.returned (.slice none 0 0)) V := by
  subst hD
  exact ⟨none, 0, 0, [], rfl, DL.none_ _ _, hr, ht, fun h0 => absurd h0 he, fun _ => rfl⟩

set_option maxHeartbeats 8000000 in
theorem pldot_any (w : World) (h B b num : Nat) (s0 : St) (k0 : Nu.PR w h B s0.1 s0.2) (hB : B ≤ h) (hb : h < b) (hx : Nu.At w b 25 #[.int .u16 0, .int .u64 0]) (hl : s0.1.length ≤ 1048576) (hnum : num < big) :
    Calls Tryz.prog 48 #[.pointer (some ⟨h, 0, none⟩), .int .u64 (num : Int), .func (.func 49) #[] #[.pointer (some ⟨b, 0, none⟩)]] w (DotsMade w h B b (dotsL num [] s0)) := by
  have hh : h < w.heap.size := k0.lt
  have hbw : b < w.heap.size := hx.lt
  have K0 := Lib.hid k0
  have X0 := Lib.hid hx
  have HLL := Lib.hid hl
  obtain ⟨D, hD⟩ : ∃ D, dotsL num [] s0 = D := ⟨_, rfl⟩
  rw [hD]
  have HD := Lib.hid hD
  have hnumb : num < 18446744073709551616 := hnum
  clear k0 hx hD hl hnum
  go_enter Tryz.func48, Tryz.ntmps48
  go_wp2_with fail
  go_loopw [1, 7] (fun i v wr => ∃ (k m c : Nat) (A : Option Addr) (o : List Dot) (s : St), i = .int .u64 ((num - k : Nat) : Int) ∧ v = .slice A m c ∧ DKeepL w h B b s0.1.length num s0 k m c A o s wr) (fun i _ _ => (intOf i).toNat)
  case atStart => exact ⟨0, 0, 0, none, [], s0, rfl, rfl, Nat.zero_le _, ⟨rfl, (fun x hx => by cases hx), World.ownsRow_nil _ _ _ _, K0.out, two_grown (Nu.turn_refl _ _), X0.out⟩, rfl, fun _ => by rw [Nat.zero_add]; exact Nat.le_refl _⟩
  case round =>
    clear K0 X0
    obtain ⟨k, m, c, A, o, ⟨sl, se⟩, rfl, rfl, hk, hro, hrl, hbl⟩ := hrel
    have HRO := Lib.hid hro
    have HRL := Lib.hid hrl
    have CE := Nu.err_any wr h B sl se hro.rr
    clear hro hrl
    by_cases hlt : k < num
    · have d0 : decide ((0 : Int) < ((num - k : Nat) : Int)) = true := decide_eq_true (by omega)
      go_wp2_with fail
      refine CE.mono ?_
      rintro r wr' ⟨rfl, rfl⟩
      by_cases he : se = 0
      · subst he
        have hmm : m + sl.length ≤ s0.1.length := hbl rfl
        have CR := pclos_any wr h B b (lastD o) (sl, 0) HRO.out.rr hB hb HRO.out.last
        rw [clos_last (sound_pr HRO.out.rr)] at CR
        have HFD := Lib.hid (dotR_fit (s := (sl, 0)) (Nu.small_of HRO.out.rr))
        have HNX := Lib.hid (dots_step hlt rfl HRL.out)
        have HBL := Lib.hid (fun h0 => dotsS_len (L := s0.1.length) o (sl, 0) h0 (by rw [HRO.out.len]; exact hmm))
        rw [HRO.out.len] at HBL
        have hw1 : IntKind.u64.wrap (((num - k : Nat) : Int) - 1) = ((num - (k + 1) : Nat) : Int) := by rw [IntKind.wrap_u64]; omega
        generalize dotsS o (sl, 0) = s4 at *
        generalize (dotR (sl, 0)).1 = d at *
        clear CE hbl d0
        go_wp2_with fail
        refine CR.mono ?_
        rintro r V ⟨rfl, k4, x4, t4⟩
        have K4 := Lib.hid k4
        have X4 := Lib.hid x4
        have T4 := Lib.hid t4
        have O4 := Lib.hid ((own_two HRO.out.own t4 (HRO.out.apart hh hbw)).alloc (dbox d))
        have L4 := Lib.hid (Dt.lies_one V d)
        have hsz : Hid (w.heap.size ≤ (V.alloc (dbox d)).heap.size) := Lib.hid (by rw [alloc_size]; have := HRO.out.two.size; have := t4.size; omega)
        have hm7 : Hid (m + 1 ≤ 8796093022208) := Lib.hid (by have := HLL.out; omega)
        clear k4 x4 t4 CR
        go_wp2_with (at_builtin; refine Dt.wpList_any rfl (.tmp 17) (.tmp 21) rfl rfl _ w.heap.size m (.slice A m c) o (some ⟨V.heap.size, 0, none⟩) [d] 1 1 rfl rfl O4.out (fun h => by cases h) L4.out rfl hm7.out hsz.out ?_; intro A8 c8 U ho hg; have RU := Lib.hid (HRO.out.more hh hB hbw HFD.out K4.out X4.out T4.out ho hg); clear ho hg)
        go_roundw
        case rel => exact ⟨k + 1, m + 1, c8, A8, _, s4, rfl, rfl, hlt, RU.out, HNX.out, HBL.out⟩
        case measure => simp [intOf]; omega
      · have hi0 : ((se : Int) == 0) = false := by rw [beq_eq_false_iff_ne]; omega
        have hi1 : ((se : Int) != 0) = true := by rw [bne, hi0]; rfl
        have hi2 : ¬ (se : Int) = 0 := by omega
        have HX : Hid (D.2 = (sl, se)) := Lib.hid (by rw [← HD.out, HRL.out, dotsL_bad he])
        go_wp2_with fail
        refine CE.mono ?_
        rintro r wr'' ⟨rfl, rfl⟩
        go_wp2
        go_ret
        exact made_none HX.out he HRO.out.rr HRO.out.two
    · obtain rfl : k = num := by omega
      have d0 : decide ((0 : Int) < ((k - k : Nat) : Int)) = false := decide_eq_false (by omega)
      have HX : Hid (D = (o, (sl, se))) := Lib.hid (by rw [← HD.out, HRL.out, Nat.sub_self]; rfl)
      go_wp2_with fail
      refine CE.mono ?_
      rintro r wr' ⟨rfl, rfl⟩
      by_cases he : se = 0
      · subst he
        go_wp2
        go_ret
        exact ⟨A, m, c, o, rfl, HRO.out.dl, by rw [HX.out]; exact HRO.out.rr, HRO.out.two, fun _ => by rw [HX.out], fun h0 => absurd (by rw [HX.out]) h0⟩
      · have hi0 : ((se : Int) == 0) = false := by rw [beq_eq_false_iff_ne]; omega
        have hi1 : ((se : Int) != 0) = true := by rw [bne, hi0]; rfl
        have hi2 : ¬ (se : Int) = 0 := by omega
        have HY : Hid (D.2 = (sl, se)) := Lib.hid (by rw [HX.out])
        go_wp2
        go_ret
        exact made_none HY.out he HRO.out.rr HRO.out.two

/-- what Dots answers. -/
def DotsGot (w : World) (h B : Nat) (D : List Dot × St) (r : Ending) (V : World) : Prop := ∃ A' m c', r = .returned (.slice A' m c') ∧ DL w.heap.size V A' D.1 m c' ∧ Nu.PR V h B D.2.1 D.2.2 ∧ w.grownBy V (some h)
theorem made_got {w w3 V : World} {h B : Nat} {E : List Dot × St} {r : Ending} (hg : w.grownBy w3 (some h)) (hm : DotsMade (w3.alloc (dbox (0, 0))) h B w3.heap.size E r V) : DotsGot w h B (if E.2.2 = 0 then E else ([], E.2)) r V := by
  obtain ⟨A, m, c, o, rfl, h1, h2, h3, h4, h5⟩ := hm
  have hs : w.heap.size ≤ (w3.alloc (dbox (0, 0))).heap.size := by rw [alloc_size]; have := hg.size; omega
  have hgr := grown_two (grown_new hg (dbox (0, 0))) h3 hg.size
  by_cases he : E.2.2 = 0
  · rw [if_pos he]
    obtain rfl := h4 he
    exact ⟨A, m, c, rfl, h1.less hs, h2, hgr⟩
  · rw [if_neg he]
    obtain rfl := h5 he
    exact ⟨A, m, c, rfl, h1.less hs, h2, hgr⟩

set_option maxHeartbeats 8000000 in
theorem pdotsr_any (w : World) (h B : Nat) (l : List Nat) (e : Nat) (most : Int) (k : Nu.PR w h B l e) (hB : B ≤ h) (hl : l.length ≤ 1048576) (hm1 : -9223372036854775808 ≤ most) (hm2 : most < 9223372036854775808) :
    Calls Tryz.prog 21 #[.pointer (some ⟨h, 0, none⟩), .int .i64 most] w (DotsGot w h B (dotsR most.toNat (l, e))) := by
  have hh : h < w.heap.size := k.lt
  have hS : dotsR most.toNat (l, e) = (if (dotsL (numN (l, e)) [] (dotsF most.toNat (l, e))).2.2 = 0 then dotsL (numN (l, e)) [] (dotsF most.toNat (l, e)) else ([], (dotsL (numN (l, e)) [] (dotsF most.toNat (l, e))).2)) := rfl
  have hF : dotsF most.toNat (l, e) = if most.toNat < numN (l, e) then failS 3 (numS (l, e)) else numS (l, e) := rfl
  have hv : numN (l, e) < big := Nu.numV_lt (Nu.small_of k)
  have hle : (numS (l, e)).1.length ≤ 1048576 := Nat.le_trans (numS_len (l, e)) hl
  have C1 := pnum_st w h B (l, e) k hB
  obtain ⟨D, hD⟩ : ∃ D, dotsR most.toNat (l, e) = D := ⟨_, rfl⟩
  obtain ⟨s1, hs1⟩ : ∃ s1, dotsF most.toNat (l, e) = s1 := ⟨_, rfl⟩
  obtain ⟨s0, hs0⟩ : ∃ s0, numS (l, e) = s0 := ⟨_, rfl⟩
  obtain ⟨num, hnum⟩ : ∃ num, numN (l, e) = num := ⟨_, rfl⟩
  obtain ⟨mo, hmo⟩ : ∃ mo, most.toNat = mo := ⟨_, rfl⟩
  rw [hD] at hS ⊢
  rw [hs1] at hF hS
  rw [hmo, hnum, hs0] at hF
  rw [hnum] at hS hv C1
  rw [hs0] at C1 hle
  have HS := Lib.hid hS
  have HF := Lib.hid hF
  have HLE := Lib.hid hle
  have HV := Lib.hid hv
  have hmax : (if most < 0 then 0 else most) = (mo : Int) := by split <;> omega
  have hmb : mo ≤ 9223372036854775807 := by omega
  have hw64 : IntKind.u64.wrap (mo : Int) = (mo : Int) := by rw [IntKind.wrap_u64]; omega
  clear hS hF hs1 hs0 hD hnum hle k hl hmo hv
  go_enter Tryz.func21, Tryz.ntmps21
  go_wp2_with fail
  refine C1.mono ?_
  rintro r w2 ⟨rfl, k2, g2⟩
  have K2 := Lib.hid k2
  have G2 := Lib.hid g2
  clear k2 g2 C1
  by_cases hlt : mo < num
  · have CF := Nu.fail_any w2 h B _ _ 3 K2.out hB (by decide)
    have hs : Hid (s1 = failS 3 s0) := Lib.hid (by rw [HF.out, if_pos hlt])
    have hd : decide (mo < num) = true := decide_eq_true hlt
    have hd' : decide ((mo : Int) < (num : Int)) = true := decide_eq_true (by omega)
    go_wp2_with fail
    refine CF.mono ?_
    rintro r w3 ⟨rfl, k3, g3⟩
    have G3 := Lib.hid (G2.out.trans g3)
    have hh3 : h < w3.heap.size := k3.lt
    have C3 := pldot_any (w3.alloc (dbox (0, 0))) h B w3.heap.size num s1 (by rw [hs.out]; exact pr_new k3 hB _) hB hh3 (Nu.At.new w3 _ _) (by rw [hs.out]; show 0 ≤ _; omega) HV.out
    clear k3 g3 CF
    go_wp2_with fail
    refine C3.mono ?_
    rintro r V hm
    have HM := Lib.hid (made_got G3.out hm)
    have HM2 := HM.out
    obtain ⟨A, m, c, rfl, _, _, _⟩ := HM2
    clear hm C3
    go_wp2
    go_ret
    rw [HS.out]
    exact HM.out
  · have hs : Hid (s1 = s0) := Lib.hid (by rw [HF.out, if_neg hlt])
    have hd : decide (mo < num) = false := decide_eq_false hlt
    have hd' : decide ((mo : Int) < (num : Int)) = false := decide_eq_false (by omega)
    have hh3 : h < w2.heap.size := K2.out.lt
    have C3 := pldot_any (w2.alloc (dbox (0, 0))) h B w2.heap.size num s1 (by rw [hs.out]; exact pr_new K2.out hB _) hB hh3 (Nu.At.new w2 _ _) (by rw [hs.out]; exact HLE.out) HV.out
    go_wp2_with fail
    refine C3.mono ?_
    rintro r V hm
    have HM := Lib.hid (made_got G2.out hm)
    have HM2 := HM.out
    obtain ⟨A, m, c, rfl, _, _, _⟩ := HM2
    clear hm C3
    go_wp2
    go_ret
    rw [HS.out]
    exact HM.out
end Go.Proofs.YtmhghgogehmehaaGreat.Dc

/- What the walks of layer dcode ask of the program holds of it. -/
namespace Go.Proofs.YtmhghgogehmehaaGreat.Dc

theorem pdc : PDc where
  putdot := fun w B g rb m d h hd hd2 hm => pputdot_any w B g rb m d h hd hd2 (Nat.le_trans hm (by decide))
  putdots := fun w B g rb m A l n c h hB hl _ _ _ hd hn hm => pputdots_any w B g rb m A l n c h hB hl hd hn hm
  putctx := fun w0 w g rb m A C n c h hb hc hs hm => pputctx_any w0 w g rb m A C n c h hb hc hs hm
  encode := fun w A C n c hc hs => encode_any w A C n c hc hs
  dot := fun w g B l e h hB => pdot_any w g B l e h hB
  dots := fun w g B l e most h hB hl h1 h2 => pdotsr_any w g B l e most h hB hl h1 h2
  ctx := fun w g B l e h hB hl => pctxr_any w g B l e h hB hl
  decode := fun w A b n c h hn => pdec_any w A b n c h hn
end Go.Proofs.YtmhghgogehmehaaGreat.Dc
