/- Layer ctx, the document's side: the contracts of the document's functions, and what the laws ask of contexts. -/
import Derived.Test.YtegclhgfibfanaaGreatMCSet
import Derived.Test.YtegclhgfibfanaaGreatKC
import Derived.Shelf.SlSortCmp.QuietGrown
import Derived.Deep.AppendLies

/- The contracts of the document's Join, Meet, Minus, Norm, Eq, Good, Same and Within of layer ctx. -/
namespace Go.Proofs.YtegclhgfibfanaaGreat.Cx
open Go.ChangeShapes Go.WideShapes Go.ChangeAt Go.RowKit
set_option linter.unusedVariables false

theorem rjoin_any (w : World) (A1 A2 : Option Addr) (a b : List Part) (n1 n2 c1 c2 : Nat) (h1 : CtxAt w A1 a n1 c1) (h2 : CtxAt w A2 b n2 c2) (s1 : Small a) (s2 : Small b) :
    Calls Tryz.prog 20 #[.slice A1 n1 c1, .slice A2 n2 c2] w (CtxPost w (setC a b 0)) := by
  have CB := Lib.hid (rset0_any w A1 A2 a b n1 n2 c1 c2 h1 h2 s1 s2)
  clear h1 h2 s1 s2
  go_enter Tryz.func20, Tryz.ntmps20
  go_wp2_with fail
  refine CB.out.mono ?_
  rintro e w1 hp
  have HP := Lib.hid hp
  obtain ⟨A, n, c, ps, rfl, _⟩ := hp
  go_wp2
  go_ret
  exact HP.out
theorem rmeet_any (w : World) (A1 A2 : Option Addr) (a b : List Part) (n1 n2 c1 c2 : Nat) (h1 : CtxAt w A1 a n1 c1) (h2 : CtxAt w A2 b n2 c2) (s1 : Small a) (s2 : Small b) :
    Calls Tryz.prog 32 #[.slice A1 n1 c1, .slice A2 n2 c2] w (CtxPost w (setC a b 1)) := by
  have CB := Lib.hid (rset1_any w A1 A2 a b n1 n2 c1 c2 h1 h2 s1 s2)
  clear h1 h2 s1 s2
  go_enter Tryz.func32, Tryz.ntmps32
  go_wp2_with fail
  refine CB.out.mono ?_
  rintro e w1 hp
  have HP := Lib.hid hp
  obtain ⟨A, n, c, ps, rfl, _⟩ := hp
  go_wp2
  go_ret
  exact HP.out
theorem rminus_any (w : World) (A1 A2 : Option Addr) (a b : List Part) (n1 n2 c1 c2 : Nat) (h1 : CtxAt w A1 a n1 c1) (h2 : CtxAt w A2 b n2 c2) (s1 : Small a) (s2 : Small b) :
    Calls Tryz.prog 34 #[.slice A1 n1 c1, .slice A2 n2 c2] w (CtxPost w (setC a b 2)) := by
  have CB := Lib.hid (rset2_any w A1 A2 a b n1 n2 c1 c2 h1 h2 s1 s2)
  clear h1 h2 s1 s2
  go_enter Tryz.func34, Tryz.ntmps34
  go_wp2_with fail
  refine CB.out.mono ?_
  rintro e w1 hp
  have HP := Lib.hid hp
  obtain ⟨A, n, c, ps, rfl, _⟩ := hp
  go_wp2
  go_ret
  exact HP.out
theorem small_none : Small [] := ⟨by decide, fun x hx => by cases hx⟩
theorem rnorm_any (w : World) (A1 : Option Addr) (a : List Part) (n1 c1 : Nat) (h1 : CtxAt w A1 a n1 c1) (s1 : Small a) :
    Calls Tryz.prog 9 #[.slice A1 n1 c1] w (CtxPost w (normC a)) := by
  have CB := Lib.hid (rset0_any w A1 none a [] n1 0 c1 0 h1 (CtxAt.none_ w) s1 small_none)
  rw [norm_set] at CB
  clear h1 s1
  go_enter Tryz.func9, Tryz.ntmps9
  go_wp2_with fail
  refine CB.out.mono ?_
  rintro e w1 hp
  have HP := Lib.hid hp
  obtain ⟨A, n, c, ps, rfl, _⟩ := hp
  go_wp2
  go_ret
  exact HP.out

theorem take_more {l m : List Part} {k : Nat} {x : Part} (h : l.take k = m.take k) (h1 : l[k]? = some x) (h2 : m[k]? = some x) : l.take (k + 1) = m.take (k + 1) := by
  rw [List.take_add_one, List.take_add_one, h, h1, h2]
theorem ne_at {l m : List Part} {k : Nat} {x y : Part} (h1 : l[k]? = some x) (h2 : m[k]? = some y) (hn : x ≠ y) : l ≠ m := by
  intro e
  rw [e, h2] at h1
  exact hn (Option.some.inj h1).symm
set_option maxHeartbeats 4000000 in
theorem req_any (w : World) (A1 A2 : Option Addr) (a b : List Part) (n1 n2 c1 c2 : Nat) (h1 : CtxAt w A1 a n1 c1) (h2 : CtxAt w A2 b n2 c2) (hn : n1 ≤ 9223372036854775807) :
    Calls Tryz.prog 7 #[.slice A1 n1 c1, .slice A2 n2 c2] w fun e w' => e = .returned (.bool (decide (a = b))) ∧ Below w.heap.size w w' := by
  have H1 := Lib.hid h1
  have H2 := Lib.hid h2
  clear h1 h2
  by_cases hne : n1 = n2
  · subst hne
    go_enter Tryz.func7, Tryz.ntmps7
    go_wp2_with fail
    go_loopw [5] (fun i wr => ∃ k : Nat, k ≤ n1 ∧ i = .int .i64 (k : Int) ∧ a.take k = b.take k ∧ Below w.heap.size w wr) (fun i _ => n1 - (intOf i).toNat)
    case atStart => exact ⟨0, Nat.zero_le _, rfl, by simp, Below.refl _ _⟩
    case round =>
      obtain ⟨k, hk, rfl, ht, hw⟩ := hrel
      have HT := Lib.hid ht
      have HW := Lib.hid hw
      clear ht hw
      by_cases hlt : k < n1
      · obtain ⟨ad, p, x, rfl, hB, hx, hp, hcell⟩ := H1.out.cells hlt
        obtain ⟨ad2, p2, y, rfl, hB2, hy, hp2, hcell2⟩ := H2.out.cells hlt
        have HX := Lib.hid hx
        have HY := Lib.hid hy
        have HP := Lib.hid (hp.up HW.out)
        have HP2 := Lib.hid (hp2.up HW.out)
        obtain ⟨d1, d2⟩ := hcell wr HW.out
        obtain ⟨d3, d4⟩ := hcell2 wr HW.out
        clear hx hy hp hp2 hcell hcell2
        have HEQ : Hid (∀ V, Below wr.heap.size wr V → Calls Tryz.prog 14 #[.slice p.adr p.len p.cap, .slice p2.adr p2.len p2.cap] V fun e V' => e = .returned (.bool (decide (x.2 = y.2))) ∧ Below wr.heap.size wr V') := Lib.hid (fun V hV =>
          (Ru.eq_any V _ _ p.adr p2.adr x.2 y.2 p.len p2.len p.cap p2.cap HP.out.len HP2.out.len (HP.out.up hV).runs (HP2.out.up hV).runs (Nat.le_trans HP.out.cap HP.out.max)).mono (by rintro e V' ⟨rfl, m, rfl⟩; exact ⟨rfl, Dt.bel_drewN hV m⟩))
        by_cases hd : x.1 = y.1
        · have HC : Hid (∀ V, Below wr.heap.size wr V → (V.cell? (ad.add (k * 2)) = some (.int .u16 (x.1 : Int)) ∧ V.cell? ⟨(ad.add (k * 2)).block, (ad.add (k * 2)).off + 1, none⟩ = some (.slice p.adr p.len p.cap)) ∧ V.cell? (ad2.add (k * 2)) = some (.int .u16 (y.1 : Int)) ∧ V.cell? ⟨(ad2.add (k * 2)).block, (ad2.add (k * 2)).off + 1, none⟩ = some (.slice p2.adr p2.len p2.cap)) := Lib.hid (fun V hV =>
            ⟨⟨(hV.cell (World.block_lt_of_cell? wr _ d1)).trans d1, (hV.cell (World.block_lt_of_cell? wr _ d2)).trans d2⟩, (hV.cell (World.block_lt_of_cell? wr _ d3)).trans d3, (hV.cell (World.block_lt_of_cell? wr _ d4)).trans d4⟩)
          have A16 := HEQ.out
          by_cases hr : x.2 = y.2
          · rw [decide_eq_true hr] at A16
            have HS := Lib.hid (take_more HT.out HX.out (by rw [HY.out, show y = x from (Prod.ext hd hr).symm]))
            rw [← hd] at d3 HC
            clear HEQ HP HP2 hr HX HY hd
            go_wp2_with fail
            go_region_held3 (fun V => (V.cell? (ad.add (k * 2)) = some (.int .u16 (x.1 : Int)) ∧ V.cell? ⟨(ad.add (k * 2)).block, (ad.add (k * 2)).off + 1, none⟩ = some (.slice p.adr p.len p.cap)) ∧ V.cell? (ad2.add (k * 2)) = some (.int .u16 (x.1 : Int)) ∧ V.cell? ⟨(ad2.add (k * 2)).block, (ad2.add (k * 2)).off + 1, none⟩ = some (.slice p2.adr p2.len p2.cap)) (first | exact ⟨⟨d1, d2⟩, d3, d4⟩ | assumption | exact HC.out _ (by (repeat (first | exact Below.refl _ _ | assumption | apply bel_drew)))) (first
              | (go_at_call 14; (with_reducible refine (A16 _ ?_).mono ?_); (focus (repeat (first | exact Below.refl _ _ | assumption | apply bel_drew))); rintro e V ⟨rfl, bv⟩; have hcV := HC.out V bv))
            all_goals
              have HWV : Hid (Below w.heap.size w V) := Lib.hid (HW.out.trans (bv.mono HW.out.size))
              clear bv hcV d1 d2 d3 d4
              go_wp2
              go_roundw
              case rel => exact ⟨k + 1, by omega, by go_num, HS.out, HWV.out⟩
              case measure => simp [intOf]; omega
          · rw [decide_eq_false hr] at A16
            have HS := Lib.hid (decide_eq_false (ne_at HX.out HY.out (fun e => hr (by rw [e]))))
            rw [← hd] at d3 HC
            clear HEQ HP HP2 hr HX HY hd
            go_wp2_with fail
            go_region_held3 (fun V => (V.cell? (ad.add (k * 2)) = some (.int .u16 (x.1 : Int)) ∧ V.cell? ⟨(ad.add (k * 2)).block, (ad.add (k * 2)).off + 1, none⟩ = some (.slice p.adr p.len p.cap)) ∧ V.cell? (ad2.add (k * 2)) = some (.int .u16 (x.1 : Int)) ∧ V.cell? ⟨(ad2.add (k * 2)).block, (ad2.add (k * 2)).off + 1, none⟩ = some (.slice p2.adr p2.len p2.cap)) (first | exact ⟨⟨d1, d2⟩, d3, d4⟩ | assumption | exact HC.out _ (by (repeat (first | exact Below.refl _ _ | assumption | apply bel_drew)))) (first
              | (go_at_call 14; (with_reducible refine (A16 _ ?_).mono ?_); (focus (repeat (first | exact Below.refl _ _ | assumption | apply bel_drew))); rintro e V ⟨rfl, bv⟩; have hcV := HC.out V bv))
            all_goals
              have HWV : Hid (Below w.heap.size w V) := Lib.hid (HW.out.trans (bv.mono HW.out.size))
              clear bv hcV d1 d2 d3 d4
              go_wp2
              go_ret
              exact ⟨Dt.ret_bool HS.out.symm, HWV.out⟩
        · have hb2 : ((x.1 : Int) == (y.1 : Int)) = false := by rw [beq_eq_false_iff_ne]; omega
          have hb3 : ((x.1 : Int) != (y.1 : Int)) = true := by rw [bne_iff_ne]; omega
          have HS := Lib.hid (decide_eq_false (ne_at HX.out HY.out (fun e => hd (by rw [e]))))
          clear HEQ HP HP2 HX HY
          go_wp2_with fail
          go_quiet (fail)
          go_wp2
          go_ret
          exact ⟨Dt.ret_bool HS.out.symm, Dt.bel_drewN HW.out _⟩
      · obtain rfl : k = n1 := by omega
        have hd : Hid (a = b) := Lib.hid (by
          have h := HT.out
          rw [List.take_of_length_le (by rw [H1.out.len]; exact Nat.le_refl _), List.take_of_length_le (by rw [H2.out.len]; exact Nat.le_refl _)] at h
          exact h)
        go_wp2
        go_ret
        exact ⟨Dt.ret_bool (by rw [decide_eq_true hd.out]), HW.out⟩
  · have hd : Hid (decide (a = b) = false) := Lib.hid (decide_eq_false (fun e => hne (by rw [← H1.out.len, ← H2.out.len, e])))
    have hne2 : ((n1 : Int) != (n2 : Int)) = true := by rw [bne_iff_ne]; omega
    go_enter Tryz.func7, Tryz.ntmps7
    go_wp2
    go_ret
    exact ⟨Dt.ret_bool hd.out.symm, Below.refl _ _⟩
theorem few_small {a : List Part} {n c : Nat} {w : World} {A : Option Addr} (h : CtxAt w A a n c) : n ≤ 9223372036854775807 := Nat.le_trans h.cap h.max
theorem rgood_any (w : World) (A1 : Option Addr) (a : List Part) (n1 c1 : Nat) (h1 : CtxAt w A1 a n1 c1) (s1 : Small a) :
    Calls Tryz.prog 11 #[.slice A1 n1 c1] w fun e w' => e = .returned (.bool (goodC a)) ∧ Below w.heap.size w w' := by
  have CN := Lib.hid (rnorm_any w A1 a n1 c1 h1 s1)
  have H1 := Lib.hid h1
  have hn := few_small h1
  clear h1 s1
  go_enter Tryz.func11, Tryz.ntmps11
  go_wp2_with fail
  refine CN.out.mono ?_
  rintro e w1 hp
  obtain ⟨A2, n2, c2, rfl, h2, hb⟩ := post_ctx hp
  have CE := Lib.hid (req_any w1 A1 A2 a (normC a) n1 n2 c1 c2 (H1.out.up hb) h2 hn)
  have HB := Lib.hid hb
  clear hp h2 hb
  go_wp2_with fail
  refine CE.out.mono ?_
  rintro e w2 ⟨rfl, hb2⟩
  have HB2 : Hid (Below w.heap.size w w2) := Lib.hid (HB.out.trans (hb2.mono HB.out.size))
  clear hb2
  go_wp2
  go_ret
  exact ⟨rfl, HB2.out⟩
theorem rsame_any (w : World) (A1 A2 : Option Addr) (a b : List Part) (n1 n2 c1 c2 : Nat) (h1 : CtxAt w A1 a n1 c1) (h2 : CtxAt w A2 b n2 c2) (s1 : Small a) (s2 : Small b) :
    Calls Tryz.prog 38 #[.slice A1 n1 c1, .slice A2 n2 c2] w fun e w' => e = .returned (.bool (sameC a b)) ∧ Below w.heap.size w w' := by
  have CN := Lib.hid (rnorm_any w A1 a n1 c1 h1 s1)
  have H2 := Lib.hid h2
  have S2 := Lib.hid s2
  clear h1 h2 s1 s2
  go_enter Tryz.func38, Tryz.ntmps38
  go_wp2_with fail
  refine CN.out.mono ?_
  rintro e w1 hp
  obtain ⟨A3, n3, c3, rfl, h3, hb⟩ := post_ctx hp
  have CM := Lib.hid (rnorm_any w1 A2 b n2 c2 (H2.out.up hb) S2.out)
  have H3 := Lib.hid h3
  have HB := Lib.hid hb
  clear hp h3 hb
  go_wp2_with fail
  refine CM.out.mono ?_
  rintro e w2 hp
  obtain ⟨A4, n4, c4, rfl, h4, hb⟩ := post_ctx hp
  have CE := Lib.hid (req_any w2 A3 A4 (normC a) (normC b) n3 n4 c3 c4 (H3.out.up hb) h4 (few_small H3.out))
  have HB2 : Hid (Below w.heap.size w w2) := Lib.hid (HB.out.trans (hb.mono HB.out.size))
  clear hp h4 hb
  go_wp2_with fail
  refine CE.out.mono ?_
  rintro e w3 ⟨rfl, hb3⟩
  have HB3 : Hid (Below w.heap.size w w3) := Lib.hid (HB2.out.trans (hb3.mono HB2.out.size))
  clear hb3
  go_wp2
  go_ret
  exact ⟨rfl, HB3.out⟩
theorem rwithin_any (w : World) (A1 A2 : Option Addr) (a b : List Part) (n1 n2 c1 c2 : Nat) (h1 : CtxAt w A1 a n1 c1) (h2 : CtxAt w A2 b n2 c2) (s1 : Small a) (s2 : Small b) :
    Calls Tryz.prog 36 #[.slice A1 n1 c1, .slice A2 n2 c2] w fun e w' => e = .returned (.bool (withinC a b)) ∧ Below w.heap.size w w' := by
  have CN := Lib.hid (rminus_any w A1 A2 a b n1 n2 c1 c2 h1 h2 s1 s2)
  clear h1 h2 s1 s2
  go_enter Tryz.func36, Tryz.ntmps36
  go_wp2_with fail
  refine CN.out.mono ?_
  rintro e w1 hp
  obtain ⟨A3, n3, c3, rfl, h3, hb⟩ := post_ctx hp
  have HE : Hid (((n3 : Int) == 0) = withinC a b) := Lib.hid (by
    have e1 : ((n3 : Int) == 0) = decide (n3 = 0) := by
      by_cases h : n3 = 0
      · subst h; rfl
      · rw [decide_eq_false h, beq_eq_false_iff_ne]; omega
    rw [e1]
    unfold withinC
    exact decide_eq_decide.2 (by rw [← h3.len]; exact ⟨List.eq_nil_of_length_eq_zero, fun h => by rw [h]; rfl⟩))
  have HB := Lib.hid hb
  clear hp h3 hb
  go_wp2
  go_ret
  exact ⟨Dt.ret_bool HE.out, HB.out⟩
end Go.Proofs.YtegclhgfibfanaaGreat.Cx

/- What the document's Of of layer ctx comes to, and how great contexts grow. Plain arithmetic. -/
namespace Go.Proofs.YtegclhgfibfanaaGreat.Cx
set_option linter.unusedVariables false

theorem set_len {a b : List Part} (ha : FitC a) (hb : FitC b) (how : Int) : (setC a b how).length ≤ a.length + b.length := by
  unfold setC
  rw [← pick_devs (tells_both ha hb how) (fun d h => set_some d h)]
  have h1 := step_fit a ha [] (fun r hr => by cases hr) a.length
  rw [List.take_length] at h1
  have h2 := step_fit b hb (a.foldl stepP []) h1.1 b.length
  rw [List.take_length] at h2
  have h3 := h1.2
  have h4 := h2.2
  simp only [List.length_nil, Nat.zero_add] at h3
  refine Nat.le_trans (List.length_filterMap_le _ _) ?_
  unfold devsC
  omega
/-- one dot as a context. -/
def dotC (x : Dot) : List Part := [(x.1, [(x.2, x.2)])]
theorem fit_dot {x : Dot} (h1 : x.1 < 65536) (h2 : x.2 < 18446744073709551616) : FitC (dotC x) := fun y hy => by
  obtain rfl := List.mem_singleton.1 hy
  exact ⟨h1, fun r hr => by obtain rfl := List.mem_singleton.1 hr; exact ⟨h2, h2⟩⟩
def stepO (o : List Part) (x : Dot) : List Part := if Dt.mayD x = true then setC o (dotC x) 0 else o
theorem of_fold (l : List Dot) : ofC l = l.foldl stepO [] := rfl
theorem of_next {l : List Dot} {k : Nat} {x : Dot} (h : l[k]? = some x) : ofC (l.take (k + 1)) = stepO (ofC (l.take k)) x := by
  rw [of_fold, of_fold, List.take_add_one, h, List.foldl_append]; rfl
/-- a context in order, of at most k parts of at most k runs each. -/
structure Most (o : List Part) (k : Nat) : Prop where
  form : ∃ f, Tells f ∧ o = listC f ∧ ∀ d, (f d).length ≤ k
  len : o.length ≤ k
theorem Most.fit {o : List Part} {k : Nat} (h : Most o k) : FitC o := by
  obtain ⟨f, h1, rfl, _⟩ := h.form
  exact list_fit h1
theorem Most.small {o : List Part} {k : Nat} (h : Most o k) (hk : k ≤ 100) : Small o := by
  obtain ⟨f, h1, rfl, h3⟩ := h.form
  refine ⟨Nat.le_trans h.len hk, fun x hx => ?_⟩
  obtain ⟨h4, _⟩ := (list_mem h1 x).1 hx
  rw [h4]
  exact Nat.le_trans (h3 _) hk
theorem Most.none_ : Most [] 0 := by
  refine ⟨⟨fun _ => [], ⟨rfl, fun _ _ => rfl, fun _ => Ru.order_nil⟩, ?_, fun _ => Nat.le_refl _⟩, Nat.le_refl _⟩
  unfold listC
  induction List.range Dt.topV with
  | nil => rfl
  | cons d l ih => rw [List.filterMap_cons]; exact ih
theorem Most.more {o : List Part} {k m : Nat} (h : Most o k) (hk : k ≤ m) : Most o m := by
  obtain ⟨f, h1, h2, h3⟩ := h.form
  exact ⟨⟨f, h1, h2, fun d => Nat.le_trans (h3 d) hk⟩, Nat.le_trans h.len hk⟩
theorem Most.step {o : List Part} {k : Nat} (h : Most o k) {x : Dot} (h1 : x.1 < 65536) (h2 : x.2 < 18446744073709551616) : Most (stepO o x) (k + 1) := by
  unfold stepO
  split
  · have hd := fit_dot h1 h2
    refine ⟨⟨fun d => Ru.setL (runsC o d) (runsC (dotC x) d) 0, tells_both h.fit hd 0, rfl, fun d => ?_⟩, Nat.le_trans (set_len h.fit hd 0) ?_⟩
    · obtain ⟨f, h3, h4, h5⟩ := h.form
      have e1 : runsC o d = f d := by rw [h4, runs_list h3]
      have e2 := runs_length (dotC x) d
      have e3 := Ru.set_length0 (runsC o d) (runsC (dotC x) d)
      have e4 := h5 d
      rw [e1] at e3
      have e5 : ((dotC x).map (fun x => x.2.length)).sum = 1 := rfl
      rw [e5] at e2
      show (Ru.setL (runsC o d) (runsC (dotC x) d) 0).length ≤ k + 1
      rw [e1]
      omega
    · have := h.len
      have e : (dotC x).length = 1 := rfl
      omega
  · exact h.more (Nat.le_succ _)
theorem of_most (l : List Dot) (hl : Dt.Fit l) (k : Nat) : Most (ofC (l.take k)) k := by
  induction k with
  | zero => exact Most.none_
  | succ k ih =>
    by_cases hk : k < l.length
    · have hg := List.getElem?_eq_getElem hk
      rw [of_next hg]
      have := hl _ (List.getElem_mem hk)
      exact ih.step this.1 this.2
    · have e : l.take (k + 1) = l.take k := by rw [List.take_of_length_le (by omega), List.take_of_length_le (by omega)]
      rw [e]
      exact ih.more (Nat.le_succ _)
theorem of_whole (l : List Dot) (hl : Dt.Fit l) : Most (ofC l) l.length := by
  have := of_most l hl l.length
  rwa [List.take_length] at this
end Go.Proofs.YtegclhgfibfanaaGreat.Cx

/- The contracts of the document's Of, Has and Few of layer ctx. -/
namespace Go.Proofs.YtegclhgfibfanaaGreat.Cx
open Go.ChangeShapes Go.WideShapes Go.ChangeAt Go.RowKit
set_option linter.unusedVariables false

/-- a new context of one dot. -/
theorem dot_lit (W : World) (x : Dot) (b1 b2 : Nat) (h1 : b1 = W.heap.size) (h2 : b2 = W.heap.size + 1) (hx : x.1 < 65536) (hx2 : x.2 < 18446744073709551616) :
    CtxAt ((W.alloc (.cells #[.int .u64 (x.2 : Int), .int .u64 (x.2 : Int)] 57)).alloc (.cells #[.int .u16 (x.1 : Int), .slice (some ⟨b1, 0, none⟩) 1 1] 49)) (some ⟨b2, 0, none⟩) (dotC x) 1 1 := by
  subst h1 h2
  have hs : (W.alloc (.cells #[.int .u64 (x.2 : Int), .int .u64 (x.2 : Int)] 57)).heap.size = W.heap.size + 1 := by simp
  refine ⟨rfl, (fun h => by cases h), by decide, by decide, [⟨x.1, some ⟨W.heap.size, 0, none⟩, 1, 1⟩], ?_, rfl, ?_⟩
  · intro _
    refine ⟨_, rfl, by simp, fun j u hu => ?_⟩
    rw [← hs]
    exact part_at _ ⟨x.1, some ⟨W.heap.size, 0, none⟩, 1, 1⟩ j u hu
  · intro k p y hp hy
    have hk : k = 0 := by
      rcases Nat.eq_zero_or_pos k with h | h
      · exact h
      · rw [List.getElem?_eq_none (by simp; omega)] at hp; cases hp
    subst hk
    have e1 : p = ⟨x.1, some ⟨W.heap.size, 0, none⟩, 1, 1⟩ := by simpa using hp.symm
    have e2 : y = (x.1, [(x.2, x.2)]) := by simpa [dotC] using hy.symm
    subst e1 e2
    refine ⟨rfl, hx, rfl, (fun h => by cases h), (by show (1 : Nat) ≤ 1; omega), (by show (1 : Nat) ≤ 9223372036854775807; omega), ⟨fun r hr => by obtain rfl := List.mem_singleton.1 hr; exact ⟨hx2, hx2⟩, fun _ => ⟨_, rfl, by simp; omega, fun j u hu => ?_⟩⟩⟩
    have hB := Dt.below_new (W.alloc (.cells #[.int .u64 (x.2 : Int), .int .u64 (x.2 : Int)] 57)) (.cells #[.int .u16 (x.1 : Int), .slice (some ⟨W.heap.size, 0, none⟩) 1 1] 49)
    have e3 : Ru.rv [(x.2, x.2)] = [.int .u64 (x.2 : Int), .int .u64 (x.2 : Int)] := rfl
    rw [e3] at hu
    have hc : (W.alloc (.cells #[.int .u64 (x.2 : Int), .int .u64 (x.2 : Int)] 57)).cell? ((⟨W.heap.size, 0, none⟩ : Addr).add j) = some u := by
      rw [Dt.zero_add, World.cell?_alloc_new]
      simpa using hu
    rw [← hc]
    exact hB.cell (by rw [Dt.block_add]; simp)
theorem CtxAt.drew {w : World} {A : Option Addr} {c : List Part} {n cp : Nat} (h : CtxAt w A c n cp) : CtxAt w.drew A c n cp := h.up ((Below.refl _ _).drew)
theorem rgood_later {w W : World} (d : Dot) (hW : Below w.heap.size w W) : Calls Tryz.prog 43 #[.agg #[.int .u16 (d.1 : Int), .int .u64 (d.2 : Int)]] W fun e V => e = .returned (.bool (Dt.mayD d)) ∧ Below w.heap.size w V :=
  (Dt.rgood_any W d.1 d.2).mono fun _ _ ⟨h1, h2⟩ => ⟨h1, by rw [h2]; exact hW.trans ((Dt.below_new W _).mono hW.size)⟩
/-- a call that makes a context, in a later world. -/
theorem made_ctx {w W : World} {f : Nat} {args : Array Value} {m : List Part} (hW : Below w.heap.size w W) (h : Calls Tryz.prog f args W (CtxPost W m)) :
    Calls Tryz.prog f args W fun e V => (∃ A n c, e = .returned (.slice A n c) ∧ CtxAt V A m n c) ∧ Below w.heap.size w V ∧ Below W.heap.size W V :=
  h.mono fun e V hp => by
    obtain ⟨A, n, c, e1, h1, h2⟩ := post_ctx hp
    exact ⟨⟨A, n, c, e1, h1⟩, hW.trans (h2.mono hW.size), h2⟩
/-- the document's answer as a world's context. -/
def CtxHas (w : World) (m : List Part) (e : Ending) (w' : World) : Prop := ∃ A n c, e = .returned (.slice A n c) ∧ CtxAt w' A m n c ∧ Below w.heap.size w w'
set_option maxHeartbeats 8000000 in
theorem rof_any (w : World) (A0 : Option Addr) (l : List Dot) (n c0 : Nat) (hl : l.length = n) (hb : Dt.Dots w w.heap.size A0 l) (hn : n ≤ 99) :
    Calls Tryz.prog 13 #[.slice A0 n c0] w (CtxHas w (ofC l)) := by
  have HL := Lib.hid hl
  have H1 := Lib.hid hb
  have HM := Lib.hid (of_most l hb.1)
  clear hl hb
  go_enter Tryz.func13, Tryz.ntmps13
  go_wp2_with fail
  go_loopw [3, 4] (fun v i wr => ∃ (k m : Nat) (A : Option Addr) (c : Nat), k ≤ n ∧ i = .int .i64 ((k : Nat) : Int) ∧ v = .slice A m c ∧ CtxAt wr A (ofC (l.take k)) m c ∧ Below w.heap.size w wr) (fun _ i _ => n - (intOf i).toNat)
  case atStart => exact ⟨0, 0, none, 0, Nat.zero_le _, rfl, rfl, CtxAt.none_ w, Below.refl _ _⟩
  case round =>
    obtain ⟨k, m, A, c, hk, rfl, rfl, hc, hw⟩ := hrel
    have HC := Lib.hid hc
    have HW := Lib.hid hw
    clear hc hw
    by_cases hlt : k < n
    · obtain ⟨ad, x, rfl, hB, hlx, hx1, hx2, hcx⟩ := H1.out.cells (k := k) (by rw [HL.out]; exact hlt)
      have HN := Lib.hid (of_next hlx)
      clear hlx
      have hG := rgood_later x (Below.refl wr.heap.size wr)
      obtain ⟨d1, d2⟩ := hcx wr HW.out
      cases hm : Dt.mayD x with
      | true =>
        rw [hm] at hG
        have HS : Hid (ofC (l.take (k + 1)) = setC (ofC (l.take k)) (dotC x) 0) := Lib.hid (by rw [HN.out]; exact if_pos hm)
        have hsm := (HM.out k).small (by omega)
        have hsd : Small (dotC x) := ⟨by show 1 ≤ 100; omega, fun y hy => by obtain rfl := List.mem_singleton.1 hy; show 1 ≤ 100; omega⟩
        clear hm HN
        go_wp2_with fail
        refine hG.mono ?_
        rintro e V ⟨rfl, hV⟩
        have HCV := Lib.hid (HC.out.up hV)
        have HWV : Hid (Below w.heap.size w V) := Lib.hid (HW.out.trans (hV.mono HW.out.size))
        have HCX : Hid (∀ U, Below V.heap.size V U → U.cell? (ad.add (k * 2)) = some (.int .u16 (x.1 : Int)) ∧ U.cell? ⟨(ad.add (k * 2)).block, (ad.add (k * 2)).off + 1, none⟩ = some (.int .u64 (x.2 : Int))) := Lib.hid (fun U hU => hcx U (HWV.out.trans (hU.mono HWV.out.size)))
        have A22 := fun W A2 (hW : Below V.heap.size V W) (h2 : CtxAt W A2 (dotC x) 1 1) => made_ctx hW (rjoin_any W A A2 (ofC (l.take k)) (dotC x) m 1 c 1 (HCV.out.up hW) h2 hsm hsd)
        rw [← HS.out] at A22
        clear hV d1 d2 hcx
        obtain ⟨d1, d2⟩ := HCX.out V (Below.refl _ _)
        go_wp2_with fail
        go_region_held3 (fun U => U.cell? (ad.add (k * 2)) = some (.int .u16 (x.1 : Int)) ∧ U.cell? ⟨(ad.add (k * 2)).block, (ad.add (k * 2)).off + 1, none⟩ = some (.int .u64 (x.2 : Int))) (first | exact ⟨d1, d2⟩ | assumption | exact HCX.out _ (by (repeat (first | exact Below.refl _ _ | assumption | apply bel_drew | apply bel_alloc)))) (first
          | (go_at_call 20; (with_reducible refine (A22 _ _ ?_ ?_).mono ?_); (focus (repeat (first | exact Below.refl _ _ | assumption | apply bel_drew | apply bel_alloc))); (focus (first | exact dot_lit _ x _ _ rfl rfl hx1 hx2 | exact (dot_lit _ x _ _ rfl rfl hx1 hx2).drew)); rintro e U ⟨⟨A5, m5, c5, rfl, hU⟩, bv, cv'⟩; have hcV := HCX.out U bv))
        all_goals
          have HU := Lib.hid hU
          have HWU : Hid (Below w.heap.size w U) := Lib.hid (HWV.out.trans (bv.mono HWV.out.size))
          clear hU bv cv' hcV d1 d2 A22
          go_wp2
          go_roundw
          case rel => exact ⟨k + 1, m5, A5, c5, by omega, by go_num, rfl, HU.out, HWU.out⟩
          case measure => simp [intOf]; omega
      | false =>
        rw [hm] at hG
        have HS : Hid (ofC (l.take (k + 1)) = ofC (l.take k)) := Lib.hid (by rw [HN.out]; exact if_neg (by rw [hm]; simp))
        clear hm HN hcx
        go_wp2_with fail
        refine hG.mono ?_
        rintro e V ⟨rfl, hV⟩
        have HCV := Lib.hid (HC.out.up hV)
        have HWV : Hid (Below w.heap.size w V) := Lib.hid (HW.out.trans (hV.mono HW.out.size))
        clear hV d1 d2
        go_wp2
        go_roundw
        case rel => exact ⟨k + 1, m, A, c, by omega, by go_num, rfl, by rw [HS.out]; exact HCV.out, HWV.out⟩
        case measure => simp [intOf]; omega
    · obtain rfl : k = n := by omega
      have e : Hid (l.take k = l) := Lib.hid (List.take_of_length_le (by rw [HL.out]; exact Nat.le_refl _))
      rw [e.out] at HC
      go_wp2
      go_ret
      exact ⟨A, m, c, rfl, HC.out, HW.out⟩
end Go.Proofs.YtegclhgfibfanaaGreat.Cx

/- The contracts of the document's Has, Few, Only and Size of layer ctx. -/
namespace Go.Proofs.YtegclhgfibfanaaGreat.Cx
open Go.ChangeShapes Go.WideShapes Go.ChangeAt Go.RowKit
set_option linter.unusedVariables false

theorem box_at (w : World) (d : Dot) : ∀ V, Below (w.alloc (.cells #[.int .u16 (d.1 : Int), .int .u64 (d.2 : Int)] 28)).heap.size (w.alloc (.cells #[.int .u16 (d.1 : Int), .int .u64 (d.2 : Int)] 28)) V → V.cell? ⟨w.heap.size, 0, none⟩ = some (.int .u16 (d.1 : Int)) ∧ V.cell? ⟨w.heap.size, 1, none⟩ = some (.int .u64 (d.2 : Int)) := by
  intro V hV
  have h1 : (w.alloc (.cells #[.int .u16 (d.1 : Int), .int .u64 (d.2 : Int)] 28)).cell? ⟨w.heap.size, 0, none⟩ = some (.int .u16 (d.1 : Int)) := by simp [go_sem]
  have h2 : (w.alloc (.cells #[.int .u16 (d.1 : Int), .int .u64 (d.2 : Int)] 28)).cell? ⟨w.heap.size, 1, none⟩ = some (.int .u64 (d.2 : Int)) := by simp [go_sem]
  exact ⟨(hV.cell (World.block_lt_of_cell? _ _ h1)).trans h1, (hV.cell (World.block_lt_of_cell? _ _ h2)).trans h2⟩
theorem below_grow (V : World) (n : Nat) (os : Array Obj) : Below V.heap.size V (Sort.grow (V.drewN n) os) :=
  ⟨rfl, rfl, rfl, by show V.heap.size ≤ (V.heap ++ os).size; simp, fun i hi => by show (V.heap ++ os)[i]? = V.heap[i]?; exact Array.getElem?_append_left hi⟩
theorem rgood_g (W : World) (d : Dot) (b : Bool) (hb : Dt.mayD d = b) :
    Calls Tryz.prog 43 #[.agg #[.int .u16 (d.1 : Int), .int .u64 (d.2 : Int)]] W fun e w' => e = .returned (.bool b) ∧ ∃ q os', w' = Sort.grow (W.drewN q) os' :=
  (Dt.rgood_any W d.1 d.2).mono fun _ _ ⟨h1, h2⟩ => ⟨by rw [h1, ← hb], 0, _, h2.trans (Sort.alloc_eq_grow _ _)⟩
set_option maxHeartbeats 8000000 in
theorem rhas_any (w : World) (A1 : Option Addr) (a : List Part) (n1 c1 : Nat) (d : Dot) (h1 : CtxAt w A1 a n1 c1) (s1 : Small a) (hd : d.1 < 65536 ∧ d.2 < 18446744073709551616) :
    Calls Tryz.prog 18 #[.slice A1 n1 c1, .agg #[.int .u16 (d.1 : Int), .int .u64 (d.2 : Int)]] w fun e w' => e = .returned (.bool (hasC a d)) ∧ Below w.heap.size w w' := by
  have HB : Hid (Below w.heap.size w (w.alloc (.cells #[.int .u16 (d.1 : Int), .int .u64 (d.2 : Int)] 28))) := Dt.below_new _ _
  have HX := Lib.hid (box_at w d)
  have H1 := Lib.hid (h1.up HB.out)
  have S1 := Lib.hid s1
  have HD := Lib.hid hd
  clear h1 s1 hd
  cases hm : Dt.mayD d with
  | false =>
    have hh : hasC a d = false := by unfold hasC; rw [hm]; rfl
    rw [hh]
    go_enter Tryz.func18, Tryz.ntmps18
    go_wp2_with fail
    generalize w.alloc (.cells #[.int .u16 (d.1 : Int), .int .u64 (d.2 : Int)] 28) = w0 at HB HX H1 ⊢
    have hmx : Tryz.prog.follows .mixedOrders = true := by kernel_rfl
    have g1 : ∀ n os, (Sort.grow (w0.drewN n) os).cell? ⟨w.heap.size, 0, none⟩ = some (.int .u16 (d.1 : Int)) := fun n os => (HX.out _ (below_grow w0 n os)).1
    have g2 : ∀ n os, (Sort.grow (w0.drewN n) os).cell? ⟨w.heap.size, 1, none⟩ = some (.int .u64 (d.2 : Int)) := fun n os => (HX.out _ (below_grow w0 n os)).2
    have ct := fun W => rgood_g W d false hm
    clear hm hh H1
    refine wp_region_quiet_grown hmx (by kernel_rfl) ?_
    repeat (
      (with_reducible refine wpQuiet_step (fun K hK => ?_))
      go_simp
      first
        | ((with_reducible refine hK _ ?_); clear hK K)
        | ((rw [if_neg (fun h => by cases h)]); (with_reducible refine hK _ ?_); clear hK K)
        | (apply Exists.intro; refine ⟨fun _ => ?_, hK _ ?_⟩; (go_at_call 43; refine Calls.grown_of (ct _)); clear hK K))
    with_reducible refine wpQuiet_nil ?_
    intro _ hw'
    obtain ⟨⟨nq, osq⟩, hw''⟩ := hw'
    subst hw''
    have HE : Hid (Below w.heap.size w (Sort.grow (w0.drewN nq) osq)) := Lib.hid (HB.out.trans ((below_grow w0 nq osq).mono HB.out.size))
    generalize Sort.grow (w0.drewN nq) osq = V at HE ⊢
    clear g1 g2 ct
    go_wp2
    go_ret
    exact ⟨rfl, HE.out⟩
  | true =>
    have hh : hasC a d = Ru.has (runsC a d.1) d.2 := by unfold hasC; rw [hm, Bool.true_and]
    rw [hh]
    clear hh
    obtain ⟨r, hr⟩ : ∃ r, Ru.has (runsC a d.1) d.2 = r := ⟨_, rfl⟩
    rw [hr]
    have HR := Lib.hid hr
    clear hr
    go_enter Tryz.func18, Tryz.ntmps18
    go_wp2_with fail
    generalize w.alloc (.cells #[.int .u16 (d.1 : Int), .int .u64 (d.2 : Int)] 28) = w0 at HB HX H1 ⊢
    have A42 := fun W (hW : Below w0.heap.size w0 W) => rgood_later d hW
    rw [hm] at A42
    have A18 := fun W (hW : Below w0.heap.size w0 W) => made_runs hW (runs_order a d.1) (rruns_any W A1 a n1 c1 d.1 (H1.out.up hW) S1.out)
    have A44 := fun W A n c (hW : Below w0.heap.size w0 W) (h : RunsAt W A (runsC a d.1) n c) => (Ru.has_any W W.heap.size A (runsC a d.1) n c d.2 h.len h.runs (Nat.le_refl _) (Nat.le_trans h.cap h.max) HD.out.2).mono (R' := fun e V => e = .returned (.bool (Ru.has (runsC a d.1) d.2)) ∧ Below w0.heap.size w0 V) (fun _ _ ⟨h1, h2⟩ => ⟨h1, hW.trans (h2.mono hW.size)⟩)
    clear hm
    rw [HR.out] at A44
    clear HR
    obtain ⟨x1, x2⟩ := HX.out _ (Below.refl _ _)
    go_region_held3 (fun V => V.cell? ⟨w.heap.size, 0, none⟩ = some (.int .u16 (d.1 : Int)) ∧ V.cell? ⟨w.heap.size, 1, none⟩ = some (.int .u64 (d.2 : Int))) (first | exact ⟨x1, x2⟩ | assumption | exact HX.out _ (by (repeat (first | exact Below.refl _ _ | assumption | apply bel_drew | apply bel_alloc)))) (first
      | (go_at_call 43; (with_reducible refine (A42 _ ?_).mono ?_); (focus (repeat (first | exact Below.refl _ _ | assumption | apply bel_drew | apply bel_alloc))); rintro e V ⟨rfl, bv⟩; have hcV := HX.out V bv)
      | (go_at_call 16; (with_reducible refine (A18 _ ?_).mono ?_); (focus (repeat (first | exact Below.refl _ _ | assumption | apply bel_drew | apply bel_alloc))); rintro e V ⟨A, n, c, rfl, hA, bv, cv'⟩; have hcV := HX.out V bv)
      | (go_at_call 48; (with_reducible refine (A44 _ _ _ _ ?_ ?_).mono ?_); (focus (repeat (first | exact Below.refl _ _ | assumption | apply bel_drew | apply bel_alloc))); (focus exact hA); rintro e V ⟨rfl, bv⟩; have hcV := HX.out V bv))
    all_goals
      go_wp2
      go_ret
      exact ⟨rfl, HB.out.trans (bv.mono HB.out.size)⟩

def fewC (c : List Part) : Bool := decide (c.length ≤ 30 ∧ ∀ x ∈ c, x.2.length ≤ 30)
theorem few_is {c : List Part} (h : fewC c = true) : Small c := by
  obtain ⟨h1, h2⟩ := of_decide_eq_true h
  exact ⟨by omega, fun x hx => by have := h2 x hx; omega⟩
set_option maxHeartbeats 4000000 in
theorem rfew_any (w : World) (A1 : Option Addr) (a : List Part) (n1 c1 : Nat) (h1 : CtxAt w A1 a n1 c1) :
    Calls Tryz.prog 5 #[.slice A1 n1 c1] w fun e w' => e = .returned (.bool (fewC a)) ∧ Below w.heap.size w w' := by
  have H1 := Lib.hid h1
  have hmx := few_small h1
  clear h1
  by_cases h30 : 30 < n1
  · have d1 : decide ((30 : Int) < (n1 : Int)) = true := decide_eq_true (by omega)
    have hh : Hid (fewC a = false) := Lib.hid (decide_eq_false (fun h => by have := h.1; rw [H1.out.len] at this; omega))
    go_enter Tryz.func5, Tryz.ntmps5
    go_wp2
    go_ret
    exact ⟨Dt.ret_bool hh.out.symm, Below.refl _ _⟩
  · have d1 : decide ((30 : Int) < (n1 : Int)) = false := decide_eq_false (by omega)
    go_enter Tryz.func5, Tryz.ntmps5
    go_wp2_with fail
    go_loopw [3] (fun i wr => ∃ k : Nat, k ≤ n1 ∧ i = .int .i64 (k : Int) ∧ (∀ x ∈ a.take k, x.2.length ≤ 30) ∧ Below w.heap.size w wr) (fun i _ => n1 - (intOf i).toNat)
    case atStart => exact ⟨0, Nat.zero_le _, rfl, (fun x hx => by simp at hx), Below.refl _ _⟩
    case round =>
      obtain ⟨k, hk, rfl, ht, hw⟩ := hrel
      have HT := Lib.hid ht
      have HW := Lib.hid hw
      clear ht hw
      by_cases hlt : k < n1
      · obtain ⟨ad, p, x, rfl, hB, hx, hp, hcell⟩ := H1.out.cells hlt
        obtain ⟨x1, x2⟩ := hcell wr HW.out
        have HX := Lib.hid hx
        have hpl := hp.len
        have hpc : p.len ≤ 9223372036854775807 := Nat.le_trans hp.cap hp.max
        clear hx hp hcell
        by_cases hl : 30 < p.len
        · have d2 : decide ((30 : Int) < (p.len : Int)) = true := decide_eq_true (by omega)
          have hh : Hid (fewC a = false) := Lib.hid (decide_eq_false (fun h => by have := h.2 x (List.mem_of_getElem? HX.out); omega))
          clear hpl
          go_wp2
          go_ret
          exact ⟨Dt.ret_bool hh.out.symm, HW.out⟩
        · have d2 : decide ((30 : Int) < (p.len : Int)) = false := decide_eq_false (by omega)
          have HS : Hid (∀ y ∈ a.take (k + 1), y.2.length ≤ 30) := Lib.hid (fun y hy => by
            rw [List.take_add_one, HX.out] at hy
            rcases List.mem_append.1 hy with hy | hy
            · exact HT.out y hy
            · have : y = x := by simpa using hy
              subst this; omega)
          clear hpl
          go_wp2
          go_roundw
          case rel => exact ⟨k + 1, by omega, by go_num, HS.out, HW.out⟩
          case measure => simp [intOf]; omega
      · obtain rfl : k = n1 := by omega
        have hh : Hid (fewC a = true) := Lib.hid (decide_eq_true ⟨by rw [H1.out.len]; omega, fun x hx => HT.out x (by rw [List.take_of_length_le (by rw [H1.out.len]; exact Nat.le_refl _)]; exact hx)⟩)
        go_wp2
        go_ret
        exact ⟨Dt.ret_bool hh.out.symm, HW.out⟩
end Go.Proofs.YtegclhgfibfanaaGreat.Cx

/- The contracts of the document's Only, Size, Base and Plain of layer ctx. -/
namespace Go.Proofs.YtegclhgfibfanaaGreat.Cx
open Go.ChangeShapes Go.WideShapes Go.ChangeAt Go.RowKit
set_option linter.unusedVariables false

/-- a new context of one part. -/
theorem part_lit (W : World) (d b n c : Nat) (A : Option Addr) (l : List Run) (hb : b = W.heap.size) (hd : d < 65536) (h : RunsAt W A l n c) :
    CtxAt (W.alloc (.cells #[.int .u16 (d : Int), .slice A n c] 49)) (some ⟨b, 0, none⟩) [(d, l)] 1 1 := by
  subst hb
  have hB := Dt.below_new W (.cells #[.int .u16 (d : Int), .slice A n c] 49)
  refine ⟨rfl, (fun h => by cases h), by decide, by decide, [⟨d, A, n, c⟩], fun _ => ⟨_, rfl, by simp, part_at W ⟨d, A, n, c⟩⟩, rfl, ?_⟩
  intro k p y hp hy
  have hk : k = 0 := by
    rcases Nat.eq_zero_or_pos k with h | h
    · exact h
    · rw [List.getElem?_eq_none (by simp; omega)] at hp; cases hp
  subst hk
  have e1 : p = ⟨d, A, n, c⟩ := by simpa using hp.symm
  have e2 : y = (d, l) := by simpa using hy.symm
  subst e1 e2
  have h2 := h.up hB
  exact ⟨rfl, hd, h2.len, h2.nil, h2.cap, h2.max, h2.runs⟩
theorem ronly_any (w : World) (A1 : Option Addr) (a : List Part) (n1 c1 d : Nat) (h1 : CtxAt w A1 a n1 c1) (s1 : Small a) (hd : d < 65536) :
    Calls Tryz.prog 22 #[.slice A1 n1 c1, .int .u16 (d : Int)] w (CtxHas w (onlyC a d)) := by
  have CR := Lib.hid (rruns_any w A1 a n1 c1 d h1 s1)
  obtain ⟨R, hR⟩ : ∃ R, onlyC a d = R := ⟨_, rfl⟩
  rw [hR]
  have HR := Lib.hid hR
  have HO := Lib.hid (runs_order a d)
  clear h1 s1 hR
  go_enter Tryz.func22, Tryz.ntmps22
  go_wp2_with fail
  refine CR.out.mono ?_
  rintro e w1 hp
  obtain ⟨A, n, c, rfl, hA, hb, _⟩ := runs_post hp HO.out
  have HA := Lib.hid hA
  have HB := Lib.hid hb
  clear hp hA hb
  by_cases h0 : n = 0
  · subst h0
    have e : Hid (R = []) := Lib.hid (by rw [← HR.out]; exact if_pos HA.out.len)
    go_wp2
    go_ret
    exact ⟨none, 0, 0, rfl, by rw [e.out]; exact CtxAt.none_ _, HB.out⟩
  · have hne : ((n : Int) == 0) = false := by rw [beq_eq_false_iff_ne]; omega
    have e : Hid (R = [(d, runsC a d)]) := Lib.hid (by rw [← HR.out]; exact if_neg (by rw [HA.out.len]; exact h0))
    have HL := Lib.hid (part_lit w1 d w1.heap.size n c A (runsC a d) rfl hd HA.out)
    have HB1 : Hid (Below w.heap.size w (w1.alloc (.cells #[.int .u16 (d : Int), .slice A n c] 49))) := Lib.hid (bel_alloc _ HB.out)
    go_wp2
    go_ret
    exact ⟨_, 1, 1, rfl, by rw [e.out]; exact HL.out, HB1.out⟩

/-! A context's norm, as it is read. -/
theorem norm_len {a : List Part} (s : Small a) (h : FitC a) : (normC a).length ≤ 100 := by
  rw [← norm_set]
  have := set_len (b := []) h (fun x hx => by cases hx) 0
  have := s.1
  simp only [List.length_nil] at *
  omega
theorem norm_part {a : List Part} (s : Small a) (h : FitC a) {x : Part} (hx : x ∈ normC a) : Ru.InOrder x.2 ∧ x.2.length ≤ 10000 ∧ x.1 < 65536 := by
  obtain ⟨h1, _⟩ := (list_mem (tells_runs h) x).1 hx
  exact ⟨by rw [h1]; exact runs_order _ _, by rw [h1]; exact small_runs s _, (fit_norm h x hx).1⟩
theorem nrm_self {l : List Run} (h : Ru.InOrder l) : Ru.normL l = l := set_self h
def sizeUpto (c : List Part) (k : Nat) : Nat := ((c.take k).map (fun x => Ru.sizeR x.2)).sum
theorem size_next {c : List Part} {k : Nat} {x : Part} (h : c[k]? = some x) : sizeUpto c (k + 1) = sizeUpto c k + Ru.sizeR x.2 := by
  unfold sizeUpto
  rw [List.take_add_one, h, List.map_append, List.sum_append]; simp
theorem size_most {c : List Part} (hc : ∀ x ∈ c, Ru.InOrder x.2) (k : Nat) : sizeUpto c k ≤ k * 281474976710656 := by
  induction k with
  | zero => simp [sizeUpto]
  | succ k ih =>
    by_cases hk : k < c.length
    · have hg := List.getElem?_eq_getElem hk
      rw [size_next hg]
      have := Ru.size_le (hc _ (List.getElem_mem hk))
      omega
    · have e : c.take (k + 1) = c.take k := by rw [List.take_of_length_le (by omega), List.take_of_length_le (by omega)]
      have e2 : sizeUpto c (k + 1) = sizeUpto c k := by unfold sizeUpto; rw [e]
      omega
set_option maxHeartbeats 4000000 in
theorem rsize_any (w : World) (A1 : Option Addr) (a : List Part) (n1 c1 : Nat) (h1 : CtxAt w A1 a n1 c1) (s1 : Small a) :
    Calls Tryz.prog 24 #[.slice A1 n1 c1] w fun e w' => e = .returned (.int .u64 ((sizeC a : Nat) : Int)) ∧ Below w.heap.size w w' := by
  have CN := Lib.hid (rnorm_any w A1 a n1 c1 h1 s1)
  have HNL := Lib.hid (norm_len s1 h1.fit)
  have HNP : Hid (∀ x ∈ normC a, Ru.InOrder x.2 ∧ x.2.length ≤ 10000 ∧ x.1 < 65536) := Lib.hid (fun x hx => norm_part s1 h1.fit hx)
  obtain ⟨R, hR⟩ : ∃ R, sizeC a = R := ⟨_, rfl⟩
  rw [hR]
  have HR : Hid (((normC a).map (fun x => Ru.sizeR x.2)).sum = R) := Lib.hid hR
  clear h1 s1 hR
  go_enter Tryz.func24, Tryz.ntmps24
  go_wp2_with fail
  refine CN.out.mono ?_
  rintro e w1 hp
  obtain ⟨A, n, c, rfl, hA, hb⟩ := post_ctx hp
  generalize normC a = N at HNL HNP HR hA
  have HA := Lib.hid hA
  have HB := Lib.hid hb
  have hn : n ≤ 100 := by rw [← hA.len]; exact HNL.out
  have HSM := Lib.hid (fun k => size_most (fun x hx => (HNP.out x hx).1) k)
  have HSN : Hid (sizeUpto N n = R) := Lib.hid (by unfold sizeUpto; rw [List.take_of_length_le (by rw [HA.out.len]; exact Nat.le_refl _)]; exact HR.out)
  clear hp hA hb CN HR
  go_wp2_with fail
  go_loopw [3, 4] (fun v i wr => ∃ k : Nat, k ≤ n ∧ i = .int .i64 (k : Int) ∧ v = .int .u64 ((sizeUpto N k : Nat) : Int) ∧ Below w1.heap.size w1 wr) (fun _ i _ => n - (intOf i).toNat)
  case atStart => exact ⟨0, Nat.zero_le _, rfl, rfl, Below.refl _ _⟩
  case round =>
    obtain ⟨k, hk, rfl, rfl, hw⟩ := hrel
    have HW := Lib.hid hw
    clear hw
    by_cases hlt : k < n
    · obtain ⟨ad, p, x, rfl, hB, hx, hp, hcell⟩ := HA.out.cells hlt
      have HX := Lib.hid (size_next hx)
      have hm := List.mem_of_getElem? hx
      obtain ⟨q1, q2, q3⟩ := HNP.out x hm
      have hs1 := HSM.out k
      have hs2 := Ru.size_le q1
      have HS1 : Hid (Ru.sizeR (Ru.normL x.2) = Ru.sizeR x.2) := Lib.hid (by rw [nrm_self q1])
      have HP := Lib.hid (hp.up HW.out)
      have C45 := Lib.hid (Ru.size_any wr p.adr x.2 p.len p.cap HP.out.len HP.out.nil HP.out.runs (by rw [← HP.out.len]; omega))
      rw [HS1.out] at C45
      obtain ⟨d1, d2⟩ := hcell wr HW.out
      clear hx hp hcell hm q1 q2 q3 HS1
      generalize Ru.sizeR x.2 = z at HX hs2 C45
      obtain ⟨s, hs⟩ : ∃ s, sizeUpto N k = s := ⟨_, rfl⟩
      rw [hs] at HX hs1 ⊢
      have hwr : IntKind.u64.wrap ((s : Int) + (z : Int)) = (s : Int) + (z : Int) := IntWalk.u64_in _ (by omega)
      have HS : Hid ((s : Int) + (z : Int) = ((sizeUpto N (k + 1) : Nat) : Int)) := Lib.hid (by rw [HX.out]; omega)
      clear HX hs hs1 hs2
      go_wp2_with fail
      refine C45.out.mono ?_
      rintro e w2 ⟨rfl, hb2⟩
      have HW2 : Hid (Below w1.heap.size w1 w2) := Lib.hid (HW.out.trans (hb2.mono HW.out.size))
      clear hb2 d1 d2
      go_wp2
      go_roundw
      case rel => exact ⟨k + 1, by omega, by go_num, by rw [HS.out], HW2.out⟩
      case measure => simp [intOf]; omega
    · obtain rfl : k = n := by omega
      have HE : Hid (Below w.heap.size w wr) := Lib.hid (HB.out.trans (HW.out.mono HB.out.size))
      rw [HSN.out]
      go_wp2
      go_ret
      exact ⟨rfl, HE.out⟩
end Go.Proofs.YtegclhgfibfanaaGreat.Cx

/- The contract of the document's Base of layer ctx. -/
namespace Go.Proofs.YtegclhgfibfanaaGreat.Cx
open Go.ChangeShapes Go.WideShapes Go.ChangeAt Go.RowKit
set_option linter.unusedVariables false

/-- the last dot of a device that is told without a gap. -/
def lastB (x : Part) : Option Dot := if 1 < Ru.firstR x.2 then some (x.1, Ru.firstR x.2 - 1) else none
theorem base_fold (c : List Part) : baseC c = (normC c).filterMap lastB := rfl
theorem base_next {N : List Part} {k : Nat} {x : Part} (h : N[k]? = some x) : (N.take (k + 1)).filterMap lastB = (N.take k).filterMap lastB ++ (if 1 < Ru.firstR x.2 then [(x.1, Ru.firstR x.2 - 1)] else []) := by
  rw [List.take_add_one, h, List.filterMap_append]
  congr 1
  show [x].filterMap lastB = _
  by_cases h1 : 1 < Ru.firstR x.2
  · rw [List.filterMap_cons, show lastB x = some (x.1, Ru.firstR x.2 - 1) from if_pos h1, if_pos h1]; rfl
  · rw [List.filterMap_cons, show lastB x = none from if_neg h1, if_neg h1]; rfl
theorem first_max {l : List Run} (h : Ru.InOrder l) : 1 ≤ Ru.firstR l ∧ Ru.firstR l ≤ 281474976710656 := by
  refine ⟨(Ru.first_spec h).1, ?_⟩
  cases l with
  | nil => show 1 ≤ 281474976710656; omega
  | cons r l =>
    have := (Ru.may_iff r).1 (h.1 r (List.mem_cons_self ..))
    show (if r.1 = 1 then r.2 + 1 else 1) ≤ _
    split <;> omega
set_option maxHeartbeats 8000000 in
theorem rbase_any (w : World) (A1 : Option Addr) (a : List Part) (n1 c1 : Nat) (h1 : CtxAt w A1 a n1 c1) (s1 : Small a) :
    Calls Tryz.prog 27 #[.slice A1 n1 c1] w (Dt.DotPost w (baseC a)) := by
  have CN := Lib.hid (rnorm_any w A1 a n1 c1 h1 s1)
  have HNL := Lib.hid (norm_len s1 h1.fit)
  have HNP : Hid (∀ x ∈ normC a, Ru.InOrder x.2 ∧ x.2.length ≤ 10000 ∧ x.1 < 65536) := Lib.hid (fun x hx => norm_part s1 h1.fit hx)
  obtain ⟨R, hR⟩ : ∃ R, baseC a = R := ⟨_, rfl⟩
  have HR : Hid ((normC a).filterMap lastB = R) := Lib.hid (by rw [← hR]; rfl)
  rw [hR]
  clear h1 s1 hR
  go_enter Tryz.func27, Tryz.ntmps27
  go_wp2_with fail
  refine CN.out.mono ?_
  rintro e w1 hp
  obtain ⟨A, n, c, rfl, hA, hb⟩ := post_ctx hp
  generalize normC a = N at HNL HNP HR hA
  have HA := Lib.hid hA
  have HB := Lib.hid hb
  have hn : n ≤ 100 := by rw [← hA.len]; exact HNL.out
  obtain ⟨f, hf⟩ : ∃ f : Nat → List Dot, f = fun k => (N.take k).filterMap lastB := ⟨_, rfl⟩
  have HFE : Hid (∀ k, f k = (N.take k).filterMap lastB) := Lib.hid (fun k => by rw [hf])
  have HF : Hid (∀ k, (f k).length ≤ k) := Lib.hid (fun k => by rw [hf]; exact Nat.le_trans (List.length_filterMap_le _ _) (List.length_take_le _ _))
  have HFN : Hid (f n = R) := Lib.hid (by rw [HFE.out, List.take_of_length_le (by rw [HA.out.len]; exact Nat.le_refl _)]; exact HR.out)
  clear hp hA hb CN HR hf
  go_wp2_with fail
  go_loopw [3, 4] (fun v i wr => Dt.PRel w1 n f v i wr) (fun _ i _ => n - (intOf i).toNat)
  case atStart => exact ⟨0, 0, none, 0, Nat.zero_le _, rfl, rfl, by rw [HFE.out]; rfl, by rw [HFE.out]; exact World.ownsRow_nil _ _ _ _, Below.refl _ _⟩
  case round =>
    obtain ⟨k, m, A2, c2, hk, rfl, rfl, hm, ho, hw⟩ := hrel
    have hmk : m ≤ k := by rw [← hm]; exact HF.out k
    have HM := Lib.hid hm
    have HO := Lib.hid ho
    have HW := Lib.hid hw
    clear hm ho hw
    by_cases hlt : k < n
    · obtain ⟨ad, p, x, rfl, hB, hx, hp, hcell⟩ := HA.out.cells hlt
      have HX2 := Lib.hid (base_next hx)
      rw [← HFE.out, ← HFE.out] at HX2
      obtain ⟨q1, q2, q3⟩ := HNP.out x (List.mem_of_getElem? hx)
      obtain ⟨q4, q5⟩ := first_max q1
      have HP := Lib.hid (hp.up HW.out)
      have C46 := Lib.hid (Ru.first_any wr p.adr x.2 p.len p.cap HP.out.len HP.out.nil HP.out.runs (by rw [← HP.out.len]; omega))
      have HS1 : Hid (Ru.firstR (Ru.normL x.2) = Ru.firstR x.2) := Lib.hid (by rw [nrm_self q1])
      rw [HS1.out] at C46
      have HC : Hid (∀ V, Below wr.heap.size wr V → V.cell? (ad.add (k * 2)) = some (.int .u16 (x.1 : Int)) ∧ V.cell? ⟨(ad.add (k * 2)).block, (ad.add (k * 2)).off + 1, none⟩ = some (.slice p.adr p.len p.cap)) := Lib.hid (fun V hV => hcell V (HW.out.trans (hV.mono HW.out.size)))
      obtain ⟨d1, d2⟩ := HC.out wr (Below.refl _ _)
      obtain ⟨x1, x2⟩ := x
      clear hx hp hcell q1 q2 HS1
      generalize Ru.firstR x2 = z at HX2 C46 q4 q5
      go_wp2_with fail
      refine C46.out.mono ?_
      rintro e V ⟨rfl, bv⟩
      have HV : Hid (Below w1.heap.size w1 V) := Lib.hid (HW.out.trans (bv.mono HW.out.size))
      have HOV := Lib.hid (Dt.own_kept HO.out bv)
      have HLO : Hid (m + 1 ≤ 8796093022208) := Lib.hid (by omega)
      have HCV := Lib.hid (HC.out V bv)
      clear bv d1 d2 HC C46
      obtain ⟨d1, d2⟩ := HCV.out
      by_cases hz : 1 < z
      · have dz : decide ((1 : Int) < (z : Int)) = true := decide_eq_true (by omega)
        have ez : IntKind.u64.wrap ((z : Int) - 1) = ((z - 1 : Nat) : Int) := by rw [IntWalk.u64_in _ (by omega)]; omega
        rw [if_pos hz] at HX2
        have HWA : Hid (Below w1.heap.size w1 (V.alloc (.cells #[.int .u16 (x1 : Int), .int .u64 ((z - 1 : Nat) : Int)] 28))) := Lib.hid (bel_alloc _ HV.out)
        go_wp2_with (at_builtin; refine Dt.wpList_own rfl (.tmp 22) (.tmp 31) rfl rfl _ w1.heap.size m (.slice A2 m c2) (f k) (some ⟨V.heap.size, 0, none⟩) [(x1, z - 1)] 1 1 rfl rfl (HOV.out.alloc _) (fun h => by cases h) (Dt.lies_one V (x1, z - 1)) rfl HLO.out HWA.out.size ?_; intro A3 c3 V3 ho3 hg3; have HR := Lib.hid (Dt.p_rel hlt HX2.out (by rw [List.length_append, HM.out]; rfl) ho3 (Dt.any_grown (HOV.out.alloc _) HWA.out hg3)); clear ho3 hg3)
        go_roundw
        case rel => exact HR.out
        case measure => simp [intOf]; omega
      · have dz : decide ((1 : Int) < (z : Int)) = false := decide_eq_false (by omega)
        rw [if_neg hz, List.append_nil] at HX2
        have HR := Lib.hid (Dt.p_rel hlt HX2.out HM.out HOV.out HV.out)
        go_wp2
        go_roundw
        case rel => exact HR.out
        case measure => simp [intOf]; omega
    · obtain rfl : n = k := by omega
      rw [HFN.out] at HM HO
      go_wp2
      go_ret
      exact ⟨A2, m, c2, rfl, HM.out, Dt.own_less HO.out HB.out.size, HB.out.trans (HW.out.mono HB.out.size)⟩
end Go.Proofs.YtegclhgfibfanaaGreat.Cx

/- The contract of the document's Plain of layer ctx. -/
namespace Go.Proofs.YtegclhgfibfanaaGreat.Cx
open Go.ChangeShapes Go.WideShapes Go.ChangeAt Go.RowKit
set_option linter.unusedVariables false

/-- a new slice of one run. -/
theorem run_lit (V : World) (b lo hi : Nat) (hb : b = V.heap.size) (h1 : lo < 18446744073709551616) (h2 : hi < 18446744073709551616) :
    RunsAt (V.alloc (.cells #[.int .u64 (lo : Int), .int .u64 (hi : Int)] 57)) (some ⟨b, 0, none⟩) [(lo, hi)] 1 1 := by
  subst hb
  refine ⟨rfl, (fun h => by cases h), Nat.le_refl _, by decide, ⟨fun r hr => by obtain rfl := List.mem_singleton.1 hr; exact ⟨h1, h2⟩, fun _ => ⟨_, rfl, by simp, fun j u hu => ?_⟩⟩⟩
  have e3 : Ru.rv [(lo, hi)] = [.int .u64 (lo : Int), .int .u64 (hi : Int)] := rfl
  rw [e3] at hu
  rw [Dt.zero_add, World.cell?_alloc_new]
  simpa using hu
/-- a part in memory whose runs lie apart. -/
theorem step_part {ops : Array Oper} {o : Oper} {a : Act} {K : Act → World → Prop} {Q : Exit → Act → World → Prop} {E : Prop} {w : World} (hgd : o.guard = none) (s x : Operand)
    (ho : o.op = .call { callee := .builtin .append, args := #[s, x], argTypes := #[23, 23] }) (hty : o.type = 23)
    (B k : Nat) (v : Value) (ps : List PV) (ad : Addr) (p : PV) (hs : a.eval s = v) (hx : a.eval x = .slice (some ad) 1 1) (hw : w.ownsRow B 49 2 v k (cv ps)) (hc : ∀ (j : Nat) (u : Value), (cv [p])[j]? = some u → w.cell? (ad.add j) = some u)
    (hn : k + 1 ≤ 4398046511104) (hB : B ≤ w.heap.size)
    (hK : ∀ A' c' w', w'.ownsRow B 49 2 (.slice A' (k + 1) c') (k + 1) (cv (ps ++ [p])) → w.grownBy w' v.ownBlock → ((Value.slice A' (k + 1) c').ownBlock = v.ownBlock ∨ (Value.slice A' (k + 1) c').ownBlock = some w.heap.size) → K (a.put o.dst (.slice A' (k + 1) c')) w') :
    if Region.wanted o (yielded ops a.tmps) = true then Oper.wp Tryz.prog o a w K Q else E := by
  have hwd : Region.wanted o (yielded ops a.tmps) = true := by simp [Region.wanted, hgd]
  rw [if_pos hwd]
  obtain ⟨i0, hi0, hz0, hz1, hz2⟩ := info_parts part_info
  obtain ⟨v', w', hr, h2, h3, hat, h5⟩ := run_append_own_at (P := Tryz.prog) w B 23 23 49 i0 (.agg #[.int .u16 0, .slice none 0 0]) 2 32 Tryz.underlying23 hi0 hz0 hz1 hz2 rfl (by decide) v k (cv ps) hw ad 1 1 (cv [p]) (by rw [cv_length]; rfl) hc (cv_one [p]) (by simp only [maxLen]; omega) (by omega) hB
  obtain ⟨A', c', rfl⟩ := Dt.own_form h2
  unfold Oper.wp execOp
  simp only [ho, resolve, invoke, builtin, Sem.run_bind, Sem.run_pure, Result.andThen_ok, List.map_toArray, List.map_cons, List.map_nil, hs, hx]
  rw [hty, hr]
  refine hK _ _ _ ?_ h3 h5
  rw [cv_append]; exact h2
theorem plain_next {N : List Dot} {k : Nat} {x : Dot} (h : N[k]? = some x) : ((N.take (k + 1)).map (fun x => ((x.1, [(1, x.2)]) : Part))) = (N.take k).map (fun x => ((x.1, [(1, x.2)]) : Part)) ++ [(x.1, [(1, x.2)])] := by
  rw [List.take_add_one, h, List.map_append]; rfl
set_option maxHeartbeats 8000000 in
theorem rplain_any (w : World) (A1 : Option Addr) (l : List Dot) (n1 c1 : Nat) (e1 : l.length = n1) (a1 : A1 = none → n1 = 0 ∧ c1 = 0) (h1 : Dt.Dots w w.heap.size A1 l) (h42 : n1 ≤ 4398046511104) :
    Calls Tryz.prog 29 #[.slice A1 n1 c1] w (CtxPost w (plainC l)) := by
  have CN := Lib.hid (Dt.rnorm_any w A1 l n1 c1 e1 a1 h1 h42)
  have HNF := Lib.hid (Dt.fit_norm h1.1)
  have HNL : Hid ((Dt.normV l).length ≤ 65536) := Lib.hid (Dt.list_length _)
  obtain ⟨R, hR⟩ : ∃ R, plainC l = R := ⟨_, rfl⟩
  have HR : Hid ((Dt.normV l).map (fun x => ((x.1, [(1, x.2)]) : Part)) = R) := Lib.hid (by rw [← hR]; rfl)
  rw [hR]
  clear e1 a1 h1 hR
  go_enter Tryz.func29, Tryz.ntmps29
  go_wp2_with fail
  refine CN.out.mono ?_
  rintro e w1 hp
  obtain ⟨A, n, c, rfl, hn, hA, _, _, hd, _, hb⟩ := Dt.post_dots hp HNF.out
  generalize Dt.normV l = N at HNF HNL HR hn hd
  have HN := Lib.hid hn
  have HD := Lib.hid hd
  have HB := Lib.hid hb
  have hnl : n ≤ 65536 := by rw [← hn]; exact HNL.out
  obtain ⟨g, hg⟩ : ∃ g : Nat → List Part, g = fun k => (N.take k).map (fun x => ((x.1, [(1, x.2)]) : Part)) := ⟨_, rfl⟩
  have HGE : Hid (∀ k, g k = (N.take k).map (fun x => ((x.1, [(1, x.2)]) : Part))) := Lib.hid (fun k => by rw [hg])
  have HGL : Hid (∀ k, (g k).length ≤ k) := Lib.hid (fun k => by rw [hg]; show ((N.take k).map _).length ≤ k; rw [List.length_map]; exact List.length_take_le _ _)
  have HGN : Hid (g n = R) := Lib.hid (by rw [HGE.out, List.take_of_length_le (by rw [HN.out]; exact Nat.le_refl _)]; exact HR.out)
  clear hp hA hn hd hb CN HR hg
  go_wp2_with fail
  go_loopw [3, 4] (fun v i wr => SRel w1 n g v i wr) (fun _ i _ => n - (intOf i).toNat)
  case atStart => exact ⟨0, 0, none, 0, [], Nat.zero_le _, rfl, rfl, by rw [HGE.out]; rfl, World.ownsRow_nil _ _ _ _, by rw [HGE.out]; exact Match.nil_ _, (fun p hp => by cases hp), Below.refl _ _⟩
  case round =>
    obtain ⟨k, m, A2, c2, ps, hk, rfl, rfl, hm, ho, hma, hap, hw⟩ := hrel
    have hmk : m ≤ k := by rw [← hm]; exact HGL.out k
    have HM := Lib.hid hm
    have HO := Lib.hid ho
    have HW := Lib.hid hw
    have HMA := Lib.hid hma
    have HAP := Lib.hid hap
    clear hm ho hw hma hap
    by_cases hlt : k < n
    · obtain ⟨ad, x, rfl, hB, hlx, hx1, hx2, hcx⟩ := HD.out.cells (k := k) (by rw [HN.out]; exact hlt)
      have HE := Lib.hid (plain_next hlx)
      rw [← HGE.out, ← HGE.out] at HE
      obtain ⟨x1, x2⟩ := x
      have HC : Hid (∀ V, Below wr.heap.size wr V → V.cell? (ad.add (k * 2)) = some (.int .u16 (x1 : Int)) ∧ V.cell? ⟨(ad.add (k * 2)).block, (ad.add (k * 2)).off + 1, none⟩ = some (.int .u64 (x2 : Int))) := Lib.hid (fun V hV => hcx V (HW.out.trans (hV.mono HW.out.size)))
      clear hlx hcx
      obtain ⟨d1, d2⟩ := HC.out wr (Below.refl _ _)
      obtain ⟨o1, ho1⟩ : ∃ o : Obj, o = .cells #[.int .u64 1, .int .u64 (x2 : Int)] 57 := ⟨_, rfl⟩
      obtain ⟨o2, ho2⟩ : ∃ o : Obj, o = .cells #[.int .u16 (x1 : Int), .slice (some ⟨wr.heap.size, 0, none⟩) 1 1] 49 := ⟨_, rfl⟩
      have HBW : Hid (Below wr.heap.size wr ((wr.alloc o1).alloc o2).drew) := Lib.hid (bel_drew (bel_alloc _ (bel_alloc _ (Below.refl _ _))))
      have HRU : Hid (RunsAt (wr.alloc o1) (some ⟨wr.heap.size, 0, none⟩) [(1, x2)] 1 1) := Lib.hid (by rw [ho1]; exact run_lit wr _ 1 x2 rfl (by decide) hx2)
      have HB2 : Hid (Below (wr.alloc o1).heap.size (wr.alloc o1) ((wr.alloc o1).alloc o2).drew) := Lib.hid (bel_drew (bel_alloc _ (Below.refl _ _)))
      have HP1 : Hid (PartIs ((wr.alloc o1).alloc o2).drew ((wr.alloc o1).alloc o2).drew.heap.size ⟨x1, some ⟨wr.heap.size, 0, none⟩, 1, 1⟩ (x1, [(1, x2)])) := Lib.hid (by
        have h2 := HRU.out.up HB2.out
        exact ⟨rfl, hx1, h2.len, h2.nil, h2.cap, h2.max, h2.runs⟩)
      have HM1 := Lib.hid ((HMA.out.up HBW.out).snoc HP1.out)
      have HOB := Lib.hid (own_block_lt HO.out)
      have HA1 : Hid (Apart ((wr.alloc o1).alloc o2).drew (ps ++ [⟨x1, some ⟨wr.heap.size, 0, none⟩, 1, 1⟩]) (Value.slice A2 m c2).ownBlock) := Lib.hid (Apart.snoc (HAP.out.up HBW.out.size) (ad := ⟨wr.heap.size, 0, none⟩) rfl (by simp; omega) (fun e => by
        have h1 := HOB.out wr.heap.size e.symm
        omega))
      have HO1 : Hid (((wr.alloc o1).alloc o2).drew.ownsRow w1.heap.size 49 2 (.slice A2 m c2) m (cv ps)) := Lib.hid (Dt.own_kept HO.out HBW.out)
      have HW1 : Hid (Below w1.heap.size w1 ((wr.alloc o1).alloc o2).drew) := Lib.hid (HW.out.trans (HBW.out.mono HW.out.size))
      have HCL : Hid (∀ (j : Nat) (u : Value), (cv [⟨x1, some ⟨wr.heap.size, 0, none⟩, 1, 1⟩])[j]? = some u → ((wr.alloc o1).alloc o2).drew.cell? ((⟨wr.heap.size + 1, 0, none⟩ : Addr).add j) = some u) := Lib.hid (fun j u hu => by
        have h1 := part_at (wr.alloc o1) ⟨x1, some ⟨wr.heap.size, 0, none⟩, 1, 1⟩ j u hu
        rw [ho2]
        have e1 : (wr.alloc o1).heap.size = wr.heap.size + 1 := by simp
        rw [e1] at h1
        exact h1)
      have HCF : Hid (∀ w5 : World, World.grownBy ((wr.alloc o1).alloc o2).drew w5 (Value.slice A2 m c2).ownBlock → Below wr.heap.size wr w5 → True) := Lib.hid (fun _ _ _ => trivial)
      have HCG : Hid (∀ w5 : World, World.grownBy ((wr.alloc o1).alloc o2).drew w5 (Value.slice A2 m c2).ownBlock → w5.cell? (ad.add (k * 2)) = some (.int .u16 (x1 : Int)) ∧ w5.cell? ⟨(ad.add (k * 2)).block, (ad.add (k * 2)).off + 1, none⟩ = some (.int .u64 (x2 : Int))) := Lib.hid (fun w5 hg5 => by
        obtain ⟨e1, e2⟩ := HC.out _ HBW.out
        have hne : some ad.block ≠ (Value.slice A2 m c2).ownBlock := fun e => by
          have h1 := HOB.out ad.block e.symm
          omega
        have hlt2 : ad.block < ((wr.alloc o1).alloc o2).drew.heap.size := Nat.lt_of_lt_of_le hB HW1.out.size
        exact ⟨(hg5.cell_far _ (by rw [Dt.block_add]; exact hlt2) (by rw [Dt.block_add]; exact hne)).trans e1, (hg5.cell_far _ (by show (ad.add (k * 2)).block < _; rw [Dt.block_add]; exact hlt2) (by show some (ad.add (k * 2)).block ≠ _; rw [Dt.block_add]; exact hne)).trans e2⟩)
      have HSR : Hid (∀ (A5 : Option Addr) (c5 : Nat) (w5 : World), w5.ownsRow w1.heap.size 49 2 (.slice A5 (m + 1) c5) (m + 1) (cv (ps ++ [⟨x1, some ⟨wr.heap.size, 0, none⟩, 1, 1⟩])) → World.grownBy ((wr.alloc o1).alloc o2).drew w5 (Value.slice A2 m c2).ownBlock →
          ((Value.slice A5 (m + 1) c5).ownBlock = (Value.slice A2 m c2).ownBlock ∨ (Value.slice A5 (m + 1) c5).ownBlock = some ((wr.alloc o1).alloc o2).drew.heap.size) → SRel w1 n g (.slice A5 (m + 1) c5) (.int .i64 ((k : Int) + 1)) w5) := Lib.hid (fun A5 c5 w5 ho5 hg5 hl5 => by
        refine ⟨k + 1, m + 1, A5, c5, ps ++ [⟨x1, some ⟨wr.heap.size, 0, none⟩, 1, 1⟩], by omega, by go_num, rfl, by rw [HE.out, List.length_append, HM.out]; rfl, ho5, by rw [HE.out]; exact HM1.out.grown hg5 HA1.out, ?_, HW1.out.grown hg5 HW1.out.size (fun j hj => (own_block_lt HO.out j hj).1)⟩
        rcases hl5 with hl5 | hl5
        · rw [hl5]; exact HA1.out.up hg5.size
        · rw [hl5]; exact (HA1.out.turn (Nat.le_refl _)).up hg5.size)
      clear HE HM1 HA1 HP1 HRU HB2 HBW HM HO HW HMA HAP HOB HCF
      subst ho1 ho2
      go_wp2_with fail
      go_region_held3 (fun V => V.cell? (ad.add (k * 2)) = some (.int .u16 (x1 : Int)) ∧ V.cell? ⟨(ad.add (k * 2)).block, (ad.add (k * 2)).off + 1, none⟩ = some (.int .u64 (x2 : Int))) (first | exact ⟨d1, d2⟩ | assumption | exact HC.out _ (by (repeat (first | exact Below.refl _ _ | assumption | apply bel_drew | apply bel_alloc)))) (first
        | (refine step_part rfl (.tmp 13) (.tmp 27) rfl rfl w1.heap.size m (.slice A2 m c2) ps ⟨wr.heap.size + 1, 0, none⟩ ⟨x1, some ⟨wr.heap.size, 0, none⟩, 1, 1⟩ rfl rfl HO1.out HCL.out (by omega) HW1.out.size ?_; intro A5 c5 w5 ho5 hg5 hl5; have hcV := HCG.out w5 hg5))
      all_goals
        have HS := Lib.hid (HSR.out A5 c5 w5 ho5 hg5 hl5)
        clear ho5 hg5 hl5 hcV d1 d2 HSR HO1 HCL HCG HC HW1
        go_wp2
        go_roundw
        case rel => exact HS.out
        case measure => simp [intOf]; omega
    · obtain rfl : n = k := by omega
      rw [HGN.out] at HM HMA
      go_wp2
      go_ret
      exact ⟨A2, m, c2, ps, rfl, HM.out, Dt.own_less HO.out HB.out.size, HMA.out, HB.out.trans (HW.out.mono HB.out.size)⟩
end Go.Proofs.YtegclhgfibfanaaGreat.Cx

/- What the laws of layer ctx ask of contexts. Plain arithmetic; no program is named here. -/
namespace Go.Proofs.YtegclhgfibfanaaGreat.Cx
set_option linter.unusedVariables false

/-- a context in order. -/
def OrdC (c : List Part) : Prop := ∃ f, Tells f ∧ c = listC f
theorem OrdC.fit {c : List Part} (h : OrdC c) : FitC c := by
  obtain ⟨f, h1, rfl⟩ := h
  exact list_fit h1
theorem OrdC.norm {c : List Part} (h : OrdC c) : normC c = c := by
  obtain ⟨f, h1, rfl⟩ := h
  unfold normC
  rw [runs_list h1]
theorem tells_uniq {f g : Nat → List Run} (hf : Tells f) (hg : Tells g) (h : ∀ d n, Ru.has (f d) n = Ru.has (g d) n) : f = g := funext fun d => Ru.uniq (hf.order d) (hg.order d) (h d)
theorem norm_eq {a b : List Part} (ha : FitC a) (hb : FitC b) (h : ∀ d n, Ru.has (runsC a d) n = Ru.has (runsC b d) n) : normC a = normC b := by
  unfold normC
  rw [tells_uniq (tells_runs ha) (tells_runs hb) h]
theorem ord_eq {a b : List Part} (ha : OrdC a) (hb : OrdC b) (h : ∀ d n, Ru.has (runsC a d) n = Ru.has (runsC b d) n) : a = b := by
  rw [← ha.norm, ← hb.norm]
  exact norm_eq ha.fit hb.fit h
theorem ord_set {a b : List Part} (ha : FitC a) (hb : FitC b) (how : Int) : OrdC (setC a b how) := ⟨_, tells_both ha hb how, rfl⟩
theorem ord_norm {a : List Part} (ha : FitC a) : OrdC (normC a) := ⟨_, tells_runs ha, rfl⟩
theorem ord_good {a : List Part} (h : OrdC a) : goodC a = true := decide_eq_true h.norm.symm
theorem ord_nil : OrdC [] := ⟨fun _ => [], ⟨rfl, fun _ _ => rfl, fun _ => Ru.order_nil⟩, by
  unfold listC
  induction List.range Dt.topV with
  | nil => rfl
  | cons d l ih => rw [List.filterMap_cons]; exact ih⟩
theorem list_none {f : Nat → List Run} (h : ∀ d, f d = []) : listC f = [] := by
  unfold listC
  induction List.range Dt.topV with
  | nil => rfl
  | cons d l ih => rw [List.filterMap_cons, show oneC f d = none from if_pos (by rw [h]; rfl)]; exact ih
theorem has_set0 {a b : List Part} (ha : FitC a) (hb : FitC b) (d n : Nat) : Ru.has (runsC (setC a b 0) d) n = (Ru.has (runsC a d) n || Ru.has (runsC b d) n) := by rw [runs_set ha hb]; exact Ru.has0 _ _ _
theorem has_set1 {a b : List Part} (ha : FitC a) (hb : FitC b) (d n : Nat) : Ru.has (runsC (setC a b 1) d) n = (Ru.has (runsC a d) n && Ru.has (runsC b d) n) := by rw [runs_set ha hb]; exact Ru.has1 _ _ _
theorem has_set2 {a b : List Part} (ha : FitC a) (hb : FitC b) (d n : Nat) : Ru.has (runsC (setC a b 2) d) n = (Ru.has (runsC a d) n && !Ru.has (runsC b d) n) := by rw [runs_set ha hb]; exact Ru.has2 _ _ _

/-! CtxLaws. -/
theorem has_join {a b : List Part} (ha : FitC a) (hb : FitC b) (x : Dot) : hasC (setC a b 0) x = (hasC a x || hasC b x) := by
  unfold hasC
  rw [has_set0 ha hb]
  cases Dt.mayD x <;> simp
theorem has_meet {a b : List Part} (ha : FitC a) (hb : FitC b) (x : Dot) : hasC (setC a b 1) x = (hasC a x && hasC b x) := by
  unfold hasC
  rw [has_set1 ha hb]
  cases Dt.mayD x <;> simp
theorem has_minus {a b : List Part} (ha : FitC a) (hb : FitC b) (x : Dot) : hasC (setC a b 2) x = (hasC a x && !hasC b x) := by
  unfold hasC
  rw [has_set2 ha hb]
  cases Dt.mayD x <;> simp
theorem join_turn (a b : List Part) : setC b a 0 = setC a b 0 := by
  unfold setC
  congr 1
  funext d
  exact Ru.join_turn _ _
theorem meet_turn (a b : List Part) : setC b a 1 = setC a b 1 := by
  unfold setC
  congr 1
  funext d
  exact Ru.meet_turn _ _
theorem both_parts {a b : List Part} (ha : FitC a) (hb : FitC b) : sameC (setC (setC a b 2) (setC a b 1) 0) a = true := by
  have h1 := fit_set ha hb 2
  have h2 := fit_set ha hb 1
  refine decide_eq_true (norm_eq (fit_set h1 h2 0) ha fun d n => ?_)
  rw [has_set0 h1 h2, has_set2 ha hb, has_set1 ha hb]
  cases Ru.has (runsC a d) n <;> cases Ru.has (runsC b d) n <;> rfl
theorem within_iff {a b : List Part} (ha : FitC a) (hb : FitC b) (h : ∀ d n, Ru.has (runsC a d) n = true → Ru.has (runsC b d) n = true) : withinC a b = true := by
  refine decide_eq_true (list_none fun d => Ru.empty_of (Ru.set_spec _ _ _).1 fun n => ?_)
  rw [Ru.has2]
  cases h1 : Ru.has (runsC a d) n with
  | false => rfl
  | true => rw [h d n h1]; rfl
theorem within_meet {a b : List Part} (ha : FitC a) (hb : FitC b) : withinC (setC a b 1) b = true := within_iff (fit_set ha hb 1) hb fun d n h => by
  rw [has_set1 ha hb, Bool.and_eq_true] at h
  exact h.2
theorem within_join {a b : List Part} (ha : FitC a) (hb : FitC b) : withinC b (setC a b 0) = true := within_iff hb (fit_set ha hb 0) fun d n h => by
  rw [has_set0 ha hb, h, Bool.or_true]

/-! Sizes. -/
theorem size_list (f : Nat → List Run) (l : List Nat) : ((l.filterMap (oneC f)).map (fun x => Ru.sizeR x.2)).sum = (l.map (fun d => Ru.sizeR (f d))).sum := by
  induction l with
  | nil => rfl
  | cons d l ih =>
    rw [List.filterMap_cons]
    by_cases h : (f d).length = 0
    · rw [show oneC f d = none from if_pos h, List.map_cons, List.sum_cons, List.eq_nil_of_length_eq_zero h, ih]
      simp [Ru.sizeR]
    · rw [show oneC f d = some (d, f d) from if_neg h]
      simp only [List.map_cons, List.sum_cons, ih]
theorem size_sum (c : List Part) : sizeC c = ((List.range Dt.topV).map (fun d => Ru.sizeR (runsC c d))).sum := size_list _ _
theorem sum_two (l : List Nat) (f g : Nat → Nat) : (l.map f).sum + (l.map g).sum = (l.map (fun d => f d + g d)).sum := by
  induction l with
  | nil => rfl
  | cons d l ih => simp only [List.map_cons, List.sum_cons]; omega
theorem size_both {a b : List Run} (ha : Ru.InOrder a) (hb : Ru.InOrder b) : Ru.sizeR (Ru.setL a b 0) + Ru.sizeR (Ru.setL a b 1) = Ru.sizeR a + Ru.sizeR b := by
  have h := Ru.sizes a b
  have e : ∀ l, Ru.InOrder l → Ru.nrm l = l := fun l hl => set_self hl
  rw [e _ (Ru.set_spec a b 0).1, e _ (Ru.set_spec a b 1).1, e a ha, e b hb] at h
  exact h
theorem sizes {a b : List Part} (ha : FitC a) (hb : FitC b) : sizeC (setC a b 0) + sizeC (setC a b 1) = sizeC a + sizeC b := by
  rw [size_sum, size_sum, size_sum, size_sum, sum_two, sum_two, runs_set ha hb, runs_set ha hb]
  congr 2
  funext d
  exact size_both (runs_order a d) (runs_order b d)
theorem sum_less (n : Nat) (f : Nat → Nat) (m : Nat) (h0 : f 0 = 0) (h : ∀ d, f d ≤ m) : ((List.range (n + 1)).map f).sum ≤ n * m := by
  induction n with
  | zero => simp [h0]
  | succ n ih =>
    rw [List.range_succ, List.map_append, List.sum_append]
    have := h (n + 1)
    have e : (n + 1) * m = n * m + m := Nat.succ_mul n m
    simp only [List.map_cons, List.map_nil, List.sum_cons, List.sum_nil]
    omega
theorem size_lt (c : List Part) : sizeC c < 18446744073709551616 := by
  rw [size_sum, Dt.top_eq]
  have h := sum_less 65535 (fun d => Ru.sizeR (runsC c d)) 281474976710656 (by show Ru.sizeR (runsC c 0) = 0; rw [runs_zero]; rfl) (fun d => Ru.size_le (runs_order c d))
  exact Nat.lt_of_le_of_lt h (by decide)

/-! Lists of dots as contexts. -/
theorem ord_of {l : List Dot} (hl : Dt.Fit l) : OrdC (ofC l) := by
  obtain ⟨f, h1, h2, _⟩ := (of_whole l hl).form
  exact ⟨f, h1, h2⟩
theorem dot_may {x : Dot} (h : Dt.mayD x = true) : Ru.mayR (x.2, x.2) = true := by
  have := (Dt.may_iff x).1 h
  exact (Ru.may_iff _).2 ⟨by show 1 ≤ x.2; omega, Nat.le_refl _, by show x.2 ≤ _; omega⟩
theorem has_dot {x : Dot} (h : Dt.mayD x = true) (d n : Nat) : Ru.has (runsC (dotC x) d) n = (decide (x.1 = d) && decide (x.2 = n)) := by
  have hx := (Dt.may_iff x).1 h
  rw [runs_has, show dotC x = [(x.1, [(x.2, x.2)])] from rfl, List.any_cons, List.any_nil, Bool.or_false, Ru.has_one, dot_may h, Bool.true_and]
  by_cases h1 : x.1 = d
  · subst h1
    have h2 : x.1 ≠ 0 := by omega
    by_cases h3 : x.2 = n
    · subst h3; simp [h2]
    · have h4 : ¬ n = x.2 := fun e => h3 e.symm
      simp [h3, h4]
  · simp [h1]
def isDot (d n : Nat) (x : Dot) : Bool := Dt.mayD x && (decide (x.1 = d) && decide (x.2 = n))
theorem has_stepO {o : List Part} (ho : FitC o) {x : Dot} (hx : x.1 < 65536 ∧ x.2 < 18446744073709551616) (d n : Nat) : Ru.has (runsC (stepO o x) d) n = (Ru.has (runsC o d) n || isDot d n x) := by
  unfold stepO isDot
  cases h : Dt.mayD x with
  | false => simp
  | true => rw [if_pos rfl, has_set0 ho (fit_dot hx.1 hx.2), has_dot h, Bool.true_and]
theorem has_of_upto {l : List Dot} (hl : Dt.Fit l) (d n k : Nat) : Ru.has (runsC (ofC (l.take k)) d) n = (l.take k).any (isDot d n) := by
  induction k with
  | zero => show Ru.has (runsC [] d) n = false; rw [runs_nil]; rfl
  | succ k ih =>
    by_cases hk : k < l.length
    · have hg := List.getElem?_eq_getElem hk
      rw [of_next hg, has_stepO (of_most l hl k).fit (hl _ (List.getElem_mem hk)), ih, List.take_add_one, hg, List.any_append]
      simp
    · have e : l.take (k + 1) = l.take k := by rw [List.take_of_length_le (by omega), List.take_of_length_le (by omega)]
      rw [e]; exact ih
theorem has_of {l : List Dot} (hl : Dt.Fit l) (d n : Nat) : Ru.has (runsC (ofC l) d) n = l.any (isDot d n) := by
  have := has_of_upto hl d n l.length
  rwa [List.take_length] at this
theorem fit_app {l m : List Dot} (hl : Dt.Fit l) (hm : Dt.Fit m) : Dt.Fit (l ++ m) := fun x hx => by
  rcases List.mem_append.1 hx with h | h
  · exact hl x h
  · exact hm x h
/-- more dots. -/
theorem set_of {l m : List Dot} (hl : Dt.Fit l) (hm : Dt.Fit m) : setC (ofC l) (ofC m) 0 = ofC (l ++ m) :=
  ord_eq (ord_set (ord_of hl).fit (ord_of hm).fit 0) (ord_of (fit_app hl hm)) fun d n => by
    rw [has_set0 (ord_of hl).fit (ord_of hm).fit, has_of hl, has_of hm, has_of (fit_app hl hm), List.any_append]
theorem of_same {l m : List Dot} (hl : Dt.Fit l) (hm : Dt.Fit m) (h : ∀ x, x ∈ l ↔ x ∈ m) : ofC l = ofC m :=
  ord_eq (ord_of hl) (ord_of hm) fun d n => by
    rw [has_of hl, has_of hm, Bool.eq_iff_iff, List.any_eq_true, List.any_eq_true]
    exact ⟨fun ⟨x, h1, h2⟩ => ⟨x, (h x).1 h1, h2⟩, fun ⟨x, h1, h2⟩ => ⟨x, (h x).2 h1, h2⟩⟩
/-- every place is met once one goes round. -/
theorem round_at {n r i : Nat} (hi : i < n) : ∃ j, j < n ∧ (n - 1 - j + r) % n = i := by
  refine ⟨(n - 1 + r - i) % n, Nat.mod_lt _ (by omega), ?_⟩
  have h1 := Nat.div_add_mod (n - 1 + r - i) n
  have h2 : (n - 1 + r - i) % n < n := Nat.mod_lt _ (by omega)
  generalize (n - 1 + r - i) % n = j at h1 h2 ⊢
  generalize (n - 1 + r - i) / n = q at h1
  have h3 : n - 1 - j + r = i + n * q := by omega
  rw [h3, Nat.add_mul_mod_self_left, Nat.mod_eq_of_lt hi]

/-! Bases. -/
def gapV (c : List Part) (d : Nat) : Nat := Ru.firstR (runsC c d) - 1
theorem first_nil : Ru.firstR [] = 1 := rfl
theorem tells_gap {c : List Part} (hc : FitC c) : Dt.Tells (gapV c) := by
  refine ⟨?_, fun d hd => ?_, fun d => ?_⟩
  · unfold gapV; rw [runs_zero]; rfl
  · unfold gapV; rw [runs_far hc hd]; rfl
  · have := first_max (runs_order c d)
    unfold gapV; omega
theorem base_list {c : List Part} : baseC c = Dt.listV (gapV c) := by
  rw [base_fold]
  unfold normC listC Dt.listV
  rw [List.filterMap_filterMap]
  congr 1
  funext d
  unfold oneC Dt.oneV gapV
  by_cases h : (runsC c d).length = 0
  · rw [if_pos h, List.eq_nil_of_length_eq_zero h]
    rfl
  · rw [if_neg h]
    show lastB (d, runsC c d) = _
    unfold lastB
    by_cases h1 : 1 < Ru.firstR (runsC c d)
    · rw [if_pos h1, if_pos (by omega)]
    · rw [if_neg h1, if_neg (by omega)]
theorem of_base {c : List Part} (hc : FitC c) : Dt.ofV (baseC c) = gapV c := by rw [base_list, Dt.of_list' (tells_gap hc)]
theorem fit_base {c : List Part} (hc : FitC c) : Dt.Fit (baseC c) := by rw [base_list]; exact Dt.list_fit (tells_gap hc)
theorem gap_has {c : List Part} {d n : Nat} (h1 : 1 ≤ n) (h2 : n ≤ gapV c d) : Ru.has (runsC c d) n = true := by
  unfold gapV at h2
  exact (Ru.first_spec (runs_order c d)).2.2 n h1 (by omega)
theorem base_in {c : List Part} (hc : FitC c) {x : Dot} (hx : x ∈ baseC c) : hasC c x = true ∧ hasC c (x.1, x.2 + 1) = false := by
  rw [base_list] at hx
  obtain ⟨h1, h2⟩ := (Dt.list_mem (tells_gap hc) x).1 hx
  have hm := Dt.list_may (tells_gap hc) hx
  have hs := Ru.first_spec (runs_order c x.1)
  constructor
  · unfold hasC
    rw [hm, Bool.true_and]
    exact gap_has (by omega) (by omega)
  · unfold hasC
    have e : x.2 + 1 = Ru.firstR (runsC c x.1) := by unfold gapV at h1 h2; omega
    show (Dt.mayD (x.1, x.2 + 1) && Ru.has (runsC c x.1) (x.2 + 1)) = false
    rw [e, hs.2.1, Bool.and_false]
theorem plain_has {v : List Dot} (hv : Dt.Fit v) (d n : Nat) : Ru.has (runsC (plainC v) d) n = (decide (1 ≤ n) && decide (n ≤ Dt.ofV v d)) := by
  rw [runs_has, Bool.eq_iff_iff]
  simp only [Bool.and_eq_true, decide_eq_true_eq, List.any_eq_true]
  constructor
  · rintro ⟨h0, y, hy, rfl, h2⟩
    obtain ⟨x, hx, rfl⟩ := List.mem_map.1 hy
    obtain ⟨h3, h4⟩ := (Dt.list_mem (Dt.tells_of hv) x).1 hx
    obtain ⟨r, hr, ht⟩ := (Ru.has_iff _ _).1 h2
    obtain rfl := List.mem_singleton.1 hr
    obtain ⟨_, h5, h6⟩ := (Ru.tst_iff _ _).1 ht
    simp only at h5 h6
    exact ⟨h5, by show n ≤ Dt.ofV v x.1; omega⟩
  · rintro ⟨h1, h2⟩
    have hp : 0 < Dt.ofV v d := by omega
    have hlt := Dt.of_lt v d
    have hd : d ≠ 0 := fun e => by rw [e, Dt.of_zero] at hp; omega
    refine ⟨hd, (d, [(1, Dt.ofV v d)]), List.mem_map.2 ⟨(d, Dt.ofV v d), (Dt.list_mem (Dt.tells_of hv) _).2 ⟨hp, rfl⟩, rfl⟩, rfl, ?_⟩
    refine (Ru.has_iff _ _).2 ⟨_, List.mem_singleton.2 rfl, (Ru.tst_iff _ _).2 ⟨(Ru.may_iff _).2 ⟨Nat.le_refl _, ?_, ?_⟩, h1, h2⟩⟩
    · show 1 ≤ Dt.ofV v d; omega
    · show Dt.ofV v d ≤ _; omega
theorem fit_plain {v : List Dot} (hv : Dt.Fit v) : FitC (plainC v) := fun x hx => by
  obtain ⟨y, hy, rfl⟩ := List.mem_map.1 hx
  have := Dt.fit_norm hv y hy
  exact ⟨this.1, fun r hr => by obtain rfl := List.mem_singleton.1 hr; exact ⟨by show 1 < _; omega, this.2⟩⟩
theorem gap_plain {v : List Dot} (hv : Dt.Fit v) (d : Nat) : gapV (plainC v) d = Dt.ofV v d := by
  obtain ⟨h1, h2, h3⟩ := Ru.first_spec (runs_order (plainC v) d)
  unfold gapV
  generalize Ru.firstR (runsC (plainC v) d) = z at h1 h2 h3
  rw [plain_has hv] at h2
  have h4 : ¬ z ≤ Dt.ofV v d := fun h => by rw [decide_eq_true h1, decide_eq_true h] at h2; cases h2
  have h5 : ¬ Dt.ofV v d + 1 < z := fun h => by
    have := h3 (Dt.ofV v d + 1) (by omega) h
    rw [plain_has hv, Bool.and_eq_true, decide_eq_true_eq, decide_eq_true_eq] at this
    omega
  omega
theorem base_plain {v : List Dot} (hv : Dt.Fit v) : baseC (plainC v) = Dt.normV v := by
  rw [base_list, show gapV (plainC v) = Dt.ofV v from funext (gap_plain hv)]
  rfl
theorem norm_base {c : List Part} (hc : FitC c) : Dt.normV (baseC c) = baseC c := by
  unfold Dt.normV
  rw [of_base hc, base_list]
theorem base_plain_base {c : List Part} (hc : FitC c) : baseC (plainC (baseC c)) = baseC c := by rw [base_plain (fit_base hc), norm_base hc]
theorem within_base {c : List Part} (hc : FitC c) : withinC (plainC (baseC c)) c = true := within_iff (fit_plain (fit_base hc)) hc fun d n h => by
  rw [plain_has (fit_base hc), of_base hc, Bool.and_eq_true, decide_eq_true_eq, decide_eq_true_eq] at h
  exact gap_has h.1 h.2

/-! What is in order. -/
theorem ord_rise {c : List Part} (hr : c.Pairwise (fun a b => a.1 < b.1)) (ho : ∀ x ∈ c, Ru.InOrder x.2 ∧ x.2 ≠ [] ∧ 1 ≤ x.1 ∧ x.1 < 65536) : OrdC c := by
  have hf : FitC c := fun x hx => ⟨(ho x hx).2.2.2, fit_runs (ho x hx).1⟩
  have same : ∀ x ∈ c, ∀ y ∈ c, y.1 = x.1 → y = x := fun x hx y hy e => by
    rcases List.getElem_of_mem hx with ⟨i, hi, rfl⟩
    rcases List.getElem_of_mem hy with ⟨j, hj, rfl⟩
    rcases Nat.lt_trichotomy i j with h | h | h
    · have := (List.pairwise_iff_getElem.1 hr) i j hi hj h; omega
    · subst h; rfl
    · have := (List.pairwise_iff_getElem.1 hr) j i hj hi h; omega
  have own : ∀ x ∈ c, runsC c x.1 = x.2 := fun x hx => by
    refine Ru.uniq (runs_order _ _) (ho x hx).1 fun n => ?_
    rw [runs_has, Bool.eq_iff_iff]
    simp only [Bool.and_eq_true, decide_eq_true_eq, List.any_eq_true]
    exact ⟨fun ⟨_, y, hy, e, h⟩ => by rw [same x hx y hy e] at h; exact h, fun h => ⟨by have := (ho x hx).2.2.1; omega, x, hx, rfl, h⟩⟩
  refine ⟨runsC c, tells_runs hf, rise_uniq (fun x => x.1) hr (list_rise _) fun x => ?_⟩
  rw [list_mem (tells_runs hf)]
  constructor
  · intro hx
    exact ⟨(own x hx).symm, by rw [own x hx]; exact (ho x hx).2.1⟩
  · rintro ⟨h1, h2⟩
    have h3 : ∃ y ∈ c, y.1 = x.1 := by
      refine Classical.byContradiction fun h => h2 (runs_empty (.inr fun y hy e => h ⟨y, hy, e⟩))
    obtain ⟨y, hy, e⟩ := h3
    have := own y hy
    rw [e, ← h1] at this
    have e2 : x = y := Prod.ext e.symm this
    rw [e2]; exact hy
end Go.Proofs.YtegclhgfibfanaaGreat.Cx

/- What the walks of layer ctx's laws ask of the program's own functions, and the chapter's example. -/
namespace Go.Proofs.YtegclhgfibfanaaGreat.Cx
open Go.ChangeShapes Go.WideShapes Go.ChangeAt Go.RowKit
set_option linter.unusedVariables false

/-- a slice of dots, that lies in this world. -/
structure DotsAt (w : World) (A : Option Addr) (l : List Dot) (n c : Nat) : Prop where
  len : l.length = n
  nil : A = none → n = 0 ∧ c = 0
  cap : n ≤ c
  max : c ≤ 9223372036854775807
  dots : Dt.Dots w w.heap.size A l
theorem DotsAt.up {w W : World} {A : Option Addr} {l : List Dot} {n c : Nat} (h : DotsAt w A l n c) (hW : Below w.heap.size w W) : DotsAt W A l n c := ⟨h.len, h.nil, h.cap, h.max, h.dots.up hW⟩
theorem DotsAt.fit {w : World} {A : Option Addr} {l : List Dot} {n c : Nat} (h : DotsAt w A l n c) : Dt.Fit l := h.dots.1
def DotsHas (w : World) (m : List Dot) (e : Ending) (w' : World) : Prop := ∃ A n c, e = .returned (.slice A n c) ∧ DotsAt w' A m n c ∧ Below w.heap.size w w'
def RunsHas (w : World) (m : List Run) (e : Ending) (w' : World) : Prop := ∃ A n c, e = .returned (.slice A n c) ∧ RunsAt w' A m n c ∧ Below w.heap.size w w'
theorem dots_has {w w' : World} {m : List Dot} {e : Ending} (hf : Dt.Fit m) (h : Dt.DotPost w m e w') : DotsHas w m e w' := by
  obtain ⟨A, n, c, rfl, hn, hA, h1, h2, hD, _, hb⟩ := Dt.post_dots h hf
  exact ⟨A, n, c, rfl, ⟨hn, hA, h1, h2, hD⟩, hb⟩
theorem runs_has' {w w' : World} {m : List Run} {e : Ending} (hm : Ru.InOrder m) (h : Ru.RunPost w m e w') : RunsHas w m e w' := by
  obtain ⟨A, n, c, rfl, hR, hb, _⟩ := runs_post h hm
  exact ⟨A, n, c, rfl, hR, hb⟩
theorem ctx_has {w w' : World} {m : List Part} {e : Ending} (h : CtxPost w m e w') : CtxHas w m e w' := post_ctx h

/-- how many runs the parts have together. -/
def wC (c : List Part) : Nat := (c.map (fun x => x.2.length)).sum
/-- at most k parts, of at most k runs together. -/
def Wide (k : Nat) (c : List Part) : Prop := c.length ≤ k ∧ wC c ≤ k
theorem Wide.more {k m : Nat} {c : List Part} (h : Wide k c) (hk : k ≤ m) : Wide m c := ⟨Nat.le_trans h.1 hk, Nat.le_trans h.2 hk⟩
theorem small_wide {c : List Part} (h : Small c) : Wide 10000 c := by
  have h1 := small_sum h.2
  have h2 := h.1
  exact ⟨by omega, by unfold wC; omega⟩
theorem sum_le (l : List Nat) {f g : Nat → Nat} (h : ∀ d ∈ l, f d ≤ g d) : (l.map f).sum ≤ (l.map g).sum := by
  induction l with
  | nil => exact Nat.le_refl _
  | cons d l ih =>
    have h1 := h d (List.mem_cons_self ..)
    have h2 := ih (fun e he => h e (List.mem_cons_of_mem _ he))
    simp only [List.map_cons, List.sum_cons]
    omega
theorem sum_spot (l : List Nat) (hn : l.Nodup) (f : Nat → Nat) (d0 k : Nat) : (l.map (fun d => if d0 = d then f d + k else f d)).sum ≤ (l.map f).sum + k := by
  induction l with
  | nil => simp
  | cons d l ih =>
    obtain ⟨h1, h2⟩ := List.nodup_cons.1 hn
    simp only [List.map_cons, List.sum_cons]
    by_cases hd : d0 = d
    · subst hd
      have e : l.map (fun d => if d0 = d then f d + k else f d) = l.map f := List.map_congr_left fun x hx => if_neg (fun e => h1 (by rw [e]; exact hx))
      rw [e, if_pos rfl]
      omega
    · rw [if_neg hd]
      have := ih h2
      omega
theorem runs_total (c : List Part) : ((List.range Dt.topV).map (fun d => (runsC c d).length)).sum ≤ wC c := by
  suffices h : ∀ k, ((List.range Dt.topV).map (fun d => (runsC (c.take k) d).length)).sum ≤ wC (c.take k) by
    have := h c.length
    rwa [List.take_length] at this
  intro k
  induction k with
  | zero => exact Nat.le_trans (Nat.le_of_eq ((Dt.sum_zero _ _).2 fun d _ => rfl)) (Nat.zero_le _)
  | succ k ih =>
    by_cases hk : k < c.length
    · have hg := List.getElem?_eq_getElem hk
      have e : wC (c.take (k + 1)) = wC (c.take k) + c[k].2.length := by
        unfold wC
        rw [List.take_add_one, hg, List.map_append, List.sum_append]; simp
      rw [e]
      refine Nat.le_trans (sum_le _ fun d _ => ?_) (Nat.le_trans (sum_spot (List.range Dt.topV) List.nodup_range (fun d => (runsC (c.take k) d).length) c[k].1 c[k].2.length) (by omega))
      rw [runs_next d hg]
      unfold stepC
      by_cases h1 : c[k].1 = d
      · rw [if_pos h1]
        split
        · have := Ru.set_length0 (runsC (c.take k) d) c[k].2; omega
        · omega
      · rw [if_neg h1, if_neg (fun h => h1 h.1)]
        exact Nat.le_refl _
    · have e : c.take (k + 1) = c.take k := by rw [List.take_of_length_le (by omega), List.take_of_length_le (by omega)]
      rw [e]; exact ih
theorem list_weight {f : Nat → List Run} {g : Nat → Nat} (h : ∀ d, f d ≠ [] → (f d).length ≤ g d + 1) (l : List Nat) : ((l.filterMap (oneC f)).map (fun x => x.2.length)).sum ≤ (l.map g).sum + (l.filterMap (oneC f)).length := by
  induction l with
  | nil => simp
  | cons d l ih =>
    rw [List.filterMap_cons]
    by_cases h0 : (f d).length = 0
    · rw [show oneC f d = none from if_pos h0, List.map_cons, List.sum_cons]
      simp only
      omega
    · rw [show oneC f d = some (d, f d) from if_neg h0]
      have := h d (fun e => h0 (by rw [e]; rfl))
      simp only [List.map_cons, List.sum_cons, List.length_cons]
      omega
theorem weight_set {a b : List Part} (ha : FitC a) (hb : FitC b) (how : Int) (h3 : how = 0 ∨ how = 1 ∨ how = 2) : wC (setC a b how) ≤ wC a + wC b + (a.length + b.length) := by
  have h1 := list_weight (f := fun d => Ru.setL (runsC a d) (runsC b d) how) (g := fun d => (runsC a d).length + (runsC b d).length) (fun d _ => by
    rcases h3 with rfl | rfl | rfl
    · have := Ru.set_length0 (runsC a d) (runsC b d); omega
    · have := Ru.set_length1 (runsC a d) (runsC b d); omega
    · have := Ru.set_length2 (runsC a d) (runsC b d); omega) (List.range Dt.topV)
  rw [← sum_two] at h1
  have h4 := runs_total a
  have h5 := runs_total b
  have h6 := set_len ha hb how
  unfold setC listC at *
  unfold wC at *
  omega
theorem wide_set {k : Nat} {a b : List Part} (ha : FitC a) (hb : FitC b) (wa : Wide k a) (wb : Wide k b) (how : Int) (h3 : how = 0 ∨ how = 1 ∨ how = 2) : Wide (4 * k) (setC a b how) := by
  have h1 := weight_set ha hb how h3
  have h2 := set_len ha hb how
  obtain ⟨h4, h5⟩ := wa
  obtain ⟨h6, h7⟩ := wb
  exact ⟨by omega, by omega⟩

/-- the answers of the program's functions. -/
structure PCtx : Prop where
  norm : ∀ (w : World) (A : Option Addr) (a : List Part) (n c : Nat), CtxAt w A a n c → Wide 67108864 a → Calls Tryz.prog 8 #[.slice A n c] w (CtxHas w (normC a))
  good : ∀ (w : World) (A : Option Addr) (a : List Part) (n c : Nat), CtxAt w A a n c → Wide 67108864 a → Calls Tryz.prog 10 #[.slice A n c] w fun e w' => e = .returned (.bool (goodC a)) ∧ Below w.heap.size w w'
  of : ∀ (w : World) (A : Option Addr) (l : List Dot) (n c : Nat), DotsAt w A l n c → n ≤ 67108864 → Calls Tryz.prog 12 #[.slice A n c] w (CtxHas w (ofC l))
  runs : ∀ (w : World) (A : Option Addr) (a : List Part) (n c d : Nat), CtxAt w A a n c → Wide 67108864 a → d < 65536 → Calls Tryz.prog 15 #[.slice A n c, .int .u16 (d : Int)] w (RunsHas w (runsC a d))
  has : ∀ (w : World) (A : Option Addr) (a : List Part) (n c : Nat) (d : Dot), CtxAt w A a n c → Wide 67108864 a → d.1 < 65536 ∧ d.2 < 18446744073709551616 → Calls Tryz.prog 17 #[.slice A n c, .agg #[.int .u16 (d.1 : Int), .int .u64 (d.2 : Int)]] w fun e w' => e = .returned (.bool (hasC a d)) ∧ Below w.heap.size w w'
  add : ∀ (w : World) (A A2 : Option Addr) (a : List Part) (l : List Dot) (n n2 c c2 : Nat), CtxAt w A a n c → DotsAt w A2 l n2 c2 → Wide 67108864 a → n2 ≤ 67108864 → Calls Tryz.prog 19 #[.slice A n c, .slice A2 n2 c2] w (CtxHas w (setC a (ofC l) 0))
  only : ∀ (w : World) (A : Option Addr) (a : List Part) (n c d : Nat), CtxAt w A a n c → Wide 67108864 a → d < 65536 → Calls Tryz.prog 21 #[.slice A n c, .int .u16 (d : Int)] w (CtxHas w (onlyC a d))
  size : ∀ (w : World) (A : Option Addr) (a : List Part) (n c : Nat), CtxAt w A a n c → Wide 67108864 a → Calls Tryz.prog 23 #[.slice A n c] w fun e w' => e = .returned (.int .u64 ((sizeC a : Nat) : Int)) ∧ Below w.heap.size w w'
  base : ∀ (w : World) (A : Option Addr) (a : List Part) (n c : Nat), CtxAt w A a n c → Wide 67108864 a → Calls Tryz.prog 26 #[.slice A n c] w (DotsHas w (baseC a))
  plain : ∀ (w : World) (A : Option Addr) (l : List Dot) (n c : Nat), DotsAt w A l n c → n ≤ 67108864 → Calls Tryz.prog 28 #[.slice A n c] w (CtxHas w (plainC l))
  join : ∀ (w : World) (A1 A2 : Option Addr) (a b : List Part) (n1 n2 c1 c2 : Nat), CtxAt w A1 a n1 c1 → CtxAt w A2 b n2 c2 → Wide 67108864 a → Wide 67108864 b → Calls Tryz.prog 30 #[.slice A1 n1 c1, .slice A2 n2 c2] w (CtxHas w (setC a b 0))
  meet : ∀ (w : World) (A1 A2 : Option Addr) (a b : List Part) (n1 n2 c1 c2 : Nat), CtxAt w A1 a n1 c1 → CtxAt w A2 b n2 c2 → Wide 67108864 a → Wide 67108864 b → Calls Tryz.prog 31 #[.slice A1 n1 c1, .slice A2 n2 c2] w (CtxHas w (setC a b 1))
  minus : ∀ (w : World) (A1 A2 : Option Addr) (a b : List Part) (n1 n2 c1 c2 : Nat), CtxAt w A1 a n1 c1 → CtxAt w A2 b n2 c2 → Wide 67108864 a → Wide 67108864 b → Calls Tryz.prog 33 #[.slice A1 n1 c1, .slice A2 n2 c2] w (CtxHas w (setC a b 2))
  within : ∀ (w : World) (A1 A2 : Option Addr) (a b : List Part) (n1 n2 c1 c2 : Nat), CtxAt w A1 a n1 c1 → CtxAt w A2 b n2 c2 → Wide 67108864 a → Wide 67108864 b → Calls Tryz.prog 35 #[.slice A1 n1 c1, .slice A2 n2 c2] w fun e w' => e = .returned (.bool (withinC a b)) ∧ Below w.heap.size w w'
  same : ∀ (w : World) (A1 A2 : Option Addr) (a b : List Part) (n1 n2 c1 c2 : Nat), CtxAt w A1 a n1 c1 → CtxAt w A2 b n2 c2 → Wide 67108864 a → Wide 67108864 b → Calls Tryz.prog 37 #[.slice A1 n1 c1, .slice A2 n2 c2] w fun e w' => e = .returned (.bool (sameC a b)) ∧ Below w.heap.size w w'

/-! The document's Same and Eq, of what came out. -/
theorem same_dots (w : World) (A1 A2 : Option Addr) (l m : List Dot) (n1 n2 c1 c2 : Nat) (h1 : DotsAt w A1 l n1 c1) (h2 : DotsAt w A2 m n2 c2) :
    Calls Tryz.prog 25 #[.slice A1 n1 c1, .slice A2 n2 c2] w fun e V => e = .returned (.bool (decide (l = m))) ∧ Below w.heap.size w V := by
  refine (Dt.rsame_any w _ _ A1 A2 l m n1 n2 c1 c2 h1.len h2.len h1.dots h2.dots (Nat.le_trans h1.cap h1.max)).mono ?_
  rintro e V ⟨rfl, k, rfl⟩
  exact ⟨rfl, Ru.below_drewK (Below.refl _ _) k⟩
theorem same_runs (w : World) (A1 A2 : Option Addr) (l m : List Run) (n1 n2 c1 c2 : Nat) (h1 : RunsAt w A1 l n1 c1) (h2 : RunsAt w A2 m n2 c2) :
    Calls Tryz.prog 14 #[.slice A1 n1 c1, .slice A2 n2 c2] w fun e V => e = .returned (.bool (decide (l = m))) ∧ Below w.heap.size w V := by
  refine (Ru.eq_any w _ _ A1 A2 l m n1 n2 c1 c2 h1.len h2.len h1.runs h2.runs (Nat.le_trans h1.cap h1.max)).mono ?_
  rintro e V ⟨rfl, k, rfl⟩
  exact ⟨rfl, Ru.below_drewK (Below.refl _ _) k⟩

/-! The chapter's example. -/
def exC : List Part := [(1, [(1, 2), (4, 4)]), (2, [(2, 2)])]
def exL : List Dot := [(1, 1), (1, 2), (1, 4), (2, 2)]
theorem ex_fit : Dt.Fit exL := by unfold exL Dt.Fit; decide
theorem ex_ord : OrdC exC := by
  refine ord_rise (by unfold exC; simp) fun x hx => ?_
  unfold exC at hx
  simp only [List.mem_cons, List.not_mem_nil, or_false] at hx
  rcases hx with rfl | rfl
  · exact ⟨⟨by decide, by simp⟩, by simp, by decide, by decide⟩
  · exact ⟨⟨by decide, by simp⟩, by simp, by decide, by decide⟩
theorem ex_has (d n : Nat) : Ru.has (runsC exC d) n = (decide (d = 1) && (decide (n = 1) || decide (n = 2) || decide (n = 4)) || decide (d = 2) && decide (n = 2)) := by
  rw [runs_has]
  have h1 : Ru.mayR (1, 2) = true := by decide
  have h2 : Ru.mayR (4, 4) = true := by decide
  have h3 : Ru.mayR (2, 2) = true := by decide
  simp only [exC, List.any_cons, List.any_nil, Ru.has_cons, Ru.has_nil, Ru.tst, h1, h2, h3]
  rw [Bool.eq_iff_iff]
  simp only [Bool.and_eq_true, Bool.or_eq_true, decide_eq_true_eq, Bool.or_false, Bool.true_and]
  omega
theorem ex_of : ofC exL = exC := ord_eq (ord_of ex_fit) ex_ord fun d n => by
  rw [has_of ex_fit, ex_has]
  have h1 : Dt.mayD (1, 1) = true := by decide
  have h2 : Dt.mayD (1, 2) = true := by decide
  have h3 : Dt.mayD (1, 4) = true := by decide
  have h4 : Dt.mayD (2, 2) = true := by decide
  simp only [exL, List.any_cons, List.any_nil, isDot, h1, h2, h3, h4]
  rw [Bool.eq_iff_iff]
  simp only [Bool.and_eq_true, Bool.or_eq_true, decide_eq_true_eq, Bool.or_false, Bool.true_and]
  omega
theorem ex_base : baseC exC = [(1, 2)] := by
  rw [base_fold, ex_ord.norm]
  rfl
theorem ex_one : Dt.Fit [(1, 3)] := by unfold Dt.Fit; decide
theorem ex_more : runsC (setC exC (ofC [(1, 3)]) 0) 1 = [(1, 4)] := by
  refine Ru.uniq (runs_order _ _) ⟨by decide, by simp⟩ fun n => ?_
  rw [has_set0 ex_ord.fit (ord_of ex_one).fit, ex_has, has_of ex_one]
  have h1 : Dt.mayD (1, 3) = true := by decide
  have h2 : Ru.mayR (1, 4) = true := by decide
  simp only [List.any_cons, List.any_nil, isDot, h1, Ru.has_cons, Ru.has_nil, Ru.tst, h2]
  rw [Bool.eq_iff_iff]
  simp only [Bool.and_eq_true, Bool.or_eq_true, decide_eq_true_eq, Bool.or_false, Bool.true_and, true_and]
  omega
theorem ex_wide : Wide 67108864 exC := by unfold Wide wC exC; simp
theorem ex_wide2 : Wide 67108864 (setC exC (ofC [(1, 3)]) 0) := by
  have h1 : Wide 10000 exC := by unfold Wide wC exC; simp
  have h2 := (of_whole _ ex_one).small (k := 1) (by omega)
  exact (wide_set ex_ord.fit (ord_of ex_one).fit h1 (small_wide h2) 0 (.inl rfl)).more (by decide)
theorem lit_dots (w : World) (bl : Nat) (l : List Dot) (cs : Array Value) (hcs : cs.toList = Dt.dv l) (hf : Dt.Fit l) (h : bl = w.heap.size) (hm : l.length ≤ 9223372036854775807) : DotsAt (w.alloc (.cells cs 28)) (some ⟨bl, 0, none⟩) l l.length l.length := by
  subst h
  refine ⟨rfl, (fun h => by cases h), Nat.le_refl _, hm, ⟨hf, fun _ => ⟨_, rfl, by simp, fun j u hu => ?_⟩⟩⟩
  rw [Dt.zero_add, World.cell?_alloc_new]
  rw [← hcs] at hu
  simpa using hu
set_option maxHeartbeats 4000000 in
theorem works_any (P : PCtx) (w : World) : Calls Tryz.prog 6 #[] w fun e w' => e = .returned (.bool true) ∧ Below w.heap.size w w' := by
  have D1 := Lib.hid (lit_dots w w.heap.size exL #[.int .u16 1, .int .u64 1, .int .u16 1, .int .u64 2, .int .u16 1, .int .u64 4, .int .u16 2, .int .u64 2] rfl ex_fit rfl (by decide))
  have B1 : Hid (Below w.heap.size w (w.alloc (.cells #[.int .u16 1, .int .u64 1, .int .u16 1, .int .u64 2, .int .u16 1, .int .u64 4, .int .u16 2, .int .u64 2] 28))) := Lib.hid (Dt.below_new _ _)
  have C14 := Lib.hid (P.of _ _ _ _ _ D1.out (by decide))
  rw [ex_of] at C14
  go_enter Tryz.func6, Tryz.ntmps6
  go_wp2_with fail
  refine C14.out.mono ?_
  rintro e w1 ⟨A, n, c, rfl, hA, hb⟩
  have HA := Lib.hid hA
  have HB := Lib.hid (B1.out.trans (hb.mono B1.out.size))
  have hn : n = 2 := by rw [← hA.len]; rfl
  subst hn
  clear hA hb C14 B1 D1
  have D2 := Lib.hid (lit_dots w1 w1.heap.size [(1, 3)] #[.int .u16 1, .int .u64 3] rfl ex_one rfl (by decide))
  have B2 : Hid (Below w1.heap.size w1 (w1.alloc (.cells #[.int .u16 1, .int .u64 3] 28))) := Lib.hid (Dt.below_new _ _)
  have C21 := Lib.hid (P.add _ _ _ _ _ _ _ _ _ (HA.out.up B2.out) D2.out ex_wide (by decide))
  go_wp2_with fail
  refine C21.out.mono ?_
  rintro e w2 ⟨A2, n2, c2, rfl, hA2, hb2⟩
  have HA2 := Lib.hid hA2
  have HB2 : Hid (Below w1.heap.size w1 w2) := Lib.hid (B2.out.trans (hb2.mono B2.out.size))
  have HA1 := Lib.hid (HA.out.up HB2.out)
  have HW2 : Hid (Below w.heap.size w w2) := Lib.hid (HB.out.trans (HB2.out.mono HB.out.size))
  clear hA2 hb2 C21 D2 B2 HA HB HB2
  have C28 := Lib.hid (P.base w2 _ _ _ _ HA1.out ex_wide)
  rw [ex_base] at C28
  go_wp2_with fail
  refine C28.out.mono ?_
  rintro e w3 ⟨A3, n3, c3, rfl, hA3, hb3⟩
  have D3 := Lib.hid (lit_dots w3 w3.heap.size [(1, 2)] #[.int .u16 1, .int .u64 2] rfl (by unfold Dt.Fit; decide) rfl (by decide))
  have B3 : Hid (Below w3.heap.size w3 (w3.alloc (.cells #[.int .u16 1, .int .u64 2] 28))) := Lib.hid (Dt.below_new _ _)
  have C27 := Lib.hid (same_dots _ _ _ _ _ _ _ _ _ (hA3.up B3.out) D3.out)
  rw [decide_eq_true rfl] at C27
  have HW3 : Hid (Below w.heap.size w (w3.alloc (.cells #[.int .u16 1, .int .u64 2] 28))) := Lib.hid ((HW2.out.trans (hb3.mono HW2.out.size)).trans (B3.out.mono (HW2.out.trans (hb3.mono HW2.out.size)).size))
  have HA4 := Lib.hid (HA2.out.up (hb3.trans (B3.out.mono hb3.size)))
  clear hA3 hb3 C28 D3 B3 HA1 HA2 HW2
  go_wp2_with fail
  refine C27.out.mono ?_
  rintro e w4 ⟨rfl, hb4⟩
  have HA5 := Lib.hid (HA4.out.up hb4)
  have HW4 : Hid (Below w.heap.size w w4) := Lib.hid (HW3.out.trans (hb4.mono HW3.out.size))
  clear hb4 C27 HA4 HW3
  have C17 := Lib.hid (P.runs w4 _ _ _ _ 1 HA5.out ex_wide2 (by decide))
  rw [ex_more] at C17
  go_wp2_with fail
  refine C17.out.mono ?_
  rintro e w5 ⟨A5, n5, c5, rfl, hA5, hb5⟩
  have hn : n5 = 1 := by rw [← hA5.len]; rfl
  subst hn
  have HW5 : Hid (Below w.heap.size w w5) := Lib.hid (HW4.out.trans (hb5.mono HW4.out.size))
  clear hA5 hb5 C17 HA5 HW4
  go_wp2
  go_ret
  exact ⟨rfl, HW5.out⟩
end Go.Proofs.YtegclhgfibfanaaGreat.Cx
