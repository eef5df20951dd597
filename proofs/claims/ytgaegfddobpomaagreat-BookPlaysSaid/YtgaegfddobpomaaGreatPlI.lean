/- Words and contracts that the proofs of this seat stand on, part 9 of 30. -/
import Derived.Test.YtgaegfddobpomaaGreatPlH
import Derived.Shelf.SlSortCmp.QuietGrown
import Derived.Test.YtgaegfddobpomaaGreatPlF
import Derived.Deep.RegionHeld3
import Derived.Deep.RegionLaw
import Derived.Test.YtgaegfddobpomaaGreatPlD

namespace Go.Proofs.YtgaegfddobpomaaGreat.Cx
set_option linter.unusedVariables false
theorem set_len {a b : List Part} (ha : FitC a) (hb : FitC b) (how : Int) : (setC a b how).length ≤ a.length + b.length := by
 unfold setC
 rw [← pick_devs (tells_both ha hb how) (fun d h => set_some d h)]
 have h1 := step_fit a ha [] (fun r hr => by cases hr) a.length
 rw [List.take_length] at h1
 have h2 := step_fit b hb (a.foldl stepP []) h1.1 b.length
 rw [List.take_length] at h2
 have h3 := h1.2
 have h4 := h2.2
 simp only [List.length_nil, Nat.zero_add] at h3
 refine Nat.le_trans (List.length_filterMap_le _ _) ?_
 unfold devsC
 omega
def dotC (x : Dot) : List Part := [(x.1, [(x.2, x.2)])]
theorem fit_dot {x : Dot} (h1 : x.1 < 65536) (h2 : x.2 < 18446744073709551616) : FitC (dotC x) := fun y hy => by
 obtain rfl := List.mem_singleton.1 hy
 exact ⟨h1, fun r hr => by obtain rfl := List.mem_singleton.1 hr; exact ⟨h2, h2⟩⟩
def stepO (o : List Part) (x : Dot) : List Part := if Dt.mayD x = true then setC o (dotC x) 0 else o
theorem of_fold (l : List Dot) : ofC l = l.foldl stepO [] := rfl
theorem of_next {l : List Dot} {k : Nat} {x : Dot} (h : l[k]? = some x) : ofC (l.take (k + 1)) = stepO (ofC (l.take k)) x := by
 rw [of_fold, of_fold, List.take_add_one, h, List.foldl_append]; rfl
structure Most (o : List Part) (k : Nat) : Prop where
 form : ∃ f, Tells f ∧ o = listC f ∧ ∀ d, (f d).length ≤ k
 len : o.length ≤ k
theorem Most.fit {o : List Part} {k : Nat} (h : Most o k) : FitC o := by
 obtain ⟨f, h1, rfl, _⟩ := h.form
 exact list_fit h1
theorem Most.small {o : List Part} {k : Nat} (h : Most o k) (hk : k ≤ 282) : Small o := by
 obtain ⟨f, h1, rfl, h3⟩ := h.form
 refine small_each (Nat.le_trans h.len hk) (fun x hx => ?_)
 obtain ⟨h4, _⟩ := (list_mem h1 x).1 hx
 rw [h4]
 exact Nat.le_trans (h3 _) hk
theorem Most.none_ : Most [] 0 := by
 refine ⟨⟨fun _ => [], ⟨rfl, fun _ _ => rfl, fun _ => Ru.order_nil⟩, ?_, fun _ => Nat.le_refl _⟩, Nat.le_refl _⟩
 unfold listC
 induction List.range Dt.topV with
 | nil => rfl
 | cons d l ih => rw [List.filterMap_cons]; exact ih
theorem Most.more {o : List Part} {k m : Nat} (h : Most o k) (hk : k ≤ m) : Most o m := by
 obtain ⟨f, h1, h2, h3⟩ := h.form
 exact ⟨⟨f, h1, h2, fun d => Nat.le_trans (h3 d) hk⟩, Nat.le_trans h.len hk⟩
theorem Most.step {o : List Part} {k : Nat} (h : Most o k) {x : Dot} (h1 : x.1 < 65536) (h2 : x.2 < 18446744073709551616) : Most (stepO o x) (k + 1) := by
 unfold stepO
 split
 · have hd := fit_dot h1 h2
   refine ⟨⟨fun d => Ru.setL (runsC o d) (runsC (dotC x) d) 0, tells_both h.fit hd 0, rfl, fun d => ?_⟩, Nat.le_trans (set_len h.fit hd 0) ?_⟩
   · obtain ⟨f, h3, h4, h5⟩ := h.form
     have e1 : runsC o d = f d := by rw [h4, runs_list h3]
     have e2 := runs_length (dotC x) d
     have e3 := Ru.set_length0 (runsC o d) (runsC (dotC x) d)
     have e4 := h5 d
     rw [e1] at e3
     have e5 : ((dotC x).map (fun x => x.2.length)).sum = 1 := rfl
     rw [e5] at e2
     show (Ru.setL (runsC o d) (runsC (dotC x) d) 0).length ≤ k + 1
     rw [e1]
     omega
   · have := h.len
     have e : (dotC x).length = 1 := rfl
     omega
 · exact h.more (Nat.le_succ _)
theorem of_most (l : List Dot) (hl : Dt.Fit l) (k : Nat) : Most (ofC (l.take k)) k := by
 induction k with
 | zero => exact Most.none_
 | succ k ih =>
   by_cases hk : k < l.length
   · have hg := List.getElem?_eq_getElem hk
     rw [of_next hg]
     have := hl _ (List.getElem_mem hk)
     exact ih.step this.1 this.2
   · have e : l.take (k + 1) = l.take k := by rw [List.take_of_length_le (by omega), List.take_of_length_le (by omega)]
     rw [e]
     exact ih.more (Nat.le_succ _)
theorem of_whole (l : List Dot) (hl : Dt.Fit l) : Most (ofC l) l.length := by
 have := of_most l hl l.length
 rwa [List.take_length] at this
end Go.Proofs.YtgaegfddobpomaaGreat.Cx

namespace Go.Proofs.YtgaegfddobpomaaGreat.Cx
open Go.ChangeShapes Go.WideShapes Go.ChangeAt Go.RowKit
set_option linter.unusedVariables false
theorem dot_lit (W : World) (x : Dot) (b1 b2 : Nat) (h1 : b1 = W.heap.size) (h2 : b2 = W.heap.size + 1) (hx : x.1 < 65536) (hx2 : x.2 < 18446744073709551616) :
   CtxAt ((W.alloc (.cells #[.int .u64 (x.2 : Int), .int .u64 (x.2 : Int)] 68)).alloc (.cells #[.int .u16 (x.1 : Int), .slice (some ⟨b1, 0, none⟩) 1 1] 71)) (some ⟨b2, 0, none⟩) (dotC x) 1 1 := by
 subst h1 h2
 have hs : (W.alloc (.cells #[.int .u64 (x.2 : Int), .int .u64 (x.2 : Int)] 68)).heap.size = W.heap.size + 1 := by simp
 refine ⟨rfl, (fun h => by cases h), by decide, by decide, [⟨x.1, some ⟨W.heap.size, 0, none⟩, 1, 1⟩], ?_, rfl, ?_⟩
 · intro _
   refine ⟨_, rfl, by simp, fun j u hu => ?_⟩
   rw [← hs]
   exact part_at _ ⟨x.1, some ⟨W.heap.size, 0, none⟩, 1, 1⟩ j u hu
 · intro k p y hp hy
   have hk : k = 0 := by
     rcases Nat.eq_zero_or_pos k with h | h
     · exact h
     · rw [List.getElem?_eq_none (by simp; omega)] at hp; cases hp
   subst hk
   have e1 : p = ⟨x.1, some ⟨W.heap.size, 0, none⟩, 1, 1⟩ := by simpa using hp.symm
   have e2 : y = (x.1, [(x.2, x.2)]) := by simpa [dotC] using hy.symm
   subst e1 e2
   refine ⟨rfl, hx, rfl, (fun h => by cases h), (by show (1 : Nat) ≤ 1; omega), (by show (1 : Nat) ≤ 9223372036854775807; omega), ⟨fun r hr => by obtain rfl := List.mem_singleton.1 hr; exact ⟨hx2, hx2⟩, fun _ => ⟨_, rfl, by simp; omega, fun j u hu => ?_⟩⟩⟩
   have hB := Dt.below_new (W.alloc (.cells #[.int .u64 (x.2 : Int), .int .u64 (x.2 : Int)] 68)) (.cells #[.int .u16 (x.1 : Int), .slice (some ⟨W.heap.size, 0, none⟩) 1 1] 71)
   have e3 : Ru.rv [(x.2, x.2)] = [.int .u64 (x.2 : Int), .int .u64 (x.2 : Int)] := rfl
   rw [e3] at hu
   have hc : (W.alloc (.cells #[.int .u64 (x.2 : Int), .int .u64 (x.2 : Int)] 68)).cell? ((⟨W.heap.size, 0, none⟩ : Addr).add j) = some u := by
     rw [Dt.zero_add, World.cell?_alloc_new]
     simpa using hu
   rw [← hc]
   exact hB.cell (by rw [Dt.block_add]; simp)
theorem CtxAt.drew {w : World} {A : Option Addr} {c : List Part} {n cp : Nat} (h : CtxAt w A c n cp) : CtxAt w.drew A c n cp := h.up ((Below.refl _ _).drew)
theorem rgood_later {w W : World} (d : Dot) (hW : Below w.heap.size w W) : Calls Tryz.prog 75 #[.agg #[.int .u16 (d.1 : Int), .int .u64 (d.2 : Int)]] W fun e V => e = .returned (.bool (Dt.mayD d)) ∧ Below w.heap.size w V :=
 (Dt.rgood_any W d.1 d.2).mono fun _ _ ⟨h1, h2⟩ => ⟨h1, by rw [h2]; exact hW.trans ((Dt.below_new W _).mono hW.size)⟩
theorem made_ctx {w W : World} {f : Nat} {args : Array Value} {m : List Part} (hW : Below w.heap.size w W) (h : Calls Tryz.prog f args W (CtxPost W m)) :
   Calls Tryz.prog f args W fun e V => (∃ A n c, e = .returned (.slice A n c) ∧ CtxAt V A m n c) ∧ Below w.heap.size w V ∧ Below W.heap.size W V :=
 h.mono fun e V hp => by
   obtain ⟨A, n, c, e1, h1, h2⟩ := post_ctx hp
   exact ⟨⟨A, n, c, e1, h1⟩, hW.trans (h2.mono hW.size), h2⟩
def CtxHas (w : World) (m : List Part) (e : Ending) (w' : World) : Prop := ∃ A n c, e = .returned (.slice A n c) ∧ CtxAt w' A m n c ∧ Below w.heap.size w w'
set_option maxHeartbeats 8000000 in
theorem rof_any (w : World) (A0 : Option Addr) (l : List Dot) (n c0 : Nat) (hl : l.length = n) (hb : Dt.Dots w w.heap.size A0 l) (hn : n ≤ 281) :
   Calls Tryz.prog 41 #[.slice A0 n c0] w (CtxHas w (ofC l)) := by
 have HL := Lib.hid hl
 have H1 := Lib.hid hb
 have HM := Lib.hid (of_most l hb.1)
 clear hl hb
 go_enter Tryz.func41, Tryz.ntmps41
 go_wp2_with fail
 go_loopw [3, 4] (fun v i wr => ∃ (k m : Nat) (A : Option Addr) (c : Nat), k ≤ n ∧ i = .int .i64 ((k : Nat) : Int) ∧ v = .slice A m c ∧ CtxAt wr A (ofC (l.take k)) m c ∧ Below w.heap.size w wr) (fun _ i _ => n - (intOf i).toNat)
 case atStart => exact ⟨0, 0, none, 0, Nat.zero_le _, rfl, rfl, CtxAt.none_ w, Below.refl _ _⟩
 case round =>
   obtain ⟨k, m, A, c, hk, rfl, rfl, hc, hw⟩ := hrel
   have HC := Lib.hid hc
   have HW := Lib.hid hw
   clear hc hw
   by_cases hlt : k < n
   · obtain ⟨ad, x, rfl, hB, hlx, hx1, hx2, hcx⟩ := H1.out.cells (k := k) (by rw [HL.out]; exact hlt)
     have HN := Lib.hid (of_next hlx)
     clear hlx
     have hG := rgood_later x (Below.refl wr.heap.size wr)
     obtain ⟨d1, d2⟩ := hcx wr HW.out
     cases hm : Dt.mayD x with
     | true =>
       rw [hm] at hG
       have HS : Hid (ofC (l.take (k + 1)) = setC (ofC (l.take k)) (dotC x) 0) := Lib.hid (by rw [HN.out]; exact if_pos hm)
       have hsm := (HM.out k).small (by omega)
       have hsd : Small (dotC x) := small_each (by show 1 ≤ 282; omega) (fun y hy => by obtain rfl := List.mem_singleton.1 hy; show 1 ≤ 282; omega)
       clear hm HN
       go_wp2_with fail
       refine hG.mono ?_
       rintro e V ⟨rfl, hV⟩
       have HCV := Lib.hid (HC.out.up hV)
       have HWV : Hid (Below w.heap.size w V) := Lib.hid (HW.out.trans (hV.mono HW.out.size))
       have HCX : Hid (∀ U, Below V.heap.size V U → U.cell? (ad.add (k * 2)) = some (.int .u16 (x.1 : Int)) ∧ U.cell? ⟨(ad.add (k * 2)).block, (ad.add (k * 2)).off + 1, none⟩ = some (.int .u64 (x.2 : Int))) := Lib.hid (fun U hU => hcx U (HWV.out.trans (hU.mono HWV.out.size)))
       have A22 := fun W A2 (hW : Below V.heap.size V W) (h2 : CtxAt W A2 (dotC x) 1 1) => made_ctx hW (rjoin_any W A A2 (ofC (l.take k)) (dotC x) m 1 c 1 (HCV.out.up hW) h2 hsm hsd)
       rw [← HS.out] at A22
       clear hV d1 d2 hcx
       obtain ⟨d1, d2⟩ := HCX.out V (Below.refl _ _)
       go_wp2_with fail
       go_region_held3 (fun U => U.cell? (ad.add (k * 2)) = some (.int .u16 (x.1 : Int)) ∧ U.cell? ⟨(ad.add (k * 2)).block, (ad.add (k * 2)).off + 1, none⟩ = some (.int .u64 (x.2 : Int))) (first | exact ⟨d1, d2⟩ | assumption | exact HCX.out _ (by (repeat (first | exact Below.refl _ _ | assumption | apply bel_drew | apply bel_alloc)))) (first
         | (go_at_call 42; (with_reducible refine (A22 _ _ ?_ ?_).mono ?_); (focus (repeat (first | exact Below.refl _ _ | assumption | apply bel_drew | apply bel_alloc))); (focus (first | exact dot_lit _ x _ _ rfl rfl hx1 hx2 | exact (dot_lit _ x _ _ rfl rfl hx1 hx2).drew)); rintro e U ⟨⟨A5, m5, c5, rfl, hU⟩, bv, cv'⟩; have hcV := HCX.out U bv))
       all_goals
         have HU := Lib.hid hU
         have HWU : Hid (Below w.heap.size w U) := Lib.hid (HWV.out.trans (bv.mono HWV.out.size))
         clear hU bv cv' hcV d1 d2 A22
         go_wp2
         go_roundw
         case rel => exact ⟨k + 1, m5, A5, c5, by omega, by go_num, rfl, HU.out, HWU.out⟩
         case measure => simp [intOf]; omega
     | false =>
       rw [hm] at hG
       have HS : Hid (ofC (l.take (k + 1)) = ofC (l.take k)) := Lib.hid (by rw [HN.out]; exact if_neg (by rw [hm]; simp))
       clear hm HN hcx
       go_wp2_with fail
       refine hG.mono ?_
       rintro e V ⟨rfl, hV⟩
       have HCV := Lib.hid (HC.out.up hV)
       have HWV : Hid (Below w.heap.size w V) := Lib.hid (HW.out.trans (hV.mono HW.out.size))
       clear hV d1 d2
       go_wp2
       go_roundw
       case rel => exact ⟨k + 1, m, A, c, by omega, by go_num, rfl, by rw [HS.out]; exact HCV.out, HWV.out⟩
       case measure => simp [intOf]; omega
   · obtain rfl : k = n := by omega
     have e : Hid (l.take k = l) := Lib.hid (List.take_of_length_le (by rw [HL.out]; exact Nat.le_refl _))
     rw [e.out] at HC
     go_wp2
     go_ret
     exact ⟨A, m, c, rfl, HC.out, HW.out⟩
theorem box_at (w : World) (d : Dot) : ∀ V, Below (w.alloc (.cells #[.int .u16 (d.1 : Int), .int .u64 (d.2 : Int)] 35)).heap.size (w.alloc (.cells #[.int .u16 (d.1 : Int), .int .u64 (d.2 : Int)] 35)) V → V.cell? ⟨w.heap.size, 0, none⟩ = some (.int .u16 (d.1 : Int)) ∧ V.cell? ⟨w.heap.size, 1, none⟩ = some (.int .u64 (d.2 : Int)) := by
 intro V hV
 have h1 : (w.alloc (.cells #[.int .u16 (d.1 : Int), .int .u64 (d.2 : Int)] 35)).cell? ⟨w.heap.size, 0, none⟩ = some (.int .u16 (d.1 : Int)) := by simp [go_sem]
 have h2 : (w.alloc (.cells #[.int .u16 (d.1 : Int), .int .u64 (d.2 : Int)] 35)).cell? ⟨w.heap.size, 1, none⟩ = some (.int .u64 (d.2 : Int)) := by simp [go_sem]
 exact ⟨(hV.cell (World.block_lt_of_cell? _ _ h1)).trans h1, (hV.cell (World.block_lt_of_cell? _ _ h2)).trans h2⟩
theorem below_grow (V : World) (n : Nat) (os : Array Obj) : Below V.heap.size V (Sort.grow (V.drewN n) os) :=
 ⟨rfl, rfl, rfl, by show V.heap.size ≤ (V.heap ++ os).size; simp, fun i hi => by show (V.heap ++ os)[i]? = V.heap[i]?; exact Array.getElem?_append_left hi⟩
theorem rgood_g (W : World) (d : Dot) (b : Bool) (hb : Dt.mayD d = b) :
   Calls Tryz.prog 75 #[.agg #[.int .u16 (d.1 : Int), .int .u64 (d.2 : Int)]] W fun e w' => e = .returned (.bool b) ∧ ∃ q os', w' = Sort.grow (W.drewN q) os' :=
 (Dt.rgood_any W d.1 d.2).mono fun _ _ ⟨h1, h2⟩ => ⟨by rw [h1, ← hb], 0, _, h2.trans (Sort.alloc_eq_grow _ _)⟩
set_option maxHeartbeats 8000000 in
theorem rhas_any (w : World) (A1 : Option Addr) (a : List Part) (n1 c1 : Nat) (d : Dot) (h1 : CtxAt w A1 a n1 c1) (s1 : Small a) (hd : d.1 < 65536 ∧ d.2 < 18446744073709551616) :
   Calls Tryz.prog 31 #[.slice A1 n1 c1, .agg #[.int .u16 (d.1 : Int), .int .u64 (d.2 : Int)]] w fun e w' => e = .returned (.bool (hasC a d)) ∧ Below w.heap.size w w' := by
 have HB : Hid (Below w.heap.size w (w.alloc (.cells #[.int .u16 (d.1 : Int), .int .u64 (d.2 : Int)] 35))) := Dt.below_new _ _
 have HX := Lib.hid (box_at w d)
 have H1 := Lib.hid (h1.up HB.out)
 have S1 := Lib.hid s1
 have HD := Lib.hid hd
 clear h1 s1 hd
 cases hm : Dt.mayD d with
 | false =>
   have hh : hasC a d = false := by unfold hasC; rw [hm]; rfl
   rw [hh]
   go_enter Tryz.func31, Tryz.ntmps31
   go_wp2_with fail
   generalize w.alloc (.cells #[.int .u16 (d.1 : Int), .int .u64 (d.2 : Int)] 35) = w0 at HB HX H1 ⊢
   have hmx : Tryz.prog.follows .mixedOrders = true := by kernel_rfl
   have g1 : ∀ n os, (Sort.grow (w0.drewN n) os).cell? ⟨w.heap.size, 0, none⟩ = some (.int .u16 (d.1 : Int)) := fun n os => (HX.out _ (below_grow w0 n os)).1
   have g2 : ∀ n os, (Sort.grow (w0.drewN n) os).cell? ⟨w.heap.size, 1, none⟩ = some (.int .u64 (d.2 : Int)) := fun n os => (HX.out _ (below_grow w0 n os)).2
   have ct := fun W => rgood_g W d false hm
   clear hm hh H1
   refine wp_region_quiet_grown hmx (by kernel_rfl) ?_
   repeat (
     (with_reducible refine wpQuiet_step (fun K hK => ?_))
     go_simp
     first
       | ((with_reducible refine hK _ ?_); clear hK K)
       | ((rw [if_neg (fun h => by cases h)]); (with_reducible refine hK _ ?_); clear hK K)
       | (apply Exists.intro; refine ⟨fun _ => ?_, hK _ ?_⟩; (go_at_call 75; refine Calls.grown_of (ct _)); clear hK K))
   with_reducible refine wpQuiet_nil ?_
   intro _ hw'
   obtain ⟨⟨nq, osq⟩, hw''⟩ := hw'
   subst hw''
   have HE : Hid (Below w.heap.size w (Sort.grow (w0.drewN nq) osq)) := Lib.hid (HB.out.trans ((below_grow w0 nq osq).mono HB.out.size))
   generalize Sort.grow (w0.drewN nq) osq = V at HE ⊢
   clear g1 g2 ct
   go_wp2
   go_ret
   exact ⟨rfl, HE.out⟩
 | true =>
   have hh : hasC a d = Ru.has (runsC a d.1) d.2 := by unfold hasC; rw [hm, Bool.true_and]
   rw [hh]
   clear hh
   obtain ⟨r, hr⟩ : ∃ r, Ru.has (runsC a d.1) d.2 = r := ⟨_, rfl⟩
   rw [hr]
   have HR := Lib.hid hr
   clear hr
   go_enter Tryz.func31, Tryz.ntmps31
   go_wp2_with fail
   generalize w.alloc (.cells #[.int .u16 (d.1 : Int), .int .u64 (d.2 : Int)] 35) = w0 at HB HX H1 ⊢
   have A42 := fun W (hW : Below w0.heap.size w0 W) => rgood_later d hW
   rw [hm] at A42
   have A18 := fun W (hW : Below w0.heap.size w0 W) => made_runs hW (runs_order a d.1) (rruns_any W A1 a n1 c1 d.1 (H1.out.up hW) S1.out)
   have A44 := fun W A n c (hW : Below w0.heap.size w0 W) (h : RunsAt W A (runsC a d.1) n c) => (Ru.has_any W W.heap.size A (runsC a d.1) n c d.2 h.len h.runs (Nat.le_refl _) (Nat.le_trans h.cap h.max) HD.out.2).mono (R' := fun e V => e = .returned (.bool (Ru.has (runsC a d.1) d.2)) ∧ Below w0.heap.size w0 V) (fun _ _ ⟨h1, h2⟩ => ⟨h1, hW.trans (h2.mono hW.size)⟩)
   clear hm
   rw [HR.out] at A44
   clear HR
   obtain ⟨x1, x2⟩ := HX.out _ (Below.refl _ _)
   go_region_held3 (fun V => V.cell? ⟨w.heap.size, 0, none⟩ = some (.int .u16 (d.1 : Int)) ∧ V.cell? ⟨w.heap.size, 1, none⟩ = some (.int .u64 (d.2 : Int))) (first | exact ⟨x1, x2⟩ | assumption | exact HX.out _ (by (repeat (first | exact Below.refl _ _ | assumption | apply bel_drew | apply bel_alloc)))) (first
     | (go_at_call 75; (with_reducible refine (A42 _ ?_).mono ?_); (focus (repeat (first | exact Below.refl _ _ | assumption | apply bel_drew | apply bel_alloc))); rintro e V ⟨rfl, bv⟩; have hcV := HX.out V bv)
     | (go_at_call 77; (with_reducible refine (A18 _ ?_).mono ?_); (focus (repeat (first | exact Below.refl _ _ | assumption | apply bel_drew | apply bel_alloc))); rintro e V ⟨A, n, c, rfl, hA, bv, cv'⟩; have hcV := HX.out V bv)
     | (go_at_call 76; (with_reducible refine (A44 _ _ _ _ ?_ ?_).mono ?_); (focus (repeat (first | exact Below.refl _ _ | assumption | apply bel_drew | apply bel_alloc))); (focus exact hA); rintro e V ⟨rfl, bv⟩; have hcV := HX.out V bv))
   all_goals
     go_wp2
     go_ret
     exact ⟨rfl, HB.out.trans (bv.mono HB.out.size)⟩
def fewC (c : List Part) : Bool := decide (c.length ≤ 30 ∧ ∀ x ∈ c, x.2.length ≤ 30)
theorem few_is {c : List Part} (h : fewC c = true) : Small c := by
 obtain ⟨h1, h2⟩ := of_decide_eq_true h
 exact small_each (by omega) (fun x hx => by have := h2 x hx; omega)
set_option maxHeartbeats 4000000 in
theorem rfew_any (w : World) (A1 : Option Addr) (a : List Part) (n1 c1 : Nat) (h1 : CtxAt w A1 a n1 c1) :
   Calls Tryz.prog 25 #[.slice A1 n1 c1] w fun e w' => e = .returned (.bool (fewC a)) ∧ Below w.heap.size w w' := by
 have H1 := Lib.hid h1
 have hmx := few_small h1
 clear h1
 by_cases h30 : 30 < n1
 · have d1 : decide ((30 : Int) < (n1 : Int)) = true := decide_eq_true (by omega)
   have hh : Hid (fewC a = false) := Lib.hid (decide_eq_false (fun h => by have := h.1; rw [H1.out.len] at this; omega))
   go_enter Tryz.func25, Tryz.ntmps25
   go_wp2
   go_ret
   exact ⟨Dt.ret_bool hh.out.symm, Below.refl _ _⟩
 · have d1 : decide ((30 : Int) < (n1 : Int)) = false := decide_eq_false (by omega)
   go_enter Tryz.func25, Tryz.ntmps25
   go_wp2_with fail
   go_loopw [3] (fun i wr => ∃ k : Nat, k ≤ n1 ∧ i = .int .i64 (k : Int) ∧ (∀ x ∈ a.take k, x.2.length ≤ 30) ∧ Below w.heap.size w wr) (fun i _ => n1 - (intOf i).toNat)
   case atStart => exact ⟨0, Nat.zero_le _, rfl, (fun x hx => by simp at hx), Below.refl _ _⟩
   case round =>
     obtain ⟨k, hk, rfl, ht, hw⟩ := hrel
     have HT := Lib.hid ht
     have HW := Lib.hid hw
     clear ht hw
     by_cases hlt : k < n1
     · obtain ⟨ad, p, x, rfl, hB, hx, hp, hcell⟩ := H1.out.cells hlt
       obtain ⟨x1, x2⟩ := hcell wr HW.out
       have HX := Lib.hid hx
       have hpl := hp.len
       have hpc : p.len ≤ 9223372036854775807 := Nat.le_trans hp.cap hp.max
       clear hx hp hcell
       by_cases hl : 30 < p.len
       · have d2 : decide ((30 : Int) < (p.len : Int)) = true := decide_eq_true (by omega)
         have hh : Hid (fewC a = false) := Lib.hid (decide_eq_false (fun h => by have := h.2 x (List.mem_of_getElem? HX.out); omega))
         clear hpl
         go_wp2
         go_ret
         exact ⟨Dt.ret_bool hh.out.symm, HW.out⟩
       · have d2 : decide ((30 : Int) < (p.len : Int)) = false := decide_eq_false (by omega)
         have HS : Hid (∀ y ∈ a.take (k + 1), y.2.length ≤ 30) := Lib.hid (fun y hy => by
           rw [List.take_add_one, HX.out] at hy
           rcases List.mem_append.1 hy with hy | hy
           · exact HT.out y hy
           · have : y = x := by simpa using hy
             subst this; omega)
         clear hpl
         go_wp2
         go_roundw
         case rel => exact ⟨k + 1, by omega, by go_num, HS.out, HW.out⟩
         case measure => simp [intOf]; omega
     · obtain rfl : k = n1 := by omega
       have hh : Hid (fewC a = true) := Lib.hid (decide_eq_true ⟨by rw [H1.out.len]; omega, fun x hx => HT.out x (by rw [List.take_of_length_le (by rw [H1.out.len]; exact Nat.le_refl _)]; exact hx)⟩)
       go_wp2
       go_ret
       exact ⟨Dt.ret_bool hh.out.symm, HW.out⟩
end Go.Proofs.YtgaegfddobpomaaGreat.Cx

namespace Go.Proofs.YtgaegfddobpomaaGreat.Kl
open Go.ChangeShapes Go.WideShapes Go.ChangeAt Go.RowKit
set_option linter.unusedVariables false
set_option maxRecDepth 4000
def stripE (c : List Cx.Part) (x : Ev.Evt) : Ev.Evt := if Cx.hasC c x.dot = true then ⟨x.dot, x.kind, x.cid, x.fld, x.txt, []⟩ else x
def OnePost (w : World) (x : Ev.Evt) (e : Ending) (w' : World) : Prop := ∃ q : Ev.EV, e = .returned q.val ∧ Ev.EventIs w' w'.heap.size q x ∧ Below w.heap.size w w'
structure PKl : Prop where
 editF : ∀ (w : World) (A : Option Addr) (l : List Ev.Evt) (n c cid f : Nat), Ev.EventsAt w w.heap.size A l n c → n ≤ 1024 → (∀ x ∈ l, x.kills.length ≤ 1024) → cid < 18446744073709551616 → f < 256 → Calls Tryz.prog 96 #[.slice A n c, .int .u64 (cid : Int), .int .u8 (f : Int)] w (DotsFar w (Ev.dotsE (l.filter (editB cid f))))
 delF : ∀ (w : World) (A : Option Addr) (l : List Ev.Evt) (n c cid : Nat), Ev.EventsAt w w.heap.size A l n c → n ≤ 1024 → (∀ x ∈ l, x.kills.length ≤ 1024) → cid < 18446744073709551616 → Calls Tryz.prog 95 #[.slice A n c, .int .u64 (cid : Int)] w (DotsFar w (Ev.dotsE (l.filter (delB cid))))
 liveF : ∀ (w : World) (A : Option Addr) (l : List Ev.Evt) (n c : Nat), Ev.EventsAt w w.heap.size A l n c → n ≤ 1024 → (∀ x ∈ l, x.kills.length ≤ 65536) → Calls Tryz.prog 112 #[.slice A n c] w (EvFar w (liveE l))
 keep : ∀ (w : World) (A A2 : Option Addr) (l : List Dt.Dot) (x : List Cx.Part) (n c n2 c2 : Nat), Ev.DotsAt w w.heap.size A l n c → Cx.CtxAt w A2 x n2 c2 → n ≤ 1024 → Cx.fewC x = true → Calls Tryz.prog 99 #[.slice A n c, .slice A2 n2 c2] w (Ev.DPost w (Dt.sortD (l.filter (Cx.hasC x))))
def worksA : Ev.Evt := ⟨(1, 1), 1, 5, 1, ⟨#[]⟩, []⟩
def worksB : Ev.Evt := ⟨(1, 2), 1, 5, 1, ⟨#[]⟩, [(1, 1)]⟩
structure Row2 (W : World) (g : Nat) : Prop where
 c0 : W.cell? ⟨g, 0, none⟩ = some (.int .u16 1)
 c1 : W.cell? ⟨g, 1, none⟩ = some (.int .u64 1)
 c2 : W.cell? ⟨g, 2, none⟩ = some (.int .u16 1)
 c3 : W.cell? ⟨g, 3, none⟩ = some (.int .u64 2)
def At (w : World) (g : Nat) (t : TypeId) (cs : Array Value) : Prop := w.heap[g]? = some (.cells cs t (0, 0))
theorem At.lt {w : World} {g : Nat} {t : TypeId} {cs : Array Value} (h : At w g t cs) : g < w.heap.size := by
 rcases Nat.lt_or_ge g w.heap.size with hl | hl
 · exact hl
 · unfold At at h; rw [Array.getElem?_eq_none hl] at h; cases h
theorem At.cell {w : World} {g : Nat} {t : TypeId} {cs : Array Value} (h : At w g t cs) (i : Nat) : w.cell? ⟨g, i, none⟩ = cs[i]? := cell_of_row w g i cs t (0, 0) h
theorem At.frozen {w : World} {g : Nat} {t : TypeId} {cs : Array Value} (h : At w g t cs) (i : Nat) : w.frozen? ⟨g, i, none⟩ = false := by
 unfold At at h
 simp [World.frozen?, h]
theorem At.new (w : World) (t : TypeId) (cs : Array Value) : At (w.alloc (.cells cs t)) w.heap.size t cs := heap_alloc_new w _
theorem At.below {w w' : World} {g B : Nat} {t : TypeId} {cs : Array Value} (h : At w g t cs) (hb : Below B w w') (hg : g < B) : At w' g t cs := (hb.block g hg).trans h
theorem At.set {w : World} {g : Nat} {t : TypeId} {cs : Array Value} (h : At w g t cs) (i : Nat) (u : Value) : At (w.setCell ⟨g, i, none⟩ u) g t (cs.setIfInBounds i u) := by
 unfold At at h ⊢
 simp [World.setCell, Array.getElem?_modify, h]
theorem At.other {w : World} {g h i : Nat} {t : TypeId} {cs : Array Value} (k : At w g t cs) (hne : g ≠ h) (u : Value) : At (w.setCell ⟨h, i, none⟩ u) g t cs := (Below.heap_setCell w ⟨h, i, none⟩ u g (fun e => hne e)).trans k
theorem bel_set {w V : World} {g i : Nat} (h : Below w.heap.size w V) (hg : w.heap.size ≤ g) (u : Value) : Below w.heap.size w (V.setCell ⟨g, i, none⟩ u) := h.setCell hg u
abbrev ebox (q : Ev.EV) : Array Value := #[.int .u16 (q.dev : Int), .int .u64 (q.num : Int), .int .u8 (q.kind : Int), .int .u64 (q.cid : Int), .int .u8 (q.fld : Int), .string q.txt, .slice q.adr q.len q.cap]
abbrev zcells : Array Value := #[.int .u16 0, .int .u64 0, .int .u8 0, .int .u64 0, .int .u8 0, .string ⟨#[]⟩, .slice none 0 0]
theorem ev_cells {V : World} {g : Nat} {q : Ev.EV} (h : At V g 38 (ebox q)) : V.cell? ⟨g, 0, none⟩ = some (.int .u16 (q.dev : Int)) ∧ V.cell? ⟨g, 1, none⟩ = some (.int .u64 (q.num : Int)) ∧ V.cell? ⟨g, 2, none⟩ = some (.int .u8 (q.kind : Int)) ∧ V.cell? ⟨g, 3, none⟩ = some (.int .u64 (q.cid : Int)) ∧ V.cell? ⟨g, 4, none⟩ = some (.int .u8 (q.fld : Int)) ∧ V.cell? ⟨g, 5, none⟩ = some (.string q.txt) ∧ V.cell? ⟨g, 6, none⟩ = some (.slice q.adr q.len q.cap) :=
 ⟨h.cell 0, h.cell 1, h.cell 2, h.cell 3, h.cell 4, h.cell 5, h.cell 6⟩
theorem ev_bare {w : World} {B : Nat} {q : Ev.EV} {e : Ev.Evt} (h : Ev.EventIs w B q e) : Ev.EventIs w B ⟨q.dev, q.num, q.kind, q.cid, q.fld, q.txt, none, 0, 0⟩ ⟨e.dot, e.kind, e.cid, e.fld, e.txt, []⟩ :=
 ⟨h.dev, h.num, h.kind, h.cid, h.fld, h.txt, ⟨h.fits.dot, h.fits.kind, h.fits.cid, h.fits.fld, h.fits.txt⟩, Ev.DotsAt.none_ _ _⟩
theorem strip_done {w V : World} (h : Below w.heap.size w V) (u0 u1 u2 u3 u4 u5 u6 : Value) : Below w.heap.size w (((((((V.setCell ⟨w.heap.size + 1, 0, none⟩ u0).setCell ⟨w.heap.size + 1, 1, none⟩ u1).setCell ⟨w.heap.size + 1, 2, none⟩ u2).setCell ⟨w.heap.size + 1, 3, none⟩ u3).setCell ⟨w.heap.size + 1, 4, none⟩ u4).setCell ⟨w.heap.size + 1, 5, none⟩ u5).setCell ⟨w.heap.size + 1, 6, none⟩ u6) :=
 bel_set (bel_set (bel_set (bel_set (bel_set (bel_set (bel_set h (Nat.le_succ _) u0) (Nat.le_succ _) u1) (Nat.le_succ _) u2) (Nat.le_succ _) u3) (Nat.le_succ _) u4) (Nat.le_succ _) u5) (Nat.le_succ _) u6
end Go.Proofs.YtgaegfddobpomaaGreat.Kl

namespace Go.Proofs.YtgaegfddobpomaaGreat.Bk
open Go.ChangeShapes Go.WideShapes Go.ChangeAt Go.RowKit Go.Proofs.YtgaegfddobpomaaGreat.Kl
set_option linter.unusedVariables false
set_option maxRecDepth 4000
def BkPost (w : World) (c : List Cx.Part) (l : List Ev.Evt) (e : Ending) (w' : World) : Prop := ∃ A1 n1 c1 A2 n2 c2, e = .returned (.agg #[.slice A1 n1 c1, .slice A2 n2 c2]) ∧ Cx.CtxAt w' A1 c n1 c1 ∧ Ev.EventsAt w' w'.heap.size A2 l n2 c2 ∧ Below w.heap.size w w'
theorem two_set {w V : World} {g : Nat} (hb : Below w.heap.size w V) (hg : w.heap.size ≤ g) (u0 u1 : Value) : Below w.heap.size w ((V.setCell ⟨g, 0, none⟩ u0).setCell ⟨g, 1, none⟩ u1) := bel_set (bel_set hb hg u0) hg u1
theorem at_nonum {w : World} {g : Nat} {T : TypeId} {cs : Array Value} (h : At w g T cs) (hcs : ∀ v ∈ cs, isNum v = false) : NoNum w (· = g) := fun k hk i u hu => by
 subst hk
 rw [h.cell i] at hu
 exact hcs u (Array.mem_of_getElem? hu)
theorem sl_nonum (A1 A2 : Option Addr) (n1 c1 n2 c2 : Nat) : ∀ v ∈ (#[.slice A1 n1 c1, .slice A2 n2 c2] : Array Value), isNum v = false := fun v hv => by
 simp at hv
 rcases hv with rfl | rfl <;> rfl
theorem two_off {V : World} {g : Nat} {T : TypeId} {A1 A2 : Option Addr} {n1 c1 n2 c2 : Nat} (hA : At V g T #[.slice A1 n1 c1, .slice A2 n2 c2]) (B1 B2 : Option Addr) (m1 d1 m2 d2 : Nat) :
   Off (· = g) V ((V.setCell ⟨g, 0, none⟩ (.slice B1 m1 d1)).setCell ⟨g, 1, none⟩ (.slice B2 m2 d2)) ∧ NoNum V (· = g) ∧ At ((V.setCell ⟨g, 0, none⟩ (.slice B1 m1 d1)).setCell ⟨g, 1, none⟩ (.slice B2 m2 d2)) g T #[.slice B1 m1 d1, .slice B2 m2 d2] :=
 ⟨(off_set V g 0 _).trans (off_set _ g 1 _), at_nonum hA (sl_nonum _ _ _ _ _ _), (hA.set 0 _).set 1 _⟩
theorem later_ctx {f : FuncId} {args : Array Value} {w W : World} {m : List Cx.Part} (hW : Below w.heap.size w W) (h : Calls Tryz.prog f args W (Cx.CtxPost W m)) :
   Calls Tryz.prog f args W fun e V => ∃ A n c, e = .returned (.slice A n c) ∧ Cx.CtxAt V A m n c ∧ Below w.heap.size w V := h.mono fun e V hp => by
 obtain ⟨A, n, c, h1, h2, h3⟩ := Cx.post_ctx hp
 exact ⟨A, n, c, h1, h2, hW.trans (h3.mono hW.size)⟩
set_option maxHeartbeats 8000000 in
theorem rsee_any (w : World) (A1 A2 A3 : Option Addr) (a c : List Cx.Part) (l : List Ev.Evt) (n1 c1 n2 c2 n3 c3 : Nat) (ha : Cx.CtxAt w A1 a n1 c1) (hl : Ev.EventsAt w w.heap.size A2 l n2 c2) (hc : Cx.CtxAt w A3 c n3 c3) (s1 : Cx.Small a) (s2 : Cx.Small c) :
   Calls Tryz.prog 16 #[.agg #[.slice A1 n1 c1, .slice A2 n2 c2], .slice A3 n3 c3] w (BkPost w (Cx.setC a c 0) l) := by
 have HB := Lib.hid (Ev.bel_alloc (bbox none none 0 0 0 0) (Ev.below_new w (bbox A1 A2 n1 c1 n2 c2)))
 have R0 : Hid (At ((w.alloc (bbox A1 A2 n1 c1 n2 c2)).alloc (bbox none none 0 0 0 0)) w.heap.size 31 #[.slice A1 n1 c1, .slice A2 n2 c2]) := Lib.hid ((At.new w _ _).below (Ev.below_new _ _) (by simp))
 have R1 : Hid (At ((w.alloc (bbox A1 A2 n1 c1 n2 c2)).alloc (bbox none none 0 0 0 0)) (w.heap.size + 1) 31 #[.slice none 0 0, .slice none 0 0]) := Lib.hid (by have h := At.new (w.alloc (bbox A1 A2 n1 c1 n2 c2)) 31 #[.slice none 0 0, .slice none 0 0]; rw [Ev.alloc_size] at h; exact h)
 have HLO := Lib.hid hl
 have HA := Lib.hid (ha.up HB.out)
 have HC := Lib.hid (hc.up HB.out)
 have S1 := Lib.hid s1
 have S2 := Lib.hid s2
 clear hl ha hc s1 s2
 simp only [bbox] at HB R0 R1 HA HC
 go_enter Tryz.func16, Tryz.ntmps16
 go_upto_region 1 with fail
 generalize (w.alloc (.cells #[.slice A1 n1 c1, .slice A2 n2 c2] 31)).alloc (.cells #[.slice none 0 0, .slice none 0 0] 31) = w2 at *
 have hg0 := R0.out.lt
 have hg1 := R1.out.lt
 have HK : Hid (∀ V, Below w2.heap.size w2 V → V.cell? ⟨w.heap.size, 0, none⟩ = some (.slice A1 n1 c1) ∧ V.cell? ⟨w.heap.size, 1, none⟩ = some (.slice A2 n2 c2)) := Lib.hid (fun V hV => ⟨(R0.out.below hV hg0).cell 0, (R0.out.below hV hg0).cell 1⟩)
 have HKS : Hid (∀ V u0 u1, Below w2.heap.size w2 V → ((V.setCell ⟨w.heap.size + 1, 0, none⟩ u0).setCell ⟨w.heap.size + 1, 1, none⟩ u1).cell? ⟨w.heap.size, 0, none⟩ = some (.slice A1 n1 c1) ∧ ((V.setCell ⟨w.heap.size + 1, 0, none⟩ u0).setCell ⟨w.heap.size + 1, 1, none⟩ u1).cell? ⟨w.heap.size, 1, none⟩ = some (.slice A2 n2 c2)) := Lib.hid (fun V u0 u1 hV => by
   have h := ((R0.out.below hV hg0).other (h := w.heap.size + 1) (i := 0) (by omega) u0).other (h := w.heap.size + 1) (i := 1) (by omega) u1
   exact ⟨h.cell 0, h.cell 1⟩)
 have HR : Hid (∀ V u0, Below w2.heap.size w2 V → V.cell? ⟨w.heap.size + 1, 0, none⟩ = some (.slice none 0 0) ∧ V.frozen? ⟨w.heap.size + 1, 0, none⟩ = false ∧ (V.setCell ⟨w.heap.size + 1, 0, none⟩ u0).cell? ⟨w.heap.size + 1, 1, none⟩ = some (.slice none 0 0) ∧ (V.setCell ⟨w.heap.size + 1, 0, none⟩ u0).frozen? ⟨w.heap.size + 1, 1, none⟩ = false) := Lib.hid (fun V u0 hV => by
   have h := R1.out.below hV hg1
   have h2 := h.set 0 u0
   exact ⟨h.cell 0, h.frozen 0, h2.cell 1, h2.frozen 1⟩)
 have HFIN : Hid (∀ V u0 u1, Below w2.heap.size w2 V → ((V.setCell ⟨w.heap.size + 1, 0, none⟩ u0).setCell ⟨w.heap.size + 1, 1, none⟩ u1).cell? ⟨w.heap.size + 1, 0, none⟩ = some u0 ∧ ((V.setCell ⟨w.heap.size + 1, 0, none⟩ u0).setCell ⟨w.heap.size + 1, 1, none⟩ u1).cell? ⟨w.heap.size + 1, 1, none⟩ = some u1) := Lib.hid (fun V u0 u1 hV => by
   have h := ((R1.out.below hV hg1).set 0 u0).set 1 u1
   have h0 := h.cell 0
   have h1 := h.cell 1
   simp at h0 h1
   exact ⟨h0, h1⟩)
 have CJ := fun W (hW : Below w2.heap.size w2 W) => later_ctx hW (Cx.rjoin_any W A1 A3 a c n1 n3 c1 c3 (HA.out.up hW) (HC.out.up hW) S1.out S2.out)
 obtain ⟨x0, x1⟩ := HK.out w2 (Below.refl _ _)
 go_region_held3 (fun V => V.cell? ⟨w.heap.size, 0, none⟩ = some (.slice A1 n1 c1) ∧ V.cell? ⟨w.heap.size, 1, none⟩ = some (.slice A2 n2 c2)) (first | exact ⟨x0, x1⟩ | assumption | exact HKS.out _ _ _ (by assumption) | exact HK.out _ (by (repeat (first | exact Below.refl _ _ | assumption | apply Ev.bel_drew | apply Ev.bel_alloc)))) (first
   | (go_at_call 42; (with_reducible refine (CJ _ ?_).mono ?_); (focus (repeat (first | exact Below.refl _ _ | assumption | apply Ev.bel_drew | apply Ev.bel_alloc))); rintro r V ⟨A5, n5, c5, rfl, h5, bv⟩; have hcV := HK.out V bv; obtain ⟨r0, r1, r2, r3⟩ := HR.out V (.slice A5 n5 c5) bv))
 all_goals
   have HV := Lib.hid (two_set (HB.out.trans (bv.mono HB.out.size)) (g := w.heap.size + 1) (Nat.le_succ _) (.slice A5 n5 c5) (.slice A2 n2 c2))
   obtain ⟨ho, hn, ht⟩ := two_off (R1.out.below bv hg1) A5 A2 n5 c5 n2 c2
   have HCF := Lib.hid (ctx_off hn ho h5)
   have HLF := Lib.hid (HLO.out.up HV.out)
   have y0 := ht.cell 0
   have y1 := ht.cell 1
   simp at y0 y1
   clear ho hn ht h5 bv r0 r1 r2 r3 HK HKS HR HFIN R0 R1 HA HC CJ
   go_wp2
   refine bodyPost_ret (v := .agg #[.slice A5 n5 c5, .slice A2 n2 c2]) ?_ rfl ?_
   · simp [results, Tryz.f16, go_sem, y0, y1]
   · exact ⟨A5, n5, c5, A2, n2, c2, rfl, HCF.out, HLF.out, HV.out⟩
end Go.Proofs.YtgaegfddobpomaaGreat.Bk
