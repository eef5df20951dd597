/- Words and contracts that the proofs of this seat stand on, part 13 of 39. -/
import Derived.Test.YtgaegfddobpomaaGreatOrL
import Derived.Deep.RegionHeld3
import Derived.Test.YtgaegfddobpomaaGreatOrE
import Derived.Shelf.SlSortCmp.QuietGrown

namespace Go.Proofs.YtgaegfddobpomaaGreat.Cx
open Go.ChangeShapes Go.WideShapes Go.ChangeAt Go.RowKit
set_option linter.unusedVariables false
theorem bel_drew {w W : World} (h : Below w.heap.size w W) : Below w.heap.size w W.drew := h.drew
theorem bel_alloc {w W : World} (o : Obj) (h : Below w.heap.size w W) : Below w.heap.size w (W.alloc o) := h.alloc h.size o
theorem made_runs {w W : World} {f : Nat} {args : Array Value} {m : List Run} (hW : Below w.heap.size w W) (hm : Ru.InOrder m) (h : Calls Tryz.prog f args W (Ru.RunPost W m)) :
   Calls Tryz.prog f args W fun e V => ∃ A n c, e = .returned (.slice A n c) ∧ RunsAt V A m n c ∧ Below w.heap.size w V ∧ Below W.heap.size W V :=
 h.mono fun e V hp => by
   obtain ⟨A, n, c, e1, h1, h2, _⟩ := runs_post hp hm
   exact ⟨A, n, c, e1, h1, hW.trans (h2.mono hW.size), h2⟩
theorem pick_next {f : Nat → List Run} {l : List Dot} {k : Nat} {x : Dot} (h : l[k]? = some x) : (l.take (k + 1)).filterMap (fun x => oneC f x.1) = (l.take k).filterMap (fun x => oneC f x.1) ++ (if (f x.1).length = 0 then [] else [(x.1, f x.1)]) := by
 rw [List.take_add_one, h, List.filterMap_append]
 congr 1
 simp only [Option.toList_some]
 by_cases h0 : (f x.1).length = 0
 · rw [if_pos h0, List.filterMap_cons, show oneC f x.1 = none from if_pos h0]; rfl
 · rw [if_neg h0, List.filterMap_cons, show oneC f x.1 = some (x.1, f x.1) from if_neg h0]; rfl
theorem devs_len {a b : List Part} (ha : a.length ≤ 8000) (hb : b.length ≤ 8000) (hfa : FitC a) (hfb : FitC b) : Dt.Fit (devsC a b) ∧ (devsC a b).length ≤ 16000 := by
 have h1 := step_fit a hfa [] (fun r hr => by cases hr) a.length
 rw [List.take_length] at h1
 have h2 := step_fit b hfb (a.foldl stepP []) h1.1 b.length
 rw [List.take_length] at h2
 refine ⟨h2.1, ?_⟩
 have h3 := h1.2
 have h4 := h2.2
 simp only [List.length_nil, Nat.zero_add] at h3
 unfold devsC
 omega
def SRel (w : World) (n : Nat) (g : Nat → List Part) (v i : Value) (wr : World) : Prop :=
 ∃ (k m : Nat) (A : Option Addr) (c : Nat) (ps : List PV), k ≤ n ∧ i = .int .i64 ((k : Nat) : Int) ∧ v = .slice A m c ∧ (g k).length = m ∧ wr.ownsRow w.heap.size 71 2 (.slice A m c) m (cv ps) ∧ Match wr ps (g k) ∧ Apart wr ps (Value.slice A m c).ownBlock ∧ Below w.heap.size w wr
theorem own_block_lt {w : World} {B k m c size : Nat} {e : TypeId} {A : Option Addr} {xs : List Value} (h : w.ownsRow B e size (.slice A m c) k xs) : ∀ r, (Value.slice A m c).ownBlock = some r → B ≤ r ∧ r < w.heap.size := by
 intro r hr
 cases A with
 | none => cases hr
 | some ad =>
   have e2 : ad.block = r := by simpa [Value.ownBlock] using hr
   have := h.lt ad.block rfl
   rw [e2] at this
   exact this
set_option maxHeartbeats 16000000 in
theorem rset0_any (w : World) (A1 A2 : Option Addr) (a b : List Part) (n1 n2 c1 c2 : Nat) (h1 : CtxAt w A1 a n1 c1) (h2 : CtxAt w A2 b n2 c2) (s1 : Small a) (s2 : Small b) :
   Calls Tryz.prog 85 #[.slice A1 n1 c1, .slice A2 n2 c2, .int .i64 0] w (CtxPost w (setC a b 0)) := by
 have hn1 : n1 ≤ 8000 := by rw [← h1.len]; exact s1.1
 have hn2 : n2 ≤ 8000 := by rw [← h2.len]; exact s2.1
 have H1 := Lib.hid h1
 have H2 := Lib.hid h2
 have S1 := Lib.hid s1
 have S2 := Lib.hid s2
 obtain ⟨R, hR⟩ : ∃ R, setC a b 0 = R := ⟨_, rfl⟩
 rw [hR]
 have HPK : Hid ((devsC a b).filterMap (fun x => oneC (fun d => Ru.setL (runsC a d) (runsC b d) 0) x.1) = R) := Lib.hid ((pick_devs (tells_both h1.fit h2.fit 0) (fun d h => set_some d h)).trans hR)
 have CD := Lib.hid (rdevs_any w A1 A2 a b n1 n2 c1 c2 h1 h2 hn1 hn2)
 obtain ⟨hdf, hdl⟩ := devs_len s1.1 s2.1 h1.fit h2.fit
 have HDF := Lib.hid hdf
 clear h1 h2 s1 s2 hR hdf
 have k0 : ((0 : Int) == 1) = false := rfl
 have k1 : ((0 : Int) == 2) = false := rfl
 go_enter Tryz.func85, Tryz.ntmps85
 go_wp2_with fail
 refine CD.out.mono ?_
 rintro e w1 hpo
 obtain ⟨A4, n, c4, rfl, hn, _, _, _, hd, _, hb1⟩ := Dt.post_dots hpo HDF.out
 have hnl : n ≤ 16000 := by rw [← hn]; exact hdl
 have HN := Lib.hid hn
 have HD := Lib.hid hd
 have HB1 := Lib.hid hb1
 clear hn hd hb1 hpo CD hdl HDF
 generalize devsC a b = L at HN HD HPK
 obtain ⟨g, hg⟩ : ∃ g : Nat → List Part, g = fun k => (L.take k).filterMap (fun x => oneC (fun d => Ru.setL (runsC a d) (runsC b d) 0) x.1) := ⟨_, rfl⟩
 have HGE : Hid (∀ k, g k = (L.take k).filterMap (fun x => oneC (fun d => Ru.setL (runsC a d) (runsC b d) 0) x.1)) := Lib.hid (fun k => by rw [hg])
 have HGL : Hid (∀ k, (g k).length ≤ k) := Lib.hid (fun k => by rw [hg]; exact Nat.le_trans (List.length_filterMap_le _ _) (List.length_take_le _ _))
 have HGN : Hid (g n = R) := Lib.hid (by rw [hg]; show (L.take n).filterMap _ = R; rw [List.take_of_length_le (by rw [HN.out]; exact Nat.le_refl _)]; exact HPK.out)
 clear hg HPK
 go_wp2_with fail
 go_loopw [7, 9] (fun v i wr => SRel w1 n g v i wr) (fun _ i _ => n - (intOf i).toNat)
 case atStart => exact ⟨0, 0, none, 0, [], Nat.zero_le _, rfl, rfl, by rw [HGE.out]; rfl, World.ownsRow_nil _ _ _ _, by rw [HGE.out]; exact Match.nil_ _, (fun p hp => by cases hp), Below.refl _ _⟩
 case round =>
   obtain ⟨k, m, A, c, ps, hk, rfl, rfl, hm, ho, hma, hap, hw⟩ := hrel
   have hmk : m ≤ k := by rw [← hm]; exact HGL.out k
   have HM := Lib.hid hm
   have HO := Lib.hid ho
   have HW := Lib.hid hw
   have HMA := Lib.hid hma
   have HAP := Lib.hid hap
   clear hm ho hw hma hap
   by_cases hlt : k < n
   · obtain ⟨ad, x, rfl, hB, hlx, hx1, hx2, hcx⟩ := HD.out.cells (k := k) (by rw [HN.out]; exact hlt)
     have HX := pick_next (f := fun d => Ru.setL (runsC a d) (runsC b d) 0) hlx
     rw [← HGE.out, ← HGE.out] at HX
     obtain ⟨x1, x2⟩ := x
     have HX2 := Lib.hid HX
     clear hlx HX
     have HC : Hid (∀ V, Below wr.heap.size wr V → V.cell? (ad.add (k * 2)) = some (.int .u16 (x1 : Int))) := fun V hV => (hcx V (HW.out.trans (hV.mono HW.out.size))).1
     clear hcx
     have d1 := HC.out wr (Below.refl _ _)
     have HWW : Hid (Below w.heap.size w wr) := HB1.out.trans (HW.out.mono HB1.out.size)
     have R1 := Lib.hid (H1.out.up HWW.out)
     have R2 := Lib.hid (H2.out.up HWW.out)
     have A18a := fun W (hW : Below wr.heap.size wr W) => made_runs hW (runs_order a x1) (rruns_any W A1 a n1 c1 x1 (R1.out.up hW) S1.out)
     have A18b := fun W (hW : Below wr.heap.size wr W) => made_runs hW (runs_order b x1) (rruns_any W A2 b n2 c2 x1 (R2.out.up hW) S2.out)
     have hla := small_runs S1.out x1
     have hlb := small_runs S2.out x1
     go_wp2_with fail
     go_region_held3 (fun V => V.cell? (ad.add (k * 2)) = some (.int .u16 (x1 : Int))) (first | exact d1 | assumption | exact HC.out _ (by (repeat (first | exact Below.refl _ _ | assumption | apply bel_drew)))) (first
       | (go_at_call 77; (with_reducible refine (A18a _ ?_).mono ?_); (focus (repeat (first | exact Below.refl _ _ | assumption | apply bel_drew | apply bel_alloc))); rintro e V ⟨Ax, nx, cx, rfl, hX, bv, cv'⟩; have hcV := HC.out V bv)
       | (go_at_call 77; (with_reducible refine (A18b _ ?_).mono ?_); (focus (repeat (first | exact Below.refl _ _ | assumption | apply bel_drew | apply bel_alloc))); rintro e V' ⟨Ay, ny, cy, rfl, hY, bv', cv''⟩; have hcV' := HC.out V' bv'; have hX2 := hX.up cv''))
     all_goals
       have HX3 := Lib.hid hX2
       have HY := Lib.hid hY
       have BV : Hid (Below wr.heap.size wr V') := Lib.hid bv'
       have HJ := Lib.hid (Ru.join_any V' Ax Ay (runsC a x1) (runsC b x1) nx ny cx cy hX2.len hY.len hX2.nil hY.nil hX2.runs hY.runs (by rw [← hX2.len]; omega) (by rw [← hY.len]; omega))
       clear hX hX2 hY bv bv' cv' cv'' hcV hcV' A18a A18b R1 R2 d1
       go_wp2_with fail
       refine HJ.out.mono ?_
       rintro e V3 hp3
       obtain ⟨Az, nz, cz, rfl, hz, hb3, hzn⟩ := runs_post hp3 (Ru.set_spec _ _ _).1
       have BV3 : Hid (Below wr.heap.size wr V3) := Lib.hid (BV.out.trans (hb3.mono BV.out.size))
       have HZ := Lib.hid hz
       have HZN : Hid (∀ ad, Az = some ad → wr.heap.size ≤ ad.block) := Lib.hid (fun ad e => Nat.le_trans BV.out.size (hzn ad e))
       have HOv := Lib.hid (Dt.own_kept HO.out BV3.out)
       have HMv := Lib.hid (HMA.out.up BV3.out)
       have HAv := Lib.hid (HAP.out.up BV3.out.size)
       have HWv : Hid (Below w1.heap.size w1 V3) := Lib.hid (HW.out.trans (BV3.out.mono HW.out.size))
       have HOB := Lib.hid (own_block_lt HO.out)
       have d1 := HC.out V3 BV3.out
       clear hp3 hz hb3 hzn HX3 HY
       generalize Ru.setL (runsC a x1) (runsC b x1) 0 = z at HX2 HZ
       have hzl := HZ.out.len
       by_cases hz0 : nz = 0
       · have HE : Hid (g (k + 1) = g k) := Lib.hid (by rw [HX2.out, if_pos (by rw [hzl]; exact hz0), List.append_nil])
         subst hz0
         clear HX2 d1
         go_wp2
         go_roundw
         case rel => exact ⟨k + 1, m, A, c, ps, by omega, by go_num, rfl, by rw [HE.out]; exact HM.out, HOv.out, by rw [HE.out]; exact HMv.out, HAv.out, HWv.out⟩
         case measure => simp [intOf]; omega
       · have HE : Hid (g (k + 1) = g k ++ [(x1, z)]) := Lib.hid (by rw [HX2.out, if_neg (by rw [hzl]; exact hz0)])
         have dz : decide ((0 : Int) < (nz : Int)) = true := decide_eq_true (by omega)
         obtain ⟨adz, haz, hazB, _⟩ := HZ.out.runs.2 (by rw [Ru.rv_length]; omega)
         have HP1 : Hid (PartIs (V3.alloc (.cells #[.int .u16 (x1 : Int), .slice Az nz cz] 71)) (V3.alloc (.cells #[.int .u16 (x1 : Int), .slice Az nz cz] 71)).heap.size ⟨x1, Az, nz, cz⟩ (x1, z)) := Lib.hid (by
           have h2 := HZ.out.up (Dt.below_new V3 (.cells #[.int .u16 (x1 : Int), .slice Az nz cz] 71))
           exact ⟨rfl, hx1, h2.len, h2.nil, h2.cap, h2.max, h2.runs⟩)
         have HM1 := Lib.hid ((HMv.out.up (Dt.below_new V3 (.cells #[.int .u16 (x1 : Int), .slice Az nz cz] 71))).snoc HP1.out)
         have HA1 : Hid (Apart (V3.alloc (.cells #[.int .u16 (x1 : Int), .slice Az nz cz] 71)) (ps ++ [⟨x1, Az, nz, cz⟩]) (Value.slice A m c).ownBlock) := Lib.hid (Apart.snoc (HAv.out.up (Dt.below_new V3 _).size) (ad := adz) haz (Nat.lt_of_lt_of_le hazB (Dt.below_new V3 _).size) (fun e => by
           have h1 := HOB.out adz.block e.symm
           have h2 := HZN.out adz haz
           omega))
         have HO1 := Lib.hid (HOv.out.alloc (.cells #[.int .u16 (x1 : Int), .slice Az nz cz] 71))
         have HW1 : Hid (Below w1.heap.size w1 (V3.alloc (.cells #[.int .u16 (x1 : Int), .slice Az nz cz] 71))) := Lib.hid (bel_alloc _ HWv.out)
         clear HX2 haz hazB
         go_wp2_with (first
           | (at_builtin; refine wpList_part rfl (.tmp 52) (.tmp 60) rfl rfl _ w1.heap.size m (.slice A m c) ps ⟨V3.heap.size, 0, none⟩ ⟨x1, Az, nz, cz⟩ rfl rfl HO1.out (part_at V3 ⟨x1, Az, nz, cz⟩) (by omega) HW1.out.size ?_; intro A5 c5 w5 ho5 hg5 hl5)
           | go_in)
         have HS : Hid (SRel w1 n g (.slice A5 (m + 1) c5) (.int .i64 ((k : Int) + 1)) w5) := Lib.hid (by
           refine ⟨k + 1, m + 1, A5, c5, ps ++ [⟨x1, Az, nz, cz⟩], by omega, by go_num, rfl, by rw [HE.out, List.length_append, HM.out]; rfl, ho5, by rw [HE.out]; exact HM1.out.grown hg5 HA1.out, ?_, HW1.out.grown hg5 HW1.out.size (fun j hj => (own_block_lt HO.out j hj).1)⟩
           rcases hl5 with hl5 | hl5
           · rw [hl5]; exact HA1.out.up hg5.size
           · rw [hl5]; exact (HA1.out.turn (Nat.le_refl _)).up hg5.size)
         clear ho5 hg5 hl5 d1
         go_roundw
         case rel => exact HS.out
         case measure => simp [intOf]; omega
   · obtain rfl : n = k := by omega
     rw [HGN.out] at HM HMA
     go_wp2
     go_ret
     exact ⟨A, m, c, ps, rfl, HM.out, ru_less HO.out HB1.out.size, HMA.out, HB1.out.trans (HW.out.mono HB1.out.size)⟩
theorem rjoin_any (w : World) (A1 A2 : Option Addr) (a b : List Part) (n1 n2 c1 c2 : Nat) (h1 : CtxAt w A1 a n1 c1) (h2 : CtxAt w A2 b n2 c2) (s1 : Small a) (s2 : Small b) :
   Calls Tryz.prog 42 #[.slice A1 n1 c1, .slice A2 n2 c2] w (CtxPost w (setC a b 0)) := by
 have CB := Lib.hid (rset0_any w A1 A2 a b n1 n2 c1 c2 h1 h2 s1 s2)
 clear h1 h2 s1 s2
 go_enter Tryz.func42, Tryz.ntmps42
 go_wp2_with fail
 refine CB.out.mono ?_
 rintro e w1 hp
 have HP := Lib.hid hp
 obtain ⟨A, n, c, ps, rfl, _⟩ := hp
 go_wp2
 go_ret
 exact HP.out
theorem take_more {l m : List Part} {k : Nat} {x : Part} (h : l.take k = m.take k) (h1 : l[k]? = some x) (h2 : m[k]? = some x) : l.take (k + 1) = m.take (k + 1) := by
 rw [List.take_add_one, List.take_add_one, h, h1, h2]
theorem ne_at {l m : List Part} {k : Nat} {x y : Part} (h1 : l[k]? = some x) (h2 : m[k]? = some y) (hn : x ≠ y) : l ≠ m := by
 intro e
 rw [e, h2] at h1
 exact hn (Option.some.inj h1).symm
set_option maxHeartbeats 4000000 in
theorem req_any (w : World) (A1 A2 : Option Addr) (a b : List Part) (n1 n2 c1 c2 : Nat) (h1 : CtxAt w A1 a n1 c1) (h2 : CtxAt w A2 b n2 c2) (hn : n1 ≤ 9223372036854775807) :
   Calls Tryz.prog 37 #[.slice A1 n1 c1, .slice A2 n2 c2] w fun e w' => e = .returned (.bool (decide (a = b))) ∧ Below w.heap.size w w' := by
 have H1 := Lib.hid h1
 have H2 := Lib.hid h2
 clear h1 h2
 by_cases hne : n1 = n2
 · subst hne
   go_enter Tryz.func37, Tryz.ntmps37
   go_wp2_with fail
   go_loopw [5] (fun i wr => ∃ k : Nat, k ≤ n1 ∧ i = .int .i64 (k : Int) ∧ a.take k = b.take k ∧ Below w.heap.size w wr) (fun i _ => n1 - (intOf i).toNat)
   case atStart => exact ⟨0, Nat.zero_le _, rfl, by simp, Below.refl _ _⟩
   case round =>
     obtain ⟨k, hk, rfl, ht, hw⟩ := hrel
     have HT := Lib.hid ht
     have HW := Lib.hid hw
     clear ht hw
     by_cases hlt : k < n1
     · obtain ⟨ad, p, x, rfl, hB, hx, hp, hcell⟩ := H1.out.cells hlt
       obtain ⟨ad2, p2, y, rfl, hB2, hy, hp2, hcell2⟩ := H2.out.cells hlt
       have HX := Lib.hid hx
       have HY := Lib.hid hy
       have HP := Lib.hid (hp.up HW.out)
       have HP2 := Lib.hid (hp2.up HW.out)
       obtain ⟨d1, d2⟩ := hcell wr HW.out
       obtain ⟨d3, d4⟩ := hcell2 wr HW.out
       clear hx hy hp hp2 hcell hcell2
       have HEQ : Hid (∀ V, Below wr.heap.size wr V → Calls Tryz.prog 79 #[.slice p.adr p.len p.cap, .slice p2.adr p2.len p2.cap] V fun e V' => e = .returned (.bool (decide (x.2 = y.2))) ∧ Below wr.heap.size wr V') := Lib.hid (fun V hV =>
         (Ru.eq_any V _ _ p.adr p2.adr x.2 y.2 p.len p2.len p.cap p2.cap HP.out.len HP2.out.len (HP.out.up hV).runs (HP2.out.up hV).runs (Nat.le_trans HP.out.cap HP.out.max)).mono (by rintro e V' ⟨rfl, m, rfl⟩; exact ⟨rfl, Dt.bel_drewN hV m⟩))
       by_cases hd : x.1 = y.1
       · have HC : Hid (∀ V, Below wr.heap.size wr V → (V.cell? (ad.add (k * 2)) = some (.int .u16 (x.1 : Int)) ∧ V.cell? ⟨(ad.add (k * 2)).block, (ad.add (k * 2)).off + 1, none⟩ = some (.slice p.adr p.len p.cap)) ∧ V.cell? (ad2.add (k * 2)) = some (.int .u16 (y.1 : Int)) ∧ V.cell? ⟨(ad2.add (k * 2)).block, (ad2.add (k * 2)).off + 1, none⟩ = some (.slice p2.adr p2.len p2.cap)) := Lib.hid (fun V hV =>
           ⟨⟨(hV.cell (World.block_lt_of_cell? wr _ d1)).trans d1, (hV.cell (World.block_lt_of_cell? wr _ d2)).trans d2⟩, (hV.cell (World.block_lt_of_cell? wr _ d3)).trans d3, (hV.cell (World.block_lt_of_cell? wr _ d4)).trans d4⟩)
         have A16 := HEQ.out
         by_cases hr : x.2 = y.2
         · rw [decide_eq_true hr] at A16
           have HS := Lib.hid (take_more HT.out HX.out (by rw [HY.out, show y = x from (Prod.ext hd hr).symm]))
           rw [← hd] at d3 HC
           clear HEQ HP HP2 hr HX HY hd
           go_wp2_with fail
           go_region_held3 (fun V => (V.cell? (ad.add (k * 2)) = some (.int .u16 (x.1 : Int)) ∧ V.cell? ⟨(ad.add (k * 2)).block, (ad.add (k * 2)).off + 1, none⟩ = some (.slice p.adr p.len p.cap)) ∧ V.cell? (ad2.add (k * 2)) = some (.int .u16 (x.1 : Int)) ∧ V.cell? ⟨(ad2.add (k * 2)).block, (ad2.add (k * 2)).off + 1, none⟩ = some (.slice p2.adr p2.len p2.cap)) (first | exact ⟨⟨d1, d2⟩, d3, d4⟩ | assumption | exact HC.out _ (by (repeat (first | exact Below.refl _ _ | assumption | apply bel_drew)))) (first
             | (go_at_call 79; (with_reducible refine (A16 _ ?_).mono ?_); (focus (repeat (first | exact Below.refl _ _ | assumption | apply bel_drew))); rintro e V ⟨rfl, bv⟩; have hcV := HC.out V bv))
           all_goals
             have HWV : Hid (Below w.heap.size w V) := Lib.hid (HW.out.trans (bv.mono HW.out.size))
             clear bv hcV d1 d2 d3 d4
             go_wp2
             go_roundw
             case rel => exact ⟨k + 1, by omega, by go_num, HS.out, HWV.out⟩
             case measure => simp [intOf]; omega
         · rw [decide_eq_false hr] at A16
           have HS := Lib.hid (decide_eq_false (ne_at HX.out HY.out (fun e => hr (by rw [e]))))
           rw [← hd] at d3 HC
           clear HEQ HP HP2 hr HX HY hd
           go_wp2_with fail
           go_region_held3 (fun V => (V.cell? (ad.add (k * 2)) = some (.int .u16 (x.1 : Int)) ∧ V.cell? ⟨(ad.add (k * 2)).block, (ad.add (k * 2)).off + 1, none⟩ = some (.slice p.adr p.len p.cap)) ∧ V.cell? (ad2.add (k * 2)) = some (.int .u16 (x.1 : Int)) ∧ V.cell? ⟨(ad2.add (k * 2)).block, (ad2.add (k * 2)).off + 1, none⟩ = some (.slice p2.adr p2.len p2.cap)) (first | exact ⟨⟨d1, d2⟩, d3, d4⟩ | assumption | exact HC.out _ (by (repeat (first | exact Below.refl _ _ | assumption | apply bel_drew)))) (first
             | (go_at_call 79; (with_reducible refine (A16 _ ?_).mono ?_); (focus (repeat (first | exact Below.refl _ _ | assumption | apply bel_drew))); rintro e V ⟨rfl, bv⟩; have hcV := HC.out V bv))
           all_goals
             have HWV : Hid (Below w.heap.size w V) := Lib.hid (HW.out.trans (bv.mono HW.out.size))
             clear bv hcV d1 d2 d3 d4
             go_wp2
             go_ret
             exact ⟨Dt.ret_bool HS.out.symm, HWV.out⟩
       · have hb2 : ((x.1 : Int) == (y.1 : Int)) = false := by rw [beq_eq_false_iff_ne]; omega
         have hb3 : ((x.1 : Int) != (y.1 : Int)) = true := by rw [bne_iff_ne]; omega
         have HS := Lib.hid (decide_eq_false (ne_at HX.out HY.out (fun e => hd (by rw [e]))))
         clear HEQ HP HP2 HX HY
         go_wp2_with fail
         go_quiet (fail)
         go_wp2
         go_ret
         exact ⟨Dt.ret_bool HS.out.symm, Dt.bel_drewN HW.out _⟩
     · obtain rfl : k = n1 := by omega
       have hd : Hid (a = b) := Lib.hid (by
         have h := HT.out
         rw [List.take_of_length_le (by rw [H1.out.len]; exact Nat.le_refl _), List.take_of_length_le (by rw [H2.out.len]; exact Nat.le_refl _)] at h
         exact h)
       go_wp2
       go_ret
       exact ⟨Dt.ret_bool (by rw [decide_eq_true hd.out]), HW.out⟩
 · have hd : Hid (decide (a = b) = false) := Lib.hid (decide_eq_false (fun e => hne (by rw [← H1.out.len, ← H2.out.len, e])))
   have hne2 : ((n1 : Int) != (n2 : Int)) = true := by rw [bne_iff_ne]; omega
   go_enter Tryz.func37, Tryz.ntmps37
   go_wp2
   go_ret
   exact ⟨Dt.ret_bool hd.out.symm, Below.refl _ _⟩
theorem few_small {a : List Part} {n c : Nat} {w : World} {A : Option Addr} (h : CtxAt w A a n c) : n ≤ 9223372036854775807 := Nat.le_trans h.cap h.max
end Go.Proofs.YtgaegfddobpomaaGreat.Cx

namespace Go.Proofs.YtgaegfddobpomaaGreat.Bk
open Go.ChangeShapes Go.WideShapes Go.ChangeAt Go.RowKit Go.Proofs.YtgaegfddobpomaaGreat.Kl
set_option linter.unusedVariables false
set_option maxRecDepth 4000
def isNum : Value → Bool
 | .int _ _ => true
 | _ => false
structure Off (F : Nat → Prop) (w W : World) : Prop where
 os : W.os = w.os
 tape : W.tape = w.tape
 output : W.output = w.output
 size : w.heap.size ≤ W.heap.size
 block : ∀ k, k < w.heap.size → ¬ F k → W.heap[k]? = w.heap[k]?
def NoNum (w : World) (F : Nat → Prop) : Prop := ∀ k, F k → ∀ (i : Nat) (u : Value), w.cell? ⟨k, i, none⟩ = some u → isNum u = false
theorem Off.refl (F : Nat → Prop) (w : World) : Off F w w := ⟨rfl, rfl, rfl, Nat.le_refl _, fun _ _ _ => rfl⟩
theorem off_of {w W : World} (F : Nat → Prop) (h : Below w.heap.size w W) : Off F w W := ⟨h.os, h.tape, h.output, h.size, fun k hk _ => h.block k hk⟩
theorem Off.trans {F : Nat → Prop} {w V W : World} (h : Off F w V) (k : Off F V W) : Off F w W := ⟨k.os.trans h.os, k.tape.trans h.tape, k.output.trans h.output, Nat.le_trans h.size k.size, fun i hi hn => (k.block i (Nat.lt_of_lt_of_le hi h.size) hn).trans (h.block i hi hn)⟩
theorem Off.more {F G : Nat → Prop} {w W : World} (h : Off F w W) (hm : ∀ k, k < w.heap.size → F k → G k) : Off G w W := ⟨h.os, h.tape, h.output, h.size, fun i hi hn => h.block i hi (fun hf => hn (hm i hi hf))⟩
theorem off_grown {w W : World} {b : Nat} (h : w.grownBy W (some b)) : Off (· = b) w W := ⟨h.os, h.tape, h.output, h.size, fun k hk hn => h.block k hk (fun e => hn (by cases e; rfl))⟩
theorem off_set (w : World) (b i : Nat) (u : Value) : Off (· = b) w (w.setCell ⟨b, i, none⟩ u) := ⟨rfl, rfl, rfl, by rw [World.size_setCell]; exact Nat.le_refl _, fun k _ hne => Below.heap_setCell w ⟨b, i, none⟩ u k (fun e => hne (by rw [e]))⟩
theorem Off.cell {F : Nat → Prop} {w W : World} (h : Off F w W) {a : Addr} {u : Value} (hc : w.cell? a = some u) (hn : ¬ F a.block) : W.cell? a = some u :=
 (World.cell?_of_block (h.block _ (World.block_lt_of_cell? w _ hc) hn)).trans hc
theorem Off.below {F : Nat → Prop} {B : Nat} {a w W : World} (h : Below B a w) (ho : Off F w W) (hB : B ≤ w.heap.size) (hF : ∀ k, F k → B ≤ k) : Below B a W :=
 h.trans ⟨ho.os, ho.tape, ho.output, ho.size, fun k hk => ho.block k (by omega) (fun hf => by have := hF k hf; omega)⟩
theorem cell_spot {w : World} {a : Addr} {u : Value} (h : w.cell? a = some u) : a = ⟨a.block, a.off, none⟩ := by
 obtain ⟨b, o, s⟩ := a
 unfold World.cell? at h
 cases s with
 | none => rfl
 | some x =>
   cases hb : w.heap[b]? with
   | none => rw [hb] at h; cases h
   | some o =>
     rw [hb] at h
     cases o <;> simp at h
theorem not_in {w : World} {F : Nat → Prop} (hS : NoNum w F) {a : Addr} {u : Value} (h : w.cell? a = some u) (hu : isNum u = true) : ¬ F a.block := fun e => by
 have h1 := cell_spot h
 rw [h1] at h
 rw [hS _ e _ _ h] at hu
 cases hu
theorem lies_off {w W : World} {F : Nat → Prop} (hS : NoNum w F) (hg : Off F w W) {A : Option Addr} {v : Value} {vs : List Value} (hv : isNum v = true) (h : Dt.Lies w w.heap.size A (v :: vs)) : Dt.Lies W W.heap.size A (v :: vs) := fun hl => by
 obtain ⟨ad, e, hB, hc⟩ := h hl
 have h0 : ¬ F ad.block := by
   have := not_in hS (hc 0 v rfl) hv
   rwa [Ev.block_add] at this
 exact ⟨ad, e, Nat.lt_of_lt_of_le hB hg.size, fun j u hu => hg.cell (hc j u hu) (by rw [Ev.block_add]; exact h0)⟩
theorem ulies_off {w W : World} {F : Nat → Prop} (hS : NoNum w F) (hg : Off F w W) {A : Option Addr} {v : Value} {vs : List Value} (hv : isNum v = true) (h : Ru.Lies w w.heap.size A (v :: vs)) : Ru.Lies W W.heap.size A (v :: vs) := fun hl => by
 obtain ⟨ad, e, hB, hc⟩ := h hl
 have h0 : ¬ F ad.block := by
   have := not_in hS (hc 0 v rfl) hv
   rwa [Ev.block_add] at this
 exact ⟨ad, e, Nat.lt_of_lt_of_le hB hg.size, fun j u hu => hg.cell (hc j u hu) (by rw [Ev.block_add]; exact h0)⟩
theorem dots_off {w W : World} {F : Nat → Prop} (hS : NoNum w F) (hg : Off F w W) {A : Option Addr} {l : List Dt.Dot} {n c : Nat} (h : Ev.DotsAt w w.heap.size A l n c) : Ev.DotsAt W W.heap.size A l n c := by
 refine ⟨h.len, h.nil, h.cap, h.max, h.wide, h.dots.1, ?_⟩
 have h1 := h.dots.2
 cases l with
 | nil => exact Dt.Lies.none_ _ _ _
 | cons x l => exact lies_off hS hg rfl h1
theorem evt_off {w W : World} {F : Nat → Prop} (hS : NoNum w F) (hg : Off F w W) {p : Ev.EV} {x : Ev.Evt} (h : Ev.EventIs w w.heap.size p x) : Ev.EventIs W W.heap.size p x :=
 ⟨h.dev, h.num, h.kind, h.cid, h.fld, h.txt, h.fits, dots_off hS hg h.kills⟩
theorem evts_off {w W : World} {F : Nat → Prop} (hS : NoNum w F) (hg : Off F w W) {A : Option Addr} {l : List Ev.Evt} {n c : Nat} (h : Ev.EventsAt w w.heap.size A l n c) : Ev.EventsAt W W.heap.size A l n c := by
 obtain ⟨ps, h1, h2⟩ := h.evts
 refine ⟨h.len, h.nil, h.cap, h.max, h.wide, ps, ?_, h2.1, fun k p x hp hx => evt_off hS hg (h2.2 k p x hp hx)⟩
 cases ps with
 | nil => exact Dt.Lies.none_ _ _ _
 | cons p ps => exact lies_off hS hg rfl h1
theorem part_off {w W : World} {F : Nat → Prop} (hS : NoNum w F) (hg : Off F w W) {p : Cx.PV} {x : Cx.Part} (h : Cx.PartIs w w.heap.size p x) : Cx.PartIs W W.heap.size p x := by
 refine ⟨h.dev, h.fit, h.len, h.nil, h.cap, h.max, h.runs.1, ?_⟩
 have h1 := h.runs.2
 cases hx : x.2 with
 | nil => exact Ru.Lies.none_ _ _ _
 | cons r l => rw [hx] at h1; exact ulies_off hS hg rfl h1
theorem ctx_off {w W : World} {F : Nat → Prop} (hS : NoNum w F) (hg : Off F w W) {A : Option Addr} {c : List Cx.Part} {n cp : Nat} (h : Cx.CtxAt w A c n cp) : Cx.CtxAt W A c n cp := by
 obtain ⟨ps, h1, h2⟩ := h.parts
 refine ⟨h.len, h.nil, h.cap, h.max, ps, ?_, h2.1, fun k p x hp hx => part_off hS hg (h2.2 k p x hp hx)⟩
 cases ps with
 | nil => exact Dt.Lies.none_ _ _ _
 | cons p ps => exact lies_off hS hg rfl h1
end Go.Proofs.YtgaegfddobpomaaGreat.Bk

namespace Go.Proofs.YtgaegfddobpomaaGreat.Cx
set_option linter.unusedVariables false
theorem set_len {a b : List Part} (ha : FitC a) (hb : FitC b) (how : Int) : (setC a b how).length ≤ a.length + b.length := by
 unfold setC
 rw [← pick_devs (tells_both ha hb how) (fun d h => set_some d h)]
 have h1 := step_fit a ha [] (fun r hr => by cases hr) a.length
 rw [List.take_length] at h1
 have h2 := step_fit b hb (a.foldl stepP []) h1.1 b.length
 rw [List.take_length] at h2
 have h3 := h1.2
 have h4 := h2.2
 simp only [List.length_nil, Nat.zero_add] at h3
 refine Nat.le_trans (List.length_filterMap_le _ _) ?_
 unfold devsC
 omega
def dotC (x : Dot) : List Part := [(x.1, [(x.2, x.2)])]
theorem fit_dot {x : Dot} (h1 : x.1 < 65536) (h2 : x.2 < 18446744073709551616) : FitC (dotC x) := fun y hy => by
 obtain rfl := List.mem_singleton.1 hy
 exact ⟨h1, fun r hr => by obtain rfl := List.mem_singleton.1 hr; exact ⟨h2, h2⟩⟩
def stepO (o : List Part) (x : Dot) : List Part := if Dt.mayD x = true then setC o (dotC x) 0 else o
theorem of_fold (l : List Dot) : ofC l = l.foldl stepO [] := rfl
theorem of_next {l : List Dot} {k : Nat} {x : Dot} (h : l[k]? = some x) : ofC (l.take (k + 1)) = stepO (ofC (l.take k)) x := by
 rw [of_fold, of_fold, List.take_add_one, h, List.foldl_append]; rfl
structure Most (o : List Part) (k : Nat) : Prop where
 form : ∃ f, Tells f ∧ o = listC f ∧ ∀ d, (f d).length ≤ k
 len : o.length ≤ k
theorem Most.fit {o : List Part} {k : Nat} (h : Most o k) : FitC o := by
 obtain ⟨f, h1, rfl, _⟩ := h.form
 exact list_fit h1
theorem Most.small {o : List Part} {k : Nat} (h : Most o k) (hk : k ≤ 282) : Small o := by
 obtain ⟨f, h1, rfl, h3⟩ := h.form
 refine small_each (Nat.le_trans h.len hk) (fun x hx => ?_)
 obtain ⟨h4, _⟩ := (list_mem h1 x).1 hx
 rw [h4]
 exact Nat.le_trans (h3 _) hk
theorem Most.none_ : Most [] 0 := by
 refine ⟨⟨fun _ => [], ⟨rfl, fun _ _ => rfl, fun _ => Ru.order_nil⟩, ?_, fun _ => Nat.le_refl _⟩, Nat.le_refl _⟩
 unfold listC
 induction List.range Dt.topV with
 | nil => rfl
 | cons d l ih => rw [List.filterMap_cons]; exact ih
theorem Most.more {o : List Part} {k m : Nat} (h : Most o k) (hk : k ≤ m) : Most o m := by
 obtain ⟨f, h1, h2, h3⟩ := h.form
 exact ⟨⟨f, h1, h2, fun d => Nat.le_trans (h3 d) hk⟩, Nat.le_trans h.len hk⟩
theorem Most.step {o : List Part} {k : Nat} (h : Most o k) {x : Dot} (h1 : x.1 < 65536) (h2 : x.2 < 18446744073709551616) : Most (stepO o x) (k + 1) := by
 unfold stepO
 split
 · have hd := fit_dot h1 h2
   refine ⟨⟨fun d => Ru.setL (runsC o d) (runsC (dotC x) d) 0, tells_both h.fit hd 0, rfl, fun d => ?_⟩, Nat.le_trans (set_len h.fit hd 0) ?_⟩
   · obtain ⟨f, h3, h4, h5⟩ := h.form
     have e1 : runsC o d = f d := by rw [h4, runs_list h3]
     have e2 := runs_length (dotC x) d
     have e3 := Ru.set_length0 (runsC o d) (runsC (dotC x) d)
     have e4 := h5 d
     rw [e1] at e3
     have e5 : ((dotC x).map (fun x => x.2.length)).sum = 1 := rfl
     rw [e5] at e2
     show (Ru.setL (runsC o d) (runsC (dotC x) d) 0).length ≤ k + 1
     rw [e1]
     omega
   · have := h.len
     have e : (dotC x).length = 1 := rfl
     omega
 · exact h.more (Nat.le_succ _)
theorem of_most (l : List Dot) (hl : Dt.Fit l) (k : Nat) : Most (ofC (l.take k)) k := by
 induction k with
 | zero => exact Most.none_
 | succ k ih =>
   by_cases hk : k < l.length
   · have hg := List.getElem?_eq_getElem hk
     rw [of_next hg]
     have := hl _ (List.getElem_mem hk)
     exact ih.step this.1 this.2
   · have e : l.take (k + 1) = l.take k := by rw [List.take_of_length_le (by omega), List.take_of_length_le (by omega)]
     rw [e]
     exact ih.more (Nat.le_succ _)
theorem of_whole (l : List Dot) (hl : Dt.Fit l) : Most (ofC l) l.length := by
 have := of_most l hl l.length
 rwa [List.take_length] at this
end Go.Proofs.YtgaegfddobpomaaGreat.Cx

namespace Go.Proofs.YtgaegfddobpomaaGreat.Cx
open Go.ChangeShapes Go.WideShapes Go.ChangeAt Go.RowKit
set_option linter.unusedVariables false
theorem dot_lit (W : World) (x : Dot) (b1 b2 : Nat) (h1 : b1 = W.heap.size) (h2 : b2 = W.heap.size + 1) (hx : x.1 < 65536) (hx2 : x.2 < 18446744073709551616) :
   CtxAt ((W.alloc (.cells #[.int .u64 (x.2 : Int), .int .u64 (x.2 : Int)] 68)).alloc (.cells #[.int .u16 (x.1 : Int), .slice (some ⟨b1, 0, none⟩) 1 1] 71)) (some ⟨b2, 0, none⟩) (dotC x) 1 1 := by
 subst h1 h2
 have hs : (W.alloc (.cells #[.int .u64 (x.2 : Int), .int .u64 (x.2 : Int)] 68)).heap.size = W.heap.size + 1 := by simp
 refine ⟨rfl, (fun h => by cases h), by decide, by decide, [⟨x.1, some ⟨W.heap.size, 0, none⟩, 1, 1⟩], ?_, rfl, ?_⟩
 · intro _
   refine ⟨_, rfl, by simp, fun j u hu => ?_⟩
   rw [← hs]
   exact part_at _ ⟨x.1, some ⟨W.heap.size, 0, none⟩, 1, 1⟩ j u hu
 · intro k p y hp hy
   have hk : k = 0 := by
     rcases Nat.eq_zero_or_pos k with h | h
     · exact h
     · rw [List.getElem?_eq_none (by simp; omega)] at hp; cases hp
   subst hk
   have e1 : p = ⟨x.1, some ⟨W.heap.size, 0, none⟩, 1, 1⟩ := by simpa using hp.symm
   have e2 : y = (x.1, [(x.2, x.2)]) := by simpa [dotC] using hy.symm
   subst e1 e2
   refine ⟨rfl, hx, rfl, (fun h => by cases h), (by show (1 : Nat) ≤ 1; omega), (by show (1 : Nat) ≤ 9223372036854775807; omega), ⟨fun r hr => by obtain rfl := List.mem_singleton.1 hr; exact ⟨hx2, hx2⟩, fun _ => ⟨_, rfl, by simp; omega, fun j u hu => ?_⟩⟩⟩
   have hB := Dt.below_new (W.alloc (.cells #[.int .u64 (x.2 : Int), .int .u64 (x.2 : Int)] 68)) (.cells #[.int .u16 (x.1 : Int), .slice (some ⟨W.heap.size, 0, none⟩) 1 1] 71)
   have e3 : Ru.rv [(x.2, x.2)] = [.int .u64 (x.2 : Int), .int .u64 (x.2 : Int)] := rfl
   rw [e3] at hu
   have hc : (W.alloc (.cells #[.int .u64 (x.2 : Int), .int .u64 (x.2 : Int)] 68)).cell? ((⟨W.heap.size, 0, none⟩ : Addr).add j) = some u := by
     rw [Dt.zero_add, World.cell?_alloc_new]
     simpa using hu
   rw [← hc]
   exact hB.cell (by rw [Dt.block_add]; simp)
theorem CtxAt.drew {w : World} {A : Option Addr} {c : List Part} {n cp : Nat} (h : CtxAt w A c n cp) : CtxAt w.drew A c n cp := h.up ((Below.refl _ _).drew)
theorem rgood_later {w W : World} (d : Dot) (hW : Below w.heap.size w W) : Calls Tryz.prog 75 #[.agg #[.int .u16 (d.1 : Int), .int .u64 (d.2 : Int)]] W fun e V => e = .returned (.bool (Dt.mayD d)) ∧ Below w.heap.size w V :=
 (Dt.rgood_any W d.1 d.2).mono fun _ _ ⟨h1, h2⟩ => ⟨h1, by rw [h2]; exact hW.trans ((Dt.below_new W _).mono hW.size)⟩
theorem made_ctx {w W : World} {f : Nat} {args : Array Value} {m : List Part} (hW : Below w.heap.size w W) (h : Calls Tryz.prog f args W (CtxPost W m)) :
   Calls Tryz.prog f args W fun e V => (∃ A n c, e = .returned (.slice A n c) ∧ CtxAt V A m n c) ∧ Below w.heap.size w V ∧ Below W.heap.size W V :=
 h.mono fun e V hp => by
   obtain ⟨A, n, c, e1, h1, h2⟩ := post_ctx hp
   exact ⟨⟨A, n, c, e1, h1⟩, hW.trans (h2.mono hW.size), h2⟩
def CtxHas (w : World) (m : List Part) (e : Ending) (w' : World) : Prop := ∃ A n c, e = .returned (.slice A n c) ∧ CtxAt w' A m n c ∧ Below w.heap.size w w'
set_option maxHeartbeats 8000000 in
theorem rof_any (w : World) (A0 : Option Addr) (l : List Dot) (n c0 : Nat) (hl : l.length = n) (hb : Dt.Dots w w.heap.size A0 l) (hn : n ≤ 281) :
   Calls Tryz.prog 41 #[.slice A0 n c0] w (CtxHas w (ofC l)) := by
 have HL := Lib.hid hl
 have H1 := Lib.hid hb
 have HM := Lib.hid (of_most l hb.1)
 clear hl hb
 go_enter Tryz.func41, Tryz.ntmps41
 go_wp2_with fail
 go_loopw [3, 4] (fun v i wr => ∃ (k m : Nat) (A : Option Addr) (c : Nat), k ≤ n ∧ i = .int .i64 ((k : Nat) : Int) ∧ v = .slice A m c ∧ CtxAt wr A (ofC (l.take k)) m c ∧ Below w.heap.size w wr) (fun _ i _ => n - (intOf i).toNat)
 case atStart => exact ⟨0, 0, none, 0, Nat.zero_le _, rfl, rfl, CtxAt.none_ w, Below.refl _ _⟩
 case round =>
   obtain ⟨k, m, A, c, hk, rfl, rfl, hc, hw⟩ := hrel
   have HC := Lib.hid hc
   have HW := Lib.hid hw
   clear hc hw
   by_cases hlt : k < n
   · obtain ⟨ad, x, rfl, hB, hlx, hx1, hx2, hcx⟩ := H1.out.cells (k := k) (by rw [HL.out]; exact hlt)
     have HN := Lib.hid (of_next hlx)
     clear hlx
     have hG := rgood_later x (Below.refl wr.heap.size wr)
     obtain ⟨d1, d2⟩ := hcx wr HW.out
     cases hm : Dt.mayD x with
     | true =>
       rw [hm] at hG
       have HS : Hid (ofC (l.take (k + 1)) = setC (ofC (l.take k)) (dotC x) 0) := Lib.hid (by rw [HN.out]; exact if_pos hm)
       have hsm := (HM.out k).small (by omega)
       have hsd : Small (dotC x) := small_each (by show 1 ≤ 282; omega) (fun y hy => by obtain rfl := List.mem_singleton.1 hy; show 1 ≤ 282; omega)
       clear hm HN
       go_wp2_with fail
       refine hG.mono ?_
       rintro e V ⟨rfl, hV⟩
       have HCV := Lib.hid (HC.out.up hV)
       have HWV : Hid (Below w.heap.size w V) := Lib.hid (HW.out.trans (hV.mono HW.out.size))
       have HCX : Hid (∀ U, Below V.heap.size V U → U.cell? (ad.add (k * 2)) = some (.int .u16 (x.1 : Int)) ∧ U.cell? ⟨(ad.add (k * 2)).block, (ad.add (k * 2)).off + 1, none⟩ = some (.int .u64 (x.2 : Int))) := Lib.hid (fun U hU => hcx U (HWV.out.trans (hU.mono HWV.out.size)))
       have A22 := fun W A2 (hW : Below V.heap.size V W) (h2 : CtxAt W A2 (dotC x) 1 1) => made_ctx hW (rjoin_any W A A2 (ofC (l.take k)) (dotC x) m 1 c 1 (HCV.out.up hW) h2 hsm hsd)
       rw [← HS.out] at A22
       clear hV d1 d2 hcx
       obtain ⟨d1, d2⟩ := HCX.out V (Below.refl _ _)
       go_wp2_with fail
       go_region_held3 (fun U => U.cell? (ad.add (k * 2)) = some (.int .u16 (x.1 : Int)) ∧ U.cell? ⟨(ad.add (k * 2)).block, (ad.add (k * 2)).off + 1, none⟩ = some (.int .u64 (x.2 : Int))) (first | exact ⟨d1, d2⟩ | assumption | exact HCX.out _ (by (repeat (first | exact Below.refl _ _ | assumption | apply bel_drew | apply bel_alloc)))) (first
         | (go_at_call 42; (with_reducible refine (A22 _ _ ?_ ?_).mono ?_); (focus (repeat (first | exact Below.refl _ _ | assumption | apply bel_drew | apply bel_alloc))); (focus (first | exact dot_lit _ x _ _ rfl rfl hx1 hx2 | exact (dot_lit _ x _ _ rfl rfl hx1 hx2).drew)); rintro e U ⟨⟨A5, m5, c5, rfl, hU⟩, bv, cv'⟩; have hcV := HCX.out U bv))
       all_goals
         have HU := Lib.hid hU
         have HWU : Hid (Below w.heap.size w U) := Lib.hid (HWV.out.trans (bv.mono HWV.out.size))
         clear hU bv cv' hcV d1 d2 A22
         go_wp2
         go_roundw
         case rel => exact ⟨k + 1, m5, A5, c5, by omega, by go_num, rfl, HU.out, HWU.out⟩
         case measure => simp [intOf]; omega
     | false =>
       rw [hm] at hG
       have HS : Hid (ofC (l.take (k + 1)) = ofC (l.take k)) := Lib.hid (by rw [HN.out]; exact if_neg (by rw [hm]; simp))
       clear hm HN hcx
       go_wp2_with fail
       refine hG.mono ?_
       rintro e V ⟨rfl, hV⟩
       have HCV := Lib.hid (HC.out.up hV)
       have HWV : Hid (Below w.heap.size w V) := Lib.hid (HW.out.trans (hV.mono HW.out.size))
       clear hV d1 d2
       go_wp2
       go_roundw
       case rel => exact ⟨k + 1, m, A, c, by omega, by go_num, rfl, by rw [HS.out]; exact HCV.out, HWV.out⟩
       case measure => simp [intOf]; omega
   · obtain rfl : k = n := by omega
     have e : Hid (l.take k = l) := Lib.hid (List.take_of_length_le (by rw [HL.out]; exact Nat.le_refl _))
     rw [e.out] at HC
     go_wp2
     go_ret
     exact ⟨A, m, c, rfl, HC.out, HW.out⟩
end Go.Proofs.YtgaegfddobpomaaGreat.Cx
