/- Words and contracts that the proofs of this seat stand on, part 10 of 20. -/
import Derived.Test.YtmhghgogehmehaaGreatMgI
import Derived.Deep.RegionHeld3
import Derived.Shelf.SlSortCmp.QuietGrown

/- The contract of the document's set of layer ctx: what two contexts come to. For every two contexts of at most 100 parts, of at most 100 runs each (gen-set.py printed it). -/
namespace Go.Proofs.YtmhghgogehmehaaGreat.Cx
open Go.ChangeShapes Go.WideShapes Go.ChangeAt Go.RowKit
set_option linter.unusedVariables false

theorem bel_drew {w W : World} (h : Below w.heap.size w W) : Below w.heap.size w W.drew := h.drew
theorem bel_alloc {w W : World} (o : Obj) (h : Below w.heap.size w W) : Below w.heap.size w (W.alloc o) := h.alloc h.size o
/-- a call that makes runs, in a later world. -/
theorem made_runs {w W : World} {f : Nat} {args : Array Value} {m : List Run} (hW : Below w.heap.size w W) (hm : Ru.InOrder m) (h : Calls Tryz.prog f args W (Ru.RunPost W m)) :
    Calls Tryz.prog f args W fun e V => ∃ A n c, e = .returned (.slice A n c) ∧ RunsAt V A m n c ∧ Below w.heap.size w V ∧ Below W.heap.size W V :=
  h.mono fun e V hp => by
    obtain ⟨A, n, c, e1, h1, h2, _⟩ := runs_post hp hm
    exact ⟨A, n, c, e1, h1, hW.trans (h2.mono hW.size), h2⟩
theorem pick_next {f : Nat → List Run} {l : List Dot} {k : Nat} {x : Dot} (h : l[k]? = some x) : (l.take (k + 1)).filterMap (fun x => oneC f x.1) = (l.take k).filterMap (fun x => oneC f x.1) ++ (if (f x.1).length = 0 then [] else [(x.1, f x.1)]) := by
  rw [List.take_add_one, h, List.filterMap_append]
  congr 1
  simp only [Option.toList_some]
  by_cases h0 : (f x.1).length = 0
  · rw [if_pos h0, List.filterMap_cons, show oneC f x.1 = none from if_pos h0]; rfl
  · rw [if_neg h0, List.filterMap_cons, show oneC f x.1 = some (x.1, f x.1) from if_neg h0]; rfl
theorem devs_len {a b : List Part} (ha : a.length ≤ 1000) (hb : b.length ≤ 1000) (hfa : FitC a) (hfb : FitC b) : Dt.Fit (devsC a b) ∧ (devsC a b).length ≤ 2000 := by
  have h1 := step_fit a hfa [] (fun r hr => by cases hr) a.length
  rw [List.take_length] at h1
  have h2 := step_fit b hfb (a.foldl stepP []) h1.1 b.length
  rw [List.take_length] at h2
  refine ⟨h2.1, ?_⟩
  have h3 := h1.2
  have h4 := h2.2
  simp only [List.length_nil, Nat.zero_add] at h3
  unfold devsC
  omega
/-- what a round of set knows. -/
def SRel (w : World) (n : Nat) (g : Nat → List Part) (v i : Value) (wr : World) : Prop :=
  ∃ (k m : Nat) (A : Option Addr) (c : Nat) (ps : List PV), k ≤ n ∧ i = .int .i64 ((k : Nat) : Int) ∧ v = .slice A m c ∧ (g k).length = m ∧ wr.ownsRow w.heap.size 71 2 (.slice A m c) m (cv ps) ∧ Match wr ps (g k) ∧ Apart wr ps (Value.slice A m c).ownBlock ∧ Below w.heap.size w wr
theorem own_block_lt {w : World} {B k m c size : Nat} {e : TypeId} {A : Option Addr} {xs : List Value} (h : w.ownsRow B e size (.slice A m c) k xs) : ∀ r, (Value.slice A m c).ownBlock = some r → B ≤ r ∧ r < w.heap.size := by
  intro r hr
  cases A with
  | none => cases hr
  | some ad =>
    have e2 : ad.block = r := by simpa [Value.ownBlock] using hr
    have := h.lt ad.block rfl
    rw [e2] at this
    exact this

set_option maxHeartbeats 16000000 in
theorem rset0_any (w : World) (A1 A2 : Option Addr) (a b : List Part) (n1 n2 c1 c2 : Nat) (h1 : CtxAt w A1 a n1 c1) (h2 : CtxAt w A2 b n2 c2) (s1 : Small a) (s2 : Small b) :
    Calls Tryz.prog 59 #[.slice A1 n1 c1, .slice A2 n2 c2, .int .i64 0] w (CtxPost w (setC a b 0)) := by
  have hn1 : n1 ≤ 1000 := by rw [← h1.len]; exact s1.1
  have hn2 : n2 ≤ 1000 := by rw [← h2.len]; exact s2.1
  have H1 := Lib.hid h1
  have H2 := Lib.hid h2
  have S1 := Lib.hid s1
  have S2 := Lib.hid s2
  obtain ⟨R, hR⟩ : ∃ R, setC a b 0 = R := ⟨_, rfl⟩
  rw [hR]
  have HPK : Hid ((devsC a b).filterMap (fun x => oneC (fun d => Ru.setL (runsC a d) (runsC b d) 0) x.1) = R) := Lib.hid ((pick_devs (tells_both h1.fit h2.fit 0) (fun d h => set_some d h)).trans hR)
  have CD := Lib.hid (rdevs_any w A1 A2 a b n1 n2 c1 c2 h1 h2 hn1 hn2)
  obtain ⟨hdf, hdl⟩ := devs_len s1.1 s2.1 h1.fit h2.fit
  have HDF := Lib.hid hdf
  clear h1 h2 s1 s2 hR hdf
  have k0 : ((0 : Int) == 1) = false := rfl
  have k1 : ((0 : Int) == 2) = false := rfl
  go_enter Tryz.func59, Tryz.ntmps59
  go_wp2_with fail
  refine CD.out.mono ?_
  rintro e w1 hpo
  obtain ⟨A4, n, c4, rfl, hn, _, _, _, hd, _, hb1⟩ := Dt.post_dots hpo HDF.out
  have hnl : n ≤ 2000 := by rw [← hn]; exact hdl
  have HN := Lib.hid hn
  have HD := Lib.hid hd
  have HB1 := Lib.hid hb1
  clear hn hd hb1 hpo CD hdl HDF
  generalize devsC a b = L at HN HD HPK
  obtain ⟨g, hg⟩ : ∃ g : Nat → List Part, g = fun k => (L.take k).filterMap (fun x => oneC (fun d => Ru.setL (runsC a d) (runsC b d) 0) x.1) := ⟨_, rfl⟩
  have HGE : Hid (∀ k, g k = (L.take k).filterMap (fun x => oneC (fun d => Ru.setL (runsC a d) (runsC b d) 0) x.1)) := Lib.hid (fun k => by rw [hg])
  have HGL : Hid (∀ k, (g k).length ≤ k) := Lib.hid (fun k => by rw [hg]; exact Nat.le_trans (List.length_filterMap_le _ _) (List.length_take_le _ _))
  have HGN : Hid (g n = R) := Lib.hid (by rw [hg]; show (L.take n).filterMap _ = R; rw [List.take_of_length_le (by rw [HN.out]; exact Nat.le_refl _)]; exact HPK.out)
  clear hg HPK
  go_wp2_with fail
  go_loopw [7, 9] (fun v i wr => SRel w1 n g v i wr) (fun _ i _ => n - (intOf i).toNat)
  case atStart => exact ⟨0, 0, none, 0, [], Nat.zero_le _, rfl, rfl, by rw [HGE.out]; rfl, World.ownsRow_nil _ _ _ _, by rw [HGE.out]; exact Match.nil_ _, (fun p hp => by cases hp), Below.refl _ _⟩
  case round =>
    obtain ⟨k, m, A, c, ps, hk, rfl, rfl, hm, ho, hma, hap, hw⟩ := hrel
    have hmk : m ≤ k := by rw [← hm]; exact HGL.out k
    have HM := Lib.hid hm
    have HO := Lib.hid ho
    have HW := Lib.hid hw
    have HMA := Lib.hid hma
    have HAP := Lib.hid hap
    clear hm ho hw hma hap
    by_cases hlt : k < n
    · obtain ⟨ad, x, rfl, hB, hlx, hx1, hx2, hcx⟩ := HD.out.cells (k := k) (by rw [HN.out]; exact hlt)
      have HX := pick_next (f := fun d => Ru.setL (runsC a d) (runsC b d) 0) hlx
      rw [← HGE.out, ← HGE.out] at HX
      obtain ⟨x1, x2⟩ := x
      have HX2 := Lib.hid HX
      clear hlx HX
      have HC : Hid (∀ V, Below wr.heap.size wr V → V.cell? (ad.add (k * 2)) = some (.int .u16 (x1 : Int))) := fun V hV => (hcx V (HW.out.trans (hV.mono HW.out.size))).1
      clear hcx
      have d1 := HC.out wr (Below.refl _ _)
      have HWW : Hid (Below w.heap.size w wr) := HB1.out.trans (HW.out.mono HB1.out.size)
      have R1 := Lib.hid (H1.out.up HWW.out)
      have R2 := Lib.hid (H2.out.up HWW.out)
      have A18a := fun W (hW : Below wr.heap.size wr W) => made_runs hW (runs_order a x1) (rruns_any W A1 a n1 c1 x1 (R1.out.up hW) S1.out)
      have A18b := fun W (hW : Below wr.heap.size wr W) => made_runs hW (runs_order b x1) (rruns_any W A2 b n2 c2 x1 (R2.out.up hW) S2.out)
      have hla := small_runs S1.out x1
      have hlb := small_runs S2.out x1
      go_wp2_with fail
      go_region_held3 (fun V => V.cell? (ad.add (k * 2)) = some (.int .u16 (x1 : Int))) (first | exact d1 | assumption | exact HC.out _ (by (repeat (first | exact Below.refl _ _ | assumption | apply bel_drew)))) (first
        | (go_at_call 77; (with_reducible refine (A18a _ ?_).mono ?_); (focus (repeat (first | exact Below.refl _ _ | assumption | apply bel_drew | apply bel_alloc))); rintro e V ⟨Ax, nx, cx, rfl, hX, bv, cv'⟩; have hcV := HC.out V bv)
        | (go_at_call 77; (with_reducible refine (A18b _ ?_).mono ?_); (focus (repeat (first | exact Below.refl _ _ | assumption | apply bel_drew | apply bel_alloc))); rintro e V' ⟨Ay, ny, cy, rfl, hY, bv', cv''⟩; have hcV' := HC.out V' bv'; have hX2 := hX.up cv''))
      all_goals
        have HX3 := Lib.hid hX2
        have HY := Lib.hid hY
        have BV : Hid (Below wr.heap.size wr V') := Lib.hid bv'
        have HJ := Lib.hid (Ru.join_any V' Ax Ay (runsC a x1) (runsC b x1) nx ny cx cy hX2.len hY.len hX2.nil hY.nil hX2.runs hY.runs (by rw [← hX2.len]; omega) (by rw [← hY.len]; omega))
        clear hX hX2 hY bv bv' cv' cv'' hcV hcV' A18a A18b R1 R2 d1
        go_wp2_with fail
        refine HJ.out.mono ?_
        rintro e V3 hp3
        obtain ⟨Az, nz, cz, rfl, hz, hb3, hzn⟩ := runs_post hp3 (Ru.set_spec _ _ _).1
        have BV3 : Hid (Below wr.heap.size wr V3) := Lib.hid (BV.out.trans (hb3.mono BV.out.size))
        have HZ := Lib.hid hz
        have HZN : Hid (∀ ad, Az = some ad → wr.heap.size ≤ ad.block) := Lib.hid (fun ad e => Nat.le_trans BV.out.size (hzn ad e))
        have HOv := Lib.hid (Dt.own_kept HO.out BV3.out)
        have HMv := Lib.hid (HMA.out.up BV3.out)
        have HAv := Lib.hid (HAP.out.up BV3.out.size)
        have HWv : Hid (Below w1.heap.size w1 V3) := Lib.hid (HW.out.trans (BV3.out.mono HW.out.size))
        have HOB := Lib.hid (own_block_lt HO.out)
        have d1 := HC.out V3 BV3.out
        clear hp3 hz hb3 hzn HX3 HY
        generalize Ru.setL (runsC a x1) (runsC b x1) 0 = z at HX2 HZ
        have hzl := HZ.out.len
        by_cases hz0 : nz = 0
        · have HE : Hid (g (k + 1) = g k) := Lib.hid (by rw [HX2.out, if_pos (by rw [hzl]; exact hz0), List.append_nil])
          subst hz0
          clear HX2 d1
          go_wp2
          go_roundw
          case rel => exact ⟨k + 1, m, A, c, ps, by omega, by go_num, rfl, by rw [HE.out]; exact HM.out, HOv.out, by rw [HE.out]; exact HMv.out, HAv.out, HWv.out⟩
          case measure => simp [intOf]; omega
        · have HE : Hid (g (k + 1) = g k ++ [(x1, z)]) := Lib.hid (by rw [HX2.out, if_neg (by rw [hzl]; exact hz0)])
          have dz : decide ((0 : Int) < (nz : Int)) = true := decide_eq_true (by omega)
          obtain ⟨adz, haz, hazB, _⟩ := HZ.out.runs.2 (by rw [Ru.rv_length]; omega)
          have HP1 : Hid (PartIs (V3.alloc (.cells #[.int .u16 (x1 : Int), .slice Az nz cz] 71)) (V3.alloc (.cells #[.int .u16 (x1 : Int), .slice Az nz cz] 71)).heap.size ⟨x1, Az, nz, cz⟩ (x1, z)) := Lib.hid (by
            have h2 := HZ.out.up (Dt.below_new V3 (.cells #[.int .u16 (x1 : Int), .slice Az nz cz] 71))
            exact ⟨rfl, hx1, h2.len, h2.nil, h2.cap, h2.max, h2.runs⟩)
          have HM1 := Lib.hid ((HMv.out.up (Dt.below_new V3 (.cells #[.int .u16 (x1 : Int), .slice Az nz cz] 71))).snoc HP1.out)
          have HA1 : Hid (Apart (V3.alloc (.cells #[.int .u16 (x1 : Int), .slice Az nz cz] 71)) (ps ++ [⟨x1, Az, nz, cz⟩]) (Value.slice A m c).ownBlock) := Lib.hid (Apart.snoc (HAv.out.up (Dt.below_new V3 _).size) (ad := adz) haz (Nat.lt_of_lt_of_le hazB (Dt.below_new V3 _).size) (fun e => by
            have h1 := HOB.out adz.block e.symm
            have h2 := HZN.out adz haz
            omega))
          have HO1 := Lib.hid (HOv.out.alloc (.cells #[.int .u16 (x1 : Int), .slice Az nz cz] 71))
          have HW1 : Hid (Below w1.heap.size w1 (V3.alloc (.cells #[.int .u16 (x1 : Int), .slice Az nz cz] 71))) := Lib.hid (bel_alloc _ HWv.out)
          clear HX2 haz hazB
          go_wp2_with (first
            | (at_builtin; refine wpList_part rfl (.tmp 52) (.tmp 60) rfl rfl _ w1.heap.size m (.slice A m c) ps ⟨V3.heap.size, 0, none⟩ ⟨x1, Az, nz, cz⟩ rfl rfl HO1.out (part_at V3 ⟨x1, Az, nz, cz⟩) (by omega) HW1.out.size ?_; intro A5 c5 w5 ho5 hg5 hl5)
            | go_in)
          have HS : Hid (SRel w1 n g (.slice A5 (m + 1) c5) (.int .i64 ((k : Int) + 1)) w5) := Lib.hid (by
            refine ⟨k + 1, m + 1, A5, c5, ps ++ [⟨x1, Az, nz, cz⟩], by omega, by go_num, rfl, by rw [HE.out, List.length_append, HM.out]; rfl, ho5, by rw [HE.out]; exact HM1.out.grown hg5 HA1.out, ?_, HW1.out.grown hg5 HW1.out.size (fun j hj => (own_block_lt HO.out j hj).1)⟩
            rcases hl5 with hl5 | hl5
            · rw [hl5]; exact HA1.out.up hg5.size
            · rw [hl5]; exact (HA1.out.turn (Nat.le_refl _)).up hg5.size)
          clear ho5 hg5 hl5 d1
          go_roundw
          case rel => exact HS.out
          case measure => simp [intOf]; omega
    · obtain rfl : n = k := by omega
      rw [HGN.out] at HM HMA
      go_wp2
      go_ret
      exact ⟨A, m, c, ps, rfl, HM.out, ru_less HO.out HB1.out.size, HMA.out, HB1.out.trans (HW.out.mono HB1.out.size)⟩
set_option maxHeartbeats 16000000 in
theorem rset1_any (w : World) (A1 A2 : Option Addr) (a b : List Part) (n1 n2 c1 c2 : Nat) (h1 : CtxAt w A1 a n1 c1) (h2 : CtxAt w A2 b n2 c2) (s1 : Small a) (s2 : Small b) :
    Calls Tryz.prog 59 #[.slice A1 n1 c1, .slice A2 n2 c2, .int .i64 1] w (CtxPost w (setC a b 1)) := by
  have hn1 : n1 ≤ 1000 := by rw [← h1.len]; exact s1.1
  have hn2 : n2 ≤ 1000 := by rw [← h2.len]; exact s2.1
  have H1 := Lib.hid h1
  have H2 := Lib.hid h2
  have S1 := Lib.hid s1
  have S2 := Lib.hid s2
  obtain ⟨R, hR⟩ : ∃ R, setC a b 1 = R := ⟨_, rfl⟩
  rw [hR]
  have HPK : Hid ((devsC a b).filterMap (fun x => oneC (fun d => Ru.setL (runsC a d) (runsC b d) 1) x.1) = R) := Lib.hid ((pick_devs (tells_both h1.fit h2.fit 1) (fun d h => set_some d h)).trans hR)
  have CD := Lib.hid (rdevs_any w A1 A2 a b n1 n2 c1 c2 h1 h2 hn1 hn2)
  obtain ⟨hdf, hdl⟩ := devs_len s1.1 s2.1 h1.fit h2.fit
  have HDF := Lib.hid hdf
  clear h1 h2 s1 s2 hR hdf
  have k0 : ((0 : Int) == 1) = false := rfl
  have k1 : ((0 : Int) == 2) = false := rfl
  go_enter Tryz.func59, Tryz.ntmps59
  go_wp2_with fail
  refine CD.out.mono ?_
  rintro e w1 hpo
  obtain ⟨A4, n, c4, rfl, hn, _, _, _, hd, _, hb1⟩ := Dt.post_dots hpo HDF.out
  have hnl : n ≤ 2000 := by rw [← hn]; exact hdl
  have HN := Lib.hid hn
  have HD := Lib.hid hd
  have HB1 := Lib.hid hb1
  clear hn hd hb1 hpo CD hdl HDF
  generalize devsC a b = L at HN HD HPK
  obtain ⟨g, hg⟩ : ∃ g : Nat → List Part, g = fun k => (L.take k).filterMap (fun x => oneC (fun d => Ru.setL (runsC a d) (runsC b d) 1) x.1) := ⟨_, rfl⟩
  have HGE : Hid (∀ k, g k = (L.take k).filterMap (fun x => oneC (fun d => Ru.setL (runsC a d) (runsC b d) 1) x.1)) := Lib.hid (fun k => by rw [hg])
  have HGL : Hid (∀ k, (g k).length ≤ k) := Lib.hid (fun k => by rw [hg]; exact Nat.le_trans (List.length_filterMap_le _ _) (List.length_take_le _ _))
  have HGN : Hid (g n = R) := Lib.hid (by rw [hg]; show (L.take n).filterMap _ = R; rw [List.take_of_length_le (by rw [HN.out]; exact Nat.le_refl _)]; exact HPK.out)
  clear hg HPK
  go_wp2_with fail
  go_loopw [7, 9] (fun v i wr => SRel w1 n g v i wr) (fun _ i _ => n - (intOf i).toNat)
  case atStart => exact ⟨0, 0, none, 0, [], Nat.zero_le _, rfl, rfl, by rw [HGE.out]; rfl, World.ownsRow_nil _ _ _ _, by rw [HGE.out]; exact Match.nil_ _, (fun p hp => by cases hp), Below.refl _ _⟩
  case round =>
    obtain ⟨k, m, A, c, ps, hk, rfl, rfl, hm, ho, hma, hap, hw⟩ := hrel
    have hmk : m ≤ k := by rw [← hm]; exact HGL.out k
    have HM := Lib.hid hm
    have HO := Lib.hid ho
    have HW := Lib.hid hw
    have HMA := Lib.hid hma
    have HAP := Lib.hid hap
    clear hm ho hw hma hap
    by_cases hlt : k < n
    · obtain ⟨ad, x, rfl, hB, hlx, hx1, hx2, hcx⟩ := HD.out.cells (k := k) (by rw [HN.out]; exact hlt)
      have HX := pick_next (f := fun d => Ru.setL (runsC a d) (runsC b d) 1) hlx
      rw [← HGE.out, ← HGE.out] at HX
      obtain ⟨x1, x2⟩ := x
      have HX2 := Lib.hid HX
      clear hlx HX
      have HC : Hid (∀ V, Below wr.heap.size wr V → V.cell? (ad.add (k * 2)) = some (.int .u16 (x1 : Int))) := fun V hV => (hcx V (HW.out.trans (hV.mono HW.out.size))).1
      clear hcx
      have d1 := HC.out wr (Below.refl _ _)
      have HWW : Hid (Below w.heap.size w wr) := HB1.out.trans (HW.out.mono HB1.out.size)
      have R1 := Lib.hid (H1.out.up HWW.out)
      have R2 := Lib.hid (H2.out.up HWW.out)
      have A18a := fun W (hW : Below wr.heap.size wr W) => made_runs hW (runs_order a x1) (rruns_any W A1 a n1 c1 x1 (R1.out.up hW) S1.out)
      have A18b := fun W (hW : Below wr.heap.size wr W) => made_runs hW (runs_order b x1) (rruns_any W A2 b n2 c2 x1 (R2.out.up hW) S2.out)
      have hla := small_runs S1.out x1
      have hlb := small_runs S2.out x1
      go_wp2_with fail
      go_region_held3 (fun V => V.cell? (ad.add (k * 2)) = some (.int .u16 (x1 : Int))) (first | exact d1 | assumption | exact HC.out _ (by (repeat (first | exact Below.refl _ _ | assumption | apply bel_drew)))) (first
        | (go_at_call 77; (with_reducible refine (A18a _ ?_).mono ?_); (focus (repeat (first | exact Below.refl _ _ | assumption | apply bel_drew | apply bel_alloc))); rintro e V ⟨Ax, nx, cx, rfl, hX, bv, cv'⟩; have hcV := HC.out V bv)
        | (go_at_call 77; (with_reducible refine (A18b _ ?_).mono ?_); (focus (repeat (first | exact Below.refl _ _ | assumption | apply bel_drew | apply bel_alloc))); rintro e V' ⟨Ay, ny, cy, rfl, hY, bv', cv''⟩; have hcV' := HC.out V' bv'; have hX2 := hX.up cv''))
      all_goals
        have HX3 := Lib.hid hX2
        have HY := Lib.hid hY
        have BV : Hid (Below wr.heap.size wr V') := Lib.hid bv'
        have HJ := Lib.hid (Ru.join_any V' Ax Ay (runsC a x1) (runsC b x1) nx ny cx cy hX2.len hY.len hX2.nil hY.nil hX2.runs hY.runs (by rw [← hX2.len]; omega) (by rw [← hY.len]; omega))
        clear hX hX2 hY bv bv' cv' cv'' hcV hcV' A18a A18b R1 R2 d1
        go_wp2_with fail
        refine HJ.out.mono ?_
        rintro e V3 hp3
        obtain ⟨Az, nz, cz, rfl, hz, hb3, hzn⟩ := runs_post hp3 (Ru.set_spec _ _ _).1
        have BV3 : Hid (Below wr.heap.size wr V3) := Lib.hid (BV.out.trans (hb3.mono BV.out.size))
        have HM2 := Lib.hid (Ru.meet_any V3 Ax Ay (runsC a x1) (runsC b x1) nx ny cx cy HX3.out.len HY.out.len HX3.out.nil HY.out.nil (HX3.out.up hb3).runs (HY.out.up hb3).runs (by rw [← HX3.out.len]; omega) (by rw [← HY.out.len]; omega))
        clear hp3 hz hb3 hzn HJ
        go_wp2_with fail
        refine HM2.out.mono ?_
        rintro e V4 hp3
        obtain ⟨Az, nz, cz, rfl, hz, hb3, hzn⟩ := runs_post hp3 (Ru.set_spec _ _ _).1
        have BV4 : Hid (Below wr.heap.size wr V4) := Lib.hid (BV3.out.trans (hb3.mono BV3.out.size))
        have HZ := Lib.hid hz
        have HZN : Hid (∀ ad, Az = some ad → wr.heap.size ≤ ad.block) := Lib.hid (fun ad e => Nat.le_trans BV3.out.size (hzn ad e))
        have HOv := Lib.hid (Dt.own_kept HO.out BV4.out)
        have HMv := Lib.hid (HMA.out.up BV4.out)
        have HAv := Lib.hid (HAP.out.up BV4.out.size)
        have HWv : Hid (Below w1.heap.size w1 V4) := Lib.hid (HW.out.trans (BV4.out.mono HW.out.size))
        have HOB := Lib.hid (own_block_lt HO.out)
        have d1 := HC.out V4 BV4.out
        clear hp3 hz hb3 hzn HX3 HY
        generalize Ru.setL (runsC a x1) (runsC b x1) 1 = z at HX2 HZ
        have hzl := HZ.out.len
        by_cases hz0 : nz = 0
        · have HE : Hid (g (k + 1) = g k) := Lib.hid (by rw [HX2.out, if_pos (by rw [hzl]; exact hz0), List.append_nil])
          subst hz0
          clear HX2 d1
          go_wp2
          go_roundw
          case rel => exact ⟨k + 1, m, A, c, ps, by omega, by go_num, rfl, by rw [HE.out]; exact HM.out, HOv.out, by rw [HE.out]; exact HMv.out, HAv.out, HWv.out⟩
          case measure => simp [intOf]; omega
        · have HE : Hid (g (k + 1) = g k ++ [(x1, z)]) := Lib.hid (by rw [HX2.out, if_neg (by rw [hzl]; exact hz0)])
          have dz : decide ((0 : Int) < (nz : Int)) = true := decide_eq_true (by omega)
          obtain ⟨adz, haz, hazB, _⟩ := HZ.out.runs.2 (by rw [Ru.rv_length]; omega)
          have HP1 : Hid (PartIs (V4.alloc (.cells #[.int .u16 (x1 : Int), .slice Az nz cz] 71)) (V4.alloc (.cells #[.int .u16 (x1 : Int), .slice Az nz cz] 71)).heap.size ⟨x1, Az, nz, cz⟩ (x1, z)) := Lib.hid (by
            have h2 := HZ.out.up (Dt.below_new V4 (.cells #[.int .u16 (x1 : Int), .slice Az nz cz] 71))
            exact ⟨rfl, hx1, h2.len, h2.nil, h2.cap, h2.max, h2.runs⟩)
          have HM1 := Lib.hid ((HMv.out.up (Dt.below_new V4 (.cells #[.int .u16 (x1 : Int), .slice Az nz cz] 71))).snoc HP1.out)
          have HA1 : Hid (Apart (V4.alloc (.cells #[.int .u16 (x1 : Int), .slice Az nz cz] 71)) (ps ++ [⟨x1, Az, nz, cz⟩]) (Value.slice A m c).ownBlock) := Lib.hid (Apart.snoc (HAv.out.up (Dt.below_new V4 _).size) (ad := adz) haz (Nat.lt_of_lt_of_le hazB (Dt.below_new V4 _).size) (fun e => by
            have h1 := HOB.out adz.block e.symm
            have h2 := HZN.out adz haz
            omega))
          have HO1 := Lib.hid (HOv.out.alloc (.cells #[.int .u16 (x1 : Int), .slice Az nz cz] 71))
          have HW1 : Hid (Below w1.heap.size w1 (V4.alloc (.cells #[.int .u16 (x1 : Int), .slice Az nz cz] 71))) := Lib.hid (bel_alloc _ HWv.out)
          clear HX2 haz hazB
          go_wp2_with (first
            | (at_builtin; refine wpList_part rfl (.tmp 52) (.tmp 60) rfl rfl _ w1.heap.size m (.slice A m c) ps ⟨V4.heap.size, 0, none⟩ ⟨x1, Az, nz, cz⟩ rfl rfl HO1.out (part_at V4 ⟨x1, Az, nz, cz⟩) (by omega) HW1.out.size ?_; intro A5 c5 w5 ho5 hg5 hl5)
            | go_in)
          have HS : Hid (SRel w1 n g (.slice A5 (m + 1) c5) (.int .i64 ((k : Int) + 1)) w5) := Lib.hid (by
            refine ⟨k + 1, m + 1, A5, c5, ps ++ [⟨x1, Az, nz, cz⟩], by omega, by go_num, rfl, by rw [HE.out, List.length_append, HM.out]; rfl, ho5, by rw [HE.out]; exact HM1.out.grown hg5 HA1.out, ?_, HW1.out.grown hg5 HW1.out.size (fun j hj => (own_block_lt HO.out j hj).1)⟩
            rcases hl5 with hl5 | hl5
            · rw [hl5]; exact HA1.out.up hg5.size
            · rw [hl5]; exact (HA1.out.turn (Nat.le_refl _)).up hg5.size)
          clear ho5 hg5 hl5 d1
          go_roundw
          case rel => exact HS.out
          case measure => simp [intOf]; omega
    · obtain rfl : n = k := by omega
      rw [HGN.out] at HM HMA
      go_wp2
      go_ret
      exact ⟨A, m, c, ps, rfl, HM.out, ru_less HO.out HB1.out.size, HMA.out, HB1.out.trans (HW.out.mono HB1.out.size)⟩
set_option maxHeartbeats 16000000 in
theorem rset2_any (w : World) (A1 A2 : Option Addr) (a b : List Part) (n1 n2 c1 c2 : Nat) (h1 : CtxAt w A1 a n1 c1) (h2 : CtxAt w A2 b n2 c2) (s1 : Small a) (s2 : Small b) :
    Calls Tryz.prog 59 #[.slice A1 n1 c1, .slice A2 n2 c2, .int .i64 2] w (CtxPost w (setC a b 2)) := by
  have hn1 : n1 ≤ 1000 := by rw [← h1.len]; exact s1.1
  have hn2 : n2 ≤ 1000 := by rw [← h2.len]; exact s2.1
  have H1 := Lib.hid h1
  have H2 := Lib.hid h2
  have S1 := Lib.hid s1
  have S2 := Lib.hid s2
  obtain ⟨R, hR⟩ : ∃ R, setC a b 2 = R := ⟨_, rfl⟩
  rw [hR]
  have HPK : Hid ((devsC a b).filterMap (fun x => oneC (fun d => Ru.setL (runsC a d) (runsC b d) 2) x.1) = R) := Lib.hid ((pick_devs (tells_both h1.fit h2.fit 2) (fun d h => set_some d h)).trans hR)
  have CD := Lib.hid (rdevs_any w A1 A2 a b n1 n2 c1 c2 h1 h2 hn1 hn2)
  obtain ⟨hdf, hdl⟩ := devs_len s1.1 s2.1 h1.fit h2.fit
  have HDF := Lib.hid hdf
  clear h1 h2 s1 s2 hR hdf
  have k0 : ((0 : Int) == 1) = false := rfl
  have k1 : ((0 : Int) == 2) = false := rfl
  go_enter Tryz.func59, Tryz.ntmps59
  go_wp2_with fail
  refine CD.out.mono ?_
  rintro e w1 hpo
  obtain ⟨A4, n, c4, rfl, hn, _, _, _, hd, _, hb1⟩ := Dt.post_dots hpo HDF.out
  have hnl : n ≤ 2000 := by rw [← hn]; exact hdl
  have HN := Lib.hid hn
  have HD := Lib.hid hd
  have HB1 := Lib.hid hb1
  clear hn hd hb1 hpo CD hdl HDF
  generalize devsC a b = L at HN HD HPK
  obtain ⟨g, hg⟩ : ∃ g : Nat → List Part, g = fun k => (L.take k).filterMap (fun x => oneC (fun d => Ru.setL (runsC a d) (runsC b d) 2) x.1) := ⟨_, rfl⟩
  have HGE : Hid (∀ k, g k = (L.take k).filterMap (fun x => oneC (fun d => Ru.setL (runsC a d) (runsC b d) 2) x.1)) := Lib.hid (fun k => by rw [hg])
  have HGL : Hid (∀ k, (g k).length ≤ k) := Lib.hid (fun k => by rw [hg]; exact Nat.le_trans (List.length_filterMap_le _ _) (List.length_take_le _ _))
  have HGN : Hid (g n = R) := Lib.hid (by rw [hg]; show (L.take n).filterMap _ = R; rw [List.take_of_length_le (by rw [HN.out]; exact Nat.le_refl _)]; exact HPK.out)
  clear hg HPK
  go_wp2_with fail
  go_loopw [7, 9] (fun v i wr => SRel w1 n g v i wr) (fun _ i _ => n - (intOf i).toNat)
  case atStart => exact ⟨0, 0, none, 0, [], Nat.zero_le _, rfl, rfl, by rw [HGE.out]; rfl, World.ownsRow_nil _ _ _ _, by rw [HGE.out]; exact Match.nil_ _, (fun p hp => by cases hp), Below.refl _ _⟩
  case round =>
    obtain ⟨k, m, A, c, ps, hk, rfl, rfl, hm, ho, hma, hap, hw⟩ := hrel
    have hmk : m ≤ k := by rw [← hm]; exact HGL.out k
    have HM := Lib.hid hm
    have HO := Lib.hid ho
    have HW := Lib.hid hw
    have HMA := Lib.hid hma
    have HAP := Lib.hid hap
    clear hm ho hw hma hap
    by_cases hlt : k < n
    · obtain ⟨ad, x, rfl, hB, hlx, hx1, hx2, hcx⟩ := HD.out.cells (k := k) (by rw [HN.out]; exact hlt)
      have HX := pick_next (f := fun d => Ru.setL (runsC a d) (runsC b d) 2) hlx
      rw [← HGE.out, ← HGE.out] at HX
      obtain ⟨x1, x2⟩ := x
      have HX2 := Lib.hid HX
      clear hlx HX
      have HC : Hid (∀ V, Below wr.heap.size wr V → V.cell? (ad.add (k * 2)) = some (.int .u16 (x1 : Int))) := fun V hV => (hcx V (HW.out.trans (hV.mono HW.out.size))).1
      clear hcx
      have d1 := HC.out wr (Below.refl _ _)
      have HWW : Hid (Below w.heap.size w wr) := HB1.out.trans (HW.out.mono HB1.out.size)
      have R1 := Lib.hid (H1.out.up HWW.out)
      have R2 := Lib.hid (H2.out.up HWW.out)
      have A18a := fun W (hW : Below wr.heap.size wr W) => made_runs hW (runs_order a x1) (rruns_any W A1 a n1 c1 x1 (R1.out.up hW) S1.out)
      have A18b := fun W (hW : Below wr.heap.size wr W) => made_runs hW (runs_order b x1) (rruns_any W A2 b n2 c2 x1 (R2.out.up hW) S2.out)
      have hla := small_runs S1.out x1
      have hlb := small_runs S2.out x1
      go_wp2_with fail
      go_region_held3 (fun V => V.cell? (ad.add (k * 2)) = some (.int .u16 (x1 : Int))) (first | exact d1 | assumption | exact HC.out _ (by (repeat (first | exact Below.refl _ _ | assumption | apply bel_drew)))) (first
        | (go_at_call 77; (with_reducible refine (A18a _ ?_).mono ?_); (focus (repeat (first | exact Below.refl _ _ | assumption | apply bel_drew | apply bel_alloc))); rintro e V ⟨Ax, nx, cx, rfl, hX, bv, cv'⟩; have hcV := HC.out V bv)
        | (go_at_call 77; (with_reducible refine (A18b _ ?_).mono ?_); (focus (repeat (first | exact Below.refl _ _ | assumption | apply bel_drew | apply bel_alloc))); rintro e V' ⟨Ay, ny, cy, rfl, hY, bv', cv''⟩; have hcV' := HC.out V' bv'; have hX2 := hX.up cv''))
      all_goals
        have HX3 := Lib.hid hX2
        have HY := Lib.hid hY
        have BV : Hid (Below wr.heap.size wr V') := Lib.hid bv'
        have HJ := Lib.hid (Ru.join_any V' Ax Ay (runsC a x1) (runsC b x1) nx ny cx cy hX2.len hY.len hX2.nil hY.nil hX2.runs hY.runs (by rw [← hX2.len]; omega) (by rw [← hY.len]; omega))
        clear hX hX2 hY bv bv' cv' cv'' hcV hcV' A18a A18b R1 R2 d1
        go_wp2_with fail
        refine HJ.out.mono ?_
        rintro e V3 hp3
        obtain ⟨Az, nz, cz, rfl, hz, hb3, hzn⟩ := runs_post hp3 (Ru.set_spec _ _ _).1
        have BV3 : Hid (Below wr.heap.size wr V3) := Lib.hid (BV.out.trans (hb3.mono BV.out.size))
        have HM2 := Lib.hid (Ru.minus_any V3 Ax Ay (runsC a x1) (runsC b x1) nx ny cx cy HX3.out.len HY.out.len HX3.out.nil HY.out.nil (HX3.out.up hb3).runs (HY.out.up hb3).runs (by rw [← HX3.out.len]; omega) (by rw [← HY.out.len]; omega))
        clear hp3 hz hb3 hzn HJ
        go_wp2_with fail
        refine HM2.out.mono ?_
        rintro e V4 hp3
        obtain ⟨Az, nz, cz, rfl, hz, hb3, hzn⟩ := runs_post hp3 (Ru.set_spec _ _ _).1
        have BV4 : Hid (Below wr.heap.size wr V4) := Lib.hid (BV3.out.trans (hb3.mono BV3.out.size))
        have HZ := Lib.hid hz
        have HZN : Hid (∀ ad, Az = some ad → wr.heap.size ≤ ad.block) := Lib.hid (fun ad e => Nat.le_trans BV3.out.size (hzn ad e))
        have HOv := Lib.hid (Dt.own_kept HO.out BV4.out)
        have HMv := Lib.hid (HMA.out.up BV4.out)
        have HAv := Lib.hid (HAP.out.up BV4.out.size)
        have HWv : Hid (Below w1.heap.size w1 V4) := Lib.hid (HW.out.trans (BV4.out.mono HW.out.size))
        have HOB := Lib.hid (own_block_lt HO.out)
        have d1 := HC.out V4 BV4.out
        clear hp3 hz hb3 hzn HX3 HY
        generalize Ru.setL (runsC a x1) (runsC b x1) 2 = z at HX2 HZ
        have hzl := HZ.out.len
        by_cases hz0 : nz = 0
        · have HE : Hid (g (k + 1) = g k) := Lib.hid (by rw [HX2.out, if_pos (by rw [hzl]; exact hz0), List.append_nil])
          subst hz0
          clear HX2 d1
          go_wp2
          go_roundw
          case rel => exact ⟨k + 1, m, A, c, ps, by omega, by go_num, rfl, by rw [HE.out]; exact HM.out, HOv.out, by rw [HE.out]; exact HMv.out, HAv.out, HWv.out⟩
          case measure => simp [intOf]; omega
        · have HE : Hid (g (k + 1) = g k ++ [(x1, z)]) := Lib.hid (by rw [HX2.out, if_neg (by rw [hzl]; exact hz0)])
          have dz : decide ((0 : Int) < (nz : Int)) = true := decide_eq_true (by omega)
          obtain ⟨adz, haz, hazB, _⟩ := HZ.out.runs.2 (by rw [Ru.rv_length]; omega)
          have HP1 : Hid (PartIs (V4.alloc (.cells #[.int .u16 (x1 : Int), .slice Az nz cz] 71)) (V4.alloc (.cells #[.int .u16 (x1 : Int), .slice Az nz cz] 71)).heap.size ⟨x1, Az, nz, cz⟩ (x1, z)) := Lib.hid (by
            have h2 := HZ.out.up (Dt.below_new V4 (.cells #[.int .u16 (x1 : Int), .slice Az nz cz] 71))
            exact ⟨rfl, hx1, h2.len, h2.nil, h2.cap, h2.max, h2.runs⟩)
          have HM1 := Lib.hid ((HMv.out.up (Dt.below_new V4 (.cells #[.int .u16 (x1 : Int), .slice Az nz cz] 71))).snoc HP1.out)
          have HA1 : Hid (Apart (V4.alloc (.cells #[.int .u16 (x1 : Int), .slice Az nz cz] 71)) (ps ++ [⟨x1, Az, nz, cz⟩]) (Value.slice A m c).ownBlock) := Lib.hid (Apart.snoc (HAv.out.up (Dt.below_new V4 _).size) (ad := adz) haz (Nat.lt_of_lt_of_le hazB (Dt.below_new V4 _).size) (fun e => by
            have h1 := HOB.out adz.block e.symm
            have h2 := HZN.out adz haz
            omega))
          have HO1 := Lib.hid (HOv.out.alloc (.cells #[.int .u16 (x1 : Int), .slice Az nz cz] 71))
          have HW1 : Hid (Below w1.heap.size w1 (V4.alloc (.cells #[.int .u16 (x1 : Int), .slice Az nz cz] 71))) := Lib.hid (bel_alloc _ HWv.out)
          clear HX2 haz hazB
          go_wp2_with (first
            | (at_builtin; refine wpList_part rfl (.tmp 52) (.tmp 60) rfl rfl _ w1.heap.size m (.slice A m c) ps ⟨V4.heap.size, 0, none⟩ ⟨x1, Az, nz, cz⟩ rfl rfl HO1.out (part_at V4 ⟨x1, Az, nz, cz⟩) (by omega) HW1.out.size ?_; intro A5 c5 w5 ho5 hg5 hl5)
            | go_in)
          have HS : Hid (SRel w1 n g (.slice A5 (m + 1) c5) (.int .i64 ((k : Int) + 1)) w5) := Lib.hid (by
            refine ⟨k + 1, m + 1, A5, c5, ps ++ [⟨x1, Az, nz, cz⟩], by omega, by go_num, rfl, by rw [HE.out, List.length_append, HM.out]; rfl, ho5, by rw [HE.out]; exact HM1.out.grown hg5 HA1.out, ?_, HW1.out.grown hg5 HW1.out.size (fun j hj => (own_block_lt HO.out j hj).1)⟩
            rcases hl5 with hl5 | hl5
            · rw [hl5]; exact HA1.out.up hg5.size
            · rw [hl5]; exact (HA1.out.turn (Nat.le_refl _)).up hg5.size)
          clear ho5 hg5 hl5 d1
          go_roundw
          case rel => exact HS.out
          case measure => simp [intOf]; omega
    · obtain rfl : n = k := by omega
      rw [HGN.out] at HM HMA
      go_wp2
      go_ret
      exact ⟨A, m, c, ps, rfl, HM.out, ru_less HO.out HB1.out.size, HMA.out, HB1.out.trans (HW.out.mono HB1.out.size)⟩
end Go.Proofs.YtmhghgogehmehaaGreat.Cx

/- The contracts of the document's Join, Meet, Minus, Norm, Eq, Good, Same and Within of layer ctx. -/
namespace Go.Proofs.YtmhghgogehmehaaGreat.Cx
open Go.ChangeShapes Go.WideShapes Go.ChangeAt Go.RowKit
set_option linter.unusedVariables false

theorem small_none : Small [] := small_each (by decide) (fun x hx => by cases hx)
theorem rnorm_any (w : World) (A1 : Option Addr) (a : List Part) (n1 c1 : Nat) (h1 : CtxAt w A1 a n1 c1) (s1 : Small a) :
    Calls Tryz.prog 32 #[.slice A1 n1 c1] w (CtxPost w (normC a)) := by
  have CB := Lib.hid (rset0_any w A1 none a [] n1 0 c1 0 h1 (CtxAt.none_ w) s1 small_none)
  rw [norm_set] at CB
  clear h1 s1
  go_enter Tryz.func32, Tryz.ntmps32
  go_wp2_with fail
  refine CB.out.mono ?_
  rintro e w1 hp
  have HP := Lib.hid hp
  obtain ⟨A, n, c, ps, rfl, _⟩ := hp
  go_wp2
  go_ret
  exact HP.out

theorem take_more {l m : List Part} {k : Nat} {x : Part} (h : l.take k = m.take k) (h1 : l[k]? = some x) (h2 : m[k]? = some x) : l.take (k + 1) = m.take (k + 1) := by
  rw [List.take_add_one, List.take_add_one, h, h1, h2]
theorem ne_at {l m : List Part} {k : Nat} {x y : Part} (h1 : l[k]? = some x) (h2 : m[k]? = some y) (hn : x ≠ y) : l ≠ m := by
  intro e
  rw [e, h2] at h1
  exact hn (Option.some.inj h1).symm
set_option maxHeartbeats 4000000 in
theorem req_any (w : World) (A1 A2 : Option Addr) (a b : List Part) (n1 n2 c1 c2 : Nat) (h1 : CtxAt w A1 a n1 c1) (h2 : CtxAt w A2 b n2 c2) (hn : n1 ≤ 9223372036854775807) :
    Calls Tryz.prog 23 #[.slice A1 n1 c1, .slice A2 n2 c2] w fun e w' => e = .returned (.bool (decide (a = b))) ∧ Below w.heap.size w w' := by
  have H1 := Lib.hid h1
  have H2 := Lib.hid h2
  clear h1 h2
  by_cases hne : n1 = n2
  · subst hne
    go_enter Tryz.func23, Tryz.ntmps23
    go_wp2_with fail
    go_loopw [5] (fun i wr => ∃ k : Nat, k ≤ n1 ∧ i = .int .i64 (k : Int) ∧ a.take k = b.take k ∧ Below w.heap.size w wr) (fun i _ => n1 - (intOf i).toNat)
    case atStart => exact ⟨0, Nat.zero_le _, rfl, by simp, Below.refl _ _⟩
    case round =>
      obtain ⟨k, hk, rfl, ht, hw⟩ := hrel
      have HT := Lib.hid ht
      have HW := Lib.hid hw
      clear ht hw
      by_cases hlt : k < n1
      · obtain ⟨ad, p, x, rfl, hB, hx, hp, hcell⟩ := H1.out.cells hlt
        obtain ⟨ad2, p2, y, rfl, hB2, hy, hp2, hcell2⟩ := H2.out.cells hlt
        have HX := Lib.hid hx
        have HY := Lib.hid hy
        have HP := Lib.hid (hp.up HW.out)
        have HP2 := Lib.hid (hp2.up HW.out)
        obtain ⟨d1, d2⟩ := hcell wr HW.out
        obtain ⟨d3, d4⟩ := hcell2 wr HW.out
        clear hx hy hp hp2 hcell hcell2
        have HEQ : Hid (∀ V, Below wr.heap.size wr V → Calls Tryz.prog 52 #[.slice p.adr p.len p.cap, .slice p2.adr p2.len p2.cap] V fun e V' => e = .returned (.bool (decide (x.2 = y.2))) ∧ Below wr.heap.size wr V') := Lib.hid (fun V hV =>
          (Ru.eq_any V _ _ p.adr p2.adr x.2 y.2 p.len p2.len p.cap p2.cap HP.out.len HP2.out.len (HP.out.up hV).runs (HP2.out.up hV).runs (Nat.le_trans HP.out.cap HP.out.max)).mono (by rintro e V' ⟨rfl, m, rfl⟩; exact ⟨rfl, Dt.bel_drewN hV m⟩))
        by_cases hd : x.1 = y.1
        · have HC : Hid (∀ V, Below wr.heap.size wr V → (V.cell? (ad.add (k * 2)) = some (.int .u16 (x.1 : Int)) ∧ V.cell? ⟨(ad.add (k * 2)).block, (ad.add (k * 2)).off + 1, none⟩ = some (.slice p.adr p.len p.cap)) ∧ V.cell? (ad2.add (k * 2)) = some (.int .u16 (y.1 : Int)) ∧ V.cell? ⟨(ad2.add (k * 2)).block, (ad2.add (k * 2)).off + 1, none⟩ = some (.slice p2.adr p2.len p2.cap)) := Lib.hid (fun V hV =>
            ⟨⟨(hV.cell (World.block_lt_of_cell? wr _ d1)).trans d1, (hV.cell (World.block_lt_of_cell? wr _ d2)).trans d2⟩, (hV.cell (World.block_lt_of_cell? wr _ d3)).trans d3, (hV.cell (World.block_lt_of_cell? wr _ d4)).trans d4⟩)
          have A16 := HEQ.out
          by_cases hr : x.2 = y.2
          · rw [decide_eq_true hr] at A16
            have HS := Lib.hid (take_more HT.out HX.out (by rw [HY.out, show y = x from (Prod.ext hd hr).symm]))
            rw [← hd] at d3 HC
            clear HEQ HP HP2 hr HX HY hd
            go_wp2_with fail
            go_region_held3 (fun V => (V.cell? (ad.add (k * 2)) = some (.int .u16 (x.1 : Int)) ∧ V.cell? ⟨(ad.add (k * 2)).block, (ad.add (k * 2)).off + 1, none⟩ = some (.slice p.adr p.len p.cap)) ∧ V.cell? (ad2.add (k * 2)) = some (.int .u16 (x.1 : Int)) ∧ V.cell? ⟨(ad2.add (k * 2)).block, (ad2.add (k * 2)).off + 1, none⟩ = some (.slice p2.adr p2.len p2.cap)) (first | exact ⟨⟨d1, d2⟩, d3, d4⟩ | assumption | exact HC.out _ (by (repeat (first | exact Below.refl _ _ | assumption | apply bel_drew)))) (first
              | (go_at_call 52; (with_reducible refine (A16 _ ?_).mono ?_); (focus (repeat (first | exact Below.refl _ _ | assumption | apply bel_drew))); rintro e V ⟨rfl, bv⟩; have hcV := HC.out V bv))
            all_goals
              have HWV : Hid (Below w.heap.size w V) := Lib.hid (HW.out.trans (bv.mono HW.out.size))
              clear bv hcV d1 d2 d3 d4
              go_wp2
              go_roundw
              case rel => exact ⟨k + 1, by omega, by go_num, HS.out, HWV.out⟩
              case measure => simp [intOf]; omega
          · rw [decide_eq_false hr] at A16
            have HS := Lib.hid (decide_eq_false (ne_at HX.out HY.out (fun e => hr (by rw [e]))))
            rw [← hd] at d3 HC
            clear HEQ HP HP2 hr HX HY hd
            go_wp2_with fail
            go_region_held3 (fun V => (V.cell? (ad.add (k * 2)) = some (.int .u16 (x.1 : Int)) ∧ V.cell? ⟨(ad.add (k * 2)).block, (ad.add (k * 2)).off + 1, none⟩ = some (.slice p.adr p.len p.cap)) ∧ V.cell? (ad2.add (k * 2)) = some (.int .u16 (x.1 : Int)) ∧ V.cell? ⟨(ad2.add (k * 2)).block, (ad2.add (k * 2)).off + 1, none⟩ = some (.slice p2.adr p2.len p2.cap)) (first | exact ⟨⟨d1, d2⟩, d3, d4⟩ | assumption | exact HC.out _ (by (repeat (first | exact Below.refl _ _ | assumption | apply bel_drew)))) (first
              | (go_at_call 52; (with_reducible refine (A16 _ ?_).mono ?_); (focus (repeat (first | exact Below.refl _ _ | assumption | apply bel_drew))); rintro e V ⟨rfl, bv⟩; have hcV := HC.out V bv))
            all_goals
              have HWV : Hid (Below w.heap.size w V) := Lib.hid (HW.out.trans (bv.mono HW.out.size))
              clear bv hcV d1 d2 d3 d4
              go_wp2
              go_ret
              exact ⟨Dt.ret_bool HS.out.symm, HWV.out⟩
        · have hb2 : ((x.1 : Int) == (y.1 : Int)) = false := by rw [beq_eq_false_iff_ne]; omega
          have hb3 : ((x.1 : Int) != (y.1 : Int)) = true := by rw [bne_iff_ne]; omega
          have HS := Lib.hid (decide_eq_false (ne_at HX.out HY.out (fun e => hd (by rw [e]))))
          clear HEQ HP HP2 HX HY
          go_wp2_with fail
          go_quiet (fail)
          go_wp2
          go_ret
          exact ⟨Dt.ret_bool HS.out.symm, Dt.bel_drewN HW.out _⟩
      · obtain rfl : k = n1 := by omega
        have hd : Hid (a = b) := Lib.hid (by
          have h := HT.out
          rw [List.take_of_length_le (by rw [H1.out.len]; exact Nat.le_refl _), List.take_of_length_le (by rw [H2.out.len]; exact Nat.le_refl _)] at h
          exact h)
        go_wp2
        go_ret
        exact ⟨Dt.ret_bool (by rw [decide_eq_true hd.out]), HW.out⟩
  · have hd : Hid (decide (a = b) = false) := Lib.hid (decide_eq_false (fun e => hne (by rw [← H1.out.len, ← H2.out.len, e])))
    have hne2 : ((n1 : Int) != (n2 : Int)) = true := by rw [bne_iff_ne]; omega
    go_enter Tryz.func23, Tryz.ntmps23
    go_wp2
    go_ret
    exact ⟨Dt.ret_bool hd.out.symm, Below.refl _ _⟩
theorem few_small {a : List Part} {n c : Nat} {w : World} {A : Option Addr} (h : CtxAt w A a n c) : n ≤ 9223372036854775807 := Nat.le_trans h.cap h.max
theorem rgood_any (w : World) (A1 : Option Addr) (a : List Part) (n1 c1 : Nat) (h1 : CtxAt w A1 a n1 c1) (s1 : Small a) :
    Calls Tryz.prog 56 #[.slice A1 n1 c1] w fun e w' => e = .returned (.bool (goodC a)) ∧ Below w.heap.size w w' := by
  have CN := Lib.hid (rnorm_any w A1 a n1 c1 h1 s1)
  have H1 := Lib.hid h1
  have hn := few_small h1
  clear h1 s1
  go_enter Tryz.func56, Tryz.ntmps56
  go_wp2_with fail
  refine CN.out.mono ?_
  rintro e w1 hp
  obtain ⟨A2, n2, c2, rfl, h2, hb⟩ := post_ctx hp
  have CE := Lib.hid (req_any w1 A1 A2 a (normC a) n1 n2 c1 c2 (H1.out.up hb) h2 hn)
  have HB := Lib.hid hb
  clear hp h2 hb
  go_wp2_with fail
  refine CE.out.mono ?_
  rintro e w2 ⟨rfl, hb2⟩
  have HB2 : Hid (Below w.heap.size w w2) := Lib.hid (HB.out.trans (hb2.mono HB.out.size))
  clear hb2
  go_wp2
  go_ret
  exact ⟨rfl, HB2.out⟩
end Go.Proofs.YtmhghgogehmehaaGreat.Cx

/- What the document's Of of layer ctx comes to, and how great contexts grow. Plain arithmetic. -/
namespace Go.Proofs.YtmhghgogehmehaaGreat.Cx
set_option linter.unusedVariables false

theorem set_len {a b : List Part} (ha : FitC a) (hb : FitC b) (how : Int) : (setC a b how).length ≤ a.length + b.length := by
  unfold setC
  rw [← pick_devs (tells_both ha hb how) (fun d h => set_some d h)]
  have h1 := step_fit a ha [] (fun r hr => by cases hr) a.length
  rw [List.take_length] at h1
  have h2 := step_fit b hb (a.foldl stepP []) h1.1 b.length
  rw [List.take_length] at h2
  have h3 := h1.2
  have h4 := h2.2
  simp only [List.length_nil, Nat.zero_add] at h3
  refine Nat.le_trans (List.length_filterMap_le _ _) ?_
  unfold devsC
  omega
/-- one dot as a context. -/
def dotC (x : Dot) : List Part := [(x.1, [(x.2, x.2)])]
theorem fit_dot {x : Dot} (h1 : x.1 < 65536) (h2 : x.2 < 18446744073709551616) : FitC (dotC x) := fun y hy => by
  obtain rfl := List.mem_singleton.1 hy
  exact ⟨h1, fun r hr => by obtain rfl := List.mem_singleton.1 hr; exact ⟨h2, h2⟩⟩
def stepO (o : List Part) (x : Dot) : List Part := if Dt.mayD x = true then setC o (dotC x) 0 else o
theorem of_fold (l : List Dot) : ofC l = l.foldl stepO [] := rfl
theorem of_next {l : List Dot} {k : Nat} {x : Dot} (h : l[k]? = some x) : ofC (l.take (k + 1)) = stepO (ofC (l.take k)) x := by
  rw [of_fold, of_fold, List.take_add_one, h, List.foldl_append]; rfl
/-- a context in order, of at most k parts of at most k runs each. -/
structure Most (o : List Part) (k : Nat) : Prop where
  form : ∃ f, Tells f ∧ o = listC f ∧ ∀ d, (f d).length ≤ k
  len : o.length ≤ k
theorem Most.fit {o : List Part} {k : Nat} (h : Most o k) : FitC o := by
  obtain ⟨f, h1, rfl, _⟩ := h.form
  exact list_fit h1
theorem Most.small {o : List Part} {k : Nat} (h : Most o k) (hk : k ≤ 100) : Small o := by
  obtain ⟨f, h1, rfl, h3⟩ := h.form
  refine small_each (Nat.le_trans h.len hk) (fun x hx => ?_)
  obtain ⟨h4, _⟩ := (list_mem h1 x).1 hx
  rw [h4]
  exact Nat.le_trans (h3 _) hk
theorem Most.none_ : Most [] 0 := by
  refine ⟨⟨fun _ => [], ⟨rfl, fun _ _ => rfl, fun _ => Ru.order_nil⟩, ?_, fun _ => Nat.le_refl _⟩, Nat.le_refl _⟩
  unfold listC
  induction List.range Dt.topV with
  | nil => rfl
  | cons d l ih => rw [List.filterMap_cons]; exact ih
theorem Most.more {o : List Part} {k m : Nat} (h : Most o k) (hk : k ≤ m) : Most o m := by
  obtain ⟨f, h1, h2, h3⟩ := h.form
  exact ⟨⟨f, h1, h2, fun d => Nat.le_trans (h3 d) hk⟩, Nat.le_trans h.len hk⟩
theorem Most.step {o : List Part} {k : Nat} (h : Most o k) {x : Dot} (h1 : x.1 < 65536) (h2 : x.2 < 18446744073709551616) : Most (stepO o x) (k + 1) := by
  unfold stepO
  split
  · have hd := fit_dot h1 h2
    refine ⟨⟨fun d => Ru.setL (runsC o d) (runsC (dotC x) d) 0, tells_both h.fit hd 0, rfl, fun d => ?_⟩, Nat.le_trans (set_len h.fit hd 0) ?_⟩
    · obtain ⟨f, h3, h4, h5⟩ := h.form
      have e1 : runsC o d = f d := by rw [h4, runs_list h3]
      have e2 := runs_length (dotC x) d
      have e3 := Ru.set_length0 (runsC o d) (runsC (dotC x) d)
      have e4 := h5 d
      rw [e1] at e3
      have e5 : ((dotC x).map (fun x => x.2.length)).sum = 1 := rfl
      rw [e5] at e2
      show (Ru.setL (runsC o d) (runsC (dotC x) d) 0).length ≤ k + 1
      rw [e1]
      omega
    · have := h.len
      have e : (dotC x).length = 1 := rfl
      omega
  · exact h.more (Nat.le_succ _)
theorem of_most (l : List Dot) (hl : Dt.Fit l) (k : Nat) : Most (ofC (l.take k)) k := by
  induction k with
  | zero => exact Most.none_
  | succ k ih =>
    by_cases hk : k < l.length
    · have hg := List.getElem?_eq_getElem hk
      rw [of_next hg]
      have := hl _ (List.getElem_mem hk)
      exact ih.step this.1 this.2
    · have e : l.take (k + 1) = l.take k := by rw [List.take_of_length_le (by omega), List.take_of_length_le (by omega)]
      rw [e]
      exact ih.more (Nat.le_succ _)
theorem of_whole (l : List Dot) (hl : Dt.Fit l) : Most (ofC l) l.length := by
  have := of_most l hl l.length
  rwa [List.take_length] at this
end Go.Proofs.YtmhghgogehmehaaGreat.Cx

/- The contracts of the document's Of, Has and Few of layer ctx. -/
namespace Go.Proofs.YtmhghgogehmehaaGreat.Cx
open Go.ChangeShapes Go.WideShapes Go.ChangeAt Go.RowKit
set_option linter.unusedVariables false

/-- a new context of one dot. -/
theorem dot_lit (W : World) (x : Dot) (b1 b2 : Nat) (h1 : b1 = W.heap.size) (h2 : b2 = W.heap.size + 1) (hx : x.1 < 65536) (hx2 : x.2 < 18446744073709551616) :
    CtxAt ((W.alloc (.cells #[.int .u64 (x.2 : Int), .int .u64 (x.2 : Int)] 73)).alloc (.cells #[.int .u16 (x.1 : Int), .slice (some ⟨b1, 0, none⟩) 1 1] 71)) (some ⟨b2, 0, none⟩) (dotC x) 1 1 := by
  subst h1 h2
  have hs : (W.alloc (.cells #[.int .u64 (x.2 : Int), .int .u64 (x.2 : Int)] 73)).heap.size = W.heap.size + 1 := by simp
  refine ⟨rfl, (fun h => by cases h), by decide, by decide, [⟨x.1, some ⟨W.heap.size, 0, none⟩, 1, 1⟩], ?_, rfl, ?_⟩
  · intro _
    refine ⟨_, rfl, by simp, fun j u hu => ?_⟩
    rw [← hs]
    exact part_at _ ⟨x.1, some ⟨W.heap.size, 0, none⟩, 1, 1⟩ j u hu
  · intro k p y hp hy
    have hk : k = 0 := by
      rcases Nat.eq_zero_or_pos k with h | h
      · exact h
      · rw [List.getElem?_eq_none (by simp; omega)] at hp; cases hp
    subst hk
    have e1 : p = ⟨x.1, some ⟨W.heap.size, 0, none⟩, 1, 1⟩ := by simpa using hp.symm
    have e2 : y = (x.1, [(x.2, x.2)]) := by simpa [dotC] using hy.symm
    subst e1 e2
    refine ⟨rfl, hx, rfl, (fun h => by cases h), (by show (1 : Nat) ≤ 1; omega), (by show (1 : Nat) ≤ 9223372036854775807; omega), ⟨fun r hr => by obtain rfl := List.mem_singleton.1 hr; exact ⟨hx2, hx2⟩, fun _ => ⟨_, rfl, by simp; omega, fun j u hu => ?_⟩⟩⟩
    have hB := Dt.below_new (W.alloc (.cells #[.int .u64 (x.2 : Int), .int .u64 (x.2 : Int)] 73)) (.cells #[.int .u16 (x.1 : Int), .slice (some ⟨W.heap.size, 0, none⟩) 1 1] 71)
    have e3 : Ru.rv [(x.2, x.2)] = [.int .u64 (x.2 : Int), .int .u64 (x.2 : Int)] := rfl
    rw [e3] at hu
    have hc : (W.alloc (.cells #[.int .u64 (x.2 : Int), .int .u64 (x.2 : Int)] 73)).cell? ((⟨W.heap.size, 0, none⟩ : Addr).add j) = some u := by
      rw [Dt.zero_add, World.cell?_alloc_new]
      simpa using hu
    rw [← hc]
    exact hB.cell (by rw [Dt.block_add]; simp)
theorem CtxAt.drew {w : World} {A : Option Addr} {c : List Part} {n cp : Nat} (h : CtxAt w A c n cp) : CtxAt w.drew A c n cp := h.up ((Below.refl _ _).drew)
theorem rgood_later {w W : World} (d : Dot) (hW : Below w.heap.size w W) : Calls Tryz.prog 30 #[.agg #[.int .u16 (d.1 : Int), .int .u64 (d.2 : Int)]] W fun e V => e = .returned (.bool (Dt.mayD d)) ∧ Below w.heap.size w V :=
  (Dt.rgood_any W d.1 d.2).mono fun _ _ ⟨h1, h2⟩ => ⟨h1, by rw [h2]; exact hW.trans ((Dt.below_new W _).mono hW.size)⟩
/-- a call that makes a context, in a later world. -/
theorem made_ctx {w W : World} {f : Nat} {args : Array Value} {m : List Part} (hW : Below w.heap.size w W) (h : Calls Tryz.prog f args W (CtxPost W m)) :
    Calls Tryz.prog f args W fun e V => (∃ A n c, e = .returned (.slice A n c) ∧ CtxAt V A m n c) ∧ Below w.heap.size w V ∧ Below W.heap.size W V :=
  h.mono fun e V hp => by
    obtain ⟨A, n, c, e1, h1, h2⟩ := post_ctx hp
    exact ⟨⟨A, n, c, e1, h1⟩, hW.trans (h2.mono hW.size), h2⟩
/-- the document's answer as a world's context. -/
def CtxHas (w : World) (m : List Part) (e : Ending) (w' : World) : Prop := ∃ A n c, e = .returned (.slice A n c) ∧ CtxAt w' A m n c ∧ Below w.heap.size w w'
end Go.Proofs.YtmhghgogehmehaaGreat.Cx

/- The contracts of the document's Has, Few, Only and Size of layer ctx. -/
namespace Go.Proofs.YtmhghgogehmehaaGreat.Cx
open Go.ChangeShapes Go.WideShapes Go.ChangeAt Go.RowKit
set_option linter.unusedVariables false

theorem box_at (w : World) (d : Dot) : ∀ V, Below (w.alloc (.cells #[.int .u16 (d.1 : Int), .int .u64 (d.2 : Int)] 25)).heap.size (w.alloc (.cells #[.int .u16 (d.1 : Int), .int .u64 (d.2 : Int)] 25)) V → V.cell? ⟨w.heap.size, 0, none⟩ = some (.int .u16 (d.1 : Int)) ∧ V.cell? ⟨w.heap.size, 1, none⟩ = some (.int .u64 (d.2 : Int)) := by
  intro V hV
  have h1 : (w.alloc (.cells #[.int .u16 (d.1 : Int), .int .u64 (d.2 : Int)] 25)).cell? ⟨w.heap.size, 0, none⟩ = some (.int .u16 (d.1 : Int)) := by simp [go_sem]
  have h2 : (w.alloc (.cells #[.int .u16 (d.1 : Int), .int .u64 (d.2 : Int)] 25)).cell? ⟨w.heap.size, 1, none⟩ = some (.int .u64 (d.2 : Int)) := by simp [go_sem]
  exact ⟨(hV.cell (World.block_lt_of_cell? _ _ h1)).trans h1, (hV.cell (World.block_lt_of_cell? _ _ h2)).trans h2⟩
theorem below_grow (V : World) (n : Nat) (os : Array Obj) : Below V.heap.size V (Sort.grow (V.drewN n) os) :=
  ⟨rfl, rfl, rfl, by show V.heap.size ≤ (V.heap ++ os).size; simp, fun i hi => by show (V.heap ++ os)[i]? = V.heap[i]?; exact Array.getElem?_append_left hi⟩
theorem rgood_g (W : World) (d : Dot) (b : Bool) (hb : Dt.mayD d = b) :
    Calls Tryz.prog 30 #[.agg #[.int .u16 (d.1 : Int), .int .u64 (d.2 : Int)]] W fun e w' => e = .returned (.bool b) ∧ ∃ q os', w' = Sort.grow (W.drewN q) os' :=
  (Dt.rgood_any W d.1 d.2).mono fun _ _ ⟨h1, h2⟩ => ⟨by rw [h1, ← hb], 0, _, h2.trans (Sort.alloc_eq_grow _ _)⟩
def fewC (c : List Part) : Bool := decide (c.length ≤ 30 ∧ ∀ x ∈ c, x.2.length ≤ 30)
theorem few_is {c : List Part} (h : fewC c = true) : Small c := by
  obtain ⟨h1, h2⟩ := of_decide_eq_true h
  exact small_each (by omega) (fun x hx => by have := h2 x hx; omega)
set_option maxHeartbeats 4000000 in
theorem rfew_any (w : World) (A1 : Option Addr) (a : List Part) (n1 c1 : Nat) (h1 : CtxAt w A1 a n1 c1) :
    Calls Tryz.prog 6 #[.slice A1 n1 c1] w fun e w' => e = .returned (.bool (fewC a)) ∧ Below w.heap.size w w' := by
  have H1 := Lib.hid h1
  have hmx := few_small h1
  clear h1
  by_cases h30 : 30 < n1
  · have d1 : decide ((30 : Int) < (n1 : Int)) = true := decide_eq_true (by omega)
    have hh : Hid (fewC a = false) := Lib.hid (decide_eq_false (fun h => by have := h.1; rw [H1.out.len] at this; omega))
    go_enter Tryz.func6, Tryz.ntmps6
    go_wp2
    go_ret
    exact ⟨Dt.ret_bool hh.out.symm, Below.refl _ _⟩
  · have d1 : decide ((30 : Int) < (n1 : Int)) = false := decide_eq_false (by omega)
    go_enter Tryz.func6, Tryz.ntmps6
    go_wp2_with fail
    go_loopw [3] (fun i wr => ∃ k : Nat, k ≤ n1 ∧ i = .int .i64 (k : Int) ∧ (∀ x ∈ a.take k, x.2.length ≤ 30) ∧ Below w.heap.size w wr) (fun i _ => n1 - (intOf i).toNat)
    case atStart => exact ⟨0, Nat.zero_le _, rfl, (fun x hx => by simp at hx), Below.refl _ _⟩
    case round =>
      obtain ⟨k, hk, rfl, ht, hw⟩ := hrel
      have HT := Lib.hid ht
      have HW := Lib.hid hw
      clear ht hw
      by_cases hlt : k < n1
      · obtain ⟨ad, p, x, rfl, hB, hx, hp, hcell⟩ := H1.out.cells hlt
        obtain ⟨x1, x2⟩ := hcell wr HW.out
        have HX := Lib.hid hx
        have hpl := hp.len
        have hpc : p.len ≤ 9223372036854775807 := Nat.le_trans hp.cap hp.max
        clear hx hp hcell
        by_cases hl : 30 < p.len
        · have d2 : decide ((30 : Int) < (p.len : Int)) = true := decide_eq_true (by omega)
          have hh : Hid (fewC a = false) := Lib.hid (decide_eq_false (fun h => by have := h.2 x (List.mem_of_getElem? HX.out); omega))
          clear hpl
          go_wp2
          go_ret
          exact ⟨Dt.ret_bool hh.out.symm, HW.out⟩
        · have d2 : decide ((30 : Int) < (p.len : Int)) = false := decide_eq_false (by omega)
          have HS : Hid (∀ y ∈ a.take (k + 1), y.2.length ≤ 30) := Lib.hid (fun y hy => by
            rw [List.take_add_one, HX.out] at hy
            rcases List.mem_append.1 hy with hy | hy
            · exact HT.out y hy
            · have : y = x := by simpa using hy
              subst this; omega)
          clear hpl
          go_wp2
          go_roundw
          case rel => exact ⟨k + 1, by omega, by go_num, HS.out, HW.out⟩
          case measure => simp [intOf]; omega
      · obtain rfl : k = n1 := by omega
        have hh : Hid (fewC a = true) := Lib.hid (decide_eq_true ⟨by rw [H1.out.len]; omega, fun x hx => HT.out x (by rw [List.take_of_length_le (by rw [H1.out.len]; exact Nat.le_refl _)]; exact hx)⟩)
        go_wp2
        go_ret
        exact ⟨Dt.ret_bool hh.out.symm, HW.out⟩
end Go.Proofs.YtmhghgogehmehaaGreat.Cx

/- The contracts of the document's Only, Size, Base and Plain of layer ctx. -/
namespace Go.Proofs.YtmhghgogehmehaaGreat.Cx
open Go.ChangeShapes Go.WideShapes Go.ChangeAt Go.RowKit
set_option linter.unusedVariables false

/-- a new context of one part. -/
theorem part_lit (W : World) (d b n c : Nat) (A : Option Addr) (l : List Run) (hb : b = W.heap.size) (hd : d < 65536) (h : RunsAt W A l n c) :
    CtxAt (W.alloc (.cells #[.int .u16 (d : Int), .slice A n c] 71)) (some ⟨b, 0, none⟩) [(d, l)] 1 1 := by
  subst hb
  have hB := Dt.below_new W (.cells #[.int .u16 (d : Int), .slice A n c] 71)
  refine ⟨rfl, (fun h => by cases h), by decide, by decide, [⟨d, A, n, c⟩], fun _ => ⟨_, rfl, by simp, part_at W ⟨d, A, n, c⟩⟩, rfl, ?_⟩
  intro k p y hp hy
  have hk : k = 0 := by
    rcases Nat.eq_zero_or_pos k with h | h
    · exact h
    · rw [List.getElem?_eq_none (by simp; omega)] at hp; cases hp
  subst hk
  have e1 : p = ⟨d, A, n, c⟩ := by simpa using hp.symm
  have e2 : y = (d, l) := by simpa using hy.symm
  subst e1 e2
  have h2 := h.up hB
  exact ⟨rfl, hd, h2.len, h2.nil, h2.cap, h2.max, h2.runs⟩
/-! A context's norm, as it is read. -/
theorem norm_len {a : List Part} (s : Small a) (h : FitC a) : (normC a).length ≤ 1000 := by
  rw [← norm_set]
  have := set_len (b := []) h (fun x hx => by cases hx) 0
  have := s.1
  simp only [List.length_nil] at *
  omega
theorem norm_part {a : List Part} (s : Small a) (h : FitC a) {x : Part} (hx : x ∈ normC a) : Ru.InOrder x.2 ∧ x.2.length ≤ 10000 ∧ x.1 < 65536 := by
  obtain ⟨h1, _⟩ := (list_mem (tells_runs h) x).1 hx
  exact ⟨by rw [h1]; exact runs_order _ _, by rw [h1]; exact small_runs s _, (fit_norm h x hx).1⟩
theorem nrm_self {l : List Run} (h : Ru.InOrder l) : Ru.normL l = l := set_self h
def sizeUpto (c : List Part) (k : Nat) : Nat := ((c.take k).map (fun x => Ru.sizeR x.2)).sum
theorem size_next {c : List Part} {k : Nat} {x : Part} (h : c[k]? = some x) : sizeUpto c (k + 1) = sizeUpto c k + Ru.sizeR x.2 := by
  unfold sizeUpto
  rw [List.take_add_one, h, List.map_append, List.sum_append]; simp
theorem size_most {c : List Part} (hc : ∀ x ∈ c, Ru.InOrder x.2) (k : Nat) : sizeUpto c k ≤ k * 281474976710656 := by
  induction k with
  | zero => simp [sizeUpto]
  | succ k ih =>
    by_cases hk : k < c.length
    · have hg := List.getElem?_eq_getElem hk
      rw [size_next hg]
      have := Ru.size_le (hc _ (List.getElem_mem hk))
      omega
    · have e : c.take (k + 1) = c.take k := by rw [List.take_of_length_le (by omega), List.take_of_length_le (by omega)]
      have e2 : sizeUpto c (k + 1) = sizeUpto c k := by unfold sizeUpto; rw [e]
      omega
end Go.Proofs.YtmhghgogehmehaaGreat.Cx

/- The contract of the document's Base of layer ctx. -/
namespace Go.Proofs.YtmhghgogehmehaaGreat.Cx
open Go.ChangeShapes Go.WideShapes Go.ChangeAt Go.RowKit
set_option linter.unusedVariables false

/-- the last dot of a device that is told without a gap. -/
def lastB (x : Part) : Option Dot := if 1 < Ru.firstR x.2 then some (x.1, Ru.firstR x.2 - 1) else none
theorem base_fold (c : List Part) : baseC c = (normC c).filterMap lastB := rfl
theorem base_next {N : List Part} {k : Nat} {x : Part} (h : N[k]? = some x) : (N.take (k + 1)).filterMap lastB = (N.take k).filterMap lastB ++ (if 1 < Ru.firstR x.2 then [(x.1, Ru.firstR x.2 - 1)] else []) := by
  rw [List.take_add_one, h, List.filterMap_append]
  congr 1
  show [x].filterMap lastB = _
  by_cases h1 : 1 < Ru.firstR x.2
  · rw [List.filterMap_cons, show lastB x = some (x.1, Ru.firstR x.2 - 1) from if_pos h1, if_pos h1]; rfl
  · rw [List.filterMap_cons, show lastB x = none from if_neg h1, if_neg h1]; rfl
theorem first_max {l : List Run} (h : Ru.InOrder l) : 1 ≤ Ru.firstR l ∧ Ru.firstR l ≤ 281474976710656 := by
  refine ⟨(Ru.first_spec h).1, ?_⟩
  cases l with
  | nil => show 1 ≤ 281474976710656; omega
  | cons r l =>
    have := (Ru.may_iff r).1 (h.1 r (List.mem_cons_self ..))
    show (if r.1 = 1 then r.2 + 1 else 1) ≤ _
    split <;> omega
end Go.Proofs.YtmhghgogehmehaaGreat.Cx
