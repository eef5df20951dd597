/- The contract of the document's set of layer ctx: what two contexts come to. For every two contexts of at most 100 parts, of at most 100 runs each (gen-set.py printed it). -/
import Derived.Test.YtegclhgfibfanaaGreatKC
import Derived.Deep.RegionHeld3
namespace Go.Proofs.YtegclhgfibfanaaGreat.Cx
open Go.ChangeShapes Go.WideShapes Go.ChangeAt Go.RowKit
set_option linter.unusedVariables false

theorem bel_drew {w W : World} (h : Below w.heap.size w W) : Below w.heap.size w W.drew := h.drew
theorem bel_alloc {w W : World} (o : Obj) (h : Below w.heap.size w W) : Below w.heap.size w (W.alloc o) := h.alloc h.size o
/-- a call that makes runs, in a later world. -/
theorem made_runs {w W : World} {f : Nat} {args : Array Value} {m : List Run} (hW : Below w.heap.size w W) (hm : Ru.InOrder m) (h : Calls Tryz.prog f args W (Ru.RunPost W m)) :
    Calls Tryz.prog f args W fun e V => ∃ A n c, e = .returned (.slice A n c) ∧ RunsAt V A m n c ∧ Below w.heap.size w V ∧ Below W.heap.size W V :=
  h.mono fun e V hp => by
    obtain ⟨A, n, c, e1, h1, h2, _⟩ := runs_post hp hm
    exact ⟨A, n, c, e1, h1, hW.trans (h2.mono hW.size), h2⟩
theorem pick_next {f : Nat → List Run} {l : List Dot} {k : Nat} {x : Dot} (h : l[k]? = some x) : (l.take (k + 1)).filterMap (fun x => oneC f x.1) = (l.take k).filterMap (fun x => oneC f x.1) ++ (if (f x.1).length = 0 then [] else [(x.1, f x.1)]) := by
  rw [List.take_add_one, h, List.filterMap_append]
  congr 1
  simp only [Option.toList_some]
  by_cases h0 : (f x.1).length = 0
  · rw [if_pos h0, List.filterMap_cons, show oneC f x.1 = none from if_pos h0]; rfl
  · rw [if_neg h0, List.filterMap_cons, show oneC f x.1 = some (x.1, f x.1) from if_neg h0]; rfl
theorem devs_len {a b : List Part} (ha : a.length ≤ 100) (hb : b.length ≤ 100) (hfa : FitC a) (hfb : FitC b) : Dt.Fit (devsC a b) ∧ (devsC a b).length ≤ 200 := by
  have h1 := step_fit a hfa [] (fun r hr => by cases hr) a.length
  rw [List.take_length] at h1
  have h2 := step_fit b hfb (a.foldl stepP []) h1.1 b.length
  rw [List.take_length] at h2
  refine ⟨h2.1, ?_⟩
  have h3 := h1.2
  have h4 := h2.2
  simp only [List.length_nil, Nat.zero_add] at h3
  unfold devsC
  omega
/-- what a round of set knows. -/
def SRel (w : World) (n : Nat) (g : Nat → List Part) (v i : Value) (wr : World) : Prop :=
  ∃ (k m : Nat) (A : Option Addr) (c : Nat) (ps : List PV), k ≤ n ∧ i = .int .i64 ((k : Nat) : Int) ∧ v = .slice A m c ∧ (g k).length = m ∧ wr.ownsRow w.heap.size 49 2 (.slice A m c) m (cv ps) ∧ Match wr ps (g k) ∧ Apart wr ps (Value.slice A m c).ownBlock ∧ Below w.heap.size w wr
theorem own_block_lt {w : World} {B k m c size : Nat} {e : TypeId} {A : Option Addr} {xs : List Value} (h : w.ownsRow B e size (.slice A m c) k xs) : ∀ r, (Value.slice A m c).ownBlock = some r → B ≤ r ∧ r < w.heap.size := by
  intro r hr
  cases A with
  | none => cases hr
  | some ad =>
    have e2 : ad.block = r := by simpa [Value.ownBlock] using hr
    have := h.lt ad.block rfl
    rw [e2] at this
    exact this

set_option maxHeartbeats 16000000 in
theorem rset0_any (w : World) (A1 A2 : Option Addr) (a b : List Part) (n1 n2 c1 c2 : Nat) (h1 : CtxAt w A1 a n1 c1) (h2 : CtxAt w A2 b n2 c2) (s1 : Small a) (s2 : Small b) :
    Calls Tryz.prog 41 #[.slice A1 n1 c1, .slice A2 n2 c2, .int .i64 0] w (CtxPost w (setC a b 0)) := by
  have hn1 : n1 ≤ 100 := by rw [← h1.len]; exact s1.1
  have hn2 : n2 ≤ 100 := by rw [← h2.len]; exact s2.1
  have H1 := Lib.hid h1
  have H2 := Lib.hid h2
  have S1 := Lib.hid s1
  have S2 := Lib.hid s2
  obtain ⟨R, hR⟩ : ∃ R, setC a b 0 = R := ⟨_, rfl⟩
  rw [hR]
  have HPK : Hid ((devsC a b).filterMap (fun x => oneC (fun d => Ru.setL (runsC a d) (runsC b d) 0) x.1) = R) := Lib.hid ((pick_devs (tells_both h1.fit h2.fit 0) (fun d h => set_some d h)).trans hR)
  have CD := Lib.hid (rdevs_any w A1 A2 a b n1 n2 c1 c2 h1 h2 hn1 hn2)
  obtain ⟨hdf, hdl⟩ := devs_len s1.1 s2.1 h1.fit h2.fit
  have HDF := Lib.hid hdf
  clear h1 h2 s1 s2 hR hdf
  have k0 : ((0 : Int) == 1) = false := rfl
  have k1 : ((0 : Int) == 2) = false := rfl
  go_enter Tryz.func41, Tryz.ntmps41
  go_wp2_with fail
  refine CD.out.mono ?_
  rintro e w1 hpo
  obtain ⟨A4, n, c4, rfl, hn, _, _, _, hd, _, hb1⟩ := Dt.post_dots hpo HDF.out
  have hnl : n ≤ 200 := by rw [← hn]; exact hdl
  have HN := Lib.hid hn
  have HD := Lib.hid hd
  have HB1 := Lib.hid hb1
  clear hn hd hb1 hpo CD hdl HDF
  generalize devsC a b = L at HN HD HPK
  obtain ⟨g, hg⟩ : ∃ g : Nat → List Part, g = fun k => (L.take k).filterMap (fun x => oneC (fun d => Ru.setL (runsC a d) (runsC b d) 0) x.1) := ⟨_, rfl⟩
  have HGE : Hid (∀ k, g k = (L.take k).filterMap (fun x => oneC (fun d => Ru.setL (runsC a d) (runsC b d) 0) x.1)) := Lib.hid (fun k => by rw [hg])
  have HGL : Hid (∀ k, (g k).length ≤ k) := Lib.hid (fun k => by rw [hg]; exact Nat.le_trans (List.length_filterMap_le _ _) (List.length_take_le _ _))
  have HGN : Hid (g n = R) := Lib.hid (by rw [hg]; show (L.take n).filterMap _ = R; rw [List.take_of_length_le (by rw [HN.out]; exact Nat.le_refl _)]; exact HPK.out)
  clear hg HPK
  go_wp2_with fail
  go_loopw [7, 9] (fun v i wr => SRel w1 n g v i wr) (fun _ i _ => n - (intOf i).toNat)
  case atStart => exact ⟨0, 0, none, 0, [], Nat.zero_le _, rfl, rfl, by rw [HGE.out]; rfl, World.ownsRow_nil _ _ _ _, by rw [HGE.out]; exact Match.nil_ _, (fun p hp => by cases hp), Below.refl _ _⟩
  case round =>
    obtain ⟨k, m, A, c, ps, hk, rfl, rfl, hm, ho, hma, hap, hw⟩ := hrel
    have hmk : m ≤ k := by rw [← hm]; exact HGL.out k
    have HM := Lib.hid hm
    have HO := Lib.hid ho
    have HW := Lib.hid hw
    have HMA := Lib.hid hma
    have HAP := Lib.hid hap
    clear hm ho hw hma hap
    by_cases hlt : k < n
    · obtain ⟨ad, x, rfl, hB, hlx, hx1, hx2, hcx⟩ := HD.out.cells (k := k) (by rw [HN.out]; exact hlt)
      have HX := pick_next (f := fun d => Ru.setL (runsC a d) (runsC b d) 0) hlx
      rw [← HGE.out, ← HGE.out] at HX
      obtain ⟨x1, x2⟩ := x
      have HX2 := Lib.hid HX
      clear hlx HX
      have HC : Hid (∀ V, Below wr.heap.size wr V → V.cell? (ad.add (k * 2)) = some (.int .u16 (x1 : Int))) := fun V hV => (hcx V (HW.out.trans (hV.mono HW.out.size))).1
      clear hcx
      have d1 := HC.out wr (Below.refl _ _)
      have HWW : Hid (Below w.heap.size w wr) := HB1.out.trans (HW.out.mono HB1.out.size)
      have R1 := Lib.hid (H1.out.up HWW.out)
      have R2 := Lib.hid (H2.out.up HWW.out)
      have A18a := fun W (hW : Below wr.heap.size wr W) => made_runs hW (runs_order a x1) (rruns_any W A1 a n1 c1 x1 (R1.out.up hW) S1.out)
      have A18b := fun W (hW : Below wr.heap.size wr W) => made_runs hW (runs_order b x1) (rruns_any W A2 b n2 c2 x1 (R2.out.up hW) S2.out)
      have hla := small_runs S1.out x1
      have hlb := small_runs S2.out x1
      go_wp2_with fail
      go_region_held3 (fun V => V.cell? (ad.add (k * 2)) = some (.int .u16 (x1 : Int))) (first | exact d1 | assumption | exact HC.out _ (by (repeat (first | exact Below.refl _ _ | assumption | apply bel_drew)))) (first
        | (go_at_call 16; (with_reducible refine (A18a _ ?_).mono ?_); (focus (repeat (first | exact Below.refl _ _ | assumption | apply bel_drew | apply bel_alloc))); rintro e V ⟨Ax, nx, cx, rfl, hX, bv, cv'⟩; have hcV := HC.out V bv)
        | (go_at_call 16; (with_reducible refine (A18b _ ?_).mono ?_); (focus (repeat (first | exact Below.refl _ _ | assumption | apply bel_drew | apply bel_alloc))); rintro e V' ⟨Ay, ny, cy, rfl, hY, bv', cv''⟩; have hcV' := HC.out V' bv'; have hX2 := hX.up cv''))
      all_goals
        have HX3 := Lib.hid hX2
        have HY := Lib.hid hY
        have BV : Hid (Below wr.heap.size wr V') := Lib.hid bv'
        have HJ := Lib.hid (Ru.join_any V' Ax Ay (runsC a x1) (runsC b x1) nx ny cx cy hX2.len hY.len hX2.nil hY.nil hX2.runs hY.runs (by rw [← hX2.len]; omega) (by rw [← hY.len]; omega))
        clear hX hX2 hY bv bv' cv' cv'' hcV hcV' A18a A18b R1 R2 d1
        go_wp2_with fail
        refine HJ.out.mono ?_
        rintro e V3 hp3
        obtain ⟨Az, nz, cz, rfl, hz, hb3, hzn⟩ := runs_post hp3 (Ru.set_spec _ _ _).1
        have BV3 : Hid (Below wr.heap.size wr V3) := Lib.hid (BV.out.trans (hb3.mono BV.out.size))
        have HZ := Lib.hid hz
        have HZN : Hid (∀ ad, Az = some ad → wr.heap.size ≤ ad.block) := Lib.hid (fun ad e => Nat.le_trans BV.out.size (hzn ad e))
        have HOv := Lib.hid (Dt.own_kept HO.out BV3.out)
        have HMv := Lib.hid (HMA.out.up BV3.out)
        have HAv := Lib.hid (HAP.out.up BV3.out.size)
        have HWv : Hid (Below w1.heap.size w1 V3) := Lib.hid (HW.out.trans (BV3.out.mono HW.out.size))
        have HOB := Lib.hid (own_block_lt HO.out)
        have d1 := HC.out V3 BV3.out
        clear hp3 hz hb3 hzn HX3 HY
        generalize Ru.setL (runsC a x1) (runsC b x1) 0 = z at HX2 HZ
        have hzl := HZ.out.len
        by_cases hz0 : nz = 0
        · have HE : Hid (g (k + 1) = g k) := Lib.hid (by rw [HX2.out, if_pos (by rw [hzl]; exact hz0), List.append_nil])
          subst hz0
          clear HX2 d1
          go_wp2
          go_roundw
          case rel => exact ⟨k + 1, m, A, c, ps, by omega, by go_num, rfl, by rw [HE.out]; exact HM.out, HOv.out, by rw [HE.out]; exact HMv.out, HAv.out, HWv.out⟩
          case measure => simp [intOf]; omega
        · have HE : Hid (g (k + 1) = g k ++ [(x1, z)]) := Lib.hid (by rw [HX2.out, if_neg (by rw [hzl]; exact hz0)])
          have dz : decide ((0 : Int) < (nz : Int)) = true := decide_eq_true (by omega)
          obtain ⟨adz, haz, hazB, _⟩ := HZ.out.runs.2 (by rw [Ru.rv_length]; omega)
          have HP1 : Hid (PartIs (V3.alloc (.cells #[.int .u16 (x1 : Int), .slice Az nz cz] 49)) (V3.alloc (.cells #[.int .u16 (x1 : Int), .slice Az nz cz] 49)).heap.size ⟨x1, Az, nz, cz⟩ (x1, z)) := Lib.hid (by
            have h2 := HZ.out.up (Dt.below_new V3 (.cells #[.int .u16 (x1 : Int), .slice Az nz cz] 49))
            exact ⟨rfl, hx1, h2.len, h2.nil, h2.cap, h2.max, h2.runs⟩)
          have HM1 := Lib.hid ((HMv.out.up (Dt.below_new V3 (.cells #[.int .u16 (x1 : Int), .slice Az nz cz] 49))).snoc HP1.out)
          have HA1 : Hid (Apart (V3.alloc (.cells #[.int .u16 (x1 : Int), .slice Az nz cz] 49)) (ps ++ [⟨x1, Az, nz, cz⟩]) (Value.slice A m c).ownBlock) := Lib.hid (Apart.snoc (HAv.out.up (Dt.below_new V3 _).size) (ad := adz) haz (Nat.lt_of_lt_of_le hazB (Dt.below_new V3 _).size) (fun e => by
            have h1 := HOB.out adz.block e.symm
            have h2 := HZN.out adz haz
            omega))
          have HO1 := Lib.hid (HOv.out.alloc (.cells #[.int .u16 (x1 : Int), .slice Az nz cz] 49))
          have HW1 : Hid (Below w1.heap.size w1 (V3.alloc (.cells #[.int .u16 (x1 : Int), .slice Az nz cz] 49))) := Lib.hid (bel_alloc _ HWv.out)
          clear HX2 haz hazB
          go_wp2_with (first
            | (at_builtin; refine wpList_part rfl (.tmp 52) (.tmp 60) rfl rfl _ w1.heap.size m (.slice A m c) ps ⟨V3.heap.size, 0, none⟩ ⟨x1, Az, nz, cz⟩ rfl rfl HO1.out (part_at V3 ⟨x1, Az, nz, cz⟩) (by omega) HW1.out.size ?_; intro A5 c5 w5 ho5 hg5 hl5)
            | go_in)
          have HS : Hid (SRel w1 n g (.slice A5 (m + 1) c5) (.int .i64 ((k : Int) + 1)) w5) := Lib.hid (by
            refine ⟨k + 1, m + 1, A5, c5, ps ++ [⟨x1, Az, nz, cz⟩], by omega, by go_num, rfl, by rw [HE.out, List.length_append, HM.out]; rfl, ho5, by rw [HE.out]; exact HM1.out.grown hg5 HA1.out, ?_, HW1.out.grown hg5 HW1.out.size (fun j hj => (own_block_lt HO.out j hj).1)⟩
            rcases hl5 with hl5 | hl5
            · rw [hl5]; exact HA1.out.up hg5.size
            · rw [hl5]; exact (HA1.out.turn (Nat.le_refl _)).up hg5.size)
          clear ho5 hg5 hl5 d1
          go_roundw
          case rel => exact HS.out
          case measure => simp [intOf]; omega
    · obtain rfl : n = k := by omega
      rw [HGN.out] at HM HMA
      go_wp2
      go_ret
      exact ⟨A, m, c, ps, rfl, HM.out, ru_less HO.out HB1.out.size, HMA.out, HB1.out.trans (HW.out.mono HB1.out.size)⟩
set_option maxHeartbeats 16000000 in
theorem rset1_any (w : World) (A1 A2 : Option Addr) (a b : List Part) (n1 n2 c1 c2 : Nat) (h1 : CtxAt w A1 a n1 c1) (h2 : CtxAt w A2 b n2 c2) (s1 : Small a) (s2 : Small b) :
    Calls Tryz.prog 41 #[.slice A1 n1 c1, .slice A2 n2 c2, .int .i64 1] w (CtxPost w (setC a b 1)) := by
  have hn1 : n1 ≤ 100 := by rw [← h1.len]; exact s1.1
  have hn2 : n2 ≤ 100 := by rw [← h2.len]; exact s2.1
  have H1 := Lib.hid h1
  have H2 := Lib.hid h2
  have S1 := Lib.hid s1
  have S2 := Lib.hid s2
  obtain ⟨R, hR⟩ : ∃ R, setC a b 1 = R := ⟨_, rfl⟩
  rw [hR]
  have HPK : Hid ((devsC a b).filterMap (fun x => oneC (fun d => Ru.setL (runsC a d) (runsC b d) 1) x.1) = R) := Lib.hid ((pick_devs (tells_both h1.fit h2.fit 1) (fun d h => set_some d h)).trans hR)
  have CD := Lib.hid (rdevs_any w A1 A2 a b n1 n2 c1 c2 h1 h2 hn1 hn2)
  obtain ⟨hdf, hdl⟩ := devs_len s1.1 s2.1 h1.fit h2.fit
  have HDF := Lib.hid hdf
  clear h1 h2 s1 s2 hR hdf
  have k0 : ((0 : Int) == 1) = false := rfl
  have k1 : ((0 : Int) == 2) = false := rfl
  go_enter Tryz.func41, Tryz.ntmps41
  go_wp2_with fail
  refine CD.out.mono ?_
  rintro e w1 hpo
  obtain ⟨A4, n, c4, rfl, hn, _, _, _, hd, _, hb1⟩ := Dt.post_dots hpo HDF.out
  have hnl : n ≤ 200 := by rw [← hn]; exact hdl
  have HN := Lib.hid hn
  have HD := Lib.hid hd
  have HB1 := Lib.hid hb1
  clear hn hd hb1 hpo CD hdl HDF
  generalize devsC a b = L at HN HD HPK
  obtain ⟨g, hg⟩ : ∃ g : Nat → List Part, g = fun k => (L.take k).filterMap (fun x => oneC (fun d => Ru.setL (runsC a d) (runsC b d) 1) x.1) := ⟨_, rfl⟩
  have HGE : Hid (∀ k, g k = (L.take k).filterMap (fun x => oneC (fun d => Ru.setL (runsC a d) (runsC b d) 1) x.1)) := Lib.hid (fun k => by rw [hg])
  have HGL : Hid (∀ k, (g k).length ≤ k) := Lib.hid (fun k => by rw [hg]; exact Nat.le_trans (List.length_filterMap_le _ _) (List.length_take_le _ _))
  have HGN : Hid (g n = R) := Lib.hid (by rw [hg]; show (L.take n).filterMap _ = R; rw [List.take_of_length_le (by rw [HN.out]; exact Nat.le_refl _)]; exact HPK.out)
  clear hg HPK
  go_wp2_with fail
  go_loopw [7, 9] (fun v i wr => SRel w1 n g v i wr) (fun _ i _ => n - (intOf i).toNat)
  case atStart => exact ⟨0, 0, none, 0, [], Nat.zero_le _, rfl, rfl, by rw [HGE.out]; rfl, World.ownsRow_nil _ _ _ _, by rw [HGE.out]; exact Match.nil_ _, (fun p hp => by cases hp), Below.refl _ _⟩
  case round =>
    obtain ⟨k, m, A, c, ps, hk, rfl, rfl, hm, ho, hma, hap, hw⟩ := hrel
    have hmk : m ≤ k := by rw [← hm]; exact HGL.out k
    have HM := Lib.hid hm
    have HO := Lib.hid ho
    have HW := Lib.hid hw
    have HMA := Lib.hid hma
    have HAP := Lib.hid hap
    clear hm ho hw hma hap
    by_cases hlt : k < n
    · obtain ⟨ad, x, rfl, hB, hlx, hx1, hx2, hcx⟩ := HD.out.cells (k := k) (by rw [HN.out]; exact hlt)
      have HX := pick_next (f := fun d => Ru.setL (runsC a d) (runsC b d) 1) hlx
      rw [← HGE.out, ← HGE.out] at HX
      obtain ⟨x1, x2⟩ := x
      have HX2 := Lib.hid HX
      clear hlx HX
      have HC : Hid (∀ V, Below wr.heap.size wr V → V.cell? (ad.add (k * 2)) = some (.int .u16 (x1 : Int))) := fun V hV => (hcx V (HW.out.trans (hV.mono HW.out.size))).1
      clear hcx
      have d1 := HC.out wr (Below.refl _ _)
      have HWW : Hid (Below w.heap.size w wr) := HB1.out.trans (HW.out.mono HB1.out.size)
      have R1 := Lib.hid (H1.out.up HWW.out)
      have R2 := Lib.hid (H2.out.up HWW.out)
      have A18a := fun W (hW : Below wr.heap.size wr W) => made_runs hW (runs_order a x1) (rruns_any W A1 a n1 c1 x1 (R1.out.up hW) S1.out)
      have A18b := fun W (hW : Below wr.heap.size wr W) => made_runs hW (runs_order b x1) (rruns_any W A2 b n2 c2 x1 (R2.out.up hW) S2.out)
      have hla := small_runs S1.out x1
      have hlb := small_runs S2.out x1
      go_wp2_with fail
      go_region_held3 (fun V => V.cell? (ad.add (k * 2)) = some (.int .u16 (x1 : Int))) (first | exact d1 | assumption | exact HC.out _ (by (repeat (first | exact Below.refl _ _ | assumption | apply bel_drew)))) (first
        | (go_at_call 16; (with_reducible refine (A18a _ ?_).mono ?_); (focus (repeat (first | exact Below.refl _ _ | assumption | apply bel_drew | apply bel_alloc))); rintro e V ⟨Ax, nx, cx, rfl, hX, bv, cv'⟩; have hcV := HC.out V bv)
        | (go_at_call 16; (with_reducible refine (A18b _ ?_).mono ?_); (focus (repeat (first | exact Below.refl _ _ | assumption | apply bel_drew | apply bel_alloc))); rintro e V' ⟨Ay, ny, cy, rfl, hY, bv', cv''⟩; have hcV' := HC.out V' bv'; have hX2 := hX.up cv''))
      all_goals
        have HX3 := Lib.hid hX2
        have HY := Lib.hid hY
        have BV : Hid (Below wr.heap.size wr V') := Lib.hid bv'
        have HJ := Lib.hid (Ru.join_any V' Ax Ay (runsC a x1) (runsC b x1) nx ny cx cy hX2.len hY.len hX2.nil hY.nil hX2.runs hY.runs (by rw [← hX2.len]; omega) (by rw [← hY.len]; omega))
        clear hX hX2 hY bv bv' cv' cv'' hcV hcV' A18a A18b R1 R2 d1
        go_wp2_with fail
        refine HJ.out.mono ?_
        rintro e V3 hp3
        obtain ⟨Az, nz, cz, rfl, hz, hb3, hzn⟩ := runs_post hp3 (Ru.set_spec _ _ _).1
        have BV3 : Hid (Below wr.heap.size wr V3) := Lib.hid (BV.out.trans (hb3.mono BV.out.size))
        have HM2 := Lib.hid (Ru.meet_any V3 Ax Ay (runsC a x1) (runsC b x1) nx ny cx cy HX3.out.len HY.out.len HX3.out.nil HY.out.nil (HX3.out.up hb3).runs (HY.out.up hb3).runs (by rw [← HX3.out.len]; omega) (by rw [← HY.out.len]; omega))
        clear hp3 hz hb3 hzn HJ
        go_wp2_with fail
        refine HM2.out.mono ?_
        rintro e V4 hp3
        obtain ⟨Az, nz, cz, rfl, hz, hb3, hzn⟩ := runs_post hp3 (Ru.set_spec _ _ _).1
        have BV4 : Hid (Below wr.heap.size wr V4) := Lib.hid (BV3.out.trans (hb3.mono BV3.out.size))
        have HZ := Lib.hid hz
        have HZN : Hid (∀ ad, Az = some ad → wr.heap.size ≤ ad.block) := Lib.hid (fun ad e => Nat.le_trans BV3.out.size (hzn ad e))
        have HOv := Lib.hid (Dt.own_kept HO.out BV4.out)
        have HMv := Lib.hid (HMA.out.up BV4.out)
        have HAv := Lib.hid (HAP.out.up BV4.out.size)
        have HWv : Hid (Below w1.heap.size w1 V4) := Lib.hid (HW.out.trans (BV4.out.mono HW.out.size))
        have HOB := Lib.hid (own_block_lt HO.out)
        have d1 := HC.out V4 BV4.out
        clear hp3 hz hb3 hzn HX3 HY
        generalize Ru.setL (runsC a x1) (runsC b x1) 1 = z at HX2 HZ
        have hzl := HZ.out.len
        by_cases hz0 : nz = 0
        · have HE : Hid (g (k + 1) = g k) := Lib.hid (by rw [HX2.out, if_pos (by rw [hzl]; exact hz0), List.append_nil])
          subst hz0
          clear HX2 d1
          go_wp2
          go_roundw
          case rel => exact ⟨k + 1, m, A, c, ps, by omega, by go_num, rfl, by rw [HE.out]; exact HM.out, HOv.out, by rw [HE.out]; exact HMv.out, HAv.out, HWv.out⟩
          case measure => simp [intOf]; omega
        · have HE : Hid (g (k + 1) = g k ++ [(x1, z)]) := Lib.hid (by rw [HX2.out, if_neg (by rw [hzl]; exact hz0)])
          have dz : decide ((0 : Int) < (nz : Int)) = true := decide_eq_true (by omega)
          obtain ⟨adz, haz, hazB, _⟩ := HZ.out.runs.2 (by rw [Ru.rv_length]; omega)
          have HP1 : Hid (PartIs (V4.alloc (.cells #[.int .u16 (x1 : Int), .slice Az nz cz] 49)) (V4.alloc (.cells #[.int .u16 (x1 : Int), .slice Az nz cz] 49)).heap.size ⟨x1, Az, nz, cz⟩ (x1, z)) := Lib.hid (by
            have h2 := HZ.out.up (Dt.below_new V4 (.cells #[.int .u16 (x1 : Int), .slice Az nz cz] 49))
            exact ⟨rfl, hx1, h2.len, h2.nil, h2.cap, h2.max, h2.runs⟩)
          have HM1 := Lib.hid ((HMv.out.up (Dt.below_new V4 (.cells #[.int .u16 (x1 : Int), .slice Az nz cz] 49))).snoc HP1.out)
          have HA1 : Hid (Apart (V4.alloc (.cells #[.int .u16 (x1 : Int), .slice Az nz cz] 49)) (ps ++ [⟨x1, Az, nz, cz⟩]) (Value.slice A m c).ownBlock) := Lib.hid (Apart.snoc (HAv.out.up (Dt.below_new V4 _).size) (ad := adz) haz (Nat.lt_of_lt_of_le hazB (Dt.below_new V4 _).size) (fun e => by
            have h1 := HOB.out adz.block e.symm
            have h2 := HZN.out adz haz
            omega))
          have HO1 := Lib.hid (HOv.out.alloc (.cells #[.int .u16 (x1 : Int), .slice Az nz cz] 49))
          have HW1 : Hid (Below w1.heap.size w1 (V4.alloc (.cells #[.int .u16 (x1 : Int), .slice Az nz cz] 49))) := Lib.hid (bel_alloc _ HWv.out)
          clear HX2 haz hazB
          go_wp2_with (first
            | (at_builtin; refine wpList_part rfl (.tmp 52) (.tmp 60) rfl rfl _ w1.heap.size m (.slice A m c) ps ⟨V4.heap.size, 0, none⟩ ⟨x1, Az, nz, cz⟩ rfl rfl HO1.out (part_at V4 ⟨x1, Az, nz, cz⟩) (by omega) HW1.out.size ?_; intro A5 c5 w5 ho5 hg5 hl5)
            | go_in)
          have HS : Hid (SRel w1 n g (.slice A5 (m + 1) c5) (.int .i64 ((k : Int) + 1)) w5) := Lib.hid (by
            refine ⟨k + 1, m + 1, A5, c5, ps ++ [⟨x1, Az, nz, cz⟩], by omega, by go_num, rfl, by rw [HE.out, List.length_append, HM.out]; rfl, ho5, by rw [HE.out]; exact HM1.out.grown hg5 HA1.out, ?_, HW1.out.grown hg5 HW1.out.size (fun j hj => (own_block_lt HO.out j hj).1)⟩
            rcases hl5 with hl5 | hl5
            · rw [hl5]; exact HA1.out.up hg5.size
            · rw [hl5]; exact (HA1.out.turn (Nat.le_refl _)).up hg5.size)
          clear ho5 hg5 hl5 d1
          go_roundw
          case rel => exact HS.out
          case measure => simp [intOf]; omega
    · obtain rfl : n = k := by omega
      rw [HGN.out] at HM HMA
      go_wp2
      go_ret
      exact ⟨A, m, c, ps, rfl, HM.out, ru_less HO.out HB1.out.size, HMA.out, HB1.out.trans (HW.out.mono HB1.out.size)⟩
set_option maxHeartbeats 16000000 in
theorem rset2_any (w : World) (A1 A2 : Option Addr) (a b : List Part) (n1 n2 c1 c2 : Nat) (h1 : CtxAt w A1 a n1 c1) (h2 : CtxAt w A2 b n2 c2) (s1 : Small a) (s2 : Small b) :
    Calls Tryz.prog 41 #[.slice A1 n1 c1, .slice A2 n2 c2, .int .i64 2] w (CtxPost w (setC a b 2)) := by
  have hn1 : n1 ≤ 100 := by rw [← h1.len]; exact s1.1
  have hn2 : n2 ≤ 100 := by rw [← h2.len]; exact s2.1
  have H1 := Lib.hid h1
  have H2 := Lib.hid h2
  have S1 := Lib.hid s1
  have S2 := Lib.hid s2
  obtain ⟨R, hR⟩ : ∃ R, setC a b 2 = R := ⟨_, rfl⟩
  rw [hR]
  have HPK : Hid ((devsC a b).filterMap (fun x => oneC (fun d => Ru.setL (runsC a d) (runsC b d) 2) x.1) = R) := Lib.hid ((pick_devs (tells_both h1.fit h2.fit 2) (fun d h => set_some d h)).trans hR)
  have CD := Lib.hid (rdevs_any w A1 A2 a b n1 n2 c1 c2 h1 h2 hn1 hn2)
  obtain ⟨hdf, hdl⟩ := devs_len s1.1 s2.1 h1.fit h2.fit
  have HDF := Lib.hid hdf
  clear h1 h2 s1 s2 hR hdf
  have k0 : ((0 : Int) == 1) = false := rfl
  have k1 : ((0 : Int) == 2) = false := rfl
  go_enter Tryz.func41, Tryz.ntmps41
  go_wp2_with fail
  refine CD.out.mono ?_
  rintro e w1 hpo
  obtain ⟨A4, n, c4, rfl, hn, _, _, _, hd, _, hb1⟩ := Dt.post_dots hpo HDF.out
  have hnl : n ≤ 200 := by rw [← hn]; exact hdl
  have HN := Lib.hid hn
  have HD := Lib.hid hd
  have HB1 := Lib.hid hb1
  clear hn hd hb1 hpo CD hdl HDF
  generalize devsC a b = L at HN HD HPK
  obtain ⟨g, hg⟩ : ∃ g : Nat → List Part, g = fun k => (L.take k).filterMap (fun x => oneC (fun d => Ru.setL (runsC a d) (runsC b d) 2) x.1) := ⟨_, rfl⟩
  have HGE : Hid (∀ k, g k = (L.take k).filterMap (fun x => oneC (fun d => Ru.setL (runsC a d) (runsC b d) 2) x.1)) := Lib.hid (fun k => by rw [hg])
  have HGL : Hid (∀ k, (g k).length ≤ k) := Lib.hid (fun k => by rw [hg]; exact Nat.le_trans (List.length_filterMap_le _ _) (List.length_take_le _ _))
  have HGN : Hid (g n = R) := Lib.hid (by rw [hg]; show (L.take n).filterMap _ = R; rw [List.take_of_length_le (by rw [HN.out]; exact Nat.le_refl _)]; exact HPK.out)
  clear hg HPK
  go_wp2_with fail
  go_loopw [7, 9] (fun v i wr => SRel w1 n g v i wr) (fun _ i _ => n - (intOf i).toNat)
  case atStart => exact ⟨0, 0, none, 0, [], Nat.zero_le _, rfl, rfl, by rw [HGE.out]; rfl, World.ownsRow_nil _ _ _ _, by rw [HGE.out]; exact Match.nil_ _, (fun p hp => by cases hp), Below.refl _ _⟩
  case round =>
    obtain ⟨k, m, A, c, ps, hk, rfl, rfl, hm, ho, hma, hap, hw⟩ := hrel
    have hmk : m ≤ k := by rw [← hm]; exact HGL.out k
    have HM := Lib.hid hm
    have HO := Lib.hid ho
    have HW := Lib.hid hw
    have HMA := Lib.hid hma
    have HAP := Lib.hid hap
    clear hm ho hw hma hap
    by_cases hlt : k < n
    · obtain ⟨ad, x, rfl, hB, hlx, hx1, hx2, hcx⟩ := HD.out.cells (k := k) (by rw [HN.out]; exact hlt)
      have HX := pick_next (f := fun d => Ru.setL (runsC a d) (runsC b d) 2) hlx
      rw [← HGE.out, ← HGE.out] at HX
      obtain ⟨x1, x2⟩ := x
      have HX2 := Lib.hid HX
      clear hlx HX
      have HC : Hid (∀ V, Below wr.heap.size wr V → V.cell? (ad.add (k * 2)) = some (.int .u16 (x1 : Int))) := fun V hV => (hcx V (HW.out.trans (hV.mono HW.out.size))).1
      clear hcx
      have d1 := HC.out wr (Below.refl _ _)
      have HWW : Hid (Below w.heap.size w wr) := HB1.out.trans (HW.out.mono HB1.out.size)
      have R1 := Lib.hid (H1.out.up HWW.out)
      have R2 := Lib.hid (H2.out.up HWW.out)
      have A18a := fun W (hW : Below wr.heap.size wr W) => made_runs hW (runs_order a x1) (rruns_any W A1 a n1 c1 x1 (R1.out.up hW) S1.out)
      have A18b := fun W (hW : Below wr.heap.size wr W) => made_runs hW (runs_order b x1) (rruns_any W A2 b n2 c2 x1 (R2.out.up hW) S2.out)
      have hla := small_runs S1.out x1
      have hlb := small_runs S2.out x1
      go_wp2_with fail
      go_region_held3 (fun V => V.cell? (ad.add (k * 2)) = some (.int .u16 (x1 : Int))) (first | exact d1 | assumption | exact HC.out _ (by (repeat (first | exact Below.refl _ _ | assumption | apply bel_drew)))) (first
        | (go_at_call 16; (with_reducible refine (A18a _ ?_).mono ?_); (focus (repeat (first | exact Below.refl _ _ | assumption | apply bel_drew | apply bel_alloc))); rintro e V ⟨Ax, nx, cx, rfl, hX, bv, cv'⟩; have hcV := HC.out V bv)
        | (go_at_call 16; (with_reducible refine (A18b _ ?_).mono ?_); (focus (repeat (first | exact Below.refl _ _ | assumption | apply bel_drew | apply bel_alloc))); rintro e V' ⟨Ay, ny, cy, rfl, hY, bv', cv''⟩; have hcV' := HC.out V' bv'; have hX2 := hX.up cv''))
      all_goals
        have HX3 := Lib.hid hX2
        have HY := Lib.hid hY
        have BV : Hid (Below wr.heap.size wr V') := Lib.hid bv'
        have HJ := Lib.hid (Ru.join_any V' Ax Ay (runsC a x1) (runsC b x1) nx ny cx cy hX2.len hY.len hX2.nil hY.nil hX2.runs hY.runs (by rw [← hX2.len]; omega) (by rw [← hY.len]; omega))
        clear hX hX2 hY bv bv' cv' cv'' hcV hcV' A18a A18b R1 R2 d1
        go_wp2_with fail
        refine HJ.out.mono ?_
        rintro e V3 hp3
        obtain ⟨Az, nz, cz, rfl, hz, hb3, hzn⟩ := runs_post hp3 (Ru.set_spec _ _ _).1
        have BV3 : Hid (Below wr.heap.size wr V3) := Lib.hid (BV.out.trans (hb3.mono BV.out.size))
        have HM2 := Lib.hid (Ru.minus_any V3 Ax Ay (runsC a x1) (runsC b x1) nx ny cx cy HX3.out.len HY.out.len HX3.out.nil HY.out.nil (HX3.out.up hb3).runs (HY.out.up hb3).runs (by rw [← HX3.out.len]; omega) (by rw [← HY.out.len]; omega))
        clear hp3 hz hb3 hzn HJ
        go_wp2_with fail
        refine HM2.out.mono ?_
        rintro e V4 hp3
        obtain ⟨Az, nz, cz, rfl, hz, hb3, hzn⟩ := runs_post hp3 (Ru.set_spec _ _ _).1
        have BV4 : Hid (Below wr.heap.size wr V4) := Lib.hid (BV3.out.trans (hb3.mono BV3.out.size))
        have HZ := Lib.hid hz
        have HZN : Hid (∀ ad, Az = some ad → wr.heap.size ≤ ad.block) := Lib.hid (fun ad e => Nat.le_trans BV3.out.size (hzn ad e))
        have HOv := Lib.hid (Dt.own_kept HO.out BV4.out)
        have HMv := Lib.hid (HMA.out.up BV4.out)
        have HAv := Lib.hid (HAP.out.up BV4.out.size)
        have HWv : Hid (Below w1.heap.size w1 V4) := Lib.hid (HW.out.trans (BV4.out.mono HW.out.size))
        have HOB := Lib.hid (own_block_lt HO.out)
        have d1 := HC.out V4 BV4.out
        clear hp3 hz hb3 hzn HX3 HY
        generalize Ru.setL (runsC a x1) (runsC b x1) 2 = z at HX2 HZ
        have hzl := HZ.out.len
        by_cases hz0 : nz = 0
        · have HE : Hid (g (k + 1) = g k) := Lib.hid (by rw [HX2.out, if_pos (by rw [hzl]; exact hz0), List.append_nil])
          subst hz0
          clear HX2 d1
          go_wp2
          go_roundw
          case rel => exact ⟨k + 1, m, A, c, ps, by omega, by go_num, rfl, by rw [HE.out]; exact HM.out, HOv.out, by rw [HE.out]; exact HMv.out, HAv.out, HWv.out⟩
          case measure => simp [intOf]; omega
        · have HE : Hid (g (k + 1) = g k ++ [(x1, z)]) := Lib.hid (by rw [HX2.out, if_neg (by rw [hzl]; exact hz0)])
          have dz : decide ((0 : Int) < (nz : Int)) = true := decide_eq_true (by omega)
          obtain ⟨adz, haz, hazB, _⟩ := HZ.out.runs.2 (by rw [Ru.rv_length]; omega)
          have HP1 : Hid (PartIs (V4.alloc (.cells #[.int .u16 (x1 : Int), .slice Az nz cz] 49)) (V4.alloc (.cells #[.int .u16 (x1 : Int), .slice Az nz cz] 49)).heap.size ⟨x1, Az, nz, cz⟩ (x1, z)) := Lib.hid (by
            have h2 := HZ.out.up (Dt.below_new V4 (.cells #[.int .u16 (x1 : Int), .slice Az nz cz] 49))
            exact ⟨rfl, hx1, h2.len, h2.nil, h2.cap, h2.max, h2.runs⟩)
          have HM1 := Lib.hid ((HMv.out.up (Dt.below_new V4 (.cells #[.int .u16 (x1 : Int), .slice Az nz cz] 49))).snoc HP1.out)
          have HA1 : Hid (Apart (V4.alloc (.cells #[.int .u16 (x1 : Int), .slice Az nz cz] 49)) (ps ++ [⟨x1, Az, nz, cz⟩]) (Value.slice A m c).ownBlock) := Lib.hid (Apart.snoc (HAv.out.up (Dt.below_new V4 _).size) (ad := adz) haz (Nat.lt_of_lt_of_le hazB (Dt.below_new V4 _).size) (fun e => by
            have h1 := HOB.out adz.block e.symm
            have h2 := HZN.out adz haz
            omega))
          have HO1 := Lib.hid (HOv.out.alloc (.cells #[.int .u16 (x1 : Int), .slice Az nz cz] 49))
          have HW1 : Hid (Below w1.heap.size w1 (V4.alloc (.cells #[.int .u16 (x1 : Int), .slice Az nz cz] 49))) := Lib.hid (bel_alloc _ HWv.out)
          clear HX2 haz hazB
          go_wp2_with (first
            | (at_builtin; refine wpList_part rfl (.tmp 52) (.tmp 60) rfl rfl _ w1.heap.size m (.slice A m c) ps ⟨V4.heap.size, 0, none⟩ ⟨x1, Az, nz, cz⟩ rfl rfl HO1.out (part_at V4 ⟨x1, Az, nz, cz⟩) (by omega) HW1.out.size ?_; intro A5 c5 w5 ho5 hg5 hl5)
            | go_in)
          have HS : Hid (SRel w1 n g (.slice A5 (m + 1) c5) (.int .i64 ((k : Int) + 1)) w5) := Lib.hid (by
            refine ⟨k + 1, m + 1, A5, c5, ps ++ [⟨x1, Az, nz, cz⟩], by omega, by go_num, rfl, by rw [HE.out, List.length_append, HM.out]; rfl, ho5, by rw [HE.out]; exact HM1.out.grown hg5 HA1.out, ?_, HW1.out.grown hg5 HW1.out.size (fun j hj => (own_block_lt HO.out j hj).1)⟩
            rcases hl5 with hl5 | hl5
            · rw [hl5]; exact HA1.out.up hg5.size
            · rw [hl5]; exact (HA1.out.turn (Nat.le_refl _)).up hg5.size)
          clear ho5 hg5 hl5 d1
          go_roundw
          case rel => exact HS.out
          case measure => simp [intOf]; omega
    · obtain rfl : n = k := by omega
      rw [HGN.out] at HM HMA
      go_wp2
      go_ret
      exact ⟨A, m, c, ps, rfl, HM.out, ru_less HO.out HB1.out.size, HMA.out, HB1.out.trans (HW.out.mono HB1.out.size)⟩
end Go.Proofs.YtegclhgfibfanaaGreat.Cx
