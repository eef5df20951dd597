/- The contracts of the program's byDevice and inOrder of layer ctx. -/
import Derived.Test.YtegclhgfibfanaaKM
import Derived.Deep.RegionHeld3
import Derived.Test.YtegclhgfibfanaaKU

/- The contract of the program's 'byDevice': a map from devices to the runs of each, as they stand in the context, in lists of their own. Condition: at most 2^28 parts, of at most 2^28 runs together. -/
namespace Go.Proofs.Ytegclhgfibfanaa.Cx
open Go.ChangeShapes Go.WideShapes Go.ChangeAt Go.RowKit Go.Maps
set_option linter.unusedVariables false
set_option maxRecDepth 4000

/-- the box of a part that came in. -/
theorem pbox_at (w : World) (d : Nat) (A : Option Addr) (n c : Nat) : ∀ V, Below (w.alloc (.cells #[.int .u16 (d : Int), .slice A n c] 47)).heap.size (w.alloc (.cells #[.int .u16 (d : Int), .slice A n c] 47)) V → V.cell? ⟨w.heap.size, 0, none⟩ = some (.int .u16 (d : Int)) ∧ V.cell? ⟨w.heap.size, 1, none⟩ = some (.slice A n c) := by
  intro V hV
  have h1 : (w.alloc (.cells #[.int .u16 (d : Int), .slice A n c] 47)).cell? ⟨w.heap.size, 0, none⟩ = some (.int .u16 (d : Int)) := by simp [go_sem]
  have h2 : (w.alloc (.cells #[.int .u16 (d : Int), .slice A n c] 47)).cell? ⟨w.heap.size, 1, none⟩ = some (.slice A n c) := by simp [go_sem]
  exact ⟨(hV.cell (World.block_lt_of_cell? _ _ h1)).trans h1, (hV.cell (World.block_lt_of_cell? _ _ h2)).trans h2⟩
set_option maxHeartbeats 4000000 in
theorem pbydev_any (w : World) (A1 : Option Addr) (a : List Part) (n1 c1 : Nat) (h1 : CtxAt w A1 a n1 c1) (ha : Wide 268435456 a) :
    Calls Try.prog 27 #[.slice A1 n1 c1] w fun e w' => e = .returned (.map (some w.heap.size)) ∧ MapO w' (w.heap.size + 1) w.heap.size n1 (rawC a) ∧ Below w.heap.size w w' := by
  have hmm := @run_makeMap Try.prog
  have H1 := Lib.hid h1
  have HM0 := Lib.hid (mapO_new w)
  have HB0 : Hid (Below w.heap.size w (w.alloc (.map #[] 0))) := Lib.hid (Dt.below_new _ _)
  have hn1 : n1 ≤ 268435456 := by rw [← h1.len]; exact ha.1
  have HL : Hid (∀ k d, (rawF (fun _ => []) (a.take k) d).length ≤ 268435456) := Lib.hid (fun k d => by
    have q1 := raw_len (fun _ => []) a k d
    have q2 := weight_take a k
    have q3 := ha.2
    simp only [List.length_nil] at q1
    omega)
  have HP : Hid (∀ (k : Nat) (x : Part), a[k]? = some x → x.2.length ≤ 268435456) := Lib.hid (fun k x hx => Nat.le_trans (weight_part hx) ha.2)
  have HF : Hid (∀ k d, Ru.Fit (rawF (fun _ => []) (a.take k) d)) := Lib.hid (fun k d => raw_fit (fun x hx => h1.fit x (List.mem_of_mem_take hx)) d (fun r hr => by cases hr))
  clear h1 ha
  go_enter Try.func27, Try.ntmps27
  go_wp2_with fail
  generalize w.alloc (.map #[] 0) = w0 at HM0 HB0 ⊢
  go_loopw [9] (fun i wr => ∃ k : Nat, k ≤ n1 ∧ i = .int .i64 (k : Int) ∧ MapO wr (w.heap.size + 1) w.heap.size k (rawF (fun _ => []) (a.take k)) ∧ Below w.heap.size w wr) (fun i _ => n1 - (intOf i).toNat)
  case atStart => exact ⟨0, Nat.zero_le _, rfl, HM0.out, HB0.out⟩
  case round =>
    obtain ⟨k, hk, rfl, hmk, hg⟩ := hrel
    have HMK := Lib.hid hmk
    have HW := Lib.hid hg
    have hsz := hmk.lt
    clear hmk hg
    by_cases hlt : k < n1
    · obtain ⟨ad, p, x, rfl, hB, hx, hp, hcell⟩ := H1.out.cells hlt
      have HN := Lib.hid (raw_next (f := fun _ => []) hx)
      have HPL := Lib.hid (HP.out k x hx)
      have HX := Lib.hid (hp.up HW.out)
      have hd1 := hp.fit
      have hpd := hp.dev
      obtain ⟨d1, d2⟩ := hcell wr HW.out
      clear hx hp hcell
      have BX : Hid (Below wr.heap.size wr (wr.alloc (.cells #[.int .u16 (x.1 : Int), .slice p.adr p.len p.cap] 47))) := Lib.hid (Dt.below_new _ _)
      obtain ⟨d3, d4⟩ := pbox_at wr x.1 p.adr p.len p.cap _ (Below.refl _ _)
      by_cases h0 : x.1 = 0
      · have dz : ((x.1 : Int) != 0) = false := by rw [bne_eq_false_iff_eq]; omega
        have HS : Hid (rawF (fun _ => []) (a.take (k + 1)) = rawF (fun _ => []) (a.take k)) := Lib.hid (by rw [HN.out]; exact raw_skip h0)
        have HR : Hid (MapO (wr.alloc (.cells #[.int .u16 (x.1 : Int), .slice p.adr p.len p.cap] 47)) (w.heap.size + 1) w.heap.size (k + 1) (rawF (fun _ => []) (a.take (k + 1)))) := Lib.hid (by rw [HS.out]; exact (HMK.out.up BX.out).more (by omega))
        have HW1 := Lib.hid (HW.out.trans (BX.out.mono HW.out.size))
        have hz : ((x.1 : Nat) : Int) = 0 := by omega
        rw [hz] at HR HW1
        clear HN HS HMK HX BX
        go_wp2
        go_roundw
        case rel => exact ⟨k + 1, hlt, by go_num, HR.out, HW1.out⟩
        case measure => simp [intOf]; omega
      · have dz : ((x.1 : Int) != 0) = true := by rw [bne_iff_ne]; omega
        have HS : Hid ((fun d => if d = x.1 then rawF (fun _ => []) (a.take k) x.1 ++ x.2 else rawF (fun _ => []) (a.take k) d) = rawF (fun _ => []) (a.take (k + 1))) := Lib.hid (by rw [HN.out]; exact raw_put h0)
        have HFN := Lib.hid (HF.out (k + 1) x.1)
        have HEN : Hid (rawF (fun _ => []) (a.take (k + 1)) x.1 = rawF (fun _ => []) (a.take k) x.1 ++ x.2) := Lib.hid (by rw [← HS.out]; exact if_pos rfl)
        rw [HEN.out] at HFN
        have HLK := Lib.hid (HL.out k x.1)
        generalize hwb : wr.alloc (.cells #[.int .u16 (x.1 : Int), .slice p.adr p.len p.cap] 47) = wb at BX d3 d4
        have hbox : wb.heap.size = wr.heap.size + 1 := by rw [← hwb]; simp
        have HXB := Lib.hid (HX.out.up BX.out)
        obtain ⟨A2, k2, c2, hA2, hk2, hlook, hstore⟩ := (HMK.out.up BX.out).look hd1
        have r1 := hlook wb (Ru.turn_refl _ _)
        have r2 := hlook wb.drew (bel_grown ((Below.refl _ _).drew) _)
        have BD : Hid (Below wb.heap.size wb wb.drew) := Lib.hid ((Below.refl _ _).drew)
        have HO2 := Lib.hid (Dt.own_kept hA2 BD.out)
        have hk2' : k2 ≤ 268435456 := by rw [← hk2]; exact HLK.out
        have hpl' : p.len ≤ 268435456 := by rw [← HX.out.len]; exact HPL.out
        have HBL : Hid (Ru.Lies wb.drew wb.drew.heap.size p.adr (Ru.rv x.2)) := Lib.hid ((HXB.out.up BD.out).runs.2)
        have HXL := Lib.hid HX.out.len
        have HXN := Lib.hid HX.out.nil
        have HOL := Lib.hid (fun j hj => (hA2.lt j hj))
        have HST := Lib.hid hstore
        have HW1 := Lib.hid ((HW.out.trans (BX.out.mono HW.out.size)).trans (BD.out.mono (Nat.le_trans HW.out.size BX.out.size)))
        have hBsz : w.heap.size + 1 ≤ wb.drew.heap.size := by show w.heap.size + 1 ≤ wb.heap.size; omega
        have HKC : Hid (∀ w5 : World, World.grownBy wb.drew w5 (Value.slice A2 k2 c2).ownBlock → w5.cell? ⟨wr.heap.size, 0, none⟩ = some (.int .u16 (x.1 : Int)) ∧ w5.cell? ⟨wr.heap.size, 1, none⟩ = some (.slice p.adr p.len p.cap)) := Lib.hid (fun w5 hg5 => by
          have hq := HMK.out
          have hne : some wr.heap.size ≠ (Value.slice A2 k2 c2).ownBlock := fun e => by
            obtain ⟨A9, k9, c9, hA9, _, hl9, _⟩ := hq.look hd1
            have e9 := hl9 wb (bel_grown BX.out _)
            rw [r1] at e9
            have e8 : Value.slice A2 k2 c2 = Value.slice A9 k9 c9 := by injection e9
            rw [e8] at e
            have := (hA9.lt wr.heap.size e.symm).2
            omega
          have hl2 : wr.heap.size < wb.drew.heap.size := by show wr.heap.size < wb.heap.size; omega
          exact ⟨(hg5.cell_far _ hl2 hne).trans d3, (hg5.cell_far _ hl2 hne).trans d4⟩)
        have HK6 : Hid (∀ w5 w6 : World, World.grownBy wb.drew w5 (Value.slice A2 k2 c2).ownBlock → w5.grownBy w6 (some w.heap.size) → w6.cell? ⟨wr.heap.size, 0, none⟩ = some (.int .u16 (x.1 : Int)) ∧ w6.cell? ⟨wr.heap.size, 1, none⟩ = some (.slice p.adr p.len p.cap)) := Lib.hid (fun w5 w6 hg5 hg6 => by
          obtain ⟨q1, q2⟩ := HKC.out w5 hg5
          have hl2 : wr.heap.size < w5.heap.size := by have := hg5.size; show wr.heap.size < w5.heap.size; have e : wb.drew.heap.size = wb.heap.size := rfl; omega
          have hne : some wr.heap.size ≠ some w.heap.size := fun e => by injection e with e; omega
          exact ⟨(hg6.cell_far _ hl2 hne).trans q1, (hg6.cell_far _ hl2 hne).trans q2⟩)
        clear HN hA2 hlook hstore HLK HPL HX HMK BX BD HXB hk2 HEN
        go_wp2_with fail
        go_region_held3 (fun V => V.cell? ⟨wr.heap.size, 0, none⟩ = some (.int .u16 (x.1 : Int)) ∧ V.cell? ⟨wr.heap.size, 1, none⟩ = some (.slice p.adr p.len p.cap)) (first | exact ⟨d3, d4⟩ | assumption) (first
          | (refine step_app rfl (.tmp 22) (.tmp 24) rfl rfl (w.heap.size + 1) k2 (.slice A2 k2 c2) (rawF (fun _ => []) (a.take k) x.1) p.adr x.2 p.len p.cap rfl rfl HO2.out HXN.out HBL.out HXL.out (by omega) hBsz ?_; intro A5 c5 w5 ho5 hg5 hl5; have hcV := HKC.out w5 hg5; obtain ⟨w6, hrun, hM6, hg6⟩ := HST.out w5 A5 (k2 + p.len) c5 _ (World.grownBy.trans (bel_grown ((Below.refl _ _).drew) _) hg5) ho5 HFN.out (hl5.imp (fun h => h) (fun h j hj => by rw [h] at hj; injection hj with hj; rw [← hj]; exact Nat.le_refl _)) (by omega); have hcV6 := HK6.out w5 w6 hg5 hg6))
        all_goals
          have HR : Hid (MapO w6 (w.heap.size + 1) w.heap.size (k + 1) (rawF (fun _ => []) (a.take (k + 1)))) := Lib.hid (hM6.turn HS.out)
          have HW6 : Hid (Below w.heap.size w w6) := Lib.hid ((HW1.out.grown hg5 HW1.out.size (fun j hj => by have := (HOL.out j hj).1; omega)).grown hg6 (Nat.le_trans HW1.out.size hg5.size) (fun j hj => by cases hj; exact Nat.le_refl _))
          clear hM6 hg6 hrun hg5 hl5 ho5 hcV hcV6 r1 r2 HO2 HBL HXL HXN HOL HST HW1 HKC HK6 HS HFN d1 d2 d3 d4
          go_wp2
          go_roundw
          case rel => exact ⟨k + 1, hlt, by go_num, HR.out, HW6.out⟩
          case measure => simp [intOf]; omega
    · obtain rfl : k = n1 := by omega
      have e : Hid (a.take k = a) := Lib.hid (List.take_of_length_le (by rw [H1.out.len]; exact Nat.le_refl _))
      rw [e.out] at HMK
      go_wp2
      go_ret
      exact ⟨rfl, HMK.out, HW.out⟩
end Go.Proofs.Ytegclhgfibfanaa.Cx

/- The contract of the program's 'inOrder' of layer ctx: the context, in order, of the runs that a map of lists holds. Condition: at most 2^30 devices, each with at most 2^41 runs. -/
namespace Go.Proofs.Ytegclhgfibfanaa.Cx
open Go.ChangeShapes Go.WideShapes Go.ChangeAt Go.RowKit Go.Maps
set_option linter.unusedVariables false
set_option maxRecDepth 4000

/-- a row of cells is no iterator. -/
theorem neS_iter {w : World} {b r n k c size e : Nat} {B : Nat} {D : DataW Value} {left : Lit → Bool} {cnt : Nat} {A : Option Addr} {xs : List Value} (h : w.ranges Try.prog 24 valS b r n D left cnt) (ho : w.ownsRow B e size (.slice A k c) k xs) :
    (Value.slice A k c).ownBlock = none ∨ (Value.slice A k c).ownBlock ≠ some r := by
  rcases ho.2 with ⟨h1, _⟩ | ⟨g, cap, cur, h1, _, h2, _⟩
  · cases h1; exact .inl rfl
  · cases h1
    right
    intro e
    have e2 : g = r := by simpa [Value.ownBlock] using e
    obtain ⟨es, clock, since, seen, c0, _, _, _, _, h3, _⟩ := h
    rw [← e2, h2] at h3
    cases h3
theorem ownS_from {w : World} {B k c size e : Nat} {A : Option Addr} {xs : List Value} (ho : w.ownsRow B e size (.slice A k c) k xs) : ∀ j, (Value.slice A k c).ownBlock = some j → B ≤ j := by
  intro j hj
  exact (ho.lt j hj).1
/-- parts whose runs lie behind block r, and apart from this row. -/
def ApartR (w : World) (r : Nat) (ps : List PV) (row : Option Nat) : Prop := ∀ p ∈ ps, ∃ ad, p.adr = some ad ∧ r < ad.block ∧ ad.block < w.heap.size ∧ some ad.block ≠ row
theorem ApartR.apart {w : World} {r : Nat} {ps : List PV} {row : Option Nat} (h : ApartR w r ps row) : Apart w ps row := fun p hp => by
  obtain ⟨ad, e, _, h2, h3⟩ := h p hp
  exact ⟨ad, e, h2, h3⟩
theorem ApartR.iter {w : World} {r : Nat} {ps : List PV} {row : Option Nat} (h : ApartR w r ps row) : Apart w ps (some r) := fun p hp => by
  obtain ⟨ad, e, h1, h2, _⟩ := h p hp
  exact ⟨ad, e, h2, fun e2 => by injection e2 with e2; omega⟩
theorem ApartR.up {w w' : World} {r : Nat} {ps : List PV} {row : Option Nat} (h : ApartR w r ps row) (hs : w.heap.size ≤ w'.heap.size) : ApartR w' r ps row := fun p hp => by
  obtain ⟨ad, e, h1, h2, h3⟩ := h p hp
  exact ⟨ad, e, h1, Nat.lt_of_lt_of_le h2 hs, h3⟩
theorem ApartR.snoc {w : World} {r : Nat} {ps : List PV} {row : Option Nat} {p : PV} {ad : Addr} (h : ApartR w r ps row) (e : p.adr = some ad) (h1 : r < ad.block) (h2 : ad.block < w.heap.size) (hne : some ad.block ≠ row) : ApartR w r (ps ++ [p]) row := fun q hq => by
  rcases List.mem_append.1 hq with hq | hq
  · exact h q hq
  · obtain rfl := List.mem_singleton.1 hq
    exact ⟨ad, e, h1, h2, hne⟩
/-- the row has grown, where it lay or in a new block. -/
theorem ApartR.grown {w w' : World} {r : Nat} {ps : List PV} {row row' : Option Nat} (h : ApartR w r ps row) (hs : w.heap.size ≤ w'.heap.size) (hr : row' = row ∨ row' = some w.heap.size) : ApartR w' r ps row' := fun p hp => by
  obtain ⟨ad, e, h1, h2, h3⟩ := h p hp
  refine ⟨ad, e, h1, Nat.lt_of_lt_of_le h2 hs, ?_⟩
  rcases hr with rfl | rfl
  · exact h3
  · intro e2; injection e2 with e2; omega
theorem Apart.perm {w : World} {ps s : List PV} {row : Option Nat} (h : Apart w ps row) (hp : s.Perm ps) : Apart w s row := fun p hm => h p (hp.mem_iff.1 hm)
set_option maxHeartbeats 4000000 in
theorem pinord_any (hsort : SortsP) (w : World) (B b n : Nat) (f : Nat → List Run) (h : MapS w B b n f) (hf : Tells (fun d => Ru.nrm (f d))) (hl : ∀ d, (f d).length ≤ 2199023255552) (hn : n ≤ 1073741824) :
    Calls Try.prog 32 #[.map (some b)] w (CtxPost w (listC (fun d => Ru.nrm (f d)))) := by
  obtain ⟨hbB, D, g, hown, hh, hs⟩ := h
  obtain ⟨i0, hi0, hz0, hz1, hz2⟩ := info_parts part_info
  have HH := Lib.hid hh
  have HF := Lib.hid hf
  have HSL := Lib.hid hs
  have HWN := Lib.hid hown
  have HLN := Lib.hid hl
  have HNZ : Hid (∀ d, f d = [] → Ru.nrm (f d) = []) := Lib.hid (fun d hd => by rw [hd]; exact nrm_nil)
  have HNO : Hid (∀ d, Ru.InOrder (Ru.nrm (f d))) := Lib.hid (fun d => (Ru.nrm_spec _).1)
  have HNM : Hid (∀ W A d k c, RunsAt W A (f d) k c → Calls Try.prog 37 #[.slice A k c] W (Ru.RunPost W (Ru.nrm (f d)))) := Lib.hid (fun W A d k c hr => Ru.pnorm_any W A (f d) k c hr.len hr.runs (by rw [← hr.len]; have := hl d; omega))
  have hbl := hown.lt
  have hlen := hown.len (t := 52) (e := 45) Try.underlying52 3
  have hkn := hown.size_le
  obtain ⟨kn, hknD⟩ : ∃ kn, Maps.size D = kn := ⟨_, rfl⟩
  have HKN := Lib.hid hknD
  rw [hknD] at hlen hkn
  clear hh hf hs hown hknD hl
  generalize hN : (fun d => Ru.nrm (f d)) = N at *
  have HNF : Hid (∀ d, Ru.nrm (f d) = N d) := Lib.hid (fun d => by rw [← hN])
  clear hN
  go_enter Try.func32, Try.ntmps32
  go_wp2_with (first
    | (at_make
       refine wpList_make_own _ rfl _ _ 23 rfl w.heap.size 47 i0 (.agg #[.int .u16 0, .slice none 0 0]) 2 Try.underlying23 hi0 hz0 hz1 _ _ _ kn rfl rfl rfl (by rw [hz2]; omega) (by simp only [maxLen]; omega) (Nat.le_refl _) ?_
       intro w1 ho1 hg1
       have HO1 := Lib.hid ho1
       have HG1 := Lib.hid hg1
       have HWN1 := Lib.hid (HWN.out.kept hg1 (fun e => by cases e))
       clear ho1 hg1)
    | (at_range; refine wpList_range_own _ rfl _ 52 rfl 24 45 law16 Try.underlying52 _ b n _ rfl HWN1.out ?_; intro w0 hrg0 hg0 hs0)
    | go_in)
  have HR0 := Lib.hid hrg0
  have HB0 : Hid (Below w.heap.size w w0) := Lib.hid (((Below.refl _ w).grown HG1.out (Nat.le_refl _) (fun j hj => by cases hj)).grown hg0 HG1.out.size (fun j hj => by cases hj))
  have HS0 := Lib.hid hs0
  have HO2 : Hid (w0.ownsRow w.heap.size 47 2 (.slice (some ⟨w.heap.size, 0, none⟩) 0 kn) 0 (cv [])) := Lib.hid (HO1.out.kept hg0 (.inr (fun e => by cases e)))
  have hw1 := HG1.out.size
  have HGS : Hid (GatherS N g (Maps.has D) []) := Lib.hid (gatherN_start HH.out HSL.out (fun d hd => by rw [← HNF.out]; exact HNZ.out d hd))
  clear hrg0 hg0 hs0 hlen
  go_frame
  go_loopw [3] (fun v wr => ∃ (left : Lit → Bool) (cnt : Nat) (ps : List PV) (m : List Part) (A : Option Addr) (k c : Nat), v = .slice A k c ∧ m.length = k ∧ k + cnt ≤ kn ∧ wr.ranges Try.prog 24 valS b w1.heap.size n D left cnt ∧ GatherS N g left m ∧ Match wr ps m ∧
      ApartR wr w1.heap.size ps (Value.slice A k c).ownBlock ∧ wr.ownsRow w.heap.size 47 2 (.slice A k c) k (cv ps) ∧ Below w.heap.size w wr ∧ w1.heap.size < wr.heap.size) (fun _ wr => wr.rangeLeft b w1.heap.size)
  case atStart => exact ⟨_, _, [], [], _, 0, kn, rfl, rfl, by rw [HKN.out]; omega, HR0.out, HGS.out, Match.nil_ _, (fun p hp => by cases hp), HO2.out, HB0.out, by rw [HS0.out]; exact Nat.lt_succ_self _⟩
  case round =>
    obtain ⟨left, cnt, ps, m, A, k, c, rfl, hm, hkn2, hrg, hga, hma, hap, ho, hw, hws⟩ := hrel
    have HM := Lib.hid hm
    have HG := Lib.hid hga
    have HMA := Lib.hid hma
    have HAP := Lib.hid hap
    have HO := Lib.hid ho
    have HW := Lib.hid hw
    have HRL := Lib.hid hrg.left_eq
    have HNE := Lib.hid (neS_iter hrg ho)
    have HOF := Lib.hid (ownS_from ho)
    clear hm hga hma hap ho hw
    go_wp2_with (first
      | (at_next; refine wpList_nextS rfl _ rfl b w1.heap.size n _ _ _ rfl hrg ?_ ?_)
      | go_in)
    · intro hc0 hl0
      have HE := Lib.hid hl0
      clear hrg
      go_wp2_with fail
      refine (hsort wr w.heap.size A k c ps (HMA.out.1.trans HM.out) (by omega) HO.out).mono ?_
      rintro e w2 ⟨rfl, s, hp, hs, ho2, hg2⟩
      have HS := Lib.hid ((made_end HG.out HF.out HE.out HMA.out hp hs).grown hg2 (HAP.out.apart.perm hp))
      have HL : Hid ((listC N).length = k) := Lib.hid (by rw [← HS.out.1, hp.length_eq, HMA.out.1]; exact HM.out)
      have HO2 := Lib.hid ho2
      have HW2 : Hid (Below w.heap.size w w2) := Lib.hid (HW.out.grown hg2 HW.out.size HOF.out)
      clear hp hs ho2 hg2
      go_wp2
      go_ret
      exact ⟨A, k, c, s, rfl, HL.out, HO2.out, HS.out, HW2.out⟩
    · intro x sl wn cnt1 hwx hlx hat hrg1 hlt hg1 hs1 hen
      obtain ⟨d, rfl, hd, hR, hRB⟩ := entryS HH.out HSL.out hwx hat
      have HW1 : Hid (Below w.heap.size w wn) := Lib.hid (HW.out.grown hg1 HW.out.size (fun j hj => by cases hj; exact hw1))
      have HO1 := Lib.hid (HO.out.kept hg1 HNE.out)
      have HMA1 := Lib.hid (HMA.out.grown hg1 HAP.out.iter)
      have HAP1 := Lib.hid (HAP.out.up hg1.size)
      have CN := HNM.out wn sl.adr d sl.len sl.cap (hR.up HW1.out)
      have HLX := Lib.hid hlx
      have HR1 := Lib.hid hrg1
      have hsn : w1.heap.size < wn.heap.size := by rw [hs1]; exact hws
      clear hrg hrg1 hat hg1 hwx hR hRB hs1 hlx hws
      go_wp2_with fail
      refine CN.mono ?_
      intro e w2 hp
      obtain ⟨A3, n3, c3, rfl, hR3, hb3, hnew⟩ := runs_post hp (HNO.out d)
      rw [HNF.out d] at hR3
      have HR3 := Lib.hid hR3
      have HLN3 := Lib.hid hR3.len
      have HNW := Lib.hid hnew
      have HW2 := Lib.hid (HW1.out.trans (hb3.mono HW1.out.size))
      have HO2 := Lib.hid (Dt.own_kept HO1.out hb3)
      have HMA2 := Lib.hid (HMA1.out.up hb3)
      have HAP2 := Lib.hid (HAP1.out.up hb3.size)
      have HR2 := Lib.hid (HR1.out.kept (bel_grown hb3 none) (fun e => by cases e) (fun e => by cases e))
      have hs2 : w1.heap.size < w2.heap.size := Nat.lt_of_lt_of_le hsn hb3.size
      have HOB := Lib.hid (fun j hj => (HO1.out.lt j hj).2)
      clear hp hR3 hnew hb3 CN
      by_cases h0 : n3 = 0
      · have HG1 := Lib.hid (HG.out.skip (d := d) (List.eq_nil_of_length_eq_zero (by rw [HLN3.out]; exact h0)))
        have dz : decide ((0 : Int) < (n3 : Int)) = false := decide_eq_false (by omega)
        clear hen
        go_wp2
        refine ⟨⟨_, cnt1, ps, m, A, k, c, rfl, HM.out, by omega, HR2.out, HG1.out, HMA2.out, HAP2.out, HO2.out, HW2.out, hs2⟩, ?_⟩
        rw [HR2.out.left_eq, HRL.out]
        exact hlt
      · have hfd : N d ≠ [] := fun e => h0 (by rw [← HLN3.out, e]; rfl)
        have HG1 := Lib.hid (HG.out.step hd hfd HLX.out)
        have dz : decide ((0 : Int) < (n3 : Int)) = true := decide_eq_true (by omega)
        obtain ⟨ad3, had3⟩ : ∃ ad3, A3 = some ad3 := by
          cases A3 with
          | none => exact absurd (HR3.out.nil rfl).1 h0
          | some ad3 => exact ⟨ad3, rfl⟩
        have HAD := Lib.hid had3
        have hblk : wn.heap.size ≤ ad3.block ∧ ad3.block < w2.heap.size := by
          refine ⟨HNW.out ad3 had3, ?_⟩
          obtain ⟨ad', e, hB, _⟩ := HR3.out.runs.2 (by rw [Ru.rv_length, HLN3.out]; omega)
          rw [had3] at e
          obtain rfl := Option.some.inj e
          exact hB
        have HBA : Hid (Below w2.heap.size w2 (w2.alloc (.cells #[.int .u16 (d : Int), .slice A3 n3 c3] 47))) := Lib.hid (Dt.below_new _ _)
        have HMA3 : Hid (Match (w2.alloc (.cells #[.int .u16 (d : Int), .slice A3 n3 c3] 47)) (ps ++ [⟨d, A3, n3, c3⟩]) (m ++ [(d, N d)])) := Lib.hid ((HMA2.out.up HBA.out).snoc (by
          have q := HR3.out.up HBA.out
          exact ⟨rfl, hd, q.len, q.nil, q.cap, q.max, q.runs⟩))
        have HAP3 : Hid (ApartR (w2.alloc (.cells #[.int .u16 (d : Int), .slice A3 n3 c3] 47)) w1.heap.size (ps ++ [⟨d, A3, n3, c3⟩]) (Value.slice A k c).ownBlock) := Lib.hid ((HAP2.out.up HBA.out.size).snoc had3 (by omega) (Nat.lt_of_lt_of_le hblk.2 HBA.out.size) (fun e => by
          have := HOB.out ad3.block e.symm
          omega))
        have HOA := Lib.hid (HO2.out.alloc (.cells #[.int .u16 (d : Int), .slice A3 n3 c3] 47))
        have HWA : Hid (Below w.heap.size w (w2.alloc (.cells #[.int .u16 (d : Int), .slice A3 n3 c3] 47))) := Lib.hid (bel_alloc _ HW2.out)
        have HRA := Lib.hid (HR2.out.alloc (.cells #[.int .u16 (d : Int), .slice A3 n3 c3] 47))
        clear hen had3
        go_wp2_with (first
          | (at_builtin; refine wpList_part rfl (.tmp 21) (.tmp 25) rfl rfl _ w.heap.size k (.slice A k c) ps ⟨w2.heap.size, 0, none⟩ ⟨d, A3, n3, c3⟩ rfl rfl HOA.out (part_at w2 ⟨d, A3, n3, c3⟩) (by omega) HWA.out.size ?_; intro A4 c4 w3 ho3 hg3 hl3)
          | go_in)
        have HR4 := Lib.hid (HRA.out.kept hg3 (fun e => by have := HOF.out b e.symm; omega) (fun e => by rcases HNE.out with h | h; rw [h] at e; cases e; exact h e.symm))
        have HW3 : Hid (Below w.heap.size w w3) := Lib.hid (HWA.out.grown hg3 HWA.out.size HOF.out)
        have hlen : (m ++ [(d, N d)]).length = k + 1 := by rw [List.length_append, HM.out]; rfl
        have hs3 : w1.heap.size < w3.heap.size := Nat.lt_of_lt_of_le hs2 (Nat.le_trans HBA.out.size hg3.size)
        refine ⟨⟨_, cnt1, ps ++ [⟨d, A3, n3, c3⟩], m ++ [(d, N d)], A4, k + 1, c4, rfl, hlen, by omega, HR4.out, HG1.out, HMA3.out.grown hg3 HAP3.out.apart, HAP3.out.grown hg3.size hl3, ho3, HW3.out, hs3⟩, ?_⟩
        rw [HR4.out.left_eq, HRL.out]
        exact hlt
end Go.Proofs.Ytegclhgfibfanaa.Cx
