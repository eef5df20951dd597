/- Words and contracts that the proofs of this seat stand on, part 18 of 18. -/
import Derived.Test.YtmebokpgiehgmaaMgJ

/- KillsOrder: the law's walk. -/
namespace Go.Proofs.Ytmebokpgiehgmaa.Kl
open Go.ChangeShapes Go.WideShapes Go.ChangeAt Go.RowKit
set_option linter.unusedVariables false
set_option maxRecDepth 4000

/-- the place where a turned list finds its k-th event. -/
def plc (n g k : Nat) : Nat := (n - 1 - k + g) % n
theorem plc_lt {n g k : Nat} (h : 0 < n) : plc n g k < n := Nat.mod_lt _ h
theorem plc_back {n g p : Nat} (hp : p < n) : plc n g (plc n g p) = p := by
  unfold plc
  have hn : 0 < n := by omega
  have h1 := Nat.div_add_mod (n - 1 - p + g) n
  have h2 := Nat.mod_lt (n - 1 - p + g) hn
  obtain ⟨q, hq⟩ : ∃ q, (n - 1 - p + g) / n = q := ⟨_, rfl⟩
  obtain ⟨r, hr⟩ : ∃ r, (n - 1 - p + g) % n = r := ⟨_, rfl⟩
  rw [hq, hr] at h1
  rw [hr] at h2 ⊢
  have e : n - 1 - r + g = p + n * q := by omega
  rw [e, Nat.add_mul_mod_self_left, Nat.mod_eq_of_lt hp]
/-- the list turned, its first k events. -/
def turnE (l : List Ev.Evt) (g k : Nat) : List Ev.Evt := (List.range k).filterMap (fun j => l[plc l.length g j]?)
theorem turn_next {l : List Ev.Evt} {g k : Nat} {x : Ev.Evt} (h : l[plc l.length g k]? = some x) : turnE l g (k + 1) = turnE l g k ++ [x] := by
  unfold turnE
  rw [List.range_succ, List.filterMap_append]
  simp [h]
theorem turn_mem {l : List Ev.Evt} {g : Nat} (x : Ev.Evt) : x ∈ turnE l g l.length ↔ x ∈ l := by
  constructor
  · intro hx
    unfold turnE at hx
    obtain ⟨j, _, hj⟩ := List.mem_filterMap.1 hx
    exact List.mem_of_getElem? hj
  · intro hx
    obtain ⟨p, hp, e⟩ := List.mem_iff_getElem.1 hx
    unfold turnE
    refine List.mem_filterMap.2 ⟨plc l.length g p, List.mem_range.2 (plc_lt (by omega)), ?_⟩
    rw [plc_back hp, List.getElem?_eq_getElem hp, e]

set_option maxHeartbeats 16000000 in
theorem order_walk (P : PKl) (w : World) (A1 : Option Addr) (l : List Ev.Evt) (n1 c1 g : Nat) (d : Dt.Dot) (hl : Ev.EventsAt w w.heap.size A1 l n1 c1) (hd : d.1 < 65536 ∧ d.2 < 18446744073709551616) (hg : g < 256) :
    Calls Try.prog 5 #[.slice A1 n1 c1, .agg #[.int .u16 (d.1 : Int), .int .u64 (d.2 : Int)], .int .u8 (g : Int)] w fun e w' => e = .returned (.bool true) ∧ Below w.heap.size w w' := by
  obtain ⟨d1, d2⟩ := d
  have HB := Lib.hid (Ev.below_new w (dbox (d1, d2)))
  have HL := Lib.hid (hl.up HB.out)
  have HX := Lib.hid (fun V hV => dbox_cells w V (d1, d2) hV)
  have CF := Ev.rfew_any (w.alloc (dbox (d1, d2))) A1 l n1 c1 15 (by decide) HL.out
  simp only [show ((15 : Nat) : Int) = 15 from rfl] at CF
  simp only [dbox] at HB HL HX CF
  clear hl
  cases hf : Ev.fewB l 15 with
  | false =>
    rw [hf] at CF
    go_enter Try.func5, Try.ntmps5
    go_wp2_with fail
    generalize w.alloc (.cells #[.int .u16 (d1 : Int), .int .u64 (d2 : Int)] 26) = w1 at *
    refine CF.mono ?_
    rintro e w2 ⟨rfl, rfl⟩
    have CW := works_any P w2
    go_wp2_with fail
    refine CW.mono ?_
    rintro e w3 ⟨rfl, hb3⟩
    have HW3 := Lib.hid (HB.out.trans (hb3.mono HB.out.size))
    clear hb3
    go_wp2
    go_ret
    exact ⟨rfl, HW3.out⟩
  | true =>
    rw [hf] at CF
    obtain ⟨hll, hlk⟩ := few_all hf
    have hsl := sort_len l
    rw [HL.out.len] at hll hsl
    have hn : n1 ≤ 1024 := by omega
    have hk8 : ∀ x ∈ l, x.kills.length ≤ 65536 := fun x hx => Nat.le_trans (hlk x hx) (by decide)
    have hsk : ∀ x ∈ Ev.sortE l, x.kills.length ≤ 300 := fun x hx => hlk x (dot_in hx)
    have HK8 := Lib.hid hk8
    have HSK := Lib.hid hsk
    have CS := Ev.rsort_any (w.alloc (.cells #[.int .u16 (d1 : Int), .int .u64 (d2 : Int)] 26)) A1 l n1 c1 HL.out (by omega)
    have HLS := Lib.hid (live_sort l)
    have HSO := Lib.hid (Ev.sort_ord l)
    clear hf hlk hk8 hsk
    go_enter Try.func5, Try.ntmps5
    go_wp2_with fail
    generalize w.alloc (.cells #[.int .u16 (d1 : Int), .int .u64 (d2 : Int)] 26) = w1 at *
    refine CF.mono ?_
    rintro e w2 ⟨rfl, rfl⟩
    clear CF
    go_wp2_with fail
    refine CS.mono ?_
    rintro e w3 ⟨A3, n, c3, rfl, h3, hb3⟩
    have hn3 : n ≤ 15 := by have := h3.len; omega
    have HS := Lib.hid h3
    have HB3 := Lib.hid hb3
    generalize Ev.sortE l = s at *
    clear h3 hb3 CS hsl
    go_wp2_with fail
    go_loopw [8, 9] (fun v i wr => ∃ (k : Nat) (A : Option Addr) (c : Nat) (ps : List Ev.EV), k ≤ n ∧ i = .int .i64 (k : Int) ∧ v = .slice A k c ∧ ps.length = k ∧ Ev.Match w3 w3.heap.size ps (turnE s g k) ∧ wr.ownsRow w3.heap.size 38 7 (.slice A k c) k (Ev.ev ps) ∧ Below w3.heap.size w3 wr) (fun _ i _ => n - (intOf i).toNat)
    case atStart => exact ⟨0, none, 0, [], Nat.zero_le _, rfl, rfl, rfl, Ev.Match.nil_ _ _, World.ownsRow_nil _ _ _ _, Below.refl _ _⟩
    case round =>
      obtain ⟨k, A, c, ps, hk, rfl, rfl, hm, hma, ho, hw⟩ := hrel
      have HM := Lib.hid hm
      have HMA := Lib.hid hma
      have HO := Lib.hid ho
      have HW := Lib.hid hw
      clear hm hma ho hw
      by_cases hlt : k < n
      · obtain ⟨ad, q, y, rfl, hB, hly, hq, cq⟩ := HS.out.at_ (show (n - 1 - k + g) % n < n from Nat.mod_lt _ (by omega))
        obtain ⟨e0, e1, e2, e3, e4, e5, e6⟩ := cq.kept HW.out
        have HQ := Lib.hid hq
        have HTN := Lib.hid (turn_next (l := s) (g := g) (k := k) (x := y) (by unfold plc; rw [HS.out.len]; exact hly))
        have hr0 : (0 : Int) ≤ ((n : Int) - 1 - (k : Int) + (g : Int)) % (n : Int) := Int.emod_nonneg _ (by omega)
        have hr1 : ((n : Int) - 1 - (k : Int) + (g : Int)) % (n : Int) < (n : Int) := Int.emod_lt_of_pos _ (by omega)
        have HLO : Hid (k + 1 ≤ 1649267441664) := Lib.hid (by omega)
        have HWA : Hid (Below w3.heap.size w3 (wr.alloc q.box)) := Lib.hid (Ev.bel_alloc _ HW.out)
        clear hly hq cq
        go_wp2_with (at_builtin; refine Ev.wpList_evt rfl (.tmp 22) (.tmp 37) rfl rfl _ w3.heap.size k (.slice A k c) ps (some ⟨wr.heap.size, 0, none⟩) [q] 1 1 rfl rfl (HO.out.alloc _) (fun h => by cases h) (Ev.lies_evt wr q) rfl HLO.out HWA.out.size ?_; intro A5 c5 V5 ho5 hg5; have HO5 := Lib.hid ho5; have HW5 := Lib.hid (Ev.evt_grown (HO.out.alloc _) HWA.out hg5); clear ho5 hg5)
        go_roundw
        case rel => exact ⟨k + 1, A5, c5, ps ++ [q], hlt, by go_num, rfl, by rw [List.length_append, HM.out]; rfl, by rw [HTN.out]; exact HMA.out.snoc HQ.out, HO5.out, HW5.out⟩
        case measure => simp [intOf]; omega
      · obtain rfl : k = n := by omega
        have hnl : k = s.length := HS.out.len.symm
        have HE := Lib.hid (Ev.own_events HW.out HMA.out HM.out (by omega) HO.out)
        have hmem : ∀ x, x ∈ turnE s g k ↔ x ∈ s := by rw [hnl]; exact fun x => turn_mem x
        have HT := Lib.hid (live_turned HSO.out hmem)
        have HD := Lib.hid (dead_same hmem (d1, d2))
        have HKM : Hid (∀ x ∈ turnE s g k, x.kills.length ≤ 300) := Lib.hid (fun x hx => HSK.out x ((hmem x).1 hx))
        have HSR := Lib.hid (HS.out.up HW.out)
        have HLR := Lib.hid ((HL.out.up HB3.out).up HW.out)
        have HXR : Hid (∀ V, Below wr.heap.size wr V → V.cell? ⟨w.heap.size, 0, none⟩ = some (.int .u16 (d1 : Int)) ∧ V.cell? ⟨w.heap.size, 1, none⟩ = some (.int .u64 (d2 : Int))) := Lib.hid (fun V hV => HX.out V (HB3.out.trans ((HW.out.trans (hV.mono HW.out.size)).mono HB3.out.size)))
        have HWR : Hid (Below w.heap.size w wr) := Lib.hid (HB.out.trans ((HB3.out.trans (HW.out.mono HB3.out.size)).mono HB.out.size))
        have hk2 : k ≤ 1024 := by omega
        have A17s := fun W (hW : Below wr.heap.size wr W) => later_evts hW (P.live W A3 s k c3 (HSR.out.up hW) hk2 (fun x hx => Nat.le_trans (HSK.out x hx) (by decide)))
        have A17m := fun W (hW : Below wr.heap.size wr W) => later_evts hW (P.live W A (turnE s g k) k c (HE.out.up hW) hk2 (fun x hx => Nat.le_trans (HKM.out x hx) (by decide)))
        have A17l := fun W (hW : Below wr.heap.size wr W) => later_evts hW (P.live W A1 l n1 c1 (HLR.out.up hW) hn HK8.out)
        have A14s := fun W (hW : Below wr.heap.size wr W) => later hW (P.dead W A3 s k c3 (d1, d2) (HSR.out.up hW) hk2 (fun x hx => Nat.le_trans (HSK.out x hx) (by decide)) hd)
        have A14m := fun W (hW : Below wr.heap.size wr W) => later hW (P.dead W A (turnE s g k) k c (d1, d2) (HE.out.up hW) hk2 (fun x hx => Nat.le_trans (HKM.out x hx) (by decide)) hd)
        have A8 := fun W (hW : Below wr.heap.size wr W) => later hW (works_any P W)
        have A16 := fun (m : List Ev.Evt) W (hW : Below wr.heap.size wr W) A' A'' m' m'' c' c'' (h1 : Ev.EventsAt W W.heap.size A' m m' c') (h2 : Ev.EventsAt W W.heap.size A'' m m'' c'') => same_evts hW h1 h2
        simp only [HT.out, HLS.out] at A17s A17m
        simp only [HD.out] at A14m
        generalize deadB s (d1, d2) = bD at A14s A14m
        generalize liveE l = lL at A17s A17m A17l
        have A16L := A16 lL
        clear A16 HM HMA HO HE HKM HSK HK8 HT HD hmem hnl hk2 hll hn HSO HLS HS HL HX HB3
        obtain ⟨x1, x2⟩ := HXR.out _ (Below.refl _ _)
        go_wp2_with fail
        go_region_held3 (fun V => V.cell? ⟨w.heap.size, 0, none⟩ = some (.int .u16 (d1 : Int)) ∧ V.cell? ⟨w.heap.size, 1, none⟩ = some (.int .u64 (d2 : Int))) (first | exact ⟨x1, x2⟩ | assumption | exact HXR.out _ (by (repeat (first | exact Below.refl _ _ | assumption | apply Ev.bel_drew | apply Ev.bel_alloc)))) (first
          | (go_at_call 16; (with_reducible refine (A17s _ ?_).mono ?_); (focus (repeat (first | exact Below.refl _ _ | assumption | apply Ev.bel_drew | apply Ev.bel_alloc))); rintro e V' ⟨A6, m6, c6, rfl, hM, bv', cv''⟩; have hcV' := HXR.out V' bv'; have hN2 := Ev.EventsAt.up hN cv'')
          | (go_at_call 16; (with_reducible refine (A17s _ ?_).mono ?_); (focus (repeat (first | exact Below.refl _ _ | assumption | apply Ev.bel_drew | apply Ev.bel_alloc))); rintro e V ⟨A5, m5, c5, rfl, hN, bv, cv'⟩; have hcV := HXR.out V bv)
          | (go_at_call 16; (with_reducible refine (A17m _ ?_).mono ?_); (focus (repeat (first | exact Below.refl _ _ | assumption | apply Ev.bel_drew | apply Ev.bel_alloc))); rintro e V' ⟨A6, m6, c6, rfl, hM, bv', cv''⟩; have hcV' := HXR.out V' bv'; have hN2 := Ev.EventsAt.up hN cv'')
          | (go_at_call 16; (with_reducible refine (A17l _ ?_).mono ?_); (focus (repeat (first | exact Below.refl _ _ | assumption | apply Ev.bel_drew | apply Ev.bel_alloc))); rintro e V ⟨A5, m5, c5, rfl, hN, bv, cv'⟩; have hcV := HXR.out V bv)
          | (go_at_call 15; (with_reducible refine (A16L _ ?_ _ _ _ _ _ _ ?_ ?_).mono ?_); (focus (repeat (first | exact Below.refl _ _ | assumption | apply Ev.bel_drew | apply Ev.bel_alloc))); (focus exact hN2); (focus exact hM); rintro e V ⟨rfl, bv⟩; have hcV := HXR.out V bv)
          | (go_at_call 13; (with_reducible refine (A14s _ ?_).mono ?_); (focus (repeat (first | exact Below.refl _ _ | assumption | apply Ev.bel_drew | apply Ev.bel_alloc))); rintro e V ⟨rfl, bv⟩; have hcV := HXR.out V bv)
          | (go_at_call 13; (with_reducible refine (A14m _ ?_).mono ?_); (focus (repeat (first | exact Below.refl _ _ | assumption | apply Ev.bel_drew | apply Ev.bel_alloc))); rintro e V ⟨rfl, bv⟩; have hcV := HXR.out V bv)
          | (go_at_call 7; (with_reducible refine (A8 _ ?_).mono ?_); (focus (repeat (first | exact Below.refl _ _ | assumption | apply Ev.bel_drew | apply Ev.bel_alloc))); rintro e V ⟨rfl, bv⟩; have hcV := HXR.out V bv))
        all_goals
          have HEE : Hid (Below w.heap.size w V) := Lib.hid (HWR.out.trans (bv.mono HWR.out.size))
          go_wp2
          go_ret
          exact ⟨rfl, HEE.out⟩
end Go.Proofs.Ytmebokpgiehgmaa.Kl
