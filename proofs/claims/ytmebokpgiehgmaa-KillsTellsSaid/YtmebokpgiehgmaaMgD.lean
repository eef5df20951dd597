/- Words and contracts that the proofs of this seat stand on, part 4 of 18. -/
import Derived.Test.YtmebokpgiehgmaaMgC
import Derived.Deep.DeepCutAuto
import Derived.Test.YtmebokpgiehgmaaProg
import Derived.WalkKit
import Derived.ProofKit
import Derived.OpenShut
import Derived.Lib.Hide
import Derived.Below
import Derived.Outline
import Derived.Laws.OwnMore
import Derived.OwnWalk
import Derived.Laws.AppendOwnNone
import Derived.Maps.AppendAt
import Derived.Deep.AppendLies
import Derived.BigQuiet
import Derived.Deep.QuietTactic
import Derived.KernelRfl

/- The contracts of the document's Edit, Delete and Live of layer kills. For every list of at most 1024 events with at most 1024 kills each (Edit, Delete); of at most 2^40 events (Live). -/
namespace Go.Proofs.Ytmebokpgiehgmaa.Kl
open Go.ChangeShapes Go.WideShapes Go.ChangeAt Go.RowKit
set_option linter.unusedVariables false
set_option maxRecDepth 4000

/-- what a round knows that takes some events of a list. -/
def SRel (w : World) (n : Nat) (l : List Ev.Evt) (f : Ev.Evt → Bool) (v i : Value) (wr : World) : Prop :=
  ∃ k m A c ps, k ≤ n ∧ i = .int .i64 ((k : Nat) : Int) ∧ v = .slice A m c ∧ ps.length = m ∧ Ev.Match w w.heap.size ps ((l.take k).filter f) ∧ wr.ownsRow w.heap.size 38 7 (.slice A m c) m (Ev.ev ps) ∧ Below w.heap.size w wr
theorem s_start (w : World) (n : Nat) (l : List Ev.Evt) (f : Ev.Evt → Bool) : SRel w n l f (.slice none 0 0) (.int .i64 0) w :=
  ⟨0, 0, none, 0, [], Nat.zero_le _, rfl, rfl, rfl, by rw [List.take_zero]; exact Ev.Match.nil_ _ _, World.ownsRow_nil _ _ _ _, Below.refl _ _⟩
theorem s_skip {w wr : World} {n k m c : Nat} {l : List Ev.Evt} {f : Ev.Evt → Bool} {A : Option Addr} {ps : List Ev.EV} {y : Ev.Evt} (hk : k < n) (hy : l[k]? = some y) (hf : f y = false) (hm : ps.length = m) (hma : Ev.Match w w.heap.size ps ((l.take k).filter f)) (ho : wr.ownsRow w.heap.size 38 7 (.slice A m c) m (Ev.ev ps)) (hb : Below w.heap.size w wr) :
    SRel w n l f (.slice A m c) (.int .i64 ((k : Int) + 1)) wr :=
  ⟨k + 1, m, A, c, ps, hk, by go_num, rfl, hm, by rw [Ev.take_one hy, List.filter_append]; simp only [List.filter_cons, hf, List.filter_nil, Bool.false_eq_true, if_false, List.append_nil]; exact hma, ho, hb⟩
theorem s_take {w wr : World} {n k m c : Nat} {l : List Ev.Evt} {f : Ev.Evt → Bool} {A : Option Addr} {ps : List Ev.EV} {q : Ev.EV} {y : Ev.Evt} (hk : k < n) (hy : l[k]? = some y) (hf : f y = true) (hq : Ev.EventIs w w.heap.size q y) (hm : ps.length = m) (hma : Ev.Match w w.heap.size ps ((l.take k).filter f)) (ho : wr.ownsRow w.heap.size 38 7 (.slice A (m + 1) c) (m + 1) (Ev.ev (ps ++ [q]))) (hb : Below w.heap.size w wr) :
    SRel w n l f (.slice A (m + 1) c) (.int .i64 ((k : Int) + 1)) wr :=
  ⟨k + 1, m + 1, A, c, ps ++ [q], hk, by go_num, rfl, by rw [List.length_append, hm]; rfl, by rw [Ev.take_one hy, List.filter_append]; simp only [List.filter_cons, hf, List.filter_nil, if_true]; exact hma.snoc hq, ho, hb⟩
theorem s_long {w : World} {ps : List Ev.EV} {l : List Ev.Evt} {f : Ev.Evt → Bool} {k m : Nat} (hm : ps.length = m) (h : Ev.Match w w.heap.size ps ((l.take k).filter f)) : m ≤ k := by
  have h1 := List.length_filter_le f (l.take k)
  have h2 := List.length_take_le k l
  have h3 := h.1
  omega
/-- the list that was taken. -/
theorem s_done {w wr : World} {l : List Ev.Evt} {f : Ev.Evt → Bool} {A : Option Addr} {n m c : Nat} {ps : List Ev.EV} (hn : l.length = n) (h40 : n ≤ 1099511627776) (hm : ps.length = m) (hma : Ev.Match w w.heap.size ps ((l.take n).filter f)) (ho : wr.ownsRow w.heap.size 38 7 (.slice A m c) m (Ev.ev ps)) (hb : Below w.heap.size w wr) : Ev.EventsAt wr wr.heap.size A (l.filter f) m c := by
  have h1 := s_long hm hma
  rw [List.take_of_length_le (by omega)] at hma
  exact Ev.own_events hb hma hm (by omega) ho
theorem eq_u8 (a b : Nat) : ((a : Int) == (b : Int)) = decide (a = b) := by
  rw [Bool.eq_iff_iff, beq_iff_eq, decide_eq_true_iff]
  omega
theorem eq_one (a : Nat) : ((a : Int) == 1) = decide (a = 1) := eq_u8 a 1

set_option maxHeartbeats 4000000 in
theorem redit_any (w : World) (A0 : Option Addr) (l : List Ev.Evt) (n c0 cid f : Nat) (hl : Ev.EventsAt w w.heap.size A0 l n c0) (hn : n ≤ 1024) (hk : ∀ x ∈ l, x.kills.length ≤ 1024) :
    Calls Try.prog 10 #[.slice A0 n c0, .int .u64 (cid : Int), .int .u8 (f : Int)] w (Ev.DPost w (Ev.dotsE (l.filter (editB cid f)))) := by
  have HL := Lib.hid hl
  have HKS := Lib.hid (fun x (hx : x ∈ l.filter (editB cid f)) => hk x (List.mem_filter.1 hx).1)
  clear hl hk
  go_enter Try.func10, Try.ntmps10
  go_wp2_with fail
  go_loopw [7, 8] (fun v i wr => SRel w n l (editB cid f) v i wr) (fun _ i _ => n - (intOf i).toNat)
  case atStart => exact s_start _ _ _ _
  case round =>
    obtain ⟨k, m, A, c, ps, hk, rfl, rfl, hm, hma, ho, hw⟩ := hrel
    have hmk := s_long hm hma
    have HM := Lib.hid hm
    have HMA := Lib.hid hma
    have HO := Lib.hid ho
    have HW := Lib.hid hw
    clear hm hma ho hw
    by_cases hlt : k < n
    · obtain ⟨ad, q, y, rfl, hB, hly, hq, cq⟩ := HL.out.at_ hlt
      have HLY := Lib.hid hly
      have HQ := Lib.hid hq
      have HF : Hid (editB cid f y = (((q.kind : Int) == 1) && ((q.cid : Int) == (cid : Int)) && ((q.fld : Int) == (f : Int)))) := Lib.hid (by rw [eq_one, eq_u8, eq_u8, hq.kind, hq.cid, hq.fld]; rfl)
      obtain ⟨e0, e1, e2, e3, e4, e5, e6⟩ := cq.kept HW.out
      clear hly hq cq
      have HS := Lib.hid (fun h => s_skip (f := editB cid f) hlt HLY.out h HM.out HMA.out HO.out HW.out)
      cases h1 : ((q.kind : Int) == 1) with
      | false =>
        have HR := Lib.hid (HS.out (by rw [HF.out, h1]; rfl))
        go_wp2
        go_roundw
        case rel => exact HR.out
        case measure => simp [intOf]; omega
      | true =>
        cases h2 : ((q.cid : Int) == (cid : Int)) with
        | false =>
          have HR := Lib.hid (HS.out (by rw [HF.out, h1, h2]; rfl))
          go_wp2
          go_roundw
          case rel => exact HR.out
          case measure => simp [intOf]; omega
        | true =>
          cases h3 : ((q.fld : Int) == (f : Int)) with
          | false =>
            have HR := Lib.hid (HS.out (by rw [HF.out, h1, h2, h3]; rfl))
            go_wp2
            go_roundw
            case rel => exact HR.out
            case measure => simp [intOf]; omega
          | true =>
            have HT : Hid (editB cid f y = true) := Lib.hid (by rw [HF.out, h1, h2, h3]; rfl)
            have HLO : Hid (m + 1 ≤ 1649267441664) := Lib.hid (by omega)
            have HWA : Hid (Below w.heap.size w (wr.alloc q.box)) := Lib.hid (Ev.bel_alloc _ HW.out)
            go_wp2_with (at_builtin; refine Ev.wpList_evt rfl (.tmp 39) (.tmp 44) rfl rfl _ w.heap.size m (.slice A m c) ps (some ⟨wr.heap.size, 0, none⟩) [q] 1 1 rfl rfl (HO.out.alloc _) (fun h => by cases h) (Ev.lies_evt wr q) rfl HLO.out HWA.out.size ?_; intro A3 c3 V3 ho3 hg3; have HR := Lib.hid (s_take hlt HLY.out HT.out HQ.out HM.out HMA.out ho3 (Ev.evt_grown (HO.out.alloc _) HWA.out hg3)); clear ho3 hg3)
            go_roundw
            case rel => exact HR.out
            case measure => simp [intOf]; omega
    · obtain rfl : k = n := by omega
      have HE := Lib.hid (s_done HL.out.len (by omega) HM.out HMA.out HO.out HW.out)
      have CD := Ev.rdots_any wr A (l.filter (editB cid f)) m c HE.out (by omega) HKS.out
      go_wp2_with fail
      refine CD.mono ?_
      rintro e V ⟨A3, m3, c3, rfl, h3, hb3⟩
      have H3 := Lib.hid h3
      have HB3 := Lib.hid (HW.out.trans (hb3.mono HW.out.size))
      clear h3 hb3 CD
      go_wp2
      go_ret
      exact ⟨A3, m3, c3, rfl, H3.out, HB3.out⟩

set_option maxHeartbeats 4000000 in
theorem rdel_any (w : World) (A0 : Option Addr) (l : List Ev.Evt) (n c0 cid : Nat) (hl : Ev.EventsAt w w.heap.size A0 l n c0) (hn : n ≤ 1024) (hk : ∀ x ∈ l, x.kills.length ≤ 1024) :
    Calls Try.prog 12 #[.slice A0 n c0, .int .u64 (cid : Int)] w (Ev.DPost w (Ev.dotsE (l.filter (delB cid)))) := by
  have HL := Lib.hid hl
  have HKS := Lib.hid (fun x (hx : x ∈ l.filter (delB cid)) => hk x (List.mem_filter.1 hx).1)
  clear hl hk
  go_enter Try.func12, Try.ntmps12
  go_wp2_with fail
  go_loopw [5, 6] (fun v i wr => SRel w n l (delB cid) v i wr) (fun _ i _ => n - (intOf i).toNat)
  case atStart => exact s_start _ _ _ _
  case round =>
    obtain ⟨k, m, A, c, ps, hk, rfl, rfl, hm, hma, ho, hw⟩ := hrel
    have hmk := s_long hm hma
    have HM := Lib.hid hm
    have HMA := Lib.hid hma
    have HO := Lib.hid ho
    have HW := Lib.hid hw
    clear hm hma ho hw
    by_cases hlt : k < n
    · obtain ⟨ad, q, y, rfl, hB, hly, hq, cq⟩ := HL.out.at_ hlt
      have HLY := Lib.hid hly
      have HQ := Lib.hid hq
      have HF : Hid (delB cid y = (((q.kind : Int) == 1) && ((q.cid : Int) == (cid : Int)))) := Lib.hid (by rw [eq_one, eq_u8, hq.kind, hq.cid]; rfl)
      obtain ⟨e0, e1, e2, e3, e4, e5, e6⟩ := cq.kept HW.out
      clear hly hq cq
      have HS := Lib.hid (fun h => s_skip (f := delB cid) hlt HLY.out h HM.out HMA.out HO.out HW.out)
      cases h1 : ((q.kind : Int) == 1) with
      | false =>
        have HR := Lib.hid (HS.out (by rw [HF.out, h1]; rfl))
        go_wp2
        go_roundw
        case rel => exact HR.out
        case measure => simp [intOf]; omega
      | true =>
        cases h2 : ((q.cid : Int) == (cid : Int)) with
        | false =>
          have HR := Lib.hid (HS.out (by rw [HF.out, h1, h2]; rfl))
          go_wp2
          go_roundw
          case rel => exact HR.out
          case measure => simp [intOf]; omega
        | true =>
          have HT : Hid (delB cid y = true) := Lib.hid (by rw [HF.out, h1, h2]; rfl)
          have HLO : Hid (m + 1 ≤ 1649267441664) := Lib.hid (by omega)
          have HWA : Hid (Below w.heap.size w (wr.alloc q.box)) := Lib.hid (Ev.bel_alloc _ HW.out)
          go_wp2_with (at_builtin; refine Ev.wpList_evt rfl (.tmp 28) (.tmp 33) rfl rfl _ w.heap.size m (.slice A m c) ps (some ⟨wr.heap.size, 0, none⟩) [q] 1 1 rfl rfl (HO.out.alloc _) (fun h => by cases h) (Ev.lies_evt wr q) rfl HLO.out HWA.out.size ?_; intro A3 c3 V3 ho3 hg3; have HR := Lib.hid (s_take hlt HLY.out HT.out HQ.out HM.out HMA.out ho3 (Ev.evt_grown (HO.out.alloc _) HWA.out hg3)); clear ho3 hg3)
          go_roundw
          case rel => exact HR.out
          case measure => simp [intOf]; omega
    · obtain rfl : k = n := by omega
      have HE := Lib.hid (s_done HL.out.len (by omega) HM.out HMA.out HO.out HW.out)
      have CD := Ev.rdots_any wr A (l.filter (delB cid)) m c HE.out (by omega) HKS.out
      go_wp2_with fail
      refine CD.mono ?_
      rintro e V ⟨A3, m3, c3, rfl, h3, hb3⟩
      have H3 := Lib.hid h3
      have HB3 := Lib.hid (HW.out.trans (hb3.mono HW.out.size))
      clear h3 hb3 CD
      go_wp2
      go_ret
      exact ⟨A3, m3, c3, rfl, H3.out, HB3.out⟩
end Go.Proofs.Ytmebokpgiehgmaa.Kl

/- The contract of the document's Live of layer kills. For every list of at most 2^40 events. -/
namespace Go.Proofs.Ytmebokpgiehgmaa.Kl
open Go.ChangeShapes Go.WideShapes Go.ChangeAt Go.RowKit
set_option linter.unusedVariables false
set_option maxRecDepth 4000

theorem sort_len (l : List Ev.Evt) : (Ev.sortE l).length ≤ l.length := by
  have h := Ev.sort_long l l.length
  rwa [List.take_of_length_le (Nat.le_refl _)] at h

set_option maxHeartbeats 4000000 in
theorem rlive_any (w : World) (A0 : Option Addr) (l0 : List Ev.Evt) (n0 c0 : Nat) (hl : Ev.EventsAt w w.heap.size A0 l0 n0 c0) (h40 : n0 ≤ 1099511627776) :
    Calls Try.prog 17 #[.slice A0 n0 c0] w (Ev.EvPost w (liveE l0)) := by
  have CS := Ev.rsort_any w A0 l0 n0 c0 hl h40
  have hlen := sort_len l0
  rw [hl.len] at hlen
  have HE : Hid (liveE l0 = (Ev.sortE l0).filter (liveB (Ev.sortE l0))) := Lib.hid rfl
  generalize Ev.sortE l0 = l at *
  generalize liveE l0 = out at *
  clear hl
  go_enter Try.func17, Try.ntmps17
  go_wp2_with fail
  refine CS.mono ?_
  rintro e w1 ⟨A1, n, c1, rfl, h1, hb1⟩
  have HL := Lib.hid h1
  have HB := Lib.hid hb1
  have hn40 : n ≤ 1099511627776 := by have := h1.len; omega
  clear h1 hb1 CS hlen
  go_wp2_with fail
  go_loopw [4, 5] (fun v i wr => SRel w1 n l (liveB l) v i wr) (fun _ i _ => n - (intOf i).toNat)
  case atStart => exact s_start _ _ _ _
  case round =>
    obtain ⟨k, m, A, c, ps, hk, rfl, rfl, hm, hma, ho, hw⟩ := hrel
    have hmk := s_long hm hma
    have HM := Lib.hid hm
    have HMA := Lib.hid hma
    have HO := Lib.hid ho
    have HW := Lib.hid hw
    clear hm hma ho hw
    by_cases hlt : k < n
    · obtain ⟨ad, q, y, rfl, hB, hly, hq, cq⟩ := HL.out.at_ hlt
      have HLY := Lib.hid hly
      have HQ := Lib.hid hq
      have hdot := Ev.is_dot hq
      have HF : Hid (liveB l y = (((q.kind : Int) == 1) && !deadB l (q.dev, q.num))) := Lib.hid (by rw [eq_one, hq.kind, ← hdot]; rfl)
      have HC := Lib.hid cq
      obtain ⟨e0, e1, e2, e3, e4, e5, e6⟩ := cq.kept HW.out
      clear hly hq cq hdot
      have CD := rdead_any wr (some ad) l n c1 (q.dev, q.num) (HL.out.up HW.out)
      cases h1 : ((q.kind : Int) == 1) with
      | false =>
        have HR := Lib.hid (s_skip (f := liveB l) hlt HLY.out (by rw [HF.out, h1]; rfl) HM.out HMA.out HO.out HW.out)
        go_wp2
        go_roundw
        case rel => exact HR.out
        case measure => simp [intOf]; omega
      | true =>
        rw [h1, Bool.true_and] at HF
        generalize deadB l (q.dev, q.num) = b at *
        go_wp2_with fail
        refine CD.mono ?_
        rintro e V ⟨rfl, hbV⟩
        have HV := Lib.hid (HW.out.trans (hbV.mono HW.out.size))
        have HOV := Lib.hid (Dt.own_kept HO.out hbV)
        clear e0 e1 e2 e3 e4 e5 e6 CD hbV
        obtain ⟨e0, e1, e2, e3, e4, e5, e6⟩ := HC.out.kept HV.out
        cases b with
        | true =>
          have HR := Lib.hid (s_skip (f := liveB l) hlt HLY.out HF.out HM.out HMA.out HOV.out HV.out)
          go_wp2
          go_roundw
          case rel => exact HR.out
          case measure => simp [intOf]; omega
        | false =>
          have HLO : Hid (m + 1 ≤ 1649267441664) := Lib.hid (by omega)
          have HWA : Hid (Below w1.heap.size w1 (V.alloc q.box)) := Lib.hid (Ev.bel_alloc _ HV.out)
          go_wp2_with (at_builtin; refine Ev.wpList_evt rfl (.tmp 30) (.tmp 35) rfl rfl _ w1.heap.size m (.slice A m c) ps (some ⟨V.heap.size, 0, none⟩) [q] 1 1 rfl rfl (HOV.out.alloc _) (fun h => by cases h) (Ev.lies_evt V q) rfl HLO.out HWA.out.size ?_; intro A3 c3 V3 ho3 hg3; have HR := Lib.hid (s_take hlt HLY.out HF.out HQ.out HM.out HMA.out ho3 (Ev.evt_grown (HOV.out.alloc _) HWA.out hg3)); clear ho3 hg3)
          go_roundw
          case rel => exact HR.out
          case measure => simp [intOf]; omega
    · obtain rfl : k = n := by omega
      have HEE := Lib.hid (s_done HL.out.len (by omega) HM.out HMA.out HO.out HW.out)
      rw [← HE.out] at HEE
      go_wp2
      go_ret
      exact ⟨A, m, c, rfl, HEE.out, HB.out.trans (HW.out.mono HB.out.size)⟩
end Go.Proofs.Ytmebokpgiehgmaa.Kl

/- Lists that lie in blocks of their own: a store into an elder block does not touch them. -/
namespace Go.Proofs.Ytmebokpgiehgmaa.Kl
open Go.ChangeShapes Go.WideShapes Go.ChangeAt Go.RowKit
set_option linter.unusedVariables false
set_option maxRecDepth 4000

theorem set_size (w : World) (a : Addr) (u : Value) : (w.setCell a u).heap.size = w.heap.size := by simp [World.setCell]
theorem lies_set {w : World} {A : Option Addr} {vs : List Value} {g : Nat} (h : Dt.Lies w w.heap.size A vs) (hf : 0 < vs.length → ∀ ad : Addr, A = some ad → ad.block ≠ g) (i : Nat) (u : Value) : Dt.Lies (w.setCell ⟨g, i, none⟩ u) (w.setCell ⟨g, i, none⟩ u).heap.size A vs := fun hl => by
  obtain ⟨ad, e, hb, hc⟩ := h hl
  refine ⟨ad, e, by rw [set_size]; exact hb, fun j v hv => ?_⟩
  rw [World.cell?_of_block (w := w) (Below.heap_setCell w ⟨g, i, none⟩ u (ad.add j).block (fun e2 => hf hl ad e (by rw [Dt.block_add] at e2; exact e2)))]
  exact hc j v hv
theorem dots_set {w : World} {A : Option Addr} {l : List Dt.Dot} {n c g : Nat} (h : Ev.DotsAt w w.heap.size A l n c) (hf : 0 < n → ∀ ad : Addr, A = some ad → ad.block ≠ g) (i : Nat) (u : Value) : Ev.DotsAt (w.setCell ⟨g, i, none⟩ u) (w.setCell ⟨g, i, none⟩ u).heap.size A l n c :=
  ⟨h.len, h.nil, h.cap, h.max, h.wide, h.dots.1, lies_set h.dots.2 (fun hl => hf (by rw [Dt.dv_length] at hl; have := h.len; omega)) i u⟩
/-- a list of events, all of it in blocks from B on. -/
structure FarE (B : Nat) (w : World) (A : Option Addr) (l : List Ev.Evt) (n c : Nat) : Prop where
  at_ : Ev.EventsAt w w.heap.size A l n c
  far : ∃ ps, Dt.Lies w w.heap.size A (Ev.ev ps) ∧ Ev.Match w w.heap.size ps l ∧ (∀ p ∈ ps, 0 < p.len → ∀ ad : Addr, p.adr = some ad → B ≤ ad.block) ∧ (0 < n → ∀ ad : Addr, A = some ad → B ≤ ad.block)
theorem FarE.up {B : Nat} {w W : World} {A : Option Addr} {l : List Ev.Evt} {n c : Nat} (h : FarE B w A l n c) (hb : Below w.heap.size w W) : FarE B W A l n c := by
  obtain ⟨ps, h1, h2, h3, h4⟩ := h.far
  exact ⟨h.at_.up hb, ps, (h1.below hb).more hb.size, (h2.below hb).more hb.size, h3, h4⟩
theorem FarE.set {B : Nat} {w : World} {A : Option Addr} {l : List Ev.Evt} {n c g : Nat} (h : FarE B w A l n c) (hg : g < B) (i : Nat) (u : Value) : Ev.EventsAt (w.setCell ⟨g, i, none⟩ u) (w.setCell ⟨g, i, none⟩ u).heap.size A l n c := by
  obtain ⟨ps, h1, h2, h3, h4⟩ := h.far
  refine ⟨h.at_.len, h.at_.nil, h.at_.cap, h.at_.max, h.at_.wide, ps, lies_set h1 (fun hl ad e => ?_) i u, h2.1, fun k p x hp hx => ?_⟩
  · have h5 := h4 (by rw [Ev.ev_length] at hl; have := h2.1; have := h.at_.len; omega) ad e
    omega
  · have q := h2.2 k p x hp hx
    exact ⟨q.dev, q.num, q.kind, q.cid, q.fld, q.txt, q.fits, dots_set q.kills (fun h0 ad e => by have := h3 p (List.mem_of_getElem? hp) h0 ad e; omega) i u⟩
/-- a list of events comes out, in blocks of its own. -/
def EvFar (w : World) (l : List Ev.Evt) (e : Ending) (w' : World) : Prop := ∃ A n c, e = .returned (.slice A n c) ∧ FarE w.heap.size w' A l n c ∧ Below w.heap.size w w'
theorem EvFar.post {w w' : World} {l : List Ev.Evt} {e : Ending} (h : EvFar w l e w') : Ev.EvPost w l e w' := by
  obtain ⟨A, n, c, h1, h2, h3⟩ := h
  exact ⟨A, n, c, h1, h2.at_, h3⟩
/-- a list of dots comes out, in a block of its own. -/
def DotsFar (w : World) (l : List Dt.Dot) (e : Ending) (w' : World) : Prop := ∃ A n c, e = .returned (.slice A n c) ∧ Ev.DotsAt w' w'.heap.size A l n c ∧ (0 < n → ∀ ad : Addr, A = some ad → w.heap.size ≤ ad.block) ∧ Below w.heap.size w w'
theorem DotsFar.post {w w' : World} {l : List Dt.Dot} {e : Ending} (h : DotsFar w l e w') : Ev.DPost w l e w' := by
  obtain ⟨A, n, c, h1, h2, _, h3⟩ := h
  exact ⟨A, n, c, h1, h2, h3⟩
end Go.Proofs.Ytmebokpgiehgmaa.Kl

/- Words for the claims of layer runs: slices of runs and of numbers in memory, appends to a list of one's own. -/
namespace Go.Proofs.Ytmebokpgiehgmaa.Ru
open Go.ChangeShapes Go.WideShapes Go.ChangeAt Go.RowKit
set_option linter.unusedVariables false
set_option maxRecDepth 4000

theorem ret_int {k : IntKind} {a b : Int} (h : a = b) : Ending.returned (.int k a) = .returned (.int k b) := by rw [h]
theorem ret_bool {a b : Bool} (h : a = b) : Ending.returned (.bool a) = .returned (.bool b) := by rw [h]
theorem block_add (a : Addr) (n : Nat) : (a.add n).block = a.block := by unfold Addr.add; split <;> rfl
theorem add_add (a : Addr) (m n : Nat) : (a.add m).add n = a.add (m + n) := by
  unfold Addr.add
  by_cases h1 : m = 0
  · subst h1; simp
  · by_cases h2 : n = 0
    · subst h2; simp
    · have h3 : ¬ m + n = 0 := by omega
      simp [h1, h2, Nat.add_assoc]
theorem zero_add (g j : Nat) : (⟨g, 0, none⟩ : Addr).add j = ⟨g, j, none⟩ := by
  unfold Addr.add; split
  · rename_i hz; rw [hz]
  · simp

/-- a slice of the address A whose cells are these, below block B. -/
def Lies (w : World) (B : Nat) (A : Option Addr) (vs : List Value) : Prop :=
  0 < vs.length → ∃ ad : Addr, A = some ad ∧ ad.block < B ∧ ∀ (j : Nat) (u : Value), vs[j]? = some u → w.cell? (ad.add j) = some u
theorem Lies.below {w w' : World} {B : Nat} {A : Option Addr} {vs : List Value} (h : Lies w B A vs) (hb : Below B w w') : Lies w' B A vs := fun hl => by
  obtain ⟨ad, e, hB, hc⟩ := h hl
  exact ⟨ad, e, hB, fun j u hu => (hb.cell (by rw [block_add]; exact hB)).trans (hc j u hu)⟩
theorem Lies.more {w : World} {B B' : Nat} {A : Option Addr} {vs : List Value} (h : Lies w B A vs) (hB : B ≤ B') : Lies w B' A vs := fun hl => by
  obtain ⟨ad, e, hb, hc⟩ := h hl
  exact ⟨ad, e, by omega, hc⟩
theorem Lies.none_ (w : World) (B : Nat) (A : Option Addr) : Lies w B A [] := fun h => absurd h (by simp)
theorem lies_own {w : World} {B g n cap size : Nat} {e : TypeId} {vs : List Value} (h : w.ownsRow B e size (.slice (some ⟨g, 0, none⟩) n cap) n vs) : Lies w w.heap.size (some ⟨g, 0, none⟩) vs := fun _ => by
  refine ⟨_, rfl, (h.lt g rfl).2, fun j u hj => ?_⟩
  have hjl : j < vs.length := (List.getElem?_eq_some_iff.1 hj).1
  have := h.1
  rw [zero_add, h.cellAt j (by omega), hj]
theorem below_new (w : World) (o : Obj) : Below w.heap.size w (w.alloc o) := (Below.refl _ _).alloc (Nat.le_refl _) o
theorem turn_refl (w : World) (row : Option Nat) : w.grownBy w row := ⟨rfl, rfl, rfl, Nat.le_refl _, fun _ _ _ => rfl⟩
theorem own_shape {w w1 : World} {B n size : Nat} {e : TypeId} {v1 : Value} {xs : List Value} (hown : w1.ownsRow B e size v1 n xs) (hn : 0 < n ∨ ¬ v1 = .slice none 0 0) : ∃ g cap, v1 = .slice (some ⟨g, 0, none⟩) n cap ∧ B ≤ g := by
  rcases hown.2 with ⟨h, hz⟩ | ⟨g, cap, _, e, hg, _⟩
  · rcases hn with hn | hn
    · omega
    · exact absurd h hn
  · exact ⟨g, cap, e, hg⟩

/-- a run: its two ends. -/
abbrev Run := Nat × Nat
def rv (l : List Run) : List Value := l.flatMap fun r => [.int .u64 (r.1 : Int), .int .u64 (r.2 : Int)]
def nv (l : List Nat) : List Value := l.map fun x : Nat => .int .u64 (x : Int)
theorem rv_nil : rv [] = [] := rfl
theorem rv_append (l m : List Run) : rv (l ++ m) = rv l ++ rv m := by unfold rv; rw [List.flatMap_append]
theorem nv_append (l m : List Nat) : nv (l ++ m) = nv l ++ nv m := by unfold nv; rw [List.map_append]
theorem rv_length (l : List Run) : (rv l).length = l.length * 2 := by
  induction l with
  | nil => rfl
  | cons r l ih => simp only [rv, List.flatMap_cons, List.length_append, List.length_cons, List.length_nil] at ih ⊢; omega
theorem nv_length (l : List Nat) : (nv l).length = l.length := by unfold nv; simp
theorem rv_get {l : List Run} {k : Nat} {r : Run} (h : l[k]? = some r) : (rv l)[k * 2]? = some (.int .u64 (r.1 : Int)) ∧ (rv l)[k * 2 + 1]? = some (.int .u64 (r.2 : Int)) := by
  induction l generalizing k with
  | nil => simp at h
  | cons x l ih =>
    cases k with
    | zero => obtain rfl : x = r := by simpa using h
              exact ⟨rfl, rfl⟩
    | succ k =>
      have h2 := ih (k := k) (by simpa using h)
      have e : rv (x :: l) = .int .u64 (x.1 : Int) :: .int .u64 (x.2 : Int) :: rv l := rfl
      have e1 : (k + 1) * 2 = k * 2 + 2 := by omega
      rw [e, e1]
      exact ⟨by simpa using h2.1, by simpa using h2.2⟩
theorem nv_get {l : List Nat} (j : Nat) : (nv l)[j]? = l[j]?.map fun x : Nat => Value.int .u64 (x : Int) := by unfold nv; simp
theorem rv_one (l : List Run) : ∀ u ∈ rv l, u.oneCell' = true := by
  intro u hu
  obtain ⟨r, _, h⟩ := List.mem_flatMap.1 hu
  simp only [List.mem_cons, List.not_mem_nil, or_false] at h
  rcases h with rfl | rfl <;> rfl
theorem nv_one (l : List Nat) : ∀ u ∈ nv l, u.oneCell' = true := by
  intro u hu
  obtain ⟨x, _, rfl⟩ := List.mem_map.1 hu
  rfl

def Fit (l : List Run) : Prop := ∀ r ∈ l, r.1 < 18446744073709551616 ∧ r.2 < 18446744073709551616
def FitN (l : List Nat) : Prop := ∀ x ∈ l, x < 18446744073709551616
/-- a slice of the address A that holds these runs, below block B. -/
def Runs (w : World) (B : Nat) (A : Option Addr) (l : List Run) : Prop := Fit l ∧ Lies w B A (rv l)
def Nums (w : World) (B : Nat) (A : Option Addr) (l : List Nat) : Prop := FitN l ∧ Lies w B A (nv l)
theorem Runs.below {w w' : World} {B : Nat} {A : Option Addr} {l : List Run} (h : Runs w B A l) (hb : Below B w w') : Runs w' B A l := ⟨h.1, h.2.below hb⟩
theorem Runs.more {w : World} {B B' : Nat} {A : Option Addr} {l : List Run} (h : Runs w B A l) (hB : B ≤ B') : Runs w B' A l := ⟨h.1, h.2.more hB⟩
theorem Runs.up {w W : World} {A : Option Addr} {l : List Run} (h : Runs w w.heap.size A l) (hb : Below w.heap.size w W) : Runs W W.heap.size A l := (h.below hb).more hb.size
theorem Runs.none_ (w : World) (B : Nat) (A : Option Addr) : Runs w B A [] := ⟨fun r hr => (by cases hr), Lies.none_ _ _ _⟩
theorem Nums.below {w w' : World} {B : Nat} {A : Option Addr} {l : List Nat} (h : Nums w B A l) (hb : Below B w w') : Nums w' B A l := ⟨h.1, h.2.below hb⟩
theorem Nums.more {w : World} {B B' : Nat} {A : Option Addr} {l : List Nat} (h : Nums w B A l) (hB : B ≤ B') : Nums w B' A l := ⟨h.1, h.2.more hB⟩
theorem Nums.up {w W : World} {A : Option Addr} {l : List Nat} (h : Nums w w.heap.size A l) (hb : Below w.heap.size w W) : Nums W W.heap.size A l := (h.below hb).more hb.size
theorem Nums.none_ (w : World) (B : Nat) (A : Option Addr) : Nums w B A [] := ⟨fun r hr => (by cases hr), Lies.none_ _ _ _⟩
theorem Runs.at_ {w : World} {B : Nat} {A : Option Addr} {l : List Run} (h : Runs w B A l) {k : Nat} (hk : k < l.length) :
    ∃ (ad : Addr) (lo hi : Nat), A = some ad ∧ l[k]? = some (lo, hi) ∧ lo < 18446744073709551616 ∧ hi < 18446744073709551616 ∧ w.cell? (ad.add (k * 2)) = some (.int .u64 (lo : Int)) ∧ w.cell? (ad.add (k * 2 + 1)) = some (.int .u64 (hi : Int)) := by
  obtain ⟨ad, e, _, hc⟩ := h.2 (by rw [rv_length]; omega)
  have hg := List.getElem?_eq_getElem hk
  obtain ⟨h1, h2⟩ := h.1 l[k] (List.getElem_mem hk)
  obtain ⟨g1, g2⟩ := rv_get hg
  exact ⟨ad, l[k].1, l[k].2, e, hg, h1, h2, hc _ _ g1, hc _ _ g2⟩
theorem Nums.at_ {w : World} {B : Nat} {A : Option Addr} {l : List Nat} (h : Nums w B A l) {k : Nat} (hk : k < l.length) :
    ∃ (ad : Addr) (x : Nat), A = some ad ∧ l[k]? = some x ∧ x < 18446744073709551616 ∧ w.cell? (ad.add k) = some (.int .u64 (x : Int)) := by
  obtain ⟨ad, e, _, hc⟩ := h.2 (by rw [nv_length]; omega)
  have hg := List.getElem?_eq_getElem hk
  exact ⟨ad, l[k], e, hg, h.1 _ (List.getElem_mem hk), hc _ _ (by rw [nv_get, hg]; rfl)⟩

/-- where a place within memory stands, as the walk reckons it. -/
theorem add_lit (a : Addr) (n : Nat) (h : a.spot = none) : a.add n = ⟨a.block, a.off + n, none⟩ := by
  unfold Addr.add
  split
  · rename_i hz; subst hz; cases a; simp_all
  · rfl

theorem num_info : (Try.prog.info? 23).map (fun i => (i.zero, i.size, i.bytes)) = some (some (.int .u64 0), 1, 8) := by kernel_rfl

/-- may a run tell something? -/
def mayR (r : Run) : Bool := decide (1 ≤ r.1 ∧ r.1 ≤ r.2 ∧ r.2 ≤ 281474976710655)
/-- is a number told? -/
def has (l : List Run) (n : Nat) : Bool := l.any fun r => mayR r && (decide (r.1 ≤ n) && decide (n ≤ r.2))
theorem has_take {l : List Run} {k : Nat} {r : Run} {n : Nat} (h : l[k]? = some r) : has (l.take (k + 1)) n = (has (l.take k) n || (mayR r && (decide (r.1 ≤ n) && decide (n ≤ r.2)))) := by
  unfold has
  rw [List.take_add_one, h]
  simp
theorem has_hit {l : List Run} {k : Nat} {r : Run} {n : Nat} (h : l[k]? = some r) (ht : (mayR r && (decide (r.1 ≤ n) && decide (n ≤ r.2))) = true) : has l n = true := by
  unfold has
  exact List.any_eq_true.2 ⟨r, List.mem_of_getElem? h, ht⟩
theorem add_next (ad : Addr) (m : Nat) : (⟨(ad.add m).block, (ad.add m).off + 1, none⟩ : Addr) = ad.add (m + 1) := by
  unfold Addr.add
  by_cases h : m = 0
  · subst h; simp
  · simp [h, Nat.add_assoc]

end Go.Proofs.Ytmebokpgiehgmaa.Ru

/- The contract of the document's 'put': a number more, in its place. Condition: at most 262144 numbers. -/
namespace Go.Proofs.Ytmebokpgiehgmaa.Ru
open Go.ChangeShapes Go.WideShapes Go.ChangeAt Go.RowKit
set_option linter.unusedVariables false
set_option maxRecDepth 4000

/-- one round: what is out, and whether the number is. -/
def putS (n : Nat) (s : List Nat × Bool) (x : Nat) : List Nat × Bool :=
  if s.2 = false ∧ n ≤ x then (if x = n then s.1 ++ [n] else s.1 ++ [n] ++ [x], true) else (if x = n then s.1 else s.1 ++ [x], s.2)
def putF (n : Nat) (l : List Nat) : List Nat × Bool := l.foldl (putS n) ([], false)
def putL (l : List Nat) (n : Nat) : List Nat := if (putF n l).2 = true then (putF n l).1 else (putF n l).1 ++ [n]
theorem putF_take {l : List Nat} {k x n : Nat} (h : l[k]? = some x) : putF n (l.take (k + 1)) = putS n (putF n (l.take k)) x := by
  unfold putF
  rw [List.take_add_one, h]
  simp
def left (d : Bool) : Nat := bif d then 0 else 1
theorem putS_length (n : Nat) (s : List Nat × Bool) (x : Nat) : (putS n s x).1.length + left (putS n s x).2 ≤ s.1.length + left s.2 + 1 := by
  obtain ⟨o, d⟩ := s
  unfold putS
  cases d <;> by_cases h1 : n ≤ x <;> by_cases h2 : x = n <;> simp [h1, h2, left]
theorem putF_length (n : Nat) (l : List Nat) : (putF n l).1.length + left (putF n l).2 ≤ l.length + 1 := by
  suffices h : ∀ (s : List Nat × Bool), (l.foldl (putS n) s).1.length + left (l.foldl (putS n) s).2 ≤ l.length + (s.1.length + left s.2) by
    have h2 := h ([], false)
    unfold putF
    have e : (([], false) : List Nat × Bool).1.length + left (([], false) : List Nat × Bool).2 = 1 := rfl
    rw [e] at h2
    exact h2
  induction l with
  | nil => intro s; simp
  | cons x l ih =>
    intro s
    have h1 := ih (putS n s x)
    have h2 := putS_length n s x
    rw [List.foldl_cons, List.length_cons]
    omega
theorem putL_length (l : List Nat) (n : Nat) : (putL l n).length ≤ l.length + 1 := by
  have h := putF_length n l
  unfold putL
  split
  · omega
  · rename_i hd
    have hd' : (putF n l).2 = false := by simpa using hd
    rw [hd'] at h
    have e : left false = 1 := rfl
    rw [e] at h
    rw [List.length_append, List.length_singleton]
    omega

/-- rising, each once. -/
def Rising (l : List Nat) : Prop := l.Pairwise (· < ·)
/-- a number more, in its place. -/
def ins : List Nat → Nat → List Nat
  | [], n => [n]
  | x :: l, n => if x < n then x :: ins l n else if x = n then x :: l else n :: x :: l
theorem put_done (n : Nat) (l : List Nat) : ∀ o, (∀ x ∈ l, x ≠ n) → l.foldl (putS n) (o, true) = (o ++ l, true) := by
  induction l with
  | nil => intro o _; simp
  | cons x l ih =>
    intro o h
    have hx : x ≠ n := h x (by simp)
    rw [List.foldl_cons]
    have e : putS n (o, true) x = (o ++ [x], true) := by unfold putS; simp [hx]
    rw [e, ih _ (fun y hy => h y (by simp [hy])), List.append_assoc]
    rfl
theorem put_ins (n : Nat) {l : List Nat} (h : Rising l) : putL l n = ins l n := by
  suffices hs : ∀ o, (if (l.foldl (putS n) (o, false)).2 = true then (l.foldl (putS n) (o, false)).1 else (l.foldl (putS n) (o, false)).1 ++ [n]) = o ++ ins l n by
    have := hs []
    rw [List.nil_append] at this
    exact this
  induction l with
  | nil => intro o; simp [ins]
  | cons x l ih =>
    intro o
    have hr : Rising l := (List.pairwise_cons.1 h).2
    have hx : ∀ y ∈ l, x < y := (List.pairwise_cons.1 h).1
    rw [List.foldl_cons]
    by_cases h1 : n ≤ x
    · have h3 : ∀ y ∈ l, y ≠ n := fun y hy => by have := hx y hy; omega
      by_cases h2 : x = n
      · have e : putS n (o, false) x = (o ++ [n], true) := by unfold putS; simp [h2]
        rw [e, put_done n l _ h3]
        simp [ins, h2]
      · have e : putS n (o, false) x = (o ++ [n] ++ [x], true) := by unfold putS; simp [h1, h2]
        have h4 : ¬ x < n := by omega
        rw [e, put_done n l _ h3]
        simp [ins, h2, h4]
    · have h2 : ¬ x = n := by omega
      have h4 : x < n := by omega
      have e : putS n (o, false) x = (o ++ [x], false) := by unfold putS; simp [h1, h2]
      rw [e, ih hr]
      simp [ins, h4]
theorem mem_ins (l : List Nat) (n m : Nat) : m ∈ ins l n ↔ m = n ∨ m ∈ l := by
  induction l with
  | nil => simp [ins]
  | cons x l ih =>
    unfold ins
    split
    · simp only [List.mem_cons, ih]
      constructor
      · rintro (h | h | h) <;> simp [h]
      · rintro (h | h | h) <;> simp [h]
    · split
      · rename_i h; subst h; simp
      · simp
theorem ins_rising {l : List Nat} (h : Rising l) (n : Nat) : Rising (ins l n) := by
  induction l with
  | nil => simp [ins, Rising]
  | cons x l ih =>
    have hr : Rising l := (List.pairwise_cons.1 h).2
    have hx : ∀ y ∈ l, x < y := (List.pairwise_cons.1 h).1
    unfold ins
    split
    · rename_i h1
      refine List.pairwise_cons.2 ⟨fun y hy => ?_, ih hr⟩
      rcases (mem_ins l n y).1 hy with rfl | hy
      · exact h1
      · exact hx y hy
    · split
      · exact h
      · refine List.pairwise_cons.2 ⟨fun y hy => ?_, h⟩
        rcases List.mem_cons.1 hy with rfl | hy
        · omega
        · have := hx y hy; omega

theorem cell_one (w : World) (x : Value) (t : TypeId) : ∀ (j : Nat) (u : Value), [x][j]? = some u → (w.alloc (.cells #[x] t)).cell? ((⟨w.heap.size, 0, none⟩ : Addr).add j) = some u := by
  intro j u hu
  cases j with
  | zero =>
    rw [zero_add, World.cell?_alloc_new]
    simpa using hu
  | succ j => simp at hu

/-- a call that answers a new list of these numbers, or none. -/
def NumPost (w : World) (m : List Nat) (e : Ending) (w' : World) : Prop :=
  ∃ A n c, e = .returned (.slice A n c) ∧ m.length = n ∧ w'.ownsRow w.heap.size 23 1 (.slice A n c) n (nv m) ∧ Below w.heap.size w w'
def PutRel (w : World) (l : List Nat) (n len : Nat) (o d i : Value) (wr : World) : Prop :=
  ∃ (k m : Nat) (A : Option Addr) (c : Nat), k ≤ len ∧ i = .int .i64 (k : Int) ∧ o = .slice A m c ∧ d = .bool (putF n (l.take k)).2 ∧ (putF n (l.take k)).1.length = m ∧ wr.ownsRow w.heap.size 23 1 (.slice A m c) m (nv (putF n (l.take k)).1) ∧ Below w.heap.size w wr

theorem fitN_put {n : Nat} (hn : n < 18446744073709551616) {l : List Nat} (h : FitN l) (o : List Nat) (d : Bool) (ho : FitN o) : FitN (l.foldl (putS n) (o, d)).1 := by
  induction l generalizing o d with
  | nil => exact ho
  | cons x l ih =>
    have hx : x < 18446744073709551616 := h x (by simp)
    rw [List.foldl_cons]
    obtain ⟨o', d', hp⟩ : ∃ o' d', putS n (o, d) x = (o', d') := ⟨_, _, rfl⟩
    rw [hp]
    refine ih (fun y hy => h y (by simp [hy])) o' d' ?_
    have e : o' = (putS n (o, d) x).1 := by rw [hp]
    rw [e]
    unfold putS
    intro y hy
    split at hy <;> split at hy <;> simp at hy
    all_goals (first
      | (rcases hy with hy | rfl | rfl <;> first | exact ho y hy | exact hn | exact hx)
      | (rcases hy with hy | rfl <;> first | exact ho y hy | exact hn | exact hx)
      | exact ho y hy)

theorem put_rel {w wr : World} {l : List Nat} {n len k m : Nat} {A : Option Addr} {c : Nat} {o : List Nat} {d : Bool} (hk : k < len) (hs : putF n (l.take (k + 1)) = (o, d)) (hm : o.length = m) (ho : wr.ownsRow w.heap.size 23 1 (.slice A m c) m (nv o)) (hb : Below w.heap.size w wr) :
    PutRel w l n len (.slice A m c) (.bool d) (.int .i64 ((k : Int) + 1)) wr :=
  ⟨k + 1, m, A, c, hk, by go_num, rfl, by rw [hs], by rw [hs]; exact hm, by rw [hs]; exact ho, hb⟩
theorem num_grown {w wr w2 : World} {v : Value} {m : Nat} {xs : List Value} {o : Obj} (ho : wr.ownsRow w.heap.size 23 1 v m xs) (hb : Below w.heap.size w wr) (hg : (wr.alloc o).grownBy w2 v.ownBlock) : Below w.heap.size w w2 :=
  (hb.alloc hb.size _).grown hg (Nat.le_trans hb.size (by simp)) (fun k hk => (ho.lt k hk).1)

end Go.Proofs.Ytmebokpgiehgmaa.Ru

/- The contract of the document's 'points': the numbers at which something may begin, or have ended. Condition: at most 32768 runs on either side. -/
namespace Go.Proofs.Ytmebokpgiehgmaa.Ru
open Go.ChangeShapes Go.WideShapes Go.ChangeAt Go.RowKit
set_option linter.unusedVariables false
set_option maxRecDepth 4000

theorem own_less {w : World} {B B' n size : Nat} {e : TypeId} {v : Value} {xs : List Value} (h : w.ownsRow B' e size v n xs) (hB : B ≤ B') : w.ownsRow B e size v n xs := by
  refine ⟨h.1, ?_⟩
  rcases h.2 with hz | ⟨g, cap, cur, e, hg, hr⟩
  · exact .inl hz
  · exact .inr ⟨g, cap, cur, e, Nat.le_trans hB hg, hr⟩
theorem own_kept {w V : World} {B n size : Nat} {e : TypeId} {v : Value} {xs : List Value} (h : w.ownsRow B e size v n xs) (hb : Below w.heap.size w V) : V.ownsRow B e size v n xs := by
  refine ⟨h.1, ?_⟩
  rcases h.2 with hz | ⟨g, cap, cur, e, hg, hh, hr⟩
  · exact .inl hz
  · have hlt : g < w.heap.size := by
      rcases Nat.lt_or_ge g w.heap.size with h1 | h1
      · exact h1
      · rw [Array.getElem?_eq_none h1] at hh; cases hh
    exact .inr ⟨g, cap, cur, e, hg, (hb.block g hlt).trans hh, hr⟩
theorem lies_any {w : World} {B n c size : Nat} {e : TypeId} {A : Option Addr} {vs : List Value} (hs : 0 < size) (h : w.ownsRow B e size (.slice A n c) n vs) : Lies w w.heap.size A vs := by
  rcases Nat.eq_zero_or_pos n with h0 | h0
  · have h1 := h.1
    rw [h0, Nat.zero_mul] at h1
    rw [List.eq_nil_of_length_eq_zero h1]
    exact Lies.none_ _ _ _
  · obtain ⟨g, cap, e1, _⟩ := own_shape (w := w) h (.inl h0)
    cases e1
    exact lies_own h
theorem fit_putL {l : List Nat} {n : Nat} (h : FitN l) (hn : n < 18446744073709551616) : FitN (putL l n) := by
  have h1 := fitN_put hn h [] false (fun x hx => by cases hx)
  unfold putL
  split
  · exact h1
  · intro x hx
    rcases List.mem_append.1 hx with hx | hx
    · exact h1 x hx
    · obtain rfl := List.mem_singleton.1 hx
      exact hn
theorem own_len {w : World} {B n size : Nat} {e : TypeId} {A : Option Addr} {c : Nat} {xs : List Value} (h : w.ownsRow B e size (.slice A n c) n xs) : n ≤ c ∧ c ≤ 9223372036854775807 ∧ (A = none → n = 0 ∧ c = 0) := by
  rcases h.2 with ⟨h, hz⟩ | ⟨_, _, _, h, _, _, h1, h2, _⟩
  · cases h; exact ⟨by omega, by omega, fun _ => ⟨rfl, rfl⟩⟩
  · cases h; exact ⟨h1, h2, fun e => by cases e⟩

/-- the points of some runs. -/
def ptS (o : List Nat) (r : Run) : List Nat := if mayR r = true then putL (putL o r.1) (r.2 + 1) else o
def ptL (l : List Run) : List Nat := l.foldl ptS []
theorem ptL_take {l : List Run} {k : Nat} {r : Run} (h : l[k]? = some r) : ptL (l.take (k + 1)) = ptS (ptL (l.take k)) r := by
  unfold ptL
  rw [List.take_add_one, h]
  simp
theorem ptS_length (o : List Nat) (r : Run) : (ptS o r).length ≤ o.length + 2 := by
  unfold ptS
  split
  · have h1 := putL_length o r.1
    have h2 := putL_length (putL o r.1) (r.2 + 1)
    omega
  · omega
theorem ptL_length (l : List Run) (k : Nat) : (ptL (l.take k)).length ≤ 2 * k := by
  induction k with
  | zero => simp [ptL]
  | succ k ih =>
    rcases h : l[k]? with _ | r
    · rw [List.take_add_one, h]
      simp only [Option.toList_none, List.append_nil]
      omega
    · rw [ptL_take h]
      have := ptS_length (ptL (l.take k)) r
      omega
theorem ptS_fit {o : List Nat} {r : Run} (ho : FitN o) (h1 : r.1 < 18446744073709551616) : FitN (ptS o r) := by
  unfold ptS
  split
  · rename_i hm
    have := of_decide_eq_true hm
    exact fit_putL (fit_putL ho h1) (by omega)
  · exact ho

def PtRel (w : World) (l : List Run) (len : Nat) (o i : Value) (wr : World) : Prop :=
  ∃ (k m : Nat) (A : Option Addr) (c : Nat), k ≤ len ∧ i = .int .i64 (k : Int) ∧ o = .slice A m c ∧ (ptL (l.take k)).length = m ∧ FitN (ptL (l.take k)) ∧ wr.ownsRow w.heap.size 23 1 (.slice A m c) m (nv (ptL (l.take k))) ∧ Below w.heap.size w wr
theorem pt_rel {w wr : World} {l : List Run} {len k m : Nat} {A : Option Addr} {c : Nat} {o : List Nat} (hk : k < len) (hs : ptL (l.take (k + 1)) = o) (hm : o.length = m) (hf : FitN o) (ho : wr.ownsRow w.heap.size 23 1 (.slice A m c) m (nv o)) (hb : Below w.heap.size w wr) :
    PtRel w l len (.slice A m c) (.int .i64 ((k : Int) + 1)) wr :=
  ⟨k + 1, m, A, c, hk, by go_num, rfl, by rw [hs]; exact hm, by rw [hs]; exact hf, by rw [hs]; exact ho, hb⟩

end Go.Proofs.Ytmebokpgiehgmaa.Ru

/- What the document's 'set' reckons, as plain functions. No program is walked here. -/
namespace Go.Proofs.Ytmebokpgiehgmaa.Ru
set_option linter.unusedVariables false
set_option maxRecDepth 4000

/-- is a place in: 1 what both have, 2 what the first one has alone, else both together. -/
def inB (how : Int) (x y : Bool) : Bool := if how = 1 then x && y else if how = 2 then x && !y else x || y
/-- a stretch more. -/
def addR (o : List Run) (p q : Nat) : List Run :=
  match o.getLast? with
  | some r => if r.2 + 1 = p then o.dropLast ++ [(r.1, q - 1)] else o ++ [(p, q - 1)]
  | none => [(p, q - 1)]
def stS (a b : List Run) (how : Int) (P : List Nat) (o : List Run) (i : Nat) : List Run :=
  if inB how (has a (P.getD i 0)) (has b (P.getD i 0)) = true then addR o (P.getD i 0) (P.getD (i + 1) 0) else o
def stF (a b : List Run) (how : Int) (P : List Nat) (k : Nat) : List Run := (List.range k).foldl (stS a b how P) []
def setL (a b : List Run) (how : Int) : List Run := stF a b how (ptL (a ++ b)) ((ptL (a ++ b)).length - 1)
theorem stF_succ (a b : List Run) (how : Int) (P : List Nat) (k : Nat) : stF a b how P (k + 1) = stS a b how P (stF a b how P k) k := by
  unfold stF
  rw [List.range_succ, List.foldl_append]
  rfl
end Go.Proofs.Ytmebokpgiehgmaa.Ru
