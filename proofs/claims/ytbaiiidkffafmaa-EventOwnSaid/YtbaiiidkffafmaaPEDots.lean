/- The contract of the program's Dots of layer event. For every list of events that name at most 2^43 dots. -/
import Derived.Test.YtbaiiidkffafmaaPESame
import Derived.Test.YtbaiiidkffafmaaPECopy
namespace Go.Proofs.Ytbaiiidkffafmaa.Ev
open Go.ChangeShapes Go.WideShapes Go.ChangeAt Go.RowKit
set_option linter.unusedVariables false
set_option maxRecDepth 4000

/-- the dots of events, and all that they kill, as they stand. -/
def gath (l : List Evt) : List Dt.Dot := l.flatMap fun x => x.dot :: x.kills
theorem fold_gath (l : List Evt) : ∀ acc : List Dt.Dot, (gath l).foldl Dt.putD acc = l.foldl dotsOne acc := by
  induction l with
  | nil => intro acc; rfl
  | cons x l ih =>
    intro acc
    have e : gath (x :: l) = (x.dot :: x.kills) ++ gath l := rfl
    rw [e, List.foldl_append, ih]
    rfl
theorem gath_dots (l : List Evt) : Dt.sortD (gath l) = dotsE l := fold_gath l []
theorem gath_len (l : List Evt) : (gath l).length = manyE l := by
  induction l with
  | nil => rfl
  | cons x l ih =>
    have e : gath (x :: l) = (x.dot :: x.kills) ++ gath l := rfl
    have e2 : manyE (x :: l) = (x.kills.length + 1) + manyE l := rfl
    rw [e, e2, List.length_append, ih, List.length_cons]
theorem gath_next {l : List Evt} {k : Nat} {x : Evt} (h : l[k]? = some x) : gath (l.take (k + 1)) = gath (l.take k) ++ [x.dot] ++ x.kills := by
  rw [take_one h]
  unfold gath
  rw [List.flatMap_append]
  simp
theorem gath_most (l : List Evt) (k : Nat) : (gath (l.take k)).length ≤ manyE l := by
  rw [← gath_len l]
  conv => rhs; rw [← List.take_append_drop k l]
  unfold gath
  rw [List.flatMap_append, List.length_append]
  omega
theorem gath_fit {w : World} {B : Nat} {A : Option Addr} {l : List Evt} {n c : Nat} (h : EventsAt w B A l n c) : Dt.Fit (gath l) := fun r hr => by
  obtain ⟨x, hx, hr⟩ := List.mem_flatMap.1 hr
  obtain ⟨k, hk, rfl⟩ := List.getElem_of_mem hx
  obtain ⟨_, p, y, _, _, hy, hp, _⟩ := h.at_ (k := k) (by rw [← h.len]; exact hk)
  rw [List.getElem?_eq_getElem hk] at hy
  cases hy
  rcases List.mem_cons.1 hr with rfl | hr
  · exact hp.fits.dot
  · exact hp.kills.dots.1 r hr
theorem sortD_long (l : List Dt.Dot) : ∀ acc : List Dt.Dot, (l.foldl Dt.putD acc).length ≤ acc.length + l.length := by
  induction l with
  | nil => intro acc; simp
  | cons d l ih =>
    intro acc
    have h1 := ih (Dt.putD acc d)
    have h2 := Dt.put_length acc d
    rw [List.foldl_cons, List.length_cons]
    omega

set_option maxHeartbeats 8000000 in
theorem pdotsE_any (w : World) (A0 : Option Addr) (l : List Evt) (n c0 : Nat) (hl : EventsAt w w.heap.size A0 l n c0) (h43 : manyE l ≤ 8796093022208) :
    Calls Try.prog 20 #[.slice A0 n c0] w (OwnDots w (dotsE l)) := by
  have HL := Lib.hid hl
  have HM := Lib.hid (fun k => gath_most l k)
  have h63 : n ≤ 2199023255552 := hl.wide
  clear hl
  go_enter Try.func20, Try.ntmps20
  go_wp2_with fail
  go_loopw [3, 8] (fun v i wr => ∃ (k m : Nat) (A : Option Addr) (c : Nat), k ≤ n ∧ i = .int .i64 (k : Int) ∧ v = .slice A m c ∧ (gath (l.take k)).length = m ∧ wr.ownsRow w.heap.size 25 2 (.slice A m c) m (Dt.dv (gath (l.take k))) ∧ Below w.heap.size w wr) (fun _ i _ => n - (intOf i).toNat)
  case atStart => exact ⟨0, 0, none, 0, Nat.zero_le _, rfl, rfl, rfl, World.ownsRow_nil _ _ _ _, Below.refl _ _⟩
  case round =>
    obtain ⟨k, m, A, c, hk, rfl, rfl, hm, ho, hw⟩ := hrel
    have HO := Lib.hid ho
    have HW := Lib.hid hw
    have HML := Lib.hid hm
    have hmm := HM.out k
    rw [hm] at hmm
    clear hm
    by_cases hlt : k < n
    · obtain ⟨ad, p, x, rfl, hB, hly, hp, cp⟩ := HL.out.at_ hlt
      have cq := fun (a : Addr) (v : Value) (h : w.cell? a = some v) => (hw.cell (World.block_lt_of_cell? w _ h)).trans h
      have hz : (k : Int) < (n : Int) := by omega
      have hmany := HM.out (k + 1)
      have hnext := gath_next hly
      rw [hnext, List.length_append, List.length_append, HML.out, List.length_singleton, hp.kills.len] at hmany
      have HD := Lib.hid (is_dot hp)
      have HNX := Lib.hid hnext
      have HA := Lib.hid (bel_alloc p.box hw)
      have HB2 := Lib.hid (bel_alloc (.cells #[.int .u16 (p.dev : Int), .int .u64 (p.num : Int)] 25) HA.out)
      have hOB : (((wr.alloc p.box).alloc (.cells #[.int .u16 (p.dev : Int), .int .u64 (p.num : Int)] 25))).ownsRow w.heap.size 25 2 (.slice A m c) m (Dt.dv (gath (l.take k))) := (ho.alloc _).alloc _
      have hne : some wr.heap.size ≠ (Value.slice A m c).ownBlock := fun e => by have := (ho.lt wr.heap.size e.symm).2; omega
      have hb6 := (box_first wr p (.cells #[.int .u16 (p.dev : Int), .int .u64 (p.num : Int)] 25)).all
      have hb7 := (box_new wr p _ (Below.refl _ _)).all
      have hbx := fun (V3 : World) (hg : (((wr.alloc p.box).alloc (.cells #[.int .u16 (p.dev : Int), .int .u64 (p.num : Int)] 25))).grownBy V3 (Value.slice A m c).ownBlock) => hg.cell hb6.2.2.2.2.2.2 hne
      have hks := fun (V3 : World) (hb : Below w.heap.size w V3) => (hp.up hb).kills
      obtain ⟨p1, p2, p3, p4, p5, p6, pA, pn, pc⟩ := p
      simp only [EV.box] at HA HB2 hOB hb6 hb7 hbx
      obtain ⟨x0, x1, x2, x3, x4, x5, x6⟩ := cp
      have x0 := cq _ _ x0
      have x1 := cq _ _ x1
      have x2 := cq _ _ x2
      have x3 := cq _ _ x3
      have x4 := cq _ _ x4
      have x5 := cq _ _ x5
      have x6 := cq _ _ x6
      obtain ⟨b0, b1, b2, b3, b4, b5, b6⟩ := hb7
      have HOB := Lib.hid hOB
      have HBX := Lib.hid hbx
      have HKS := Lib.hid hks
      have HLIE : Hid (Dt.Lies ((wr.alloc (.cells #[.int .u16 (p1 : Int), .int .u64 (p2 : Int), .int .u8 (p3 : Int), .int .u64 (p4 : Int), .int .u8 (p5 : Int), .string p6, .slice pA pn pc] 28)).alloc (.cells #[.int .u16 (p1 : Int), .int .u64 (p2 : Int)] 25)) ((wr.alloc (.cells #[.int .u16 (p1 : Int), .int .u64 (p2 : Int), .int .u8 (p3 : Int), .int .u64 (p4 : Int), .int .u8 (p5 : Int), .string p6, .slice pA pn pc] 28)).alloc (.cells #[.int .u16 (p1 : Int), .int .u64 (p2 : Int)] 25)).heap.size (some ⟨wr.heap.size + 1, 0, none⟩) (Dt.dv [(p1, p2)])) := Lib.hid (by have h := Dt.lies_one (wr.alloc (.cells #[.int .u16 (p1 : Int), .int .u64 (p2 : Int), .int .u8 (p3 : Int), .int .u64 (p4 : Int), .int .u8 (p5 : Int), .string p6, .slice pA pn pc] 28)) (p1, p2); rw [show (wr.alloc (.cells #[.int .u16 (p1 : Int), .int .u64 (p2 : Int), .int .u8 (p3 : Int), .int .u64 (p4 : Int), .int .u8 (p5 : Int), .string p6, .slice pA pn pc] 28)).heap.size = wr.heap.size + 1 from alloc_size _ _] at h; exact h)
      simp only at HD HKS hmany
      clear hly hp cq hnext hOB hb6 hbx hks hne ho hw
      go_wp2_with (first
        | (at_builtin; refine Dt.wpList_any rfl (.tmp 12) (.tmp 15) rfl rfl _ w.heap.size m (.slice A m c) (gath (l.take k)) (some ⟨wr.heap.size + 1, 0, none⟩) [(p1, p2)] 1 1 rfl rfl HOB.out (fun h => by cases h) HLIE.out rfl (by omega) HB2.out.size ?_; intro A3 c3 V3 ho3 hg3; have HO3 := Lib.hid ho3; have y6 := HBX.out V3 hg3; have HW3 := Lib.hid (Dt.any_grown HOB.out HB2.out hg3); have HK3 := Lib.hid (HKS.out V3 HW3.out); clear ho3 hg3)
        | (at_builtin; refine Dt.wpList_any rfl (.tmp 17) (.tmp 19) rfl rfl _ w.heap.size (m + 1) (.slice A3 (m + 1) c3) (gath (l.take k) ++ [(p1, p2)]) pA x.kills pn pc rfl rfl HO3.out HK3.out.nil HK3.out.dots.2 HK3.out.len (by omega) HW3.out.size ?_; intro A4 c4 V4 ho4 hg4; have HO4 := Lib.hid ho4; have HW4 := Lib.hid (Dt.any_grown HO3.out HW3.out hg4); clear ho4 hg4))
      go_roundw
      case rel => exact ⟨k + 1, m + 1 + pn, A4, c4, by omega, by go_num, rfl, by rw [HNX.out, List.length_append, List.length_append, HML.out, List.length_singleton, HK3.out.len], by rw [HNX.out, HD.out]; exact HO4.out, HW4.out⟩
      case measure => simp [intOf]; omega
    · obtain rfl : k = n := by omega
      have e : l.take k = l := List.take_of_length_le (by rw [HL.out.len]; exact Nat.le_refl _)
      rw [e] at ho
      have hlen : (gath l).length = m := by rw [← HML.out, e]
      obtain ⟨h1, h2, h3⟩ := Dt.own_len ho
      have hfit := gath_fit HL.out
      have CC := Dt.psort_any wr A (gath l) m c hlen h3 (Dt.dots_own ho hfit) (by omega)
      rw [gath_dots] at CC
      have HF : Hid (Dt.Fit (dotsE l)) := Lib.hid (by rw [← gath_dots]; have := (Dt.sort_fit (gath l) hfit (gath l).length).1; rwa [List.take_length] at this)
      have hlong := sortD_long (gath l) []
      rw [show (gath l).foldl Dt.putD [] = dotsE l from gath_dots l] at hlong
      have HLONG : Hid ((dotsE l).length ≤ 8796093022208) := Lib.hid (by simp only [List.length_nil, Nat.zero_add] at hlong; omega)
      clear ho hw e hlen h1 h2 h3 hfit hlong
      go_wp2_with fail
      refine CC.mono ?_
      rintro e w4 ⟨A4, n4, c4, rfl, hn4, ho4, hb4⟩
      have HD4 := Lib.hid (own_dotsAt ho4 hn4 HF.out (by rw [← hn4]; exact HLONG.out))
      have HF4 := Lib.hid ((own_free ho4).less HW.out.size)
      have HW4 := Lib.hid (HW.out.trans (hb4.mono HW.out.size))
      clear CC ho4 hb4
      go_wp2
      go_ret
      exact ⟨A4, n4, c4, rfl, HD4.out, HF4.out, HW4.out⟩
end Go.Proofs.Ytbaiiidkffafmaa.Ev
