/- The contracts of the document's Put and Sort of layer dot. Put: for every list of at most 2^42 dots. -/
import Derived.Test.YtbaiiidkffafmaaDApp
namespace Go.Proofs.Ytbaiiidkffafmaa.Dt
open Go.ChangeShapes Go.WideShapes Go.ChangeAt Go.RowKit
set_option linter.unusedVariables false

theorem bel_alloc {w W : World} (o : Obj) (h : Below w.heap.size w W) : Below w.heap.size w (W.alloc o) := h.alloc h.size o
/-- what a round of Put knows: the dots so far, of one's own; the world. -/
def PRel (w1 : World) (n : Nat) (f : Nat → List Dot) (v i : Value) (wr : World) : Prop :=
  ∃ k m A c, k ≤ n ∧ i = .int .i64 ((k : Nat) : Int) ∧ v = .slice A m c ∧ (f k).length = m ∧ wr.ownsRow w1.heap.size 25 2 (.slice A m c) m (dv (f k)) ∧ Below w1.heap.size w1 wr
theorem p_rel {w1 wr : World} {n k m c : Nat} {A : Option Addr} {f : Nat → List Dot} {o : List Dot} (hk : k < n) (hs : f (k + 1) = o) (hm : o.length = m) (ho : wr.ownsRow w1.heap.size 25 2 (.slice A m c) m (dv o)) (hb : Below w1.heap.size w1 wr) : PRel w1 n f (.slice A m c) (.int .i64 ((k : Int) + 1)) wr :=
  ⟨k + 1, m, A, c, hk, by go_num, rfl, by rw [hs]; exact hm, by rw [hs]; exact ho, hb⟩

set_option maxHeartbeats 8000000 in
theorem rput_any (w : World) (A0 : Option Addr) (l : List Dot) (n c0 : Nat) (d : Dot) (hl : l.length = n) (hb : Dots w w.heap.size A0 l) (h42 : n ≤ 4398046511104) :
    Calls Try.prog 42 #[.slice A0 n c0, .agg #[.int .u16 (d.1 : Int), .int .u64 (d.2 : Int)]] w (DotPost w (putD l d)) := by
  have HL := Lib.hid hl
  have HB1 : Hid (Below w.heap.size w (w.alloc (.cells #[.int .u16 (d.1 : Int), .int .u64 (d.2 : Int)] 25))) := below_new w _
  have hd0 : (w.alloc (.cells #[.int .u16 (d.1 : Int), .int .u64 (d.2 : Int)] 25)).cell? ⟨w.heap.size, 0, none⟩ = some (.int .u16 (d.1 : Int)) := by rw [World.cell?_alloc_mark]; rfl
  have hd1 : (w.alloc (.cells #[.int .u16 (d.1 : Int), .int .u64 (d.2 : Int)] 25)).cell? ⟨w.heap.size, 1, none⟩ = some (.int .u64 (d.2 : Int)) := by rw [World.cell?_alloc_mark]; rfl
  have H1 := Lib.hid (hb.up (below_new w (.cells #[.int .u16 (d.1 : Int), .int .u64 (d.2 : Int)] 25)))
  clear hb hl
  go_enter Try.func42, Try.ntmps42
  go_wp2_with fail
  generalize hw1 : w.alloc (.cells #[.int .u16 (d.1 : Int), .int .u64 (d.2 : Int)] 25) = w1 at *
  clear hw1
  have HD : Hid (∀ V, Below w1.heap.size w1 V → V.cell? ⟨w.heap.size, 0, none⟩ = some (.int .u16 (d.1 : Int)) ∧ V.cell? ⟨w.heap.size, 1, none⟩ = some (.int .u64 (d.2 : Int))) := fun V hV => ⟨(hV.cell (World.block_lt_of_cell? w1 _ hd0)).trans hd0, (hV.cell (World.block_lt_of_cell? w1 _ hd1)).trans hd1⟩
  clear hd0 hd1
  obtain ⟨f, hf⟩ : ∃ f : Nat → List Dot, f = fun k => (l.take k).filter (fun x => aheadD x d) := ⟨_, rfl⟩
  have HF : Hid (∀ k, (f k).length ≤ k) := Lib.hid (fun k => by rw [hf]; exact Nat.le_trans (List.length_filter_le _ _) (List.length_take_le _ _))
  have HFE : Hid (∀ k, f k = (l.take k).filter (fun x => aheadD x d)) := Lib.hid (fun k => by rw [hf])
  clear hf
  go_loopw [5, 6] (fun v i wr => PRel w1 n f v i wr) (fun _ i _ => n - (intOf i).toNat)
  case atStart => exact ⟨0, 0, none, 0, Nat.zero_le _, rfl, rfl, by rw [HFE.out]; rfl, by rw [HFE.out]; exact World.ownsRow_nil _ _ _ _, Below.refl _ _⟩
  case round =>
    obtain ⟨k, m, A, c, hk, rfl, rfl, hm, ho, hw⟩ := hrel
    have hmk : m ≤ k := by rw [← hm]; exact HF.out k
    have HM := Lib.hid hm
    have HO := Lib.hid ho
    have HW := Lib.hid hw
    clear hm ho hw
    by_cases hlt : k < n
    · obtain ⟨ad, x, rfl, hB, hlx, hx1, hx2, hcx⟩ := H1.out.cells (k := k) (by rw [HL.out]; exact hlt)
      have HN := Lib.hid (filter_next (fun x => aheadD x d) hlx)
      clear hlx
      have HC : Hid (∀ V, Below wr.heap.size wr V → (V.cell? (ad.add (k * 2)) = some (.int .u16 (x.1 : Int)) ∧ V.cell? ⟨(ad.add (k * 2)).block, (ad.add (k * 2)).off + 1, none⟩ = some (.int .u64 (x.2 : Int))) ∧ V.cell? ⟨w.heap.size, 0, none⟩ = some (.int .u16 (d.1 : Int)) ∧ V.cell? ⟨w.heap.size, 1, none⟩ = some (.int .u64 (d.2 : Int))) := fun V hV =>
        ⟨hcx V (HW.out.trans (hV.mono HW.out.size)), HD.out V (HW.out.trans (hV.mono HW.out.size))⟩
      clear hcx
      obtain ⟨⟨d1, d2⟩, d3, d4⟩ := HC.out wr (Below.refl _ _)
      go_wp2_with fail
      go_region_held3 (fun V => (V.cell? (ad.add (k * 2)) = some (.int .u16 (x.1 : Int)) ∧ V.cell? ⟨(ad.add (k * 2)).block, (ad.add (k * 2)).off + 1, none⟩ = some (.int .u64 (x.2 : Int))) ∧ V.cell? ⟨w.heap.size, 0, none⟩ = some (.int .u16 (d.1 : Int)) ∧ V.cell? ⟨w.heap.size, 1, none⟩ = some (.int .u64 (d.2 : Int))) (first | exact ⟨⟨d1, d2⟩, d3, d4⟩ | assumption | exact HC.out _ (by (repeat (first | exact Below.refl _ _ | assumption | apply bel_drew)))) (first
        | (go_at_call 16; (with_reducible refine (rcmp_later wr _ x d ?_).mono ?_); (repeat (first | exact Below.refl _ _ | assumption | apply bel_drew)); rintro e V ⟨rfl, bv⟩; have hcV := HC.out V bv))
      all_goals
        have HV : Hid (Below w1.heap.size w1 V) := HW.out.trans (bv.mono HW.out.size)
        have HOV := Lib.hid (own_kept HO.out bv)
        obtain ⟨⟨v1, v2⟩, _⟩ := hcV
        clear bv d1 d2 d3 d4
        rw [cmp_neg]
        cases ha : aheadD x d with
        | true =>
          rw [ha] at HN
          have HLO : Hid (m + 1 ≤ 8796093022208) := Lib.hid (by omega)
          have HWA : Hid (Below w1.heap.size w1 (V.alloc (.cells #[.int .u16 (x.1 : Int), .int .u64 (x.2 : Int)] 25))) := bel_alloc _ HV.out
          have HS : Hid (f (k + 1) = f k ++ [x]) := Lib.hid (by rw [HFE.out, HFE.out]; exact HN.out.trans (by rw [if_pos rfl]))
          clear ha
          go_wp2_with (at_builtin; refine wpList_any rfl (.tmp 21) (.tmp 26) rfl rfl _ w1.heap.size m (.slice A m c) (f k) (some ⟨V.heap.size, 0, none⟩) [x] 1 1 rfl rfl (HOV.out.alloc _) (fun h => by cases h) (lies_one V x) rfl HLO.out HWA.out.size ?_; intro A3 c3 V3 ho3 hg3; have HR := Lib.hid (p_rel hlt HS.out (by rw [List.length_append, HM.out]; rfl) ho3 (any_grown (HOV.out.alloc _) HWA.out hg3)); clear ho3 hg3)
          go_roundw
          case rel => exact HR.out
          case measure => simp [intOf]; omega
        | false =>
          rw [ha] at HN
          have HS : Hid (f (k + 1) = f k) := Lib.hid (by rw [HFE.out, HFE.out]; exact HN.out.trans (by rw [if_neg (by simp), List.append_nil]))
          have HR := Lib.hid (p_rel hlt HS.out HM.out HOV.out HV.out)
          clear ha v1 v2
          go_wp2
          go_roundw
          case rel => exact HR.out
          case measure => simp [intOf]; omega
    · obtain rfl : n = k := by omega
      have HE : Hid (f n = l.filter (fun x => aheadD x d)) := Lib.hid (by rw [HFE.out, List.take_of_length_le (by rw [HL.out]; exact Nat.le_refl _)])
      obtain ⟨d3, d4⟩ := HD.out wr HW.out
      have HLO : Hid (m + 1 ≤ 8796093022208) := Lib.hid (by omega)
      have HWA : Hid (Below w1.heap.size w1 (wr.alloc (.cells #[.int .u16 (d.1 : Int), .int .u64 (d.2 : Int)] 25))) := bel_alloc _ HW.out
      go_wp2_with (at_builtin; refine wpList_any rfl (.tmp 28) (.tmp 30) rfl rfl _ w1.heap.size m (.slice A m c) (f n) (some ⟨wr.heap.size, 0, none⟩) [d] 1 1 rfl rfl (HO.out.alloc _) (fun h => by cases h) (lies_one wr d) rfl HLO.out HWA.out.size ?_; intro A3 c3 V3 ho3 hg3; have HO3 := Lib.hid ho3; have HW3 := Lib.hid (any_grown (HO.out.alloc _) HWA.out hg3); clear ho3 hg3)
      obtain ⟨g, hg⟩ : ∃ g : Nat → List Dot, g = fun j => l.filter (fun x => aheadD x d) ++ [d] ++ (l.take j).filter (fun x => aheadD d x) := ⟨_, rfl⟩
      have HGE : Hid (∀ j, g j = l.filter (fun x => aheadD x d) ++ [d] ++ (l.take j).filter (fun x => aheadD d x)) := Lib.hid (fun j => by rw [hg])
      have HG : Hid (∀ j, (g j).length ≤ n + 1) := Lib.hid (fun j => by
        have h1 := put_length l d
        have h2 : ((l.take j).filter (fun x => aheadD d x)).length ≤ (l.filter (fun x => aheadD d x)).length := ((List.take_sublist j l).filter _).length_le
        rw [HL.out] at h1
        rw [HGE.out]
        unfold putD at h1
        simp only [List.length_append] at h1 ⊢
        omega)
      clear hg d3 d4 HLO
      have HS0 : Hid (g 0 = f n ++ [d]) := Lib.hid (by rw [HGE.out, HE.out]; simp)
      have HM0 : Hid ((f n ++ [d]).length = m + 1) := Lib.hid (by rw [List.length_append, HM.out]; rfl)
      clear hmk HF HFE HM HO HW HWA HE hlt hk
      generalize f n = fk at HS0 HM0 HO3
      go_loopw [5, 7] (fun v i wr => PRel w1 n g v i wr) (fun _ i _ => n - (intOf i).toNat)
      case atStart => exact ⟨0, m + 1, A3, c3, Nat.zero_le _, rfl, rfl, by rw [HS0.out]; exact HM0.out, by rw [HS0.out]; exact HO3.out, HW3.out⟩
      case round =>
        clear HS0 HM0 HO3 HW3
        obtain ⟨k, m, A, c, hk, rfl, rfl, hm, ho, hw⟩ := hrel
        have hmk : m ≤ n + 1 := by rw [← hm]; exact HG.out k
        have HM := Lib.hid hm
        have HO := Lib.hid ho
        have HW := Lib.hid hw
        clear hm ho hw
        by_cases hlt : k < n
        · obtain ⟨ad, x, rfl, hB, hlx, hx1, hx2, hcx⟩ := H1.out.cells (k := k) (by rw [HL.out]; exact hlt)
          have HN := Lib.hid (filter_next (fun x => aheadD d x) hlx)
          clear hlx
          have HC : Hid (∀ V, Below wr.heap.size wr V → (V.cell? (ad.add (k * 2)) = some (.int .u16 (x.1 : Int)) ∧ V.cell? ⟨(ad.add (k * 2)).block, (ad.add (k * 2)).off + 1, none⟩ = some (.int .u64 (x.2 : Int))) ∧ V.cell? ⟨w.heap.size, 0, none⟩ = some (.int .u16 (d.1 : Int)) ∧ V.cell? ⟨w.heap.size, 1, none⟩ = some (.int .u64 (d.2 : Int))) := fun V hV =>
            ⟨hcx V (HW.out.trans (hV.mono HW.out.size)), HD.out V (HW.out.trans (hV.mono HW.out.size))⟩
          clear hcx
          obtain ⟨⟨d1, d2⟩, d3, d4⟩ := HC.out wr (Below.refl _ _)
          go_wp2_with fail
          go_region_held3 (fun V => (V.cell? (ad.add (k * 2)) = some (.int .u16 (x.1 : Int)) ∧ V.cell? ⟨(ad.add (k * 2)).block, (ad.add (k * 2)).off + 1, none⟩ = some (.int .u64 (x.2 : Int))) ∧ V.cell? ⟨w.heap.size, 0, none⟩ = some (.int .u16 (d.1 : Int)) ∧ V.cell? ⟨w.heap.size, 1, none⟩ = some (.int .u64 (d.2 : Int))) (first | exact ⟨⟨d1, d2⟩, d3, d4⟩ | assumption | exact HC.out _ (by (repeat (first | exact Below.refl _ _ | assumption | apply bel_drew)))) (first
            | (go_at_call 16; (with_reducible refine (rcmp_later wr _ x d ?_).mono ?_); (repeat (first | exact Below.refl _ _ | assumption | apply bel_drew)); rintro e V ⟨rfl, bv⟩; have hcV := HC.out V bv))
          all_goals
            have HV : Hid (Below w1.heap.size w1 V) := HW.out.trans (bv.mono HW.out.size)
            have HOV := Lib.hid (own_kept HO.out bv)
            obtain ⟨⟨v1, v2⟩, _⟩ := hcV
            clear bv d1 d2 d3 d4
            rw [cmp_pos]
            cases ha : aheadD d x with
            | true =>
              rw [ha] at HN
              have HLO : Hid (m + 1 ≤ 8796093022208) := Lib.hid (by omega)
              have HWA : Hid (Below w1.heap.size w1 (V.alloc (.cells #[.int .u16 (x.1 : Int), .int .u64 (x.2 : Int)] 25))) := bel_alloc _ HV.out
              have HS : Hid (g (k + 1) = g k ++ [x]) := Lib.hid (by rw [HGE.out, HGE.out, List.append_assoc _ _ [x]]; exact congrArg _ (HN.out.trans (by rw [if_pos rfl])))
              clear ha
              go_wp2_with (at_builtin; refine wpList_any rfl (.tmp 45) (.tmp 50) rfl rfl _ w1.heap.size m (.slice A m c) (g k) (some ⟨V.heap.size, 0, none⟩) [x] 1 1 rfl rfl (HOV.out.alloc _) (fun h => by cases h) (lies_one V x) rfl HLO.out HWA.out.size ?_; intro A3 c3 V3 ho3 hg3; have HR := Lib.hid (p_rel hlt HS.out (by rw [List.length_append, HM.out]; rfl) ho3 (any_grown (HOV.out.alloc _) HWA.out hg3)); clear ho3 hg3)
              go_roundw
              case rel => exact HR.out
              case measure => simp [intOf]; omega
            | false =>
              rw [ha] at HN
              have HS : Hid (g (k + 1) = g k) := Lib.hid (by rw [HGE.out, HGE.out]; exact congrArg _ (HN.out.trans (by rw [if_neg (by simp), List.append_nil])))
              have HR := Lib.hid (p_rel hlt HS.out HM.out HOV.out HV.out)
              clear ha v1 v2
              go_wp2
              go_roundw
              case rel => exact HR.out
              case measure => simp [intOf]; omega
        · obtain rfl : n = k := by omega
          have HE2 : Hid (g n = putD l d) := Lib.hid (by rw [HGE.out, List.take_of_length_le (by rw [HL.out]; exact Nat.le_refl _)]; rfl)
          have HWE : Hid (Below w.heap.size w wr) := HB1.out.trans (HW.out.mono HB1.out.size)
          rw [HE2.out] at HM HO
          go_wp2
          go_ret
          exact ⟨A, m, c, rfl, HM.out, own_less HO.out HB1.out.size, HWE.out⟩
end Go.Proofs.Ytbaiiidkffafmaa.Dt
