/- Words and contracts that the proofs of this seat stand on, part 6 of 14. -/
import Derived.Test.YtblgbbpbhcaodaaMgC
import Derived.Test.YtblgbbpbhcaodaaMgE

/- The contracts of the document's Put and Sort of layer dot. Put: for every list of at most 2^42 dots. -/
namespace Go.Proofs.Ytblgbbpbhcaodaa.Dt
open Go.ChangeShapes Go.WideShapes Go.ChangeAt Go.RowKit
set_option linter.unusedVariables false

theorem bel_alloc {w W : World} (o : Obj) (h : Below w.heap.size w W) : Below w.heap.size w (W.alloc o) := h.alloc h.size o
/-- what a round of Put knows: the dots so far, of one's own; the world. -/
def PRel (w1 : World) (n : Nat) (f : Nat → List Dot) (v i : Value) (wr : World) : Prop :=
  ∃ k m A c, k ≤ n ∧ i = .int .i64 ((k : Nat) : Int) ∧ v = .slice A m c ∧ (f k).length = m ∧ wr.ownsRow w1.heap.size 37 2 (.slice A m c) m (dv (f k)) ∧ Below w1.heap.size w1 wr
theorem p_rel {w1 wr : World} {n k m c : Nat} {A : Option Addr} {f : Nat → List Dot} {o : List Dot} (hk : k < n) (hs : f (k + 1) = o) (hm : o.length = m) (ho : wr.ownsRow w1.heap.size 37 2 (.slice A m c) m (dv o)) (hb : Below w1.heap.size w1 wr) : PRel w1 n f (.slice A m c) (.int .i64 ((k : Int) + 1)) wr :=
  ⟨k + 1, m, A, c, hk, by go_num, rfl, by rw [hs]; exact hm, by rw [hs]; exact ho, hb⟩

set_option maxHeartbeats 8000000 in
theorem rput_any (w : World) (A0 : Option Addr) (l : List Dot) (n c0 : Nat) (d : Dot) (hl : l.length = n) (hb : Dots w w.heap.size A0 l) (h42 : n ≤ 4398046511104) :
    Calls Try.prog 51 #[.slice A0 n c0, .agg #[.int .u16 (d.1 : Int), .int .u64 (d.2 : Int)]] w (DotPost w (putD l d)) := by
  have HL := Lib.hid hl
  have HB1 : Hid (Below w.heap.size w (w.alloc (.cells #[.int .u16 (d.1 : Int), .int .u64 (d.2 : Int)] 37))) := below_new w _
  have hd0 : (w.alloc (.cells #[.int .u16 (d.1 : Int), .int .u64 (d.2 : Int)] 37)).cell? ⟨w.heap.size, 0, none⟩ = some (.int .u16 (d.1 : Int)) := by rw [World.cell?_alloc_mark]; rfl
  have hd1 : (w.alloc (.cells #[.int .u16 (d.1 : Int), .int .u64 (d.2 : Int)] 37)).cell? ⟨w.heap.size, 1, none⟩ = some (.int .u64 (d.2 : Int)) := by rw [World.cell?_alloc_mark]; rfl
  have H1 := Lib.hid (hb.up (below_new w (.cells #[.int .u16 (d.1 : Int), .int .u64 (d.2 : Int)] 37)))
  clear hb hl
  go_enter Try.func51, Try.ntmps51
  go_wp2_with fail
  generalize hw1 : w.alloc (.cells #[.int .u16 (d.1 : Int), .int .u64 (d.2 : Int)] 37) = w1 at *
  clear hw1
  have HD : Hid (∀ V, Below w1.heap.size w1 V → V.cell? ⟨w.heap.size, 0, none⟩ = some (.int .u16 (d.1 : Int)) ∧ V.cell? ⟨w.heap.size, 1, none⟩ = some (.int .u64 (d.2 : Int))) := fun V hV => ⟨(hV.cell (World.block_lt_of_cell? w1 _ hd0)).trans hd0, (hV.cell (World.block_lt_of_cell? w1 _ hd1)).trans hd1⟩
  clear hd0 hd1
  obtain ⟨f, hf⟩ : ∃ f : Nat → List Dot, f = fun k => (l.take k).filter (fun x => aheadD x d) := ⟨_, rfl⟩
  have HF : Hid (∀ k, (f k).length ≤ k) := Lib.hid (fun k => by rw [hf]; exact Nat.le_trans (List.length_filter_le _ _) (List.length_take_le _ _))
  have HFE : Hid (∀ k, f k = (l.take k).filter (fun x => aheadD x d)) := Lib.hid (fun k => by rw [hf])
  clear hf
  go_loopw [5, 6] (fun v i wr => PRel w1 n f v i wr) (fun _ i _ => n - (intOf i).toNat)
  case atStart => exact ⟨0, 0, none, 0, Nat.zero_le _, rfl, rfl, by rw [HFE.out]; rfl, by rw [HFE.out]; exact World.ownsRow_nil _ _ _ _, Below.refl _ _⟩
  case round =>
    obtain ⟨k, m, A, c, hk, rfl, rfl, hm, ho, hw⟩ := hrel
    have hmk : m ≤ k := by rw [← hm]; exact HF.out k
    have HM := Lib.hid hm
    have HO := Lib.hid ho
    have HW := Lib.hid hw
    clear hm ho hw
    by_cases hlt : k < n
    · obtain ⟨ad, x, rfl, hB, hlx, hx1, hx2, hcx⟩ := H1.out.cells (k := k) (by rw [HL.out]; exact hlt)
      have HN := Lib.hid (filter_next (fun x => aheadD x d) hlx)
      clear hlx
      have HC : Hid (∀ V, Below wr.heap.size wr V → (V.cell? (ad.add (k * 2)) = some (.int .u16 (x.1 : Int)) ∧ V.cell? ⟨(ad.add (k * 2)).block, (ad.add (k * 2)).off + 1, none⟩ = some (.int .u64 (x.2 : Int))) ∧ V.cell? ⟨w.heap.size, 0, none⟩ = some (.int .u16 (d.1 : Int)) ∧ V.cell? ⟨w.heap.size, 1, none⟩ = some (.int .u64 (d.2 : Int))) := fun V hV =>
        ⟨hcx V (HW.out.trans (hV.mono HW.out.size)), HD.out V (HW.out.trans (hV.mono HW.out.size))⟩
      clear hcx
      obtain ⟨⟨d1, d2⟩, d3, d4⟩ := HC.out wr (Below.refl _ _)
      go_wp2_with fail
      go_region_held3 (fun V => (V.cell? (ad.add (k * 2)) = some (.int .u16 (x.1 : Int)) ∧ V.cell? ⟨(ad.add (k * 2)).block, (ad.add (k * 2)).off + 1, none⟩ = some (.int .u64 (x.2 : Int))) ∧ V.cell? ⟨w.heap.size, 0, none⟩ = some (.int .u16 (d.1 : Int)) ∧ V.cell? ⟨w.heap.size, 1, none⟩ = some (.int .u64 (d.2 : Int))) (first | exact ⟨⟨d1, d2⟩, d3, d4⟩ | assumption | exact HC.out _ (by (repeat (first | exact Below.refl _ _ | assumption | apply bel_drew)))) (first
        | (go_at_call 39; (with_reducible refine (rcmp_later wr _ x d ?_).mono ?_); (repeat (first | exact Below.refl _ _ | assumption | apply bel_drew)); rintro e V ⟨rfl, bv⟩; have hcV := HC.out V bv))
      all_goals
        have HV : Hid (Below w1.heap.size w1 V) := HW.out.trans (bv.mono HW.out.size)
        have HOV := Lib.hid (own_kept HO.out bv)
        obtain ⟨⟨v1, v2⟩, _⟩ := hcV
        clear bv d1 d2 d3 d4
        rw [cmp_neg]
        cases ha : aheadD x d with
        | true =>
          rw [ha] at HN
          have HLO : Hid (m + 1 ≤ 8796093022208) := Lib.hid (by omega)
          have HWA : Hid (Below w1.heap.size w1 (V.alloc (.cells #[.int .u16 (x.1 : Int), .int .u64 (x.2 : Int)] 37))) := bel_alloc _ HV.out
          have HS : Hid (f (k + 1) = f k ++ [x]) := Lib.hid (by rw [HFE.out, HFE.out]; exact HN.out.trans (by rw [if_pos rfl]))
          clear ha
          go_wp2_with (at_builtin; refine wpList_any rfl (.tmp 21) (.tmp 26) rfl rfl _ w1.heap.size m (.slice A m c) (f k) (some ⟨V.heap.size, 0, none⟩) [x] 1 1 rfl rfl (HOV.out.alloc _) (fun h => by cases h) (lies_one V x) rfl HLO.out HWA.out.size ?_; intro A3 c3 V3 ho3 hg3; have HR := Lib.hid (p_rel hlt HS.out (by rw [List.length_append, HM.out]; rfl) ho3 (any_grown (HOV.out.alloc _) HWA.out hg3)); clear ho3 hg3)
          go_roundw
          case rel => exact HR.out
          case measure => simp [intOf]; omega
        | false =>
          rw [ha] at HN
          have HS : Hid (f (k + 1) = f k) := Lib.hid (by rw [HFE.out, HFE.out]; exact HN.out.trans (by rw [if_neg (by simp), List.append_nil]))
          have HR := Lib.hid (p_rel hlt HS.out HM.out HOV.out HV.out)
          clear ha v1 v2
          go_wp2
          go_roundw
          case rel => exact HR.out
          case measure => simp [intOf]; omega
    · obtain rfl : n = k := by omega
      have HE : Hid (f n = l.filter (fun x => aheadD x d)) := Lib.hid (by rw [HFE.out, List.take_of_length_le (by rw [HL.out]; exact Nat.le_refl _)])
      obtain ⟨d3, d4⟩ := HD.out wr HW.out
      have HLO : Hid (m + 1 ≤ 8796093022208) := Lib.hid (by omega)
      have HWA : Hid (Below w1.heap.size w1 (wr.alloc (.cells #[.int .u16 (d.1 : Int), .int .u64 (d.2 : Int)] 37))) := bel_alloc _ HW.out
      go_wp2_with (at_builtin; refine wpList_any rfl (.tmp 28) (.tmp 30) rfl rfl _ w1.heap.size m (.slice A m c) (f n) (some ⟨wr.heap.size, 0, none⟩) [d] 1 1 rfl rfl (HO.out.alloc _) (fun h => by cases h) (lies_one wr d) rfl HLO.out HWA.out.size ?_; intro A3 c3 V3 ho3 hg3; have HO3 := Lib.hid ho3; have HW3 := Lib.hid (any_grown (HO.out.alloc _) HWA.out hg3); clear ho3 hg3)
      obtain ⟨g, hg⟩ : ∃ g : Nat → List Dot, g = fun j => l.filter (fun x => aheadD x d) ++ [d] ++ (l.take j).filter (fun x => aheadD d x) := ⟨_, rfl⟩
      have HGE : Hid (∀ j, g j = l.filter (fun x => aheadD x d) ++ [d] ++ (l.take j).filter (fun x => aheadD d x)) := Lib.hid (fun j => by rw [hg])
      have HG : Hid (∀ j, (g j).length ≤ n + 1) := Lib.hid (fun j => by
        have h1 := put_length l d
        have h2 : ((l.take j).filter (fun x => aheadD d x)).length ≤ (l.filter (fun x => aheadD d x)).length := ((List.take_sublist j l).filter _).length_le
        rw [HL.out] at h1
        rw [HGE.out]
        unfold putD at h1
        simp only [List.length_append] at h1 ⊢
        omega)
      clear hg d3 d4 HLO
      have HS0 : Hid (g 0 = f n ++ [d]) := Lib.hid (by rw [HGE.out, HE.out]; simp)
      have HM0 : Hid ((f n ++ [d]).length = m + 1) := Lib.hid (by rw [List.length_append, HM.out]; rfl)
      clear hmk HF HFE HM HO HW HWA HE hlt hk
      generalize f n = fk at HS0 HM0 HO3
      go_loopw [5, 7] (fun v i wr => PRel w1 n g v i wr) (fun _ i _ => n - (intOf i).toNat)
      case atStart => exact ⟨0, m + 1, A3, c3, Nat.zero_le _, rfl, rfl, by rw [HS0.out]; exact HM0.out, by rw [HS0.out]; exact HO3.out, HW3.out⟩
      case round =>
        clear HS0 HM0 HO3 HW3
        obtain ⟨k, m, A, c, hk, rfl, rfl, hm, ho, hw⟩ := hrel
        have hmk : m ≤ n + 1 := by rw [← hm]; exact HG.out k
        have HM := Lib.hid hm
        have HO := Lib.hid ho
        have HW := Lib.hid hw
        clear hm ho hw
        by_cases hlt : k < n
        · obtain ⟨ad, x, rfl, hB, hlx, hx1, hx2, hcx⟩ := H1.out.cells (k := k) (by rw [HL.out]; exact hlt)
          have HN := Lib.hid (filter_next (fun x => aheadD d x) hlx)
          clear hlx
          have HC : Hid (∀ V, Below wr.heap.size wr V → (V.cell? (ad.add (k * 2)) = some (.int .u16 (x.1 : Int)) ∧ V.cell? ⟨(ad.add (k * 2)).block, (ad.add (k * 2)).off + 1, none⟩ = some (.int .u64 (x.2 : Int))) ∧ V.cell? ⟨w.heap.size, 0, none⟩ = some (.int .u16 (d.1 : Int)) ∧ V.cell? ⟨w.heap.size, 1, none⟩ = some (.int .u64 (d.2 : Int))) := fun V hV =>
            ⟨hcx V (HW.out.trans (hV.mono HW.out.size)), HD.out V (HW.out.trans (hV.mono HW.out.size))⟩
          clear hcx
          obtain ⟨⟨d1, d2⟩, d3, d4⟩ := HC.out wr (Below.refl _ _)
          go_wp2_with fail
          go_region_held3 (fun V => (V.cell? (ad.add (k * 2)) = some (.int .u16 (x.1 : Int)) ∧ V.cell? ⟨(ad.add (k * 2)).block, (ad.add (k * 2)).off + 1, none⟩ = some (.int .u64 (x.2 : Int))) ∧ V.cell? ⟨w.heap.size, 0, none⟩ = some (.int .u16 (d.1 : Int)) ∧ V.cell? ⟨w.heap.size, 1, none⟩ = some (.int .u64 (d.2 : Int))) (first | exact ⟨⟨d1, d2⟩, d3, d4⟩ | assumption | exact HC.out _ (by (repeat (first | exact Below.refl _ _ | assumption | apply bel_drew)))) (first
            | (go_at_call 39; (with_reducible refine (rcmp_later wr _ x d ?_).mono ?_); (repeat (first | exact Below.refl _ _ | assumption | apply bel_drew)); rintro e V ⟨rfl, bv⟩; have hcV := HC.out V bv))
          all_goals
            have HV : Hid (Below w1.heap.size w1 V) := HW.out.trans (bv.mono HW.out.size)
            have HOV := Lib.hid (own_kept HO.out bv)
            obtain ⟨⟨v1, v2⟩, _⟩ := hcV
            clear bv d1 d2 d3 d4
            rw [cmp_pos]
            cases ha : aheadD d x with
            | true =>
              rw [ha] at HN
              have HLO : Hid (m + 1 ≤ 8796093022208) := Lib.hid (by omega)
              have HWA : Hid (Below w1.heap.size w1 (V.alloc (.cells #[.int .u16 (x.1 : Int), .int .u64 (x.2 : Int)] 37))) := bel_alloc _ HV.out
              have HS : Hid (g (k + 1) = g k ++ [x]) := Lib.hid (by rw [HGE.out, HGE.out, List.append_assoc _ _ [x]]; exact congrArg _ (HN.out.trans (by rw [if_pos rfl])))
              clear ha
              go_wp2_with (at_builtin; refine wpList_any rfl (.tmp 45) (.tmp 50) rfl rfl _ w1.heap.size m (.slice A m c) (g k) (some ⟨V.heap.size, 0, none⟩) [x] 1 1 rfl rfl (HOV.out.alloc _) (fun h => by cases h) (lies_one V x) rfl HLO.out HWA.out.size ?_; intro A3 c3 V3 ho3 hg3; have HR := Lib.hid (p_rel hlt HS.out (by rw [List.length_append, HM.out]; rfl) ho3 (any_grown (HOV.out.alloc _) HWA.out hg3)); clear ho3 hg3)
              go_roundw
              case rel => exact HR.out
              case measure => simp [intOf]; omega
            | false =>
              rw [ha] at HN
              have HS : Hid (g (k + 1) = g k) := Lib.hid (by rw [HGE.out, HGE.out]; exact congrArg _ (HN.out.trans (by rw [if_neg (by simp), List.append_nil])))
              have HR := Lib.hid (p_rel hlt HS.out HM.out HOV.out HV.out)
              clear ha v1 v2
              go_wp2
              go_roundw
              case rel => exact HR.out
              case measure => simp [intOf]; omega
        · obtain rfl : n = k := by omega
          have HE2 : Hid (g n = putD l d) := Lib.hid (by rw [HGE.out, List.take_of_length_le (by rw [HL.out]; exact Nat.le_refl _)]; rfl)
          have HWE : Hid (Below w.heap.size w wr) := HB1.out.trans (HW.out.mono HB1.out.size)
          rw [HE2.out] at HM HO
          go_wp2
          go_ret
          exact ⟨A, m, c, rfl, HM.out, own_less HO.out HB1.out.size, HWE.out⟩
end Go.Proofs.Ytblgbbpbhcaodaa.Dt

/- The contract of the document's Sort of layer dot. For every list of at most 2^42 dots. -/
namespace Go.Proofs.Ytblgbbpbhcaodaa.Dt
open Go.ChangeShapes Go.WideShapes Go.ChangeAt Go.RowKit
set_option linter.unusedVariables false

theorem sort_next {l : List Dot} {k : Nat} {x : Dot} (h : l[k]? = some x) : sortD (l.take (k + 1)) = putD (sortD (l.take k)) x := by
  unfold sortD
  rw [take_next h, List.foldl_append]; rfl
theorem sort_fit (l : List Dot) (h : Fit l) (k : Nat) : Fit (sortD (l.take k)) ∧ (sortD (l.take k)).length ≤ k := by
  induction k with
  | zero => exact ⟨fun r hr => (by cases hr), Nat.le_refl _⟩
  | succ k ih =>
    by_cases hk : k < l.length
    · have hg := List.getElem?_eq_getElem hk
      rw [sort_next hg]
      exact ⟨fit_put ih.1 (h _ (List.getElem_mem hk)), Nat.le_trans (put_length _ _) (by omega)⟩
    · have e : l.take (k + 1) = l.take k := by rw [List.take_of_length_le (by omega), List.take_of_length_le (by omega)]
      rw [e]
      exact ⟨ih.1, by omega⟩
/-! The document's list of a list: its dots, each once, in order. Plain arithmetic. -/
theorem ahead_trans {a b c : Dot} (h1 : aheadD a b = true) (h2 : aheadD b c = true) : aheadD a c = true := by
  rw [ahead_iff] at *; omega
theorem ahead_not {a b : Dot} (h1 : aheadD a b = true) : aheadD b a = false := by
  cases h : aheadD b a with
  | false => rfl
  | true => rw [ahead_iff] at *; omega
theorem ahead_irr (a : Dot) : aheadD a a = false := by
  cases h : aheadD a a with
  | false => rfl
  | true => rw [ahead_iff] at h; omega
theorem ahead_all {a b : Dot} (h1 : aheadD a b = false) (h2 : a ≠ b) : aheadD b a = true := by
  rw [ahead_iff]
  have h3 : ¬ (a.1 < b.1 ∨ (a.1 = b.1 ∧ a.2 < b.2)) := fun h' => by rw [(ahead_iff a b).2 h'] at h1; exact absurd h1 (by simp)
  have h4 : ¬ (a.1 = b.1 ∧ a.2 = b.2) := fun h' => h2 (Prod.ext h'.1 h'.2)
  omega
/-- each one ahead of all behind it. -/
def Ord (l : List Dot) : Prop := l.Pairwise (fun a b => aheadD a b = true)
theorem put_mem (l : List Dot) (d x : Dot) : x ∈ putD l d ↔ x = d ∨ x ∈ l := by
  unfold putD
  simp only [List.mem_append, List.mem_filter, List.mem_singleton]
  constructor
  · rintro ((h | h) | h)
    · exact .inr h.1
    · exact .inl h
    · exact .inr h.1
  · rintro (h | h)
    · exact .inl (.inr h)
    · by_cases h1 : aheadD x d = true
      · exact .inl (.inl ⟨h, h1⟩)
      · by_cases h2 : x = d
        · exact .inl (.inr h2)
        · exact .inr ⟨h, ahead_all (by simpa using h1) h2⟩
theorem put_ord {l : List Dot} (d : Dot) (h : Ord l) : Ord (putD l d) := by
  unfold putD Ord
  rw [List.pairwise_append, List.pairwise_append]
  refine ⟨⟨h.filter _, List.pairwise_singleton _ _, ?_⟩, h.filter _, ?_⟩
  · intro a ha b hb
    rw [List.mem_singleton.1 hb]
    exact (List.mem_filter.1 ha).2
  · intro a ha b hb
    have hb2 := (List.mem_filter.1 hb).2
    rcases List.mem_append.1 ha with ha | ha
    · exact ahead_trans (List.mem_filter.1 ha).2 hb2
    · rw [List.mem_singleton.1 ha]; exact hb2
theorem sort_from (l m : List Dot) (h : Ord m) : Ord (l.foldl putD m) ∧ ∀ x, x ∈ l.foldl putD m ↔ x ∈ m ∨ x ∈ l := by
  induction l generalizing m with
  | nil => exact ⟨h, fun x => by simp⟩
  | cons d l ih =>
    obtain ⟨h1, h2⟩ := ih (putD m d) (put_ord d h)
    refine ⟨h1, fun x => ?_⟩
    rw [List.foldl_cons, h2, put_mem, List.mem_cons]
    constructor
    · rintro ((h | h) | h)
      · exact .inr (.inl h)
      · exact .inl h
      · exact .inr (.inr h)
    · rintro (h | h | h)
      · exact .inl (.inr h)
      · exact .inl (.inl h)
      · exact .inr h
theorem sort_ord (l : List Dot) : Ord (sortD l) := (sort_from l [] List.Pairwise.nil).1
theorem sort_mem (l : List Dot) (x : Dot) : x ∈ sortD l ↔ x ∈ l := by rw [show sortD l = l.foldl putD [] from rfl, (sort_from l [] List.Pairwise.nil).2]; simp
/-- two lists in order with the same dots are the same. -/
theorem ord_uniq {l m : List Dot} (hl : Ord l) (hm : Ord m) (h : ∀ x, x ∈ l ↔ x ∈ m) : l = m := by
  induction l generalizing m with
  | nil =>
    cases m with
    | nil => rfl
    | cons b m => exact absurd ((h b).2 (List.mem_cons_self ..)) (by simp)
  | cons a l ih =>
    cases m with
    | nil => exact absurd ((h a).1 (List.mem_cons_self ..)) (by simp)
    | cons b m =>
      obtain ⟨hl1, hl2⟩ := List.pairwise_cons.1 hl
      obtain ⟨hm1, hm2⟩ := List.pairwise_cons.1 hm
      have hab : a = b := by
        rcases List.mem_cons.1 ((h a).1 (List.mem_cons_self ..)) with h1 | h1
        · exact h1
        · rcases List.mem_cons.1 ((h b).2 (List.mem_cons_self ..)) with h2 | h2
          · exact h2.symm
          · have h3 := hm1 a h1
            have h4 := hl1 b h2
            rw [ahead_not h3] at h4
            exact absurd h4 (by simp)
      subst hab
      congr 1
      refine ih hl2 hm2 fun x => ?_
      constructor
      · intro hx
        rcases List.mem_cons.1 ((h x).1 (List.mem_cons_of_mem _ hx)) with h1 | h1
        · have h2 := hl1 x hx
          rw [h1, ahead_irr] at h2
          exact absurd h2 (by simp)
        · exact h1
      · intro hx
        rcases List.mem_cons.1 ((h x).2 (List.mem_cons_of_mem _ hx)) with h1 | h1
        · have h2 := hm1 x hx
          rw [h1, ahead_irr] at h2
          exact absurd h2 (by simp)
        · exact h1
theorem sort_uniq {l m : List Dot} (hm : Ord m) (h : ∀ x, x ∈ m ↔ x ∈ l) : m = sortD l :=
  ord_uniq hm (sort_ord l) (fun x => by rw [h, sort_mem])
theorem rise_ord (l : List Dot) : riseB l = true ↔ Ord l := by
  induction l with
  | nil => simp [riseB, Ord]
  | cons a l ih =>
    cases l with
    | nil => simp [riseB, Ord]
    | cons b l =>
      rw [show riseB (a :: b :: l) = (aheadD a b && riseB (b :: l)) from rfl, Bool.and_eq_true, ih]
      unfold Ord
      rw [List.pairwise_cons (a := a)]
      constructor
      · rintro ⟨h1, h2⟩
        refine ⟨fun x hx => ?_, h2⟩
        rcases List.mem_cons.1 hx with rfl | hx
        · exact h1
        · exact ahead_trans h1 ((List.pairwise_cons.1 h2).1 x hx)
      · rintro ⟨h1, h2⟩
        exact ⟨h1 b (List.mem_cons_self ..), h2⟩
/-- a list in order is its own sorting. -/
theorem sort_same {l : List Dot} (h : Ord l) : sortD l = l := (sort_uniq h (fun x => Iff.rfl)).symm

/-! Numbers of dots. -/
def numD (d : Dot) : Nat := d.1 * 281474976710656 + d.2 % 281474976710656
theorem num_order {a b : Dot} (ha : mayD a = true) (hb : mayD b = true) : numD a < numD b ↔ aheadD a b = true := by
  rw [may_iff] at ha hb
  rw [ahead_iff]
  unfold numD
  omega
theorem num_one {a b : Dot} (ha : mayD a = true) (hb : mayD b = true) : numD a = numD b ↔ a = b := by
  rw [may_iff] at ha hb
  constructor
  · intro h
    unfold numD at h
    exact Prod.ext (by omega) (by omega)
  · rintro rfl; rfl
theorem unpack_num {d : Dot} (h : mayD d = true) (h1 : d.1 < 65536) : unpackD (numD d) = (d, true) := by
  have h2 := (may_iff d).1 h
  have e : splitD (numD d) = d := by unfold splitD numD; exact Prod.ext (by show _ / _ = _; omega) (by show _ % _ = _; omega)
  unfold unpackD
  rw [e, if_pos h]
end Go.Proofs.Ytblgbbpbhcaodaa.Dt

/- Dots and contexts as bytes, and what a reader makes of any bytes. Plain: nothing is asked of a program. -/
namespace Go.Proofs.Ytblgbbpbhcaodaa.Dc
open Go.ChangeShapes Go.WideShapes Go.ChangeAt Go.RowKit
set_option linter.unusedVariables false

abbrev Dot := Dt.Dot
/-- numbers that fit 64 bits. -/
abbrev big : Nat := 18446744073709551616

/-! ### Written -/
def dotB (d : Dot) : List Nat := Nu.enc d.1 ++ Nu.enc d.2
/-- of any dots those that may be, in order, each once. -/
def someD (l : List Dot) : List Dot := Dt.sortD (l.filter Dt.mayD)
def dotsB (l : List Dot) : List Nat := Nu.enc l.length ++ l.flatMap dotB
theorem dotB_small (d : Dot) : Nu.Small (dotB d) := Nu.small_append (Nu.enc_small _) (Nu.enc_small _)
theorem small_flat {α : Type} {f : α → List Nat} (h : ∀ x, Nu.Small (f x)) (l : List α) : Nu.Small (l.flatMap f) := fun x hx => by
  obtain ⟨y, _, h2⟩ := List.mem_flatMap.1 hx
  exact h y x h2
theorem dotsB_small (l : List Dot) : Nu.Small (dotsB l) := Nu.small_append (Nu.enc_small _) (small_flat dotB_small l)
theorem enc_le (v : Nat) : (Nu.enc v).length ≤ 9 := by rw [Nu.enc_length]; have := Nu.blen_le v; omega
theorem flat_le {α : Type} {f : α → List Nat} {k : Nat} (h : ∀ x, (f x).length ≤ k) (l : List α) : (l.flatMap f).length ≤ l.length * k := by
  induction l with
  | nil => simp
  | cons x l ih =>
    have := h x
    rw [List.flatMap_cons, List.length_append, List.length_cons, Nat.add_mul]
    omega
theorem dotB_le (d : Dot) : (dotB d).length ≤ 18 := by unfold dotB; rw [List.length_append]; have := enc_le d.1; have := enc_le d.2; omega
theorem flat_snoc {α : Type} {f : α → List Nat} {l : List α} {k : Nat} {x : α} (h : l[k]? = some x) : (l.take (k + 1)).flatMap f = (l.take k).flatMap f ++ f x := by
  rw [List.take_add_one, h, List.flatMap_append]
  simp

/-! ### Read -/
/-- what is left to a reader, and the first error. -/
abbrev St := List Nat × Nat
def numN (s : St) : Nat := Nu.numV s.1
def numS (s : St) : St := (Nu.numL s.1, Nu.stopE s.2 (Nu.numE s.1))
def uptoN (m : Nat) (s : St) : Nat := Nu.uptoV m s.1
def uptoS (m : Nat) (s : St) : St := (Nu.uptoL m s.1, Nu.uptoE m s.1 s.2)
def failS (f : Nat) (s : St) : St := ([], Nu.stopE s.2 f)
/-- with an error nothing is left. -/
def Sound (s : St) : Prop := s.2 ≠ 0 → s.1 = []
theorem stop_ne {e f : Nat} (h : f ≠ 0) : Nu.stopE e f ≠ 0 := by
  unfold Nu.stopE; split
  · exact h
  · assumption
theorem stop_nz {e f : Nat} (h : e ≠ 0) : Nu.stopE e f = e := Nu.stop_some h f
theorem stop_iff {e f : Nat} : Nu.stopE e f = 0 ↔ e = 0 ∧ f = 0 := by
  unfold Nu.stopE; split <;> omega
theorem fail_sound (f : Nat) (s : St) : Sound (failS f s) := fun _ => rfl
theorem num_sound {s : St} (h : Sound s) : Sound (numS s) := fun hn => by
  show Nu.numL s.1 = []
  by_cases he : s.2 = 0
  · have h2 : Nu.numE s.1 ≠ 0 := fun e => hn (stop_iff.2 ⟨he, e⟩)
    exact (Nu.numL_bad h2).1
  · rw [h he]; rfl
theorem upto_sound {m : Nat} {s : St} (h : Sound s) : Sound (uptoS m s) := fun hn => by
  show Nu.uptoL m s.1 = []
  unfold Nu.uptoL
  by_cases hm : m < Nu.numV s.1
  · rw [if_pos hm]
  · rw [if_neg hm]
    have h2 : (uptoS m s).2 = (numS s).2 := by show Nu.uptoE m s.1 s.2 = _; unfold Nu.uptoE; rw [if_neg hm]; rfl
    rw [h2] at hn
    exact num_sound h hn
theorem small_numL {l : List Nat} (h : Nu.Small l) : Nu.Small (Nu.numL l) := by
  cases l with
  | nil => exact h
  | cons x r =>
    rw [Nu.numL_cons]
    split
    · exact Nu.small_drop (fun y hy => h y (List.mem_cons_of_mem _ hy)) x
    · intro y hy; cases hy
theorem num_small {s : St} (h : Nu.Small s.1) : Nu.Small (numS s).1 := small_numL h
theorem upto_small {m : Nat} {s : St} (h : Nu.Small s.1) : Nu.Small (uptoS m s).1 := by
  show Nu.Small (Nu.uptoL m s.1)
  unfold Nu.uptoL
  split
  · intro y hy; cases hy
  · exact small_numL h
theorem num_shorter (l : List Nat) : (Nu.numL l).length ≤ l.length ∧ (Nu.numE l = 0 → (Nu.numL l).length < l.length) := by
  cases l with
  | nil => exact ⟨Nat.le_refl _, fun h => by cases h⟩
  | cons x r =>
    rw [Nu.numL_cons]
    split
    · rw [List.length_drop, List.length_cons]; exact ⟨by omega, fun _ => by omega⟩
    · rw [List.length_nil, List.length_cons]; exact ⟨by omega, fun _ => by omega⟩
theorem numS_len (s : St) : (numS s).1.length ≤ s.1.length := (num_shorter s.1).1
theorem numS_ok {s : St} (h : (numS s).2 = 0) : s.2 = 0 ∧ Nu.numE s.1 = 0 ∧ (numS s).1.length < s.1.length := by
  have h1 := stop_iff.1 h
  exact ⟨h1.1, h1.2, (num_shorter s.1).2 h1.2⟩
theorem uptoS_len (m : Nat) (s : St) : (uptoS m s).1.length ≤ s.1.length := by
  show (Nu.uptoL m s.1).length ≤ _
  unfold Nu.uptoL
  split
  · simp
  · exact (num_shorter s.1).1
theorem uptoS_ok {m : Nat} {s : St} (h : (uptoS m s).2 = 0) : s.2 = 0 ∧ Nu.numV s.1 ≤ m ∧ uptoS m s = numS s ∧ uptoN m s = numN s := by
  have hm : ¬ m < Nu.numV s.1 := fun hm => by
    have h2 : (uptoS m s).2 = Nu.stopE (Nu.stopE s.2 (Nu.numE s.1)) 4 := by show Nu.uptoE m s.1 s.2 = _; unfold Nu.uptoE; rw [if_pos hm]
    rw [h2] at h
    exact stop_ne (by decide) h
  have e1 : uptoS m s = numS s := by
    show (Nu.uptoL m s.1, Nu.uptoE m s.1 s.2) = _
    unfold Nu.uptoL Nu.uptoE
    rw [if_neg hm, if_neg hm]
    rfl
  refine ⟨?_, by omega, e1, ?_⟩
  · rw [e1] at h; exact (numS_ok h).1
  · show Nu.uptoV m s.1 = _
    unfold Nu.uptoV
    rw [if_neg hm]; rfl
theorem uptoN_le (m : Nat) (s : St) : uptoN m s ≤ m := by
  show Nu.uptoV m s.1 ≤ m
  unfold Nu.uptoV
  split <;> omega
/-- a number stands there in its only form. -/
theorem num_in {l : List Nat} (hs : Nu.Small l) (h : Nu.numE l = 0) : l = Nu.enc (Nu.numV l) ++ Nu.numL l ∧ Nu.numV l < big := by
  refine ⟨?_, Nu.numV_lt hs⟩
  cases l with
  | nil => cases h
  | cons x r =>
    rw [Nu.numE_cons] at h
    by_cases hf : Nu.form x r = true
    · rw [if_pos hf] at h
      by_cases hl : x ≤ r.length
      · rw [Nu.numV_cons, Nu.numL_cons, if_pos ⟨hf, hl⟩, if_pos ⟨hf, hl⟩]
        obtain ⟨h8, hz⟩ := Nu.form_true hf
        have hst : Nu.Small (r.take x) := Nu.small_take (fun z hz => hs z (List.mem_cons_of_mem _ hz)) x
        obtain ⟨e1, _⟩ := Nu.enc_val (n := x) (t := r.take x) h8 (by rw [List.length_take]; omega) hst (fun z hz' => by
          rcases hz with h | h
          · subst h; simp at hz'
          · intro h'; subst h'
            apply h
            rw [List.getElem?_take] at hz'
            split at hz'
            · exact hz'
            · cases hz')
        rw [e1, List.cons_append, List.take_append_drop]
      · rw [if_neg hl] at h; cases h
    · rw [if_neg hf] at h; cases h
theorem numS_in {s : St} (hs : Nu.Small s.1) (h : (numS s).2 = 0) : s.1 = Nu.enc (numN s) ++ (numS s).1 ∧ numN s < big := num_in hs (numS_ok h).2.1
/-- what was written is read. -/
theorem num_back {v : Nat} (hv : v < big) (r : List Nat) : Nu.numV (Nu.enc v ++ r) = v ∧ Nu.numL (Nu.enc v ++ r) = r ∧ Nu.numE (Nu.enc v ++ r) = 0 := by
  have ht : (Nu.dig (Nu.blen v) v ++ r).take (Nu.blen v) = Nu.dig (Nu.blen v) v := by
    have := List.take_left (l₁ := Nu.dig (Nu.blen v) v) (l₂ := r)
    rwa [Nu.dig_length] at this
  have hd : (Nu.dig (Nu.blen v) v ++ r).drop (Nu.blen v) = r := by
    have := List.drop_left (l₁ := Nu.dig (Nu.blen v) v) (l₂ := r)
    rwa [Nu.dig_length] at this
  have hf : Nu.form (Nu.blen v) (Nu.dig (Nu.blen v) v ++ r) = true := by
    refine decide_eq_true ⟨Nu.blen_le v, ?_⟩
    cases hb : Nu.blen v with
    | zero => exact .inl rfl
    | succ b =>
      have hh := Nu.dig_head hv hb
      exact .inr (by simpa [Nu.dig] using hh)
  have hl : Nu.blen v ≤ (Nu.dig (Nu.blen v) v ++ r).length := by rw [List.length_append, Nu.dig_length]; omega
  have e : Nu.enc v ++ r = Nu.blen v :: (Nu.dig (Nu.blen v) v ++ r) := rfl
  rw [e, Nu.numV_cons, Nu.numL_cons, Nu.numE_cons, if_pos ⟨hf, hl⟩, if_pos ⟨hf, hl⟩, if_pos hf, if_pos hl, ht, hd]
  exact ⟨Nu.val_enc hv, rfl, rfl⟩
theorem numS_back {v : Nat} (hv : v < big) (r : List Nat) : numN (Nu.enc v ++ r, 0) = v ∧ numS (Nu.enc v ++ r, 0) = (r, 0) := by
  obtain ⟨h1, h2, h3⟩ := num_back hv r
  refine ⟨h1, ?_⟩
  show (Nu.numL (Nu.enc v ++ r), Nu.stopE 0 (Nu.numE (Nu.enc v ++ r))) = _
  rw [h2, h3]; rfl
theorem uptoS_back {m v : Nat} (hv : v < big) (hm : v ≤ m) (r : List Nat) : uptoN m (Nu.enc v ++ r, 0) = v ∧ uptoS m (Nu.enc v ++ r, 0) = (r, 0) := by
  obtain ⟨h1, h2, h3⟩ := num_back hv r
  have hn : ¬ m < Nu.numV (Nu.enc v ++ r) := by rw [h1]; omega
  refine ⟨?_, ?_⟩
  · show Nu.uptoV m (Nu.enc v ++ r) = v
    unfold Nu.uptoV
    rw [if_neg hn]; exact h1
  · show (Nu.uptoL m (Nu.enc v ++ r), Nu.uptoE m (Nu.enc v ++ r) 0) = _
    unfold Nu.uptoL Nu.uptoE
    rw [if_neg hn, if_neg hn, h2, h3]; rfl

/-! ### Dots -/
/-- the dot whose numbers stand there. -/
def dotN (s : St) : Dot := (uptoN 65535 s, numN (uptoS 65535 s))
def dotS (s : St) : St := numS (uptoS 65535 s)
def dotR (s : St) : Dot × St := if (dotS s).2 = 0 ∧ Dt.mayD (dotN s) = true then (dotN s, dotS s) else ((0, 0), failS 4 (dotS s))
theorem dotS_sound {s : St} (h : Sound s) : Sound (dotS s) := num_sound (upto_sound h)
theorem dotR_sound {s : St} (h : Sound s) : Sound (dotR s).2 := by
  unfold dotR
  split
  · exact dotS_sound h
  · exact fail_sound _ _
theorem dotR_ok {s : St} (h : (dotR s).2.2 = 0) : (dotS s).2 = 0 ∧ Dt.mayD (dotN s) = true ∧ dotR s = (dotN s, dotS s) := by
  unfold dotR at h ⊢
  by_cases hc : (dotS s).2 = 0 ∧ Dt.mayD (dotN s) = true
  · rw [if_pos hc]; exact ⟨hc.1, hc.2, rfl⟩
  · rw [if_neg hc] at h
    exact absurd h (stop_ne (by decide))
theorem dotR_bad {s : St} (h : (dotR s).2.2 ≠ 0) : (dotR s).1 = (0, 0) := by
  unfold dotR at h ⊢
  by_cases hc : (dotS s).2 = 0 ∧ Dt.mayD (dotN s) = true
  · rw [if_pos hc] at h; exact absurd hc.1 h
  · rw [if_neg hc]
theorem dotR_small {s : St} (h : Nu.Small s.1) : Nu.Small (dotR s).2.1 := by
  unfold dotR
  split
  · exact num_small (upto_small h)
  · intro x hx; cases hx
theorem dotN_fit {s : St} (h : Nu.Small s.1) : (dotN s).1 < 65536 ∧ (dotN s).2 < big := ⟨by have := uptoN_le 65535 s; show uptoN 65535 s < 65536; omega, Nu.numV_lt (upto_small h)⟩
theorem dotR_fit {s : St} (h : Nu.Small s.1) : (dotR s).1.1 < 65536 ∧ (dotR s).1.2 < big := by
  unfold dotR
  split
  · exact dotN_fit h
  · exact ⟨show (0 : Nat) < 65536 by decide, show (0 : Nat) < big by decide⟩
theorem dotR_len (s : St) : (dotR s).2.1.length ≤ s.1.length ∧ ((dotR s).2.2 = 0 → (dotR s).2.1.length + 2 ≤ s.1.length) := by
  have h1 := numS_len (uptoS 65535 s)
  have h2 := uptoS_len 65535 s
  refine ⟨?_, fun h => ?_⟩
  · unfold dotR
    split
    · show (numS (uptoS 65535 s)).1.length ≤ _; omega
    · show ([] : List Nat).length ≤ _; simp
  · obtain ⟨g1, _, g3⟩ := dotR_ok h
    rw [g3]
    have k1 := numS_ok g1
    have k2 := uptoS_ok k1.1
    have k3 := k2.2.2.1 ▸ k1.1
    have k4 := numS_ok k3
    rw [k2.2.2.1] at k1
    show (numS (uptoS 65535 s)).1.length + 2 ≤ _
    rw [k2.2.2.1]
    omega
theorem dot_back {d : Dot} (hm : Dt.mayD d = true) (hd : d.1 < 65536) (hn : d.2 < big) (r : List Nat) : dotR (dotB d ++ r, 0) = (d, (r, 0)) := by
  have e : dotB d ++ r = Nu.enc d.1 ++ (Nu.enc d.2 ++ r) := by unfold dotB; rw [List.append_assoc]
  have hb1 : d.1 < big := by show d.1 < 18446744073709551616; omega
  obtain ⟨h1, h2⟩ := uptoS_back (m := 65535) hb1 (by omega) (Nu.enc d.2 ++ r)
  obtain ⟨h3, h4⟩ := numS_back hn r
  have hN : dotN (dotB d ++ r, 0) = d := by
    unfold dotN
    rw [e, h1, h2, h3]
  have hS : dotS (dotB d ++ r, 0) = (r, 0) := by
    unfold dotS
    rw [e, h2, h4]
  unfold dotR
  rw [hN, hS, if_pos ⟨rfl, hm⟩]
theorem dot_in {s : St} (hs : Nu.Small s.1) (h : (dotR s).2.2 = 0) : s.2 = 0 ∧ s.1 = dotB (dotR s).1 ++ (dotR s).2.1 ∧ Dt.mayD (dotR s).1 = true := by
  obtain ⟨h1, h2, h3⟩ := dotR_ok h
  have h4 := numS_ok h1
  have h5 := uptoS_ok h4.1
  have h6 := h5.2.2.1 ▸ h4.1
  obtain ⟨a1, _⟩ := numS_in hs h6
  obtain ⟨b1, _⟩ := numS_in (upto_small (m := 65535) hs) h1
  rw [h3]
  refine ⟨h5.1, ?_, h2⟩
  show s.1 = (Nu.enc (uptoN 65535 s) ++ Nu.enc (numN (uptoS 65535 s))) ++ (numS (uptoS 65535 s)).1
  rw [List.append_assoc, ← b1, h5.2.2.1, h5.2.2.2]
  exact a1

/-- does a dot stand behind the last one? -/
def stepsB (o : List Dot) (d : Dot) : Bool := match o.getLast? with | none => true | some x => Dt.aheadD x d
def dotsS (o : List Dot) (s : St) : St := if (dotR s).2.2 = 0 ∧ stepsB o (dotR s).1 = false then failS 4 (dotR s).2 else (dotR s).2
def dotsL : Nat → List Dot → St → List Dot × St
  | 0, o, s => (o, s)
  | k + 1, o, s => if s.2 = 0 then dotsL k (o ++ [(dotR s).1]) (dotsS o s) else (o, s)
def dotsF (most : Nat) (s : St) : St := if most < numN s then failS 3 (numS s) else numS s
def dotsR (most : Nat) (s : St) : List Dot × St := if (dotsL (numN s) [] (dotsF most s)).2.2 = 0 then dotsL (numN s) [] (dotsF most s) else ([], (dotsL (numN s) [] (dotsF most s)).2)
theorem dotsS_sound {o : List Dot} {s : St} (h : Sound s) : Sound (dotsS o s) := by
  unfold dotsS
  split
  · exact fail_sound _ _
  · exact dotR_sound h
theorem dotsF_sound {most : Nat} {s : St} (h : Sound s) : Sound (dotsF most s) := by
  unfold dotsF
  split
  · exact fail_sound _ _
  · exact num_sound h
theorem dotsL_bad {k : Nat} {o : List Dot} {s : St} (h : s.2 ≠ 0) : dotsL k o s = (o, s) := by
  cases k with
  | zero => rfl
  | succ k => unfold dotsL; rw [if_neg h]
theorem dotsL_sound : ∀ (k : Nat) (o : List Dot) (s : St), Sound s → Sound (dotsL k o s).2
  | 0, o, s, h => h
  | k + 1, o, s, h => by
    unfold dotsL
    split
    · exact dotsL_sound k _ _ (dotsS_sound h)
    · exact h
theorem dots_loop : ∀ (q o : List Dot) (r : List Nat), (∀ x ∈ q, Dt.mayD x = true ∧ x.1 < 65536 ∧ x.2 < big) → Dt.Ord (o ++ q) → dotsL q.length o (q.flatMap dotB ++ r, 0) = (o ++ q, (r, 0))
  | [], o, r, _, _ => by simp [dotsL]
  | d :: q, o, r, hq, ho => by
    have hd := hq d (List.mem_cons_self ..)
    have e : (d :: q).flatMap dotB ++ r = dotB d ++ (q.flatMap dotB ++ r) := by rw [List.flatMap_cons, List.append_assoc]
    have hr := dot_back hd.1 hd.2.1 hd.2.2 (q.flatMap dotB ++ r)
    have hs : stepsB o d = true := by
      unfold stepsB
      cases hg : o.getLast? with
      | none => rfl
      | some x =>
        have hx : x ∈ o := List.mem_of_getLast? hg
        have h2 := (List.pairwise_append.1 ho).2.2 x hx d (List.mem_cons_self ..)
        exact h2
    show dotsL (q.length + 1) o _ = _
    unfold dotsL
    rw [e, if_pos rfl]
    unfold dotsS
    rw [hr, hs]
    simp only [Bool.true_eq_false, and_false, if_false]
    have ih := dots_loop q (o ++ [d]) r (fun x hx => hq x (List.mem_cons_of_mem _ hx)) (by rw [List.append_assoc]; exact ho)
    rw [ih, List.append_assoc]
    rfl
theorem dots_back {l : List Dot} {most : Nat} (hl : ∀ x ∈ l, Dt.mayD x = true ∧ x.1 < 65536 ∧ x.2 < big) (ho : Dt.Ord l) (hm : l.length ≤ most) (hb : l.length < big) (r : List Nat) : dotsR most (dotsB l ++ r, 0) = (l, (r, 0)) := by
  have e : dotsB l ++ r = Nu.enc l.length ++ (l.flatMap dotB ++ r) := by unfold dotsB; rw [List.append_assoc]
  obtain ⟨h1, h2⟩ := numS_back hb (l.flatMap dotB ++ r)
  have hF : dotsF most (dotsB l ++ r, 0) = (l.flatMap dotB ++ r, 0) := by
    unfold dotsF
    rw [e, h1, h2, if_neg (by omega)]
  unfold dotsR
  rw [hF, e, h1, dots_loop l [] r hl (by simpa using ho)]
  rfl
theorem some_self {l : List Dot} (hl : ∀ x ∈ l, Dt.mayD x = true) (ho : Dt.Ord l) : someD l = l := by
  unfold someD
  rw [List.filter_eq_self.2 hl, Dt.sort_same ho]

/-! ### Contexts -/
def endN (s : St) : Nat := Nu.endE s.1 s.2
theorem end_nil : endN ([], 0) = 0 := rfl
theorem end_more {l : List Nat} (h : l ≠ []) : endN (l, 0) = 4 := by
  show Nu.endE l 0 = 4
  unfold Nu.endE
  rw [if_neg h]; rfl
theorem end_zero {s : St} (hs : Sound s) (h : endN s = 0) : s = ([], 0) := by
  obtain ⟨l, e⟩ := s
  have h' : Nu.endE l e = 0 := h
  unfold Nu.endE at h'
  by_cases hl : l = []
  · rw [if_pos hl] at h'
    rw [hl, h']
  · rw [if_neg hl] at h'
    exact absurd h' (stop_ne (by decide))
/-! ### How long -/
theorem dotsB_len (l : List Dot) : (dotsB l).length ≤ 9 + l.length * 18 := by
  have h1 := flat_le (f := dotB) (k := 18) dotB_le l
  have h2 := enc_le l.length
  unfold dotsB
  rw [List.length_append]
  omega
theorem some_len (l : List Dot) : (someD l).length ≤ l.length := by
  have h1 : ∀ (l m : List Dot), (l.foldl Dt.putD m).length ≤ m.length + l.length := by
    intro l
    induction l with
    | nil => intro m; simp
    | cons x l ih =>
      intro m
      have h2 := ih (Dt.putD m x)
      have h3 := Dt.put_length m x
      rw [List.foldl_cons, List.length_cons]
      omega
  have h2 := h1 (l.filter Dt.mayD) []
  have h3 : (l.filter Dt.mayD).length ≤ l.length := List.length_filter_le _ _
  unfold someD Dt.sortD
  simp only [List.length_nil, Nat.zero_add] at h2
  omega
end Go.Proofs.Ytblgbbpbhcaodaa.Dc

/- The contracts of the document's Sort and Dots of layer event. For every list of at most 2^40 events (Sort); of at most 30 events with at most 300 kills each (Dots: more would do). -/
namespace Go.Proofs.Ytblgbbpbhcaodaa.Ev
open Go.ChangeShapes Go.WideShapes Go.ChangeAt Go.RowKit
set_option linter.unusedVariables false
set_option maxRecDepth 4000

noncomputable def sortE (l : List Evt) : List Evt := l.foldl putE []
theorem take_one {α : Type} {l : List α} {k : Nat} {x : α} (h : l[k]? = some x) : l.take (k + 1) = l.take k ++ [x] := by rw [List.take_add_one, h]; rfl
theorem sort_next {l : List Evt} {k : Nat} {x : Evt} (h : l[k]? = some x) : sortE (l.take (k + 1)) = putE (sortE (l.take k)) x := by
  unfold sortE
  rw [take_one h, List.foldl_append]; rfl
theorem put_long (l : List Evt) (e : Evt) : (putE l e).length ≤ l.length + 1 := by
  unfold putE
  have h := st_long l e l.length
  split
  · omega
  · split
    · rename_i h1
      rw [if_pos h1] at h
      exact h
    · rename_i h1
      rw [if_neg h1] at h
      rw [List.length_append]
      simp only [List.length_cons, List.length_nil]
      omega
theorem sort_long (l : List Evt) (k : Nat) : (sortE (l.take k)).length ≤ k := by
  induction k with
  | zero => exact Nat.le_refl _
  | succ k ih =>
    rcases Nat.lt_or_ge k l.length with h | h
    · rw [sort_next (List.getElem?_eq_getElem h)]
      have := put_long (sortE (l.take k)) l[k]
      omega
    · rw [List.take_of_length_le (by omega), ← List.take_of_length_le h]
      omega

/-- the dots of an event and all its kills, put. -/
def dotsOne (m : List Dt.Dot) (x : Evt) : List Dt.Dot := x.kills.foldl Dt.putD (Dt.putD m x.dot)
/-- the dots of events, and all their kills. -/
def dotsE (l : List Evt) : List Dt.Dot := l.foldl dotsOne []
def dotsTo (l : List Evt) (k : Nat) : List Dt.Dot := (l.take k).foldl dotsOne []
def killsTo (m : List Dt.Dot) (x : Evt) (j : Nat) : List Dt.Dot := (x.kills.take j).foldl Dt.putD (Dt.putD m x.dot)
theorem dots_next {l : List Evt} {k : Nat} {x : Evt} (h : l[k]? = some x) : dotsTo l (k + 1) = dotsOne (dotsTo l k) x := by
  unfold dotsTo
  rw [take_one h, List.foldl_append]; rfl
theorem kills_next {m : List Dt.Dot} {x : Evt} {j : Nat} {d : Dt.Dot} (h : x.kills[j]? = some d) : killsTo m x (j + 1) = Dt.putD (killsTo m x j) d := by
  unfold killsTo
  rw [take_one h, List.foldl_append]; rfl
theorem kills_all {m : List Dt.Dot} {x : Evt} {n : Nat} (hn : x.kills.length = n) : killsTo m x n = dotsOne m x := by
  unfold killsTo dotsOne
  rw [List.take_of_length_le (by rw [hn]; exact Nat.le_refl _)]
end Go.Proofs.Ytblgbbpbhcaodaa.Ev

/- The document's order of events: each list that Sort answers rises, is its own order, and has of each dot the first event alone. Plain: no program is walked. -/
namespace Go.Proofs.Ytblgbbpbhcaodaa.Ev
open Go.ChangeShapes Go.WideShapes Go.ChangeAt Go.RowKit
set_option linter.unusedVariables false
set_option maxRecDepth 4000

theorem ahead_iff (a b : Dt.Dot) : Dt.aheadD a b = true ↔ a.1 < b.1 ∨ (a.1 = b.1 ∧ a.2 < b.2) := decide_eq_true_iff
theorem ahead_trans {a b c : Dt.Dot} (h1 : Dt.aheadD a b = true) (h2 : Dt.aheadD b c = true) : Dt.aheadD a c = true := by
  rw [ahead_iff] at *
  omega
theorem ahead_total {a b : Dt.Dot} (h : ¬ Dt.aheadD a b = true) (hn : b ≠ a) : Dt.aheadD b a = true := by
  rw [ahead_iff] at *
  have h3 : ¬ (b.1 = a.1 ∧ b.2 = a.2) := fun h => hn (Prod.ext h.1 h.2)
  omega
theorem ahead_not {a b : Dt.Dot} (h : Dt.aheadD a b = true) : ¬ Dt.aheadD b a = true := by
  rw [ahead_iff] at *
  omega
theorem ahead_ne {a b : Dt.Dot} (h : Dt.aheadD a b = true) : a ≠ b := by
  rw [ahead_iff] at h
  intro e
  subst e
  omega
theorem take_all {α : Type} (f : α → Bool) (l : List α) (h : ∀ x ∈ l, f x = true) : l.takeWhile f = l := by
  induction l with
  | nil => rfl
  | cons x l ih => rw [List.takeWhile_cons, h x (List.mem_cons_self ..), if_pos rfl, ih (fun y hy => h y (List.mem_cons_of_mem _ hy))]
theorem drop_all {α : Type} (f : α → Bool) (l : List α) (h : ∀ x ∈ l, f x = true) : l.dropWhile f = [] := by
  induction l with
  | nil => rfl
  | cons x l ih => rw [List.dropWhile_cons, h x (List.mem_cons_self ..), if_pos rfl, ih (fun y hy => h y (List.mem_cons_of_mem _ hy))]
/-- does the new event stand ahead of one? -/
def aft (e : Evt) (x : Evt) : Bool := Dt.aheadD e.dot x.dot
def nft (e : Evt) (x : Evt) : Bool := !aft e x
theorem step_true (e x : Evt) (acc : List Evt) : stepE e (true, acc) x = (true, acc ++ [x]) := by
  unfold stepE
  rw [if_neg (fun h => by cases h.2)]
theorem fold_true (e : Evt) (m acc : List Evt) : m.foldl (stepE e) (true, acc) = (true, acc ++ m) := by
  induction m generalizing acc with
  | nil => simp
  | cons x m ih => rw [List.foldl_cons, step_true, ih, List.append_assoc]; rfl
theorem fold_false (e : Evt) (m acc : List Evt) : m.foldl (stepE e) (false, acc) = if m.any (aft e) = true then (true, acc ++ (m.takeWhile (nft e) ++ e :: m.dropWhile (nft e))) else (false, acc ++ m) := by
  induction m generalizing acc with
  | nil => simp
  | cons x m ih =>
    rw [List.foldl_cons]
    cases hx : aft e x with
    | true =>
      have h1 : stepE e (false, acc) x = (true, acc ++ [e, x]) := by unfold stepE; rw [if_pos ⟨hx, rfl⟩]
      have h2 : nft e x = false := by unfold nft; rw [hx]; rfl
      rw [h1, fold_true, if_pos (by simp [hx])]
      simp [h2]
    | false =>
      have h1 : stepE e (false, acc) x = (false, acc ++ [x]) := by unfold stepE; rw [if_neg (fun h => by have := h.1; unfold aft at hx; rw [hx] at this; cases this)]
      have h2 : nft e x = true := by unfold nft; rw [hx]; rfl
      rw [h1, ih]
      by_cases hm : m.any (aft e) = true
      · rw [if_pos hm, if_pos (by simp [hm, hx])]
        simp [h2]
      · rw [if_neg hm, if_neg (by simp only [List.any_cons, hx, Bool.false_or]; exact hm)]
        simp
/-- an event more, where none has its dot. -/
theorem put_new {l : List Evt} {e : Evt} (h : ∀ x ∈ l, x.dot ≠ e.dot) : putE l e = l.takeWhile (nft e) ++ e :: l.dropWhile (nft e) := by
  have h1 : stE l e l.length = if l.any (aft e) = true then (true, [] ++ (l.takeWhile (nft e) ++ e :: l.dropWhile (nft e))) else (false, [] ++ l) := by
    unfold stE
    rw [List.take_of_length_le (Nat.le_refl _), fold_false]
  unfold putE
  rw [if_neg (fun ⟨x, hx, hd⟩ => h x hx hd), h1]
  by_cases ha : l.any (aft e) = true
  · rw [if_pos ha, if_pos rfl]; rfl
  · rw [if_neg ha, if_neg (by simp)]
    have h2 : ∀ x ∈ l, nft e x = true := fun x hx => by
      unfold nft
      cases hf : aft e x with
      | false => rfl
      | true => exact absurd (List.any_eq_true.2 ⟨x, hx, hf⟩) ha
    have h3 := take_all (nft e) l h2
    have h4 := drop_all (nft e) l h2
    rw [h3, h4]; rfl
/-- events that rise. -/
def OrdE (l : List Evt) : Prop := l.Pairwise fun a b => Dt.aheadD a.dot b.dot = true
theorem put_ord {l : List Evt} (e : Evt) (h : OrdE l) : OrdE (putE l e) := by
  by_cases hd : ∃ x ∈ l, x.dot = e.dot
  · unfold putE
    rw [if_pos hd]
    exact h
  · have hn : ∀ x ∈ l, x.dot ≠ e.dot := fun x hx hxd => hd ⟨x, hx, hxd⟩
    rw [put_new hn]
    have hl := List.takeWhile_append_dropWhile (p := nft e) (l := l)
    have h2 : OrdE (l.takeWhile (nft e) ++ l.dropWhile (nft e)) := by rw [hl]; exact h
    unfold OrdE at h2 ⊢
    rw [List.pairwise_append] at h2 ⊢
    obtain ⟨p1, p2, p3⟩ := h2
    have hb : ∀ b ∈ l.dropWhile (nft e), Dt.aheadD e.dot b.dot = true := by
      intro b hb
      cases hdw : l.dropWhile (nft e) with
      | nil => rw [hdw] at hb; cases hb
      | cons b0 r =>
        have h0 : nft e b0 = false := by
          have := List.head_dropWhile_not (nft e) (l := l) (by rw [hdw]; simp)
          simpa [hdw] using this
        have h1 : Dt.aheadD e.dot b0.dot = true := by unfold nft aft at h0; simpa using h0
        rw [hdw] at hb p2
        rcases List.mem_cons.1 hb with rfl | hb
        · exact h1
        · exact ahead_trans h1 ((List.pairwise_cons.1 p2).1 b hb)
    have ha : ∀ a ∈ l.takeWhile (nft e), Dt.aheadD a.dot e.dot = true := by
      intro a ha
      have h0 : nft e a = true := (List.all_eq_true.1 List.all_takeWhile) a ha
      have h1 : ¬ Dt.aheadD e.dot a.dot = true := by unfold nft aft at h0; simpa using h0
      exact ahead_total h1 (hn a ((List.takeWhile_sublist _).mem ha))
    refine ⟨p1, List.pairwise_cons.2 ⟨hb, p2⟩, fun a ha2 b hb2 => ?_⟩
    rcases List.mem_cons.1 hb2 with rfl | hb2
    · exact ha a ha2
    · exact p3 a ha2 b hb2
theorem sort_ord (l : List Evt) : OrdE (sortE l) := by
  have h : ∀ (m acc : List Evt), OrdE acc → OrdE (m.foldl putE acc) := by
    intro m
    induction m with
    | nil => intro acc h; exact h
    | cons x m ih => intro acc h; exact ih _ (put_ord x h)
  exact h l [] List.Pairwise.nil
theorem put_last {l : List Evt} {e : Evt} (h : ∀ x ∈ l, Dt.aheadD x.dot e.dot = true) : putE l e = l ++ [e] := by
  rw [put_new (fun x hx => ahead_ne (h x hx))]
  have h2 : ∀ x ∈ l, nft e x = true := fun x hx => by
    unfold nft aft
    cases hf : Dt.aheadD e.dot x.dot with
    | false => rfl
    | true => exact absurd hf (ahead_not (h x hx))
  rw [take_all (nft e) l h2, drop_all (nft e) l h2]
/-- what rises is its own order. -/
theorem sort_same {l : List Evt} (h : OrdE l) : sortE l = l := by
  have hk : ∀ k, k ≤ l.length → sortE (l.take k) = l.take k := by
    intro k
    induction k with
    | zero => intro _; rfl
    | succ k ih =>
      intro hk
      have hx := List.getElem?_eq_getElem (show k < l.length by omega)
      rw [sort_next hx, ih (by omega), take_one hx]
      refine put_last (fun x hx2 => ?_)
      obtain ⟨j, hj, rfl⟩ := List.getElem_of_mem hx2
      rw [List.getElem_take]
      rw [List.length_take] at hj
      exact List.pairwise_iff_getElem.1 h j k (by omega) (by omega) (by omega)
  have := hk l.length (Nat.le_refl _)
  rwa [List.take_of_length_le (Nat.le_refl _)] at this
theorem sort_twice (l : List Evt) : sortE (sortE l) = sortE l := sort_same (sort_ord l)
/-- neighbours in the order. -/
theorem sort_cmp {l : List Evt} {k : Nat} {a b : Evt} (ha : (sortE l)[k]? = some a) (hb : (sortE l)[k + 1]? = some b) : Dt.aheadD a.dot b.dot = true := by
  obtain ⟨h1, rfl⟩ := List.getElem?_eq_some_iff.1 ha
  obtain ⟨h2, rfl⟩ := List.getElem?_eq_some_iff.1 hb
  exact List.pairwise_iff_getElem.1 (sort_ord l) k (k + 1) h1 h2 (Nat.lt_succ_self _)
theorem put_mem {l : List Evt} {e : Evt} (x : Evt) : x ∈ putE l e ↔ x ∈ l ∨ ((∀ y ∈ l, y.dot ≠ e.dot) ∧ x = e) := by
  by_cases hd : ∃ y ∈ l, y.dot = e.dot
  · obtain ⟨y, hy, hye⟩ := hd
    have h1 : putE l e = l := by unfold putE; rw [if_pos ⟨y, hy, hye⟩]
    rw [h1]
    exact ⟨.inl, fun h => h.resolve_right (fun h2 => h2.1 y hy hye)⟩
  · have hn : ∀ y ∈ l, y.dot ≠ e.dot := fun y hy h => hd ⟨y, hy, h⟩
    rw [put_new hn, List.mem_append, List.mem_cons]
    have hl := List.takeWhile_append_dropWhile (p := nft e) (l := l)
    constructor
    · rintro (h | h | h)
      · exact .inl (by rw [← hl]; exact List.mem_append_left _ h)
      · exact .inr ⟨hn, h⟩
      · exact .inl (by rw [← hl]; exact List.mem_append_right _ h)
    · rintro (h | ⟨_, h⟩)
      · rw [← hl, List.mem_append] at h
        rcases h with h | h
        · exact .inl h
        · exact .inr (.inr h)
      · exact .inr (.inl h)
/-- each dot that was met is there. -/
theorem dot_there (l : List Evt) (k : Nat) : ∀ (i : Nat) (y : Evt), i < k → l[i]? = some y → ∃ z ∈ sortE (l.take k), z.dot = y.dot := by
  induction k with
  | zero => intro i y hi; omega
  | succ k ih =>
    intro i y hi hy
    rcases Nat.lt_or_ge k l.length with hk | hk
    · have hx := List.getElem?_eq_getElem hk
      rw [sort_next hx]
      rcases Nat.lt_succ_iff_lt_or_eq.1 hi with h | rfl
      · obtain ⟨z, hz, hd⟩ := ih i y h hy
        exact ⟨z, (put_mem z).2 (.inl hz), hd⟩
      · rw [hx] at hy
        cases hy
        by_cases hd : ∃ z ∈ sortE (l.take i), z.dot = l[i].dot
        · obtain ⟨z, hz, hzd⟩ := hd
          exact ⟨z, (put_mem z).2 (.inl hz), hzd⟩
        · exact ⟨l[i], (put_mem _).2 (.inr ⟨fun z hz h => hd ⟨z, hz, h⟩, rfl⟩), rfl⟩
    · have h1 : i < k := by have := (List.getElem?_eq_some_iff.1 hy).1; omega
      have e : l.take (k + 1) = l.take k := by rw [List.take_of_length_le (by omega), List.take_of_length_le hk]
      rw [e]
      exact ih i y h1 hy
/-- the first one with its dot. -/
def FirstE (l : List Evt) (x : Evt) : Prop := ∃ j : Nat, l[j]? = some x ∧ ∀ (i : Nat) (y : Evt), i < j → l[i]? = some y → y.dot ≠ x.dot
theorem sort_first (l : List Evt) (k : Nat) (x : Evt) : x ∈ sortE (l.take k) ↔ ∃ j : Nat, j < k ∧ l[j]? = some x ∧ ∀ (i : Nat) (y : Evt), i < j → l[i]? = some y → y.dot ≠ x.dot := by
  induction k with
  | zero => exact ⟨fun h => (by cases h), fun ⟨j, hj, _⟩ => by omega⟩
  | succ k ih =>
    rcases Nat.lt_or_ge k l.length with hk | hk
    · have hx := List.getElem?_eq_getElem hk
      rw [sort_next hx, put_mem, ih]
      constructor
      · rintro (⟨j, hj, h1, h2⟩ | ⟨h1, rfl⟩)
        · exact ⟨j, by omega, h1, h2⟩
        · refine ⟨k, Nat.lt_succ_self k, hx, fun i y hi hy hd => ?_⟩
          obtain ⟨z, hz, hzd⟩ := dot_there l k i y hi hy
          exact h1 z hz (hzd.trans hd)
      · rintro ⟨j, hj, h1, h2⟩
        rcases Nat.lt_succ_iff_lt_or_eq.1 hj with h | rfl
        · exact .inl ⟨j, h, h1, h2⟩
        · rw [hx] at h1
          cases h1
          refine .inr ⟨fun y hy hd => ?_, rfl⟩
          have hy2 : ∃ i : Nat, i < j ∧ l[i]? = some y := by
            have hm : ∀ (m : Nat) (y : Evt), y ∈ sortE (l.take m) → ∃ i : Nat, i < m ∧ l[i]? = some y := by
              intro m
              induction m with
              | zero => intro y h; cases h
              | succ m ihm =>
                intro y h
                rcases Nat.lt_or_ge m l.length with hm | hm
                · rw [sort_next (List.getElem?_eq_getElem hm), put_mem] at h
                  rcases h with h | ⟨_, rfl⟩
                  · obtain ⟨i, hi, h3⟩ := ihm y h
                    exact ⟨i, by omega, h3⟩
                  · exact ⟨m, Nat.lt_succ_self m, List.getElem?_eq_getElem hm⟩
                · have e : l.take (m + 1) = l.take m := by rw [List.take_of_length_le (by omega), List.take_of_length_le hm]
                  rw [e] at h
                  obtain ⟨i, hi, h3⟩ := ihm y h
                  exact ⟨i, by omega, h3⟩
            exact hm j y hy
          obtain ⟨i, hi, h3⟩ := hy2
          exact h2 i y hi h3 hd
    · have e : l.take (k + 1) = l.take k := by rw [List.take_of_length_le (by omega), List.take_of_length_le hk]
      rw [e, ih]
      exact ⟨fun ⟨j, hj, h⟩ => ⟨j, by omega, h⟩, fun ⟨j, hj, h1, h2⟩ => ⟨j, by have := (List.getElem?_eq_some_iff.1 h1).1; omega, h1, h2⟩⟩
theorem sort_mem (l : List Evt) (x : Evt) : x ∈ sortE l ↔ FirstE l x := by
  have h := sort_first l l.length x
  rw [List.take_of_length_le (Nat.le_refl _)] at h
  rw [h]
  exact ⟨fun ⟨j, _, h1, h2⟩ => ⟨j, h1, h2⟩, fun ⟨j, h1, h2⟩ => ⟨j, (List.getElem?_eq_some_iff.1 h1).1, h1, h2⟩⟩
/-- two lists that rise and have the same events are the same. -/
theorem ord_uniq {l m : List Evt} (hl : OrdE l) (hm : OrdE m) (h : ∀ x, x ∈ l ↔ x ∈ m) : l = m := by
  induction l generalizing m with
  | nil =>
    cases m with
    | nil => rfl
    | cons y m => exact absurd ((h y).2 (List.mem_cons_self ..)) (by simp)
  | cons x l ih =>
    cases m with
    | nil => exact absurd ((h x).1 (List.mem_cons_self ..)) (by simp)
    | cons y m =>
      obtain ⟨a1, a2⟩ := List.pairwise_cons.1 hl
      obtain ⟨b1, b2⟩ := List.pairwise_cons.1 hm
      have hxy : x = y := by
        rcases List.mem_cons.1 ((h x).1 (List.mem_cons_self ..)) with e | e
        · exact e
        · rcases List.mem_cons.1 ((h y).2 (List.mem_cons_self ..)) with e2 | e2
          · exact e2.symm
          · exact absurd (b1 x e) (ahead_not (a1 y e2))
      subst hxy
      rw [ih a2 b2 (fun z => ?_)]
      constructor
      · intro hz
        rcases List.mem_cons.1 ((h z).1 (List.mem_cons_of_mem _ hz)) with e | e
        · subst e
          exact absurd rfl (ahead_ne (a1 z hz))
        · exact e
      · intro hz
        rcases List.mem_cons.1 ((h z).2 (List.mem_cons_of_mem _ hz)) with e | e
        · subst e
          exact absurd rfl (ahead_ne (b1 z hz))
        · exact e
theorem sort_uniq {l m : List Evt} (hm : OrdE m) (h : ∀ x, x ∈ m ↔ FirstE l x) : m = sortE l := ord_uniq hm (sort_ord l) (fun x => by rw [h, sort_mem])
end Go.Proofs.Ytblgbbpbhcaodaa.Ev
