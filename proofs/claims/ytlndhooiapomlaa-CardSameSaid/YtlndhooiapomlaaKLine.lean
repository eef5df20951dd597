/- The contracts of the document's Line, Title and Odds of layer card. For every card. -/
import Derived.Test.YtlndhooiapomlaaKGood
namespace Go.Proofs.Ytlndhooiapomlaa.Kd
open Go.ChangeShapes Go.WideShapes Go.ChangeAt Go.RowKit
set_option linter.unusedVariables false

/-- a line's value. -/
abbrev LV.val (p : LV) : Value := .agg #[.int .u8 (p.fld : Int), .string p.txt, .slice p.adr p.len p.cap]
def lineC (l : List Ln) (f : Nat) : Option Ln := l.find? fun x => x.1 == f
theorem line_hit {l : List Ln} {f k : Nat} {x : Ln} (h : ∀ j y, j < k → l[j]? = some y → ¬ y.1 = f) (hx : l[k]? = some x) (hf : x.1 = f) : lineC l f = some x := by
  obtain ⟨hlt, he⟩ := List.getElem?_eq_some_iff.1 hx
  unfold lineC
  rw [List.find?_eq_some_iff_getElem]
  refine ⟨by simp [hf], k, hlt, he, fun j hj => ?_⟩
  have := h j l[j] hj (List.getElem?_eq_getElem (by omega))
  simpa using this
theorem line_miss {l : List Ln} {f : Nat} (h : ∀ j y, j < l.length → l[j]? = some y → ¬ y.1 = f) : lineC l f = none := by
  unfold lineC
  rw [List.find?_eq_none]
  intro x hx
  obtain ⟨j, hj, rfl⟩ := List.getElem_of_mem hx
  simpa using h j l[j] hj (List.getElem?_eq_getElem hj)
/-- an empty line. -/
abbrev noLine : Ln := (0, ⟨#[]⟩, [])
/-- a line comes out. -/
def LinePost (w : World) (x : Option Ln) (e : Ending) (w' : World) : Prop :=
  ∃ p : LV, e = .returned (.tuple #[p.val, .bool x.isSome]) ∧ LineIs w' w'.heap.size p (x.getD noLine) ∧ Below w.heap.size w w'
theorem line_none (w : World) (B : Nat) : LineIs w B ⟨0, ⟨#[]⟩, none, 0, 0⟩ noLine := ⟨rfl, by decide, rfl, by unfold Short; decide, TextsAt.none_ _ _⟩

set_option maxHeartbeats 8000000 in
theorem rline_any (w : World) (p : CV) (x : Crd) (f : Nat) (hf : f < 256) (h : CardIs w w.heap.size p x) :
    Calls Try.prog 6 #[p.val, .int .u8 (f : Int)] w (LinePost w (lineC x.2 f)) := by
  obtain ⟨p0, A, n, c⟩ := p
  obtain ⟨x0, l⟩ := x
  have H := Lib.hid h.lines
  have h63 : n ≤ 281474976710656 := Nat.le_trans h.lines.wide (by decide)
  clear h
  simp only [CV.val]
  have HB := Lib.hid (below_new2 w (.cells #[.int .u64 (p0 : Int), .slice A n c] 25) (.cells #[.int .u8 0, .string ⟨#[]⟩, .slice none 0 0] 28))
  have HX := Lib.hid (box_two w (.int .u64 (p0 : Int)) (.slice A n c) 25)
  obtain ⟨k1, k2⟩ := HX.out ((w.alloc (.cells #[.int .u64 (p0 : Int), .slice A n c] 25)).alloc (.cells #[.int .u8 0, .string ⟨#[]⟩, .slice none 0 0] 28)) (by have := below_new (w.alloc (.cells #[.int .u64 (p0 : Int), .slice A n c] 25)) (.cells #[.int .u8 0, .string ⟨#[]⟩, .slice none 0 0] 28); rw [alloc_size] at this; exact this)
  have HL : Hid (LinesAt ((w.alloc (.cells #[.int .u64 (p0 : Int), .slice A n c] 25)).alloc (.cells #[.int .u8 0, .string ⟨#[]⟩, .slice none 0 0] 28)) w.heap.size A l n c) := Lib.hid (H.out.below HB.out)
  go_enter Try.func6, Try.ntmps6
  go_wp2_with fail
  go_loop [6] (fun i => ∃ k : Nat, k ≤ n ∧ i = .int .i64 (k : Int) ∧ ∀ j y, j < k → l[j]? = some y → ¬ y.1 = f) (fun i => n - (intOf i).toNat)
  case atStart => exact ⟨0, Nat.zero_le _, rfl, fun j y hj => by omega⟩
  case round =>
    obtain ⟨k, hk, rfl, ht⟩ := hrel
    have HT := Lib.hid ht
    clear ht
    by_cases hlt : k < n
    · obtain ⟨ad, q, x, rfl, hadb, hlx, hp, e1, e2, e3⟩ := H.out.line hlt
      have c1 := (HB.out.cell (p := ad.add (k * 3)) (by rw [block_add]; exact hadb)).trans e1
      have c2 := (HB.out.cell (p := ⟨(ad.add (k * 3)).block, (ad.add (k * 3)).off + 1, none⟩) (by show (ad.add (k * 3)).block < _; rw [block_add]; exact hadb)).trans e2
      have c3 := (HB.out.cell (p := ⟨(ad.add (k * 3)).block, (ad.add (k * 3)).off + 2, none⟩) (by show (ad.add (k * 3)).block < _; rw [block_add]; exact hadb)).trans e3
      clear e1 e2 e3
      obtain ⟨x1, x2, x3⟩ := x
      by_cases hxf : x1 = f
      · subst hxf
        have HR := Lib.hid (line_hit HT.out hlx rfl)
        have HP := Lib.hid hp
        clear hlx hp
        have HZ := Lib.hid (below_new2 w (.cells #[.int .u64 (p0 : Int), .slice (some ad) n c] 25) (.cells #[.int .u8 (x1 : Int), .string x2, .slice q.adr q.len q.cap] 28))
        go_wp2
        refine bodyPost_ret (v := .tuple #[.agg #[.int .u8 (x1 : Int), .string x2, .slice q.adr q.len q.cap], .bool true]) ?_ rfl ?_
        · simp [results, Try.f6, go_sem]
        · have e : q = ⟨x1, x2, q.adr, q.len, q.cap⟩ := by
            have e1 : q.fld = x1 := HP.out.fld
            have e2 : q.txt = x2 := HP.out.txt
            rw [← e1, ← e2]
          rw [HR.out]
          exact ⟨⟨x1, x2, q.adr, q.len, q.cap⟩, rfl, by rw [← e]; exact (HP.out.below HZ.out).more_ HZ.out.size, HZ.out⟩
      · have hb := beq_nat hxf
        have hs : Hid (∀ j y, j < k + 1 → l[j]? = some y → ¬ y.1 = f) := Lib.hid (fun j y hj hy => by
          rcases Nat.lt_succ_iff_lt_or_eq.1 hj with h | rfl
          · exact HT.out j y h hy
          · rw [hlx] at hy; cases hy; exact hxf)
        clear hlx hp hxf
        go_wp2
        go_round
        case rel => exact ⟨k + 1, by omega, by go_num, hs.out⟩
        case measure => simp [intOf]; omega
    · obtain rfl : k = n := by omega
      have HR := Lib.hid (line_miss (by rw [H.out.len]; exact HT.out))
      go_wp2
      refine bodyPost_ret (v := .tuple #[.agg #[.int .u8 0, .string ⟨#[]⟩, .slice none 0 0], .bool false]) ?_ rfl ?_
      · simp [results, Try.f6, go_sem]
      · rw [HR.out]
        exact ⟨⟨0, ⟨#[]⟩, none, 0, 0⟩, rfl, line_none _ _, HB.out⟩

/-- the text of the first line that has one. -/
def titleC (l : List Ln) : ByteArray := ((l.find? fun x => !decide (x.2.1 = ⟨#[]⟩)).map fun x => x.2.1).getD ⟨#[]⟩
theorem title_hit {l : List Ln} {k : Nat} {x : Ln} (h : ∀ j y, j < k → l[j]? = some y → y.2.1 = ⟨#[]⟩) (hx : l[k]? = some x) (hf : ¬ x.2.1 = ⟨#[]⟩) : titleC l = x.2.1 := by
  obtain ⟨hlt, he⟩ := List.getElem?_eq_some_iff.1 hx
  have : (l.find? fun x => !decide (x.2.1 = ⟨#[]⟩)) = some x := by
    rw [List.find?_eq_some_iff_getElem]
    refine ⟨by simp [hf], k, hlt, he, fun j hj => ?_⟩
    have := h j l[j] hj (List.getElem?_eq_getElem (by omega))
    simpa using this
  unfold titleC
  rw [this]; rfl
theorem title_miss {l : List Ln} (h : ∀ j y, j < l.length → l[j]? = some y → y.2.1 = ⟨#[]⟩) : titleC l = ⟨#[]⟩ := by
  have : (l.find? fun x => !decide (x.2.1 = ⟨#[]⟩)) = none := by
    rw [List.find?_eq_none]
    intro x hx
    obtain ⟨j, hj, rfl⟩ := List.getElem_of_mem hx
    simpa using h j l[j] hj (List.getElem?_eq_getElem hj)
  unfold titleC
  rw [this]; rfl
theorem empty_text (s : ByteArray) : s.toList.isEmpty = decide (s = ⟨#[]⟩) := by
  rw [Bool.eq_iff_iff, decide_eq_true_iff, ByteArray.toList_eq, List.isEmpty_iff]
  constructor
  · intro h
    exact Fd.ba_of h
  · intro h
    rw [h]

set_option maxHeartbeats 8000000 in
theorem rtitle_any (w : World) (p : CV) (x : Crd) (h : CardIs w w.heap.size p x) :
    Calls Try.prog 11 #[p.val] w fun e w' => e = .returned (.string (titleC x.2)) ∧ Below w.heap.size w w' := by
  obtain ⟨p0, A, n, c⟩ := p
  obtain ⟨x0, l⟩ := x
  have h63 : n ≤ 281474976710656 := Nat.le_trans h.lines.wide (by decide)
  have HB := Lib.hid (below_new w (.cells #[.int .u64 (p0 : Int), .slice A n c] 25))
  have HL : Hid (LinesAt (w.alloc (.cells #[.int .u64 (p0 : Int), .slice A n c] 25)) w.heap.size A l n c) := Lib.hid (h.lines.below HB.out)
  clear h
  simp only [CV.val]
  obtain ⟨k1, k2⟩ := box_two w (.int .u64 (p0 : Int)) (.slice A n c) 25 _ (Below.refl _ _)
  go_enter Try.func11, Try.ntmps11
  go_wp2_with fail
  generalize w.alloc (.cells #[.int .u64 (p0 : Int), .slice A n c] 25) = W at HB HL k1 k2 ⊢
  go_loop [3] (fun i => ∃ k : Nat, k ≤ n ∧ i = .int .i64 (k : Int) ∧ ∀ j y, j < k → l[j]? = some y → y.2.1 = ⟨#[]⟩) (fun i => n - (intOf i).toNat)
  case atStart => exact ⟨0, Nat.zero_le _, rfl, fun j y hj => by omega⟩
  case round =>
    obtain ⟨k, hk, rfl, ht⟩ := hrel
    have HT := Lib.hid ht
    clear ht
    by_cases hlt : k < n
    · obtain ⟨ad, q, x, rfl, hadb, hlx, hp, c1, c2, c3⟩ := HL.out.line hlt
      obtain ⟨x1, x2, x3⟩ := x
      simp only at c1 c2 c3
      have hem := empty_text x2
      have hem2 : x2.toList = [] ↔ x2 = ⟨#[]⟩ := by rw [← List.isEmpty_iff, hem, decide_eq_true_iff]
      by_cases hx : x2 = ⟨#[]⟩
      · have hs : Hid (∀ j y, j < k + 1 → l[j]? = some y → y.2.1 = ⟨#[]⟩) := Lib.hid (fun j y hj hy => by
          rcases Nat.lt_succ_iff_lt_or_eq.1 hj with h | rfl
          · exact HT.out j y h hy
          · rw [hlx] at hy; cases hy; exact hx)
        rw [decide_eq_true hx] at hem
        have hem3 := hem2.2 hx
        clear hlx hp hx hem2
        go_wp2
        go_round
        case rel => exact ⟨k + 1, by omega, by go_num, hs.out⟩
        case measure => simp [intOf]; omega
      · have HR := Lib.hid (title_hit HT.out hlx hx)
        rw [decide_eq_false hx] at hem
        have hem3 : ¬ x2.toList = [] := fun e => hx (hem2.1 e)
        clear hlx hp hx hem2
        go_wp2
        go_ret
        exact ⟨Fd.ret_str HR.out.symm, HB.out⟩
    · obtain rfl : k = n := by omega
      have HR := Lib.hid (title_miss (by rw [HL.out.len]; exact HT.out))
      go_wp2
      go_ret
      exact ⟨Fd.ret_str HR.out.symm, HB.out⟩

/-- at how many lines something else stands. -/
def oddsC (l : List Ln) : Nat := (l.filter fun x => decide (0 < x.2.2.length)).length
theorem odds_next {l : List Ln} {k : Nat} {x : Ln} (h : l[k]? = some x) : oddsC (l.take (k + 1)) = oddsC (l.take k) + (if 0 < x.2.2.length then 1 else 0) := by
  unfold oddsC
  rw [List.take_add_one, h, List.filter_append, List.length_append]
  by_cases h0 : 0 < x.2.2.length <;> simp [h0]
theorem odds_less (l : List Ln) (k : Nat) : oddsC (l.take k) ≤ k := by
  unfold oddsC
  exact Nat.le_trans (List.length_filter_le _ _) (List.length_take_le _ _)
theorem ret_int {k : IntKind} {a b : Int} (h : a = b) : Ending.returned (.int k a) = .returned (.int k b) := by rw [h]

set_option maxHeartbeats 8000000 in
theorem rodds_any (w : World) (p : CV) (x : Crd) (h : CardIs w w.heap.size p x) :
    Calls Try.prog 13 #[p.val] w fun e w' => e = .returned (.int .i64 (oddsC x.2 : Int)) ∧ Below w.heap.size w w' := by
  obtain ⟨p0, A, n, c⟩ := p
  obtain ⟨x0, l⟩ := x
  have h63 : n ≤ 281474976710656 := Nat.le_trans h.lines.wide (by decide)
  have HB := Lib.hid (below_new w (.cells #[.int .u64 (p0 : Int), .slice A n c] 25))
  have HL : Hid (LinesAt (w.alloc (.cells #[.int .u64 (p0 : Int), .slice A n c] 25)) w.heap.size A l n c) := Lib.hid (h.lines.below HB.out)
  clear h
  simp only [CV.val]
  obtain ⟨k1, k2⟩ := box_two w (.int .u64 (p0 : Int)) (.slice A n c) 25 _ (Below.refl _ _)
  go_enter Try.func13, Try.ntmps13
  go_wp2_with fail
  generalize w.alloc (.cells #[.int .u64 (p0 : Int), .slice A n c] 25) = W at HB HL k1 k2 ⊢
  go_loop [3, 4] (fun v i => ∃ k : Nat, k ≤ n ∧ i = .int .i64 (k : Int) ∧ v = .int .i64 (oddsC (l.take k) : Int)) (fun _ i => n - (intOf i).toNat)
  case atStart => exact ⟨0, Nat.zero_le _, rfl, rfl⟩
  case round =>
    obtain ⟨k, hk, rfl, rfl⟩ := hrel
    have hol := odds_less l k
    by_cases hlt : k < n
    · obtain ⟨ad, q, x, rfl, hadb, hlx, hp, c1, c2, c3⟩ := HL.out.line hlt
      obtain ⟨x1, x2, x3⟩ := x
      simp only at c1 c2 c3
      have HN := Lib.hid (odds_next hlx)
      have hql : x3.length = q.len := hp.more.len
      have hqm : q.len ≤ 281474976710656 := Nat.le_trans hp.more.wide (by decide)
      clear hlx hp
      by_cases h0 : 0 < q.len
      · have HE : Hid (oddsC (l.take (k + 1)) = oddsC (l.take k) + 1) := Lib.hid (by rw [HN.out, if_pos (by show 0 < x3.length; omega)])
        generalize oddsC (l.take k) = o at *
        clear hql
        go_wp2
        go_round
        case rel => exact ⟨k + 1, by omega, by go_num, by rw [HE.out]; go_num⟩
        case measure => simp [intOf]; omega
      · have HE : Hid (oddsC (l.take (k + 1)) = oddsC (l.take k)) := Lib.hid (by rw [HN.out, if_neg (by show ¬ 0 < x3.length; omega), Nat.add_zero])
        have hz : q.len = 0 := by omega
        generalize oddsC (l.take k) = o at *
        clear hql h0
        go_wp2
        go_round
        case rel => exact ⟨k + 1, by omega, by go_num, by rw [HE.out]⟩
        case measure => simp [intOf]; omega
    · obtain rfl : k = n := by omega
      have HR : Hid (oddsC (l.take k) = oddsC l) := Lib.hid (by rw [List.take_of_length_le (by rw [HL.out.len]; exact Nat.le_refl _)])
      generalize oddsC (l.take k) = o at *
      go_wp2
      go_ret
      exact ⟨ret_int (by rw [HR.out]), HB.out⟩
end Go.Proofs.Ytlndhooiapomlaa.Kd
