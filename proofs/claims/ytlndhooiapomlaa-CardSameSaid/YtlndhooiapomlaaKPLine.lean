/- The contracts of layer card's Line, Title and Odds, and all of the program's answers together. For every card. -/
import Derived.Test.YtlndhooiapomlaaKPCop2
import Derived.Test.YtlndhooiapomlaaKPGood
import Derived.Test.YtlndhooiapomlaaKPSame
namespace Go.Proofs.Ytlndhooiapomlaa.Kd
open Go.ChangeShapes Go.WideShapes Go.ChangeAt Go.RowKit
set_option linter.unusedVariables false

/-- a line of one's own, put into a cell that comes out. -/
theorem own_set {w V : World} {x : Ln} {l : List Ln} {f B r : Nat} {q : LV} (hx : lineC l f = some x) (hq : LineIs V V.heap.size q x) (hf : Free V B q.adr q.len) (hb : Below w.heap.size w V) (hB : w.heap.size ≤ B) (hr : w.heap.size ≤ r) (hrB : r < B) (u0 u1 u2 : Value)
    {e : Ending} (he : e = .returned (.tuple #[q.val, .bool true])) : OwnLine w (lineC l f) e (((V.setCell ⟨r, 0, none⟩ u0).setCell ⟨r, 1, none⟩ u1).setCell ⟨r, 2, none⟩ u2) := by
  rw [hx]
  refine ⟨q, he, ?_, (((hf.set _ _).set _ _).set _ _).less hB, ((hb.setCell hr _).setCell hr _).setCell hr _⟩
  rw [size_set, size_set, size_set]
  exact ((hq.set hf (q := ⟨r, 0, none⟩) hrB u0).set (hf.set _ _) (q := ⟨r, 1, none⟩) hrB u1).set ((hf.set _ _).set _ _) (q := ⟨r, 2, none⟩) hrB u2

set_option maxHeartbeats 8000000 in
theorem pline_any (w : World) (p : CV) (x : Crd) (f : Nat) (hf : f < 256) (h : CardIs w w.heap.size p x) :
    Calls Try.prog 5 #[p.val, .int .u8 (f : Int)] w (OwnLine w (lineC x.2 f)) := by
  obtain ⟨p0, A, n, c⟩ := p
  obtain ⟨x0, l⟩ := x
  have H := Lib.hid h.lines
  have h63 : n ≤ 281474976710656 := Nat.le_trans h.lines.wide (by decide)
  clear h
  simp only [CV.val]
  have HB := Lib.hid (below_new2 w (.cells #[.int .u64 (p0 : Int), .slice A n c] 25) (.cells #[.int .u8 0, .string ⟨#[]⟩, .slice none 0 0] 28))
  have hk := box_two w (.int .u64 (p0 : Int)) (.slice A n c) 25 ((w.alloc (.cells #[.int .u64 (p0 : Int), .slice A n c] 25)).alloc (.cells #[.int .u8 0, .string ⟨#[]⟩, .slice none 0 0] 28)) (by have := below_new (w.alloc (.cells #[.int .u64 (p0 : Int), .slice A n c] 25)) (.cells #[.int .u8 0, .string ⟨#[]⟩, .slice none 0 0] 28); rw [alloc_size] at this; exact this)
  have hr := boxl (w.alloc (.cells #[.int .u64 (p0 : Int), .slice A n c] 25)) (.int .u8 0) (.string ⟨#[]⟩) (.slice none 0 0) 28 _ (Below.refl _ _)
  have hfz : ∀ j, ((w.alloc (.cells #[.int .u64 (p0 : Int), .slice A n c] 25)).alloc (.cells #[.int .u8 0, .string ⟨#[]⟩, .slice none 0 0] 28)).frozen? ⟨w.heap.size + 1, j, none⟩ = false := fun j => by have := World.frozen?_alloc_new (w.alloc (.cells #[.int .u64 (p0 : Int), .slice A n c] 25)) #[.int .u8 0, .string ⟨#[]⟩, .slice none 0 0] 28 j; rw [alloc_size] at this; exact this
  rw [alloc_size] at hr
  have hsz : ((w.alloc (.cells #[.int .u64 (p0 : Int), .slice A n c] 25)).alloc (.cells #[.int .u8 0, .string ⟨#[]⟩, .slice none 0 0] 28)).heap.size = w.heap.size + 2 := by rw [alloc_size, alloc_size]
  obtain ⟨k1, k2⟩ := hk
  go_enter Try.func5, Try.ntmps5
  go_wp2_with fail
  generalize (w.alloc (.cells #[.int .u64 (p0 : Int), .slice A n c] 25)).alloc (.cells #[.int .u8 0, .string ⟨#[]⟩, .slice none 0 0] 28) = w1 at *
  have HK : Hid (∀ V, Below (w.heap.size + 2) w1 V → (V.cell? ⟨w.heap.size, 0, none⟩ = some (.int .u64 (p0 : Int)) ∧ V.cell? ⟨w.heap.size, 1, none⟩ = some (.slice A n c)) ∧ (V.cell? ⟨w.heap.size + 1, 0, none⟩ = some (.int .u8 0) ∧ V.cell? ⟨w.heap.size + 1, 1, none⟩ = some (.string ⟨#[]⟩) ∧ V.cell? ⟨w.heap.size + 1, 2, none⟩ = some (.slice none 0 0)) ∧ V.frozen? ⟨w.heap.size + 1, 0, none⟩ = false ∧ V.frozen? ⟨w.heap.size + 1, 1, none⟩ = false ∧ V.frozen? ⟨w.heap.size + 1, 2, none⟩ = false) := Lib.hid (fun V hV =>
    have c0 : w.heap.size < w.heap.size + 2 := by omega
    have c1 : w.heap.size + 1 < w.heap.size + 2 := by omega
    ⟨⟨(hV.cell (p := ⟨_, 0, none⟩) c0).trans k1, (hV.cell (p := ⟨_, 1, none⟩) c0).trans k2⟩, ⟨(hV.cell (p := ⟨_, 0, none⟩) c1).trans hr.1, (hV.cell (p := ⟨_, 1, none⟩) c1).trans hr.2.1, (hV.cell (p := ⟨_, 2, none⟩) c1).trans hr.2.2⟩, (hV.frozen (p := ⟨_, 0, none⟩) c1).trans (hfz 0), (hV.frozen (p := ⟨_, 1, none⟩) c1).trans (hfz 1), (hV.frozen (p := ⟨_, 2, none⟩) c1).trans (hfz 2)⟩)
  have HZ : Hid (w.heap.size + 2 ≤ w1.heap.size) := Lib.hid (by omega)
  clear hr hfz hsz k1 k2
  have h2 : w.heap.size ≤ w.heap.size + 2 := by omega
  go_loopw [11] (fun i wr => ∃ k : Nat, k ≤ n ∧ i = .int .i64 (k : Int) ∧ (∀ j y, j < k → l[j]? = some y → ¬ y.1 = f) ∧ Below (w.heap.size + 2) w1 wr) (fun i _ => n - (intOf i).toNat)
  case atStart => exact ⟨0, Nat.zero_le _, rfl, fun j y hj => by omega, Below.refl _ _⟩
  case round =>
    obtain ⟨k, hkn, rfl, ht, hw⟩ := hrel
    have HT := Lib.hid ht
    have HW := Lib.hid hw
    clear ht hw
    by_cases hlt : k < n
    · have HA : Hid (LinesAt wr w.heap.size A l n c) := Lib.hid (H.out.below (HB.out.trans (HW.out.mono h2)))
      obtain ⟨ad, q, x, rfl, hadb, hlx, hp, c1, c2, c3⟩ := HA.out.line hlt
      obtain ⟨x1, x2, x3⟩ := x
      obtain ⟨q1, q2, qA, qn, qc⟩ := q
      have eq1 : q1 = x1 := hp.fld
      have eq2 : q2 = x2 := hp.txt
      subst eq1 eq2
      simp only at c1 c2 c3
      have hws : w.heap.size ≤ wr.heap.size := Nat.le_trans HB.out.size (HW.out.mono h2).size
      by_cases hxf : q1 = f
      · subst hxf
        have HR := Lib.hid (line_hit HT.out hlx rfl)
        have CL := pcopyline_any (wr.alloc (.cells #[.int .u8 (q1 : Int), .string q2, .slice qA qn qc] 28)) ⟨q1, q2, qA, qn, qc⟩ (q1, q2, x3) ((hp.below ((below_new wr _).mono hws)).more_ (by rw [alloc_size]; omega))
        simp only [LV.val] at CL
        have hz : w.heap.size + 2 ≤ wr.heap.size := Nat.le_trans HZ.out HW.out.size
        clear hp hlx
        go_wp2_with fail
        refine CL.mono ?_
        rintro e V ⟨pq, rfl, hq, hfr, hb⟩
        have HWV := Lib.hid (HW.out.trans (((below_new wr _).trans (hb.mono (below_new wr _).size)).mono hz))
        obtain ⟨_, ⟨d0, d1, d2⟩, e0, e1, e2⟩ := HK.out V HWV.out
        obtain ⟨f2, t2, A2, n2, c2'⟩ := pq
        have HQ := Lib.hid hq
        have HF := Lib.hid (hfr.less (B' := w.heap.size + 2) (by rw [alloc_size]; omega))
        clear CL hq hfr hb c1 c2 c3
        simp only [LV.val]
        go_wp2
        refine bodyPost_ret (v := .tuple #[.agg #[.int .u8 (f2 : Int), .string t2, .slice A2 n2 c2'], .bool true]) ?_ rfl ?_
        · simp [results, Try.f5, go_sem, d0, d1, d2]
        · exact own_set HR.out HQ.out HF.out (HB.out.trans (HWV.out.mono h2)) h2 (Nat.le_succ _) (Nat.lt_succ_self _) _ _ _ rfl
      · have hb := beq_nat hxf
        have hs : Hid (∀ j y, j < k + 1 → l[j]? = some y → ¬ y.1 = f) := Lib.hid (fun j y hj hy => by
          rcases Nat.lt_succ_iff_lt_or_eq.1 hj with h | rfl
          · exact HT.out j y h hy
          · rw [hlx] at hy; cases hy; exact hxf)
        have HW2 := Lib.hid (HW.out.alloc (Nat.le_trans HZ.out HW.out.size) (.cells #[.int .u8 (q1 : Int), .string q2, .slice qA qn qc] 28))
        clear hlx hp hxf
        go_wp2
        go_roundw
        case rel => exact ⟨k + 1, by omega, by go_num, hs.out, HW2.out⟩
        case measure => simp [intOf]; omega
    · obtain rfl : k = n := by omega
      have HR := Lib.hid (line_miss (by rw [H.out.len]; exact HT.out))
      obtain ⟨_, ⟨d0, d1, d2⟩, e0, e1, e2⟩ := HK.out wr HW.out
      go_wp2
      refine bodyPost_ret (v := .tuple #[.agg #[.int .u8 0, .string ⟨#[]⟩, .slice none 0 0], .bool false]) ?_ rfl ?_
      · simp [results, Try.f5, go_sem, d0, d1, d2]
      · rw [HR.out]
        exact ⟨⟨0, ⟨#[]⟩, none, 0, 0⟩, rfl, line_none _ _, fun j hj => absurd hj (Nat.not_lt_zero _), (((HB.out.trans (HW.out.mono h2)).setCell (Nat.le_succ _) _).setCell (Nat.le_succ _) _).setCell (Nat.le_succ _) _⟩

set_option maxHeartbeats 8000000 in
theorem ptitle_any (w : World) (p : CV) (x : Crd) (h : CardIs w w.heap.size p x) :
    Calls Try.prog 10 #[p.val] w fun e w' => e = .returned (.string (titleC x.2)) ∧ Below w.heap.size w w' := by
  obtain ⟨p0, A, n, c⟩ := p
  obtain ⟨x0, l⟩ := x
  have h63 : n ≤ 281474976710656 := Nat.le_trans h.lines.wide (by decide)
  have HB := Lib.hid (below_new w (.cells #[.int .u64 (p0 : Int), .slice A n c] 25))
  have H := Lib.hid h.lines
  clear h
  simp only [CV.val]
  obtain ⟨k1, k2⟩ := box_two w (.int .u64 (p0 : Int)) (.slice A n c) 25 _ (Below.refl _ _)
  go_enter Try.func10, Try.ntmps10
  go_wp2_with fail
  generalize w.alloc (.cells #[.int .u64 (p0 : Int), .slice A n c] 25) = W at HB k1 k2 ⊢
  go_loopw [8] (fun i wr => ∃ k : Nat, k ≤ n ∧ i = .int .i64 (k : Int) ∧ (∀ j y, j < k → l[j]? = some y → y.2.1 = ⟨#[]⟩) ∧ Below w.heap.size w wr) (fun i _ => n - (intOf i).toNat)
  case atStart => exact ⟨0, Nat.zero_le _, rfl, (fun j y hj => by omega), HB.out⟩
  case round =>
    obtain ⟨k, hkn, rfl, ht, hw⟩ := hrel
    have HT := Lib.hid ht
    have HW := Lib.hid hw
    clear ht hw
    by_cases hlt : k < n
    · have HL := Lib.hid (H.out.below HW.out)
      obtain ⟨ad, q, x, rfl, hadb, hlx, hp, c1, c2, c3⟩ := HL.out.line hlt
      obtain ⟨x1, x2, x3⟩ := x
      simp only at c1 c2 c3
      have hem := empty_text x2
      have hem2 : x2.toList = [] ↔ x2 = ⟨#[]⟩ := by rw [← List.isEmpty_iff, hem, decide_eq_true_iff]
      have HW2 := Lib.hid (HW.out.alloc HW.out.size (.cells #[.int .u8 (x1 : Int), .string x2, .slice q.adr q.len q.cap] 28))
      by_cases hx : x2 = ⟨#[]⟩
      · have hs : Hid (∀ j y, j < k + 1 → l[j]? = some y → y.2.1 = ⟨#[]⟩) := Lib.hid (fun j y hj hy => by
          rcases Nat.lt_succ_iff_lt_or_eq.1 hj with h | rfl
          · exact HT.out j y h hy
          · rw [hlx] at hy; cases hy; exact hx)
        rw [decide_eq_true hx] at hem
        have hem3 := hem2.2 hx
        clear hlx hp hx hem2
        go_wp2
        go_roundw
        case rel => exact ⟨k + 1, by omega, by go_num, hs.out, HW2.out⟩
        case measure => simp [intOf]; omega
      · have HR := Lib.hid (title_hit HT.out hlx hx)
        rw [decide_eq_false hx] at hem
        have hem3 : ¬ x2.toList = [] := fun e => hx (hem2.1 e)
        clear hlx hp hx hem2
        go_wp2
        go_ret
        exact ⟨Fd.ret_str HR.out.symm, HW2.out⟩
    · obtain rfl : k = n := by omega
      have HR := Lib.hid (title_miss (by rw [H.out.len]; exact HT.out))
      go_wp2
      go_ret
      exact ⟨Fd.ret_str HR.out.symm, HW.out⟩

set_option maxHeartbeats 8000000 in
theorem podds_any (w : World) (p : CV) (x : Crd) (h : CardIs w w.heap.size p x) :
    Calls Try.prog 12 #[p.val] w fun e w' => e = .returned (.int .i64 (oddsC x.2 : Int)) ∧ Below w.heap.size w w' := by
  obtain ⟨p0, A, n, c⟩ := p
  obtain ⟨x0, l⟩ := x
  have h63 : n ≤ 281474976710656 := Nat.le_trans h.lines.wide (by decide)
  have HB := Lib.hid (below_new w (.cells #[.int .u64 (p0 : Int), .slice A n c] 25))
  have H := Lib.hid h.lines
  clear h
  simp only [CV.val]
  obtain ⟨k1, k2⟩ := box_two w (.int .u64 (p0 : Int)) (.slice A n c) 25 _ (Below.refl _ _)
  go_enter Try.func12, Try.ntmps12
  go_wp2_with fail
  generalize w.alloc (.cells #[.int .u64 (p0 : Int), .slice A n c] 25) = W at HB k1 k2 ⊢
  go_loopw [3, 9] (fun v i wr => ∃ k : Nat, k ≤ n ∧ i = .int .i64 (k : Int) ∧ v = .int .i64 (oddsC (l.take k) : Int) ∧ Below w.heap.size w wr) (fun _ i _ => n - (intOf i).toNat)
  case atStart => exact ⟨0, Nat.zero_le _, rfl, rfl, HB.out⟩
  case round =>
    obtain ⟨k, hkn, rfl, rfl, hw⟩ := hrel
    have HW := Lib.hid hw
    clear hw
    have hol := odds_less l k
    by_cases hlt : k < n
    · have HL := Lib.hid (H.out.below HW.out)
      obtain ⟨ad, q, x, rfl, hadb, hlx, hp, c1, c2, c3⟩ := HL.out.line hlt
      obtain ⟨x1, x2, x3⟩ := x
      simp only at c1 c2 c3
      have HN := Lib.hid (odds_next hlx)
      have HW2 := Lib.hid (HW.out.alloc HW.out.size (.cells #[.int .u8 (x1 : Int), .string x2, .slice q.adr q.len q.cap] 28))
      have hql : x3.length = q.len := hp.more.len
      have hqm : q.len ≤ 281474976710656 := Nat.le_trans hp.more.wide (by decide)
      clear hlx hp
      by_cases h0 : 0 < q.len
      · have HE : Hid (oddsC (l.take (k + 1)) = oddsC (l.take k) + 1) := Lib.hid (by rw [HN.out, if_pos (by show 0 < x3.length; omega)])
        generalize oddsC (l.take k) = o at *
        clear hql
        go_wp2
        go_roundw
        case rel => exact ⟨k + 1, by omega, by go_num, by rw [HE.out]; go_num, HW2.out⟩
        case measure => simp [intOf]; omega
      · have HE : Hid (oddsC (l.take (k + 1)) = oddsC (l.take k)) := Lib.hid (by rw [HN.out, if_neg (by show ¬ 0 < x3.length; omega), Nat.add_zero])
        have hz : q.len = 0 := by omega
        rw [hz] at HW2
        generalize oddsC (l.take k) = o at *
        clear hql h0
        go_wp2
        go_roundw
        case rel => exact ⟨k + 1, by omega, by go_num, by rw [HE.out], HW2.out⟩
        case measure => simp [intOf]; omega
    · obtain rfl : k = n := by omega
      have HR : Hid (oddsC (l.take k) = oddsC l) := Lib.hid (by rw [List.take_of_length_le (by rw [H.out.len]; exact Nat.le_refl _)])
      generalize oddsC (l.take k) = o at *
      go_wp2
      go_ret
      exact ⟨ret_int (by rw [HR.out]), HW.out⟩

/-- the program's answers are so. -/
theorem pcard : PCard where
  good := pgoodc_any
  same := psame_any
  all := pall_any
  copy := pcopy_any
  line := pline_any
  title := ptitle_any
  odds := podds_any
end Go.Proofs.Ytlndhooiapomlaa.Kd
