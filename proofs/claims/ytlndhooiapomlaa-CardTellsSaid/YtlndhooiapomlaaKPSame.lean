/- The contracts of the program's Same and All of layer card, and of slices.Equal and EqualFunc as they call them. For every line, card and list. -/
import Derived.Test.YtlndhooiapomlaaKPGl
namespace Go.Proofs.Ytlndhooiapomlaa.Kd
open Go.ChangeShapes Go.WideShapes Go.ChangeAt Go.RowKit
set_option linter.unusedVariables false

set_option maxHeartbeats 4000000 in
theorem pequal_any (w : World) (B1 B2 : Nat) (A1 A2 : Option Addr) (l1 l2 : List ByteArray) (n1 n2 c1 c2 : Nat) (h1 : TextsAt w B1 A1 l1 n1 c1) (h2 : TextsAt w B2 A2 l2 n2 c2) :
    Calls Try.prog 38 #[.slice A1 n1 c1, .slice A2 n2 c2] w fun e w' => e = .returned (.bool (decide (l1 = l2))) ∧ ∃ m, w' = w.drewN m := by
  have H1 := Lib.hid h1
  have H2 := Lib.hid h2
  have h63 : n1 ≤ 281474976710656 := Nat.le_trans h1.wide (by decide)
  clear h1 h2
  by_cases hn : n1 = n2
  · subst hn
    go_enter Try.func38, Try.ntmps38
    go_wp2
    go_loopw [13] (fun i wr => ∃ k : Nat, k ≤ n1 ∧ i = .int .i64 (k : Int) ∧ l1.take k = l2.take k ∧ ∃ m, wr = w.drewN m) (fun i _ => n1 - (intOf i).toNat)
    case atStart => exact ⟨0, Nat.zero_le _, rfl, by simp, 0, rfl⟩
    case round =>
      obtain ⟨k, hk, rfl, ht, m, rfl⟩ := hrel
      have HT := Lib.hid ht
      clear ht
      by_cases hlt : k < n1
      · obtain ⟨a1, x, rfl, _, hlx, _, hc1⟩ := H1.out.at_ hlt
        obtain ⟨a2, y, rfl, _, hly, _, hd1⟩ := H2.out.at_ hlt
        have hq := eq_texts x y
        by_cases hxy : x = y
        · subst hxy
          have hs := Lib.hid (take_more HT.out hlx hly)
          clear hlx hly hq
          go_wp2_with fail
          go_quiet (fail)
          go_wp2
          go_roundw
          case rel => exact ⟨k + 1, by omega, by go_num, hs.out, _, rfl⟩
          case measure => simp [intOf]; omega
        · have hd : Hid (decide (l1 = l2) = false) := decide_eq_false (ne_at hlx hly hxy)
          rw [decide_eq_false hxy] at hq
          clear hlx hly hxy
          go_wp2_with fail
          go_quiet (fail)
          go_wp2
          go_ret
          exact ⟨ret_bool hd.out.symm, _, World.drewN_drewN ..⟩
      · obtain rfl : k = n1 := by omega
        have hd : Hid (l1 = l2) := by
          have h := HT.out
          rw [List.take_of_length_le (by rw [H1.out.len]; exact Nat.le_refl _), List.take_of_length_le (by rw [H2.out.len]; exact Nat.le_refl _)] at h
          exact h
        go_wp2
        go_ret
        exact ⟨ret_bool (by rw [decide_eq_true hd.out]), m, rfl⟩
  · have hd : Hid (decide (l1 = l2) = false) := decide_eq_false (fun e => hn (by rw [← H1.out.len, ← H2.out.len, e]))
    have hne : ((n1 : Int) != (n2 : Int)) = true := by rw [bne_iff_ne]; omega
    go_enter Try.func38, Try.ntmps38
    go_wp2
    go_ret
    exact ⟨ret_bool hd.out.symm, 0, rfl⟩

set_option maxHeartbeats 4000000 in
theorem psameline_any (w : World) (p q : LV) (x y : Ln) (h1 : LineIs w w.heap.size p x) (h2 : LineIs w w.heap.size q y) :
    Calls Try.prog 29 #[p.val, q.val] w fun e w' => e = .returned (.bool (decide (x = y))) ∧ Below w.heap.size w w' := by
  obtain ⟨x1, x2, pA, pn, pc⟩ := p
  obtain ⟨y1, y2, qA, qn, qc⟩ := q
  obtain ⟨x01, x02, x3⟩ := x
  obtain ⟨y01, y02, y3⟩ := y
  have e1 : x1 = x01 := h1.fld
  have e2 : x2 = x02 := h1.txt
  have e3 : y1 = y01 := h2.fld
  have e4 : y2 = y02 := h2.txt
  subst e1 e2 e3 e4
  have HB := Lib.hid (below_new2 w (.cells #[.int .u8 (x1 : Int), .string x2, .slice pA pn pc] 28) (.cells #[.int .u8 (y1 : Int), .string y2, .slice qA qn qc] 28))
  have CE := pequal_any ((w.alloc (.cells #[.int .u8 (x1 : Int), .string x2, .slice pA pn pc] 28)).alloc (.cells #[.int .u8 (y1 : Int), .string y2, .slice qA qn qc] 28)) w.heap.size w.heap.size pA qA x3 y3 pn qn pc qc (h1.more.below HB.out) (h2.more.below HB.out)
  clear h1 h2
  simp only [LV.val]
  obtain ⟨b1, b2, b3⟩ := boxl w (.int .u8 (x1 : Int)) (.string x2) (.slice pA pn pc) 28 ((w.alloc (.cells #[.int .u8 (x1 : Int), .string x2, .slice pA pn pc] 28)).alloc (.cells #[.int .u8 (y1 : Int), .string y2, .slice qA qn qc] 28)) (by have := below_new (w.alloc (.cells #[.int .u8 (x1 : Int), .string x2, .slice pA pn pc] 28)) (.cells #[.int .u8 (y1 : Int), .string y2, .slice qA qn qc] 28); rw [alloc_size] at this; exact this)
  obtain ⟨d1, d2, d3⟩ := boxl (w.alloc (.cells #[.int .u8 (x1 : Int), .string x2, .slice pA pn pc] 28)) (.int .u8 (y1 : Int)) (.string y2) (.slice qA qn qc) 28 _ (Below.refl _ _)
  rw [alloc_size] at d1 d2 d3
  have hs := eq_texts x2 y2
  by_cases h1 : x1 = y1
  · subst h1
    by_cases h2 : x2 = y2
    · subst h2
      have hd : Hid (decide ((x1, x2, x3) = (x1, x2, y3)) = decide (x3 = y3)) := Lib.hid (by rw [Bool.eq_iff_iff]; simp)
      rw [hd.out]
      rw [decide_eq_true rfl] at hs
      clear hd
      generalize decide (x3 = y3) = ans at CE ⊢
      go_enter Try.func29, Try.ntmps29
      go_wp2_with fail
      refine CE.mono ?_
      rintro e w' ⟨rfl, m, rfl⟩
      go_wp2
      go_ret
      exact ⟨rfl, bel_drewN HB.out _⟩
    · have hd : Hid (decide ((x1, x2, x3) = (x1, y2, y3)) = false) := Lib.hid (decide_eq_false (fun e => h2 (by cases e; rfl)))
      rw [hd.out]
      rw [decide_eq_false h2] at hs
      clear hd h2 CE
      go_enter Try.func29, Try.ntmps29
      go_wp2
      go_ret
      exact ⟨rfl, HB.out⟩
  · have hd : Hid (decide ((x1, x2, x3) = (y1, y2, y3)) = false) := Lib.hid (decide_eq_false (fun e => h1 (by cases e; rfl)))
    rw [hd.out]
    have hb := beq_nat h1
    clear hd h1 CE
    go_enter Try.func29, Try.ntmps29
    go_wp2
    go_ret
    exact ⟨rfl, HB.out⟩

set_option maxHeartbeats 8000000 in
theorem plines_any (w : World) (A1 A2 : Option Addr) (l1 l2 : List Ln) (n1 n2 c1 c2 : Nat) (h1 : LinesAt w w.heap.size A1 l1 n1 c1) (h2 : LinesAt w w.heap.size A2 l2 n2 c2) :
    Calls Try.prog 28 #[.slice A1 n1 c1, .slice A2 n2 c2, .func (.func 29) #[] #[]] w fun e w' => e = .returned (.bool (decide (l1 = l2))) ∧ Below w.heap.size w w' := by
  have H1 := Lib.hid h1
  have H2 := Lib.hid h2
  have h63 : n1 ≤ 281474976710656 := Nat.le_trans h1.wide (by decide)
  clear h1 h2
  by_cases hn : n1 = n2
  · subst hn
    go_enter Try.func28, Try.ntmps28
    go_wp2
    go_loopw [17] (fun i wr => ∃ k : Nat, k ≤ n1 ∧ i = .int .i64 (k : Int) ∧ l1.take k = l2.take k ∧ Below w.heap.size w wr) (fun i _ => n1 - (intOf i).toNat)
    case atStart => exact ⟨0, Nat.zero_le _, rfl, by simp, Below.refl _ _⟩
    case round =>
      obtain ⟨k, hk, rfl, ht, hw⟩ := hrel
      have HT := Lib.hid ht
      have HW := Lib.hid hw
      have HA1 : Hid (LinesAt wr wr.heap.size A1 l1 n1 c1) := Lib.hid ((H1.out.below hw).more hw.size)
      have HA2 : Hid (LinesAt wr wr.heap.size A2 l2 n1 c2) := Lib.hid ((H2.out.below hw).more hw.size)
      clear ht hw
      by_cases hlt : k < n1
      · obtain ⟨a1, p, x, rfl, _, hlx, hp, c11, c12, c13⟩ := HA1.out.line hlt
        obtain ⟨a2, q, y, rfl, hb2, hly, hq, e21, e22, e23⟩ := HA2.out.line hlt
        obtain ⟨p1, p2, pA, pn, pc⟩ := p
        obtain ⟨q1, q2, qA, qn, qc⟩ := q
        have e1 : p1 = x.1 := hp.fld
        have e2 : p2 = x.2.1 := hp.txt
        have e3 : q1 = y.1 := hq.fld
        have e4 : q2 = y.2.1 := hq.txt
        rw [← e1] at c11
        rw [← e2] at c12
        rw [← e3] at e21
        rw [← e4] at e22
        simp only at c13 e23
        have hN := below_new wr (.cells #[.int .u8 (p1 : Int), .string p2, .slice pA pn pc] 28)
        have hN2 := below_new2 wr (.cells #[.int .u8 (p1 : Int), .string p2, .slice pA pn pc] 28) (.cells #[.int .u8 (q1 : Int), .string q2, .slice qA qn qc] 28)
        have c21 := (hN.cell (p := a2.add (k * 3)) (by rw [block_add]; exact hb2)).trans e21
        have c22 := (hN.cell (p := ⟨(a2.add (k * 3)).block, (a2.add (k * 3)).off + 1, none⟩) (by show (a2.add (k * 3)).block < _; rw [block_add]; exact hb2)).trans e22
        have c23 := (hN.cell (p := ⟨(a2.add (k * 3)).block, (a2.add (k * 3)).off + 2, none⟩) (by show (a2.add (k * 3)).block < _; rw [block_add]; exact hb2)).trans e23
        obtain ⟨b1, b2, b3⟩ := boxl wr (.int .u8 (p1 : Int)) (.string p2) (.slice pA pn pc) 28 ((wr.alloc (.cells #[.int .u8 (p1 : Int), .string p2, .slice pA pn pc] 28)).alloc (.cells #[.int .u8 (q1 : Int), .string q2, .slice qA qn qc] 28)) (by have := below_new (wr.alloc (.cells #[.int .u8 (p1 : Int), .string p2, .slice pA pn pc] 28)) (.cells #[.int .u8 (q1 : Int), .string q2, .slice qA qn qc] 28); rw [alloc_size] at this; exact this)
        obtain ⟨d1, d2, d3⟩ := boxl (wr.alloc (.cells #[.int .u8 (p1 : Int), .string p2, .slice pA pn pc] 28)) (.int .u8 (q1 : Int)) (.string q2) (.slice qA qn qc) 28 _ (Below.refl _ _)
        rw [alloc_size] at d1 d2 d3
        have CT := psameline_any ((wr.alloc (.cells #[.int .u8 (p1 : Int), .string p2, .slice pA pn pc] 28)).alloc (.cells #[.int .u8 (q1 : Int), .string q2, .slice qA qn qc] 28)) ⟨p1, p2, pA, pn, pc⟩ ⟨q1, q2, qA, qn, qc⟩ x y ((hp.below hN2).more_ hN2.size) ((hq.below hN2).more_ hN2.size)
        simp only [LV.val] at CT
        have HW2 := Lib.hid (HW.out.trans (hN2.mono HW.out.size))
        clear hN hN2 hp hq e21 e22 e23 e1 e2 e3 e4 hb2
        by_cases hxy : x = y
        · have HS := Lib.hid (take_more HT.out hlx (by rw [hly, hxy]))
          rw [decide_eq_true hxy] at CT
          clear hlx hly hxy
          go_wp2_with fail
          refine CT.mono ?_
          rintro e w3 ⟨rfl, hb⟩
          have HW3 := Lib.hid (HW2.out.trans (hb.mono HW2.out.size))
          clear hb b1 b2 d1 d2 CT
          go_wp2
          go_roundw
          case rel => exact ⟨k + 1, by omega, by go_num, HS.out, HW3.out⟩
          case measure => simp [intOf]; omega
        · have hd : Hid (decide (l1 = l2) = false) := decide_eq_false (ne_at hlx hly hxy)
          rw [decide_eq_false hxy] at CT
          clear hlx hly hxy
          go_wp2_with fail
          refine CT.mono ?_
          rintro e w3 ⟨rfl, hb⟩
          have HW3 := Lib.hid (HW2.out.trans (hb.mono HW2.out.size))
          clear hb b1 b2 d1 d2 CT
          go_wp2
          go_ret
          exact ⟨ret_bool hd.out.symm, HW3.out⟩
      · obtain rfl : k = n1 := by omega
        have hd : Hid (l1 = l2) := by
          have h := HT.out
          rw [List.take_of_length_le (by rw [H1.out.len]; exact Nat.le_refl _), List.take_of_length_le (by rw [H2.out.len]; exact Nat.le_refl _)] at h
          exact h
        go_wp2
        go_ret
        exact ⟨ret_bool (by rw [decide_eq_true hd.out]), HW.out⟩
  · have hd : Hid (decide (l1 = l2) = false) := decide_eq_false (fun e => hn (by rw [← H1.out.len, ← H2.out.len, e]))
    have hne : ((n1 : Int) != (n2 : Int)) = true := by rw [bne_iff_ne]; omega
    go_enter Try.func28, Try.ntmps28
    go_wp2
    go_ret
    exact ⟨ret_bool hd.out.symm, Below.refl _ _⟩

set_option maxHeartbeats 4000000 in
theorem psame_any (w : World) (p q : CV) (x y : Crd) (h1 : CardIs w w.heap.size p x) (h2 : CardIs w w.heap.size q y) :
    Calls Try.prog 15 #[p.val, q.val] w fun e w' => e = .returned (.bool (decide (x = y))) ∧ Below w.heap.size w w' := by
  obtain ⟨p0, pA, pn, pc⟩ := p
  obtain ⟨q0, qA, qn, qc⟩ := q
  obtain ⟨x0, xl⟩ := x
  obtain ⟨y0, yl⟩ := y
  have e1 : p0 = x0 := h1.cid
  have e2 : q0 = y0 := h2.cid
  subst e1 e2
  have HB := Lib.hid (below_new2 w (.cells #[.int .u64 (p0 : Int), .slice pA pn pc] 25) (.cells #[.int .u64 (q0 : Int), .slice qA qn qc] 25))
  have CE := plines_any ((w.alloc (.cells #[.int .u64 (p0 : Int), .slice pA pn pc] 25)).alloc (.cells #[.int .u64 (q0 : Int), .slice qA qn qc] 25)) pA qA xl yl pn qn pc qc ((h1.lines.below HB.out).more HB.out.size) ((h2.lines.below HB.out).more HB.out.size)
  clear h1 h2
  simp only [CV.val]
  obtain ⟨b1, b2⟩ := box_two w (.int .u64 (p0 : Int)) (.slice pA pn pc) 25 ((w.alloc (.cells #[.int .u64 (p0 : Int), .slice pA pn pc] 25)).alloc (.cells #[.int .u64 (q0 : Int), .slice qA qn qc] 25)) (by have := below_new (w.alloc (.cells #[.int .u64 (p0 : Int), .slice pA pn pc] 25)) (.cells #[.int .u64 (q0 : Int), .slice qA qn qc] 25); rw [alloc_size] at this; exact this)
  obtain ⟨d1, d2⟩ := box_two (w.alloc (.cells #[.int .u64 (p0 : Int), .slice pA pn pc] 25)) (.int .u64 (q0 : Int)) (.slice qA qn qc) 25 _ (Below.refl _ _)
  rw [alloc_size] at d1 d2
  by_cases hpq : p0 = q0
  · subst hpq
    have hd : Hid (decide ((p0, xl) = (p0, yl)) = decide (xl = yl)) := Lib.hid (by rw [Bool.eq_iff_iff]; simp)
    rw [hd.out]
    clear hd
    generalize decide (xl = yl) = ans at CE ⊢
    go_enter Try.func15, Try.ntmps15
    go_wp2_with fail
    refine CE.mono ?_
    rintro e w' ⟨rfl, hb⟩
    have HW := Lib.hid (HB.out.trans (hb.mono HB.out.size))
    clear hb b1 b2 d1 d2
    go_wp2
    go_ret
    exact ⟨rfl, HW.out⟩
  · have hd : Hid (decide ((p0, xl) = (q0, yl)) = false) := Lib.hid (decide_eq_false (fun e => hpq (by cases e; rfl)))
    have hb := beq_nat hpq
    rw [hd.out]
    clear hpq hd CE
    go_enter Try.func15, Try.ntmps15
    go_wp2
    go_ret
    exact ⟨rfl, HB.out⟩

set_option maxHeartbeats 8000000 in
theorem pcards_any (w : World) (A1 A2 : Option Addr) (l1 l2 : List Crd) (n1 n2 c1 c2 : Nat) (h1 : CardsAt w w.heap.size A1 l1 n1 c1) (h2 : CardsAt w w.heap.size A2 l2 n2 c2) :
    Calls Try.prog 30 #[.slice A1 n1 c1, .slice A2 n2 c2, .func (.func 15) #[] #[]] w fun e w' => e = .returned (.bool (decide (l1 = l2))) ∧ Below w.heap.size w w' := by
  have H1 := Lib.hid h1
  have H2 := Lib.hid h2
  have h63 : n1 ≤ 281474976710656 := h1.max
  clear h1 h2
  by_cases hn : n1 = n2
  · subst hn
    go_enter Try.func30, Try.ntmps30
    go_wp2
    go_loopw [17] (fun i wr => ∃ k : Nat, k ≤ n1 ∧ i = .int .i64 (k : Int) ∧ l1.take k = l2.take k ∧ Below w.heap.size w wr) (fun i _ => n1 - (intOf i).toNat)
    case atStart => exact ⟨0, Nat.zero_le _, rfl, by simp, Below.refl _ _⟩
    case round =>
      obtain ⟨k, hk, rfl, ht, hw⟩ := hrel
      have HT := Lib.hid ht
      have HW := Lib.hid hw
      have HA1 : Hid (CardsAt wr wr.heap.size A1 l1 n1 c1) := Lib.hid (H1.out.up hw)
      have HA2 : Hid (CardsAt wr wr.heap.size A2 l2 n1 c2) := Lib.hid (H2.out.up hw)
      clear ht hw
      by_cases hlt : k < n1
      · obtain ⟨a1, p, x, rfl, _, hlx, hp, c11, c12⟩ := HA1.out.at_ hlt
        obtain ⟨a2, q, y, rfl, hb2, hly, hq, e21, e22⟩ := HA2.out.at_ hlt
        obtain ⟨p1, pA, pn, pc⟩ := p
        obtain ⟨q1, qA, qn, qc⟩ := q
        simp only at c11 c12 e21 e22
        have hN := below_new wr (.cells #[.int .u64 (p1 : Int), .slice pA pn pc] 25)
        have hN2 := below_new2 wr (.cells #[.int .u64 (p1 : Int), .slice pA pn pc] 25) (.cells #[.int .u64 (q1 : Int), .slice qA qn qc] 25)
        have c21 := (hN.cell (p := a2.add (k * 2)) (by rw [block_add]; exact hb2)).trans e21
        have c22 := (hN.cell (p := ⟨(a2.add (k * 2)).block, (a2.add (k * 2)).off + 1, none⟩) (by show (a2.add (k * 2)).block < _; rw [block_add]; exact hb2)).trans e22
        obtain ⟨b1, b2⟩ := box_two wr (.int .u64 (p1 : Int)) (.slice pA pn pc) 25 ((wr.alloc (.cells #[.int .u64 (p1 : Int), .slice pA pn pc] 25)).alloc (.cells #[.int .u64 (q1 : Int), .slice qA qn qc] 25)) (by have := below_new (wr.alloc (.cells #[.int .u64 (p1 : Int), .slice pA pn pc] 25)) (.cells #[.int .u64 (q1 : Int), .slice qA qn qc] 25); rw [alloc_size] at this; exact this)
        obtain ⟨d1, d2⟩ := box_two (wr.alloc (.cells #[.int .u64 (p1 : Int), .slice pA pn pc] 25)) (.int .u64 (q1 : Int)) (.slice qA qn qc) 25 _ (Below.refl _ _)
        rw [alloc_size] at d1 d2
        have CT := psame_any ((wr.alloc (.cells #[.int .u64 (p1 : Int), .slice pA pn pc] 25)).alloc (.cells #[.int .u64 (q1 : Int), .slice qA qn qc] 25)) ⟨p1, pA, pn, pc⟩ ⟨q1, qA, qn, qc⟩ x y (hp.up hN2) (hq.up hN2)
        simp only [CV.val] at CT
        have HW2 := Lib.hid (HW.out.trans (hN2.mono HW.out.size))
        clear hN hN2 hp hq e21 e22 hb2
        by_cases hxy : x = y
        · have HS := Lib.hid (take_more HT.out hlx (by rw [hly, hxy]))
          rw [decide_eq_true hxy] at CT
          clear hlx hly hxy
          go_wp2_with fail
          refine CT.mono ?_
          rintro e w3 ⟨rfl, hb⟩
          have HW3 := Lib.hid (HW2.out.trans (hb.mono HW2.out.size))
          clear hb b1 b2 d1 d2 CT
          go_wp2
          go_roundw
          case rel => exact ⟨k + 1, by omega, by go_num, HS.out, HW3.out⟩
          case measure => simp [intOf]; omega
        · have hd : Hid (decide (l1 = l2) = false) := decide_eq_false (ne_at hlx hly hxy)
          rw [decide_eq_false hxy] at CT
          clear hlx hly hxy
          go_wp2_with fail
          refine CT.mono ?_
          rintro e w3 ⟨rfl, hb⟩
          have HW3 := Lib.hid (HW2.out.trans (hb.mono HW2.out.size))
          clear hb b1 b2 d1 d2 CT
          go_wp2
          go_ret
          exact ⟨ret_bool hd.out.symm, HW3.out⟩
      · obtain rfl : k = n1 := by omega
        have hd : Hid (l1 = l2) := by
          have h := HT.out
          rw [List.take_of_length_le (by rw [H1.out.len]; exact Nat.le_refl _), List.take_of_length_le (by rw [H2.out.len]; exact Nat.le_refl _)] at h
          exact h
        go_wp2
        go_ret
        exact ⟨ret_bool (by rw [decide_eq_true hd.out]), HW.out⟩
  · have hd : Hid (decide (l1 = l2) = false) := decide_eq_false (fun e => hn (by rw [← H1.out.len, ← H2.out.len, e]))
    have hne : ((n1 : Int) != (n2 : Int)) = true := by rw [bne_iff_ne]; omega
    go_enter Try.func30, Try.ntmps30
    go_wp2
    go_ret
    exact ⟨ret_bool hd.out.symm, Below.refl _ _⟩

theorem pall_any (w : World) (A1 A2 : Option Addr) (l1 l2 : List Crd) (n1 n2 c1 c2 : Nat) (h1 : CardsAt w w.heap.size A1 l1 n1 c1) (h2 : CardsAt w w.heap.size A2 l2 n2 c2) :
    Calls Try.prog 17 #[.slice A1 n1 c1, .slice A2 n2 c2] w fun e w' => e = .returned (.bool (decide (l1 = l2))) ∧ Below w.heap.size w w' := by
  have CE := pcards_any w A1 A2 l1 l2 n1 n2 c1 c2 h1 h2
  generalize decide (l1 = l2) = ans at CE ⊢
  clear h1 h2
  go_enter Try.func17, Try.ntmps17
  go_wp2_with fail
  refine CE.mono ?_
  rintro e w' ⟨rfl, hb⟩
  have HW := Lib.hid hb
  clear hb
  go_wp2
  go_ret
  exact ⟨rfl, HW.out⟩
end Go.Proofs.Ytlndhooiapomlaa.Kd
