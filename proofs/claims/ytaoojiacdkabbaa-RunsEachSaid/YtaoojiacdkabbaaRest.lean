/- The contracts of the program's 'Size', 'First' and 'Same'. Condition: at most 2^41 runs a side. -/
import Derived.Test.YtaoojiacdkabbaaNorm
import Derived.Test.YtaoojiacdkabbaaNumbers
namespace Go.Proofs.Ytaoojiacdkabbaa.Ru
open Go.ChangeShapes Go.WideShapes Go.ChangeAt Go.RowKit Go.Shelf
set_option linter.unusedVariables false

theorem psize_any (w : World) (A1 : Option Addr) (l1 : List Run) (n1 c1 : Nat) (hl1 : l1.length = n1) (hb1 : Runs w w.heap.size A1 l1) (h1 : n1 ≤ 4398046511104) :
    Calls Try.prog 26 #[.slice A1 n1 c1] w fun e w' => e = .returned (.int .u64 ((sizeR (nrm l1) : Nat) : Int)) ∧ Below w.heap.size w w' := by
  have H := Lib.hid (pnorm_any w A1 l1 n1 c1 hl1 hb1 h1)
  have HI := Lib.hid (nrm_spec l1).1
  clear hl1 hb1
  generalize nrm l1 = L at *
  go_enter Try.func26, Try.ntmps26
  go_wp2_with fail
  refine H.out.mono ?_
  clear H
  intro e w2 h2
  obtain ⟨A, n, c, rfl, hn, _, hnc, hc, hr, _, hb⟩ := post_runs h2 (fit_order HI.out)
  have HN := Lib.hid hn
  have HR := Lib.hid hr
  have HW := Lib.hid hb
  have HZ : Hid (sizeR L ≤ 281474976710656) := size_le HI.out
  clear h2 hn hr hb
  go_wp2_with fail
  go_loopw [3, 9] (fun s i wr => ∃ (k m : Nat), k ≤ n ∧ i = .int .i64 (k : Int) ∧ s = .int .u64 (m : Int) ∧ sizeR (L.take k) = m ∧ Below w2.heap.size w2 wr) (fun _ i _ => n - (intOf i).toNat)
  case atStart => exact ⟨0, 0, Nat.zero_le _, rfl, rfl, rfl, Below.refl _ _⟩
  case round =>
    obtain ⟨k, m, hk, rfl, rfl, hm, hbl⟩ := hrel
    have HM := Lib.hid hm
    have HX := Lib.hid hbl
    have hm48 : m ≤ 281474976710656 := by rw [← hm]; exact Nat.le_trans (sizeR_le L k) HZ.out
    clear hm hbl
    by_cases hlt : k < n
    · obtain ⟨ad, lo, hi, rfl, hlk, hlo, hhi, hc1, hc2⟩ := (HR.out.up HX.out).at_ (k := k) (by rw [HN.out]; exact hlt)
      have hc3 : wr.cell? ⟨(ad.add (k * 2)).block, (ad.add (k * 2)).off + 1, none⟩ = some (.int .u64 (hi : Int)) := by rw [add_next]; exact hc2
      have hmay := (may_iff (lo, hi)).1 (HI.out.1 _ (List.mem_of_getElem? hlk))
      simp only at hmay
      have HS := Lib.hid (sizeR_take hlk)
      have HX2 : Hid (Below w2.heap.size w2 (wr.alloc (.cells #[.int .u64 (lo : Int), .int .u64 (hi : Int)] 31))) := HX.out.alloc HX.out.size _
      clear hlk hc2
      obtain ⟨s1, hs1⟩ : ∃ s1, s1 = hi - lo := ⟨_, rfl⟩
      obtain ⟨s2, hs2⟩ : ∃ s2, s2 = hi - lo + 1 := ⟨_, rfl⟩
      obtain ⟨s3, hs3⟩ : ∃ s3, s3 = m + (hi - lo + 1) := ⟨_, rfl⟩
      have hw1 : IntKind.u64.wrap ((hi : Int) - (lo : Int)) = (s1 : Int) := by rw [IntKind.wrap_u64]; omega
      have hw2 : IntKind.u64.wrap ((s1 : Int) + 1) = (s2 : Int) := by rw [IntKind.wrap_u64]; omega
      have hw3 : IntKind.u64.wrap ((m : Int) + (s2 : Int)) = (s3 : Int) := by rw [IntKind.wrap_u64]; omega
      have HE : Hid (sizeR (L.take (k + 1)) = s3) := by show _ = _; rw [HS.out, HM.out, hs3]
      clear hs1 hs2 hs3
      go_wp2
      go_roundw
      case rel => exact ⟨k + 1, s3, by omega, by go_num, rfl, HE.out, HX2.out⟩
      case measure => simp [intOf]; omega
    · obtain rfl : k = n := by omega
      have e : Hid (sizeR L = m) := by
        have h := HM.out
        rw [List.take_of_length_le (by rw [HN.out]; exact Nat.le_refl _)] at h
        exact h
      go_wp2
      go_ret
      exact ⟨ret_int (by rw [e.out]), HW.out.trans (HX.out.mono HW.out.size)⟩

theorem pfirst_any (w : World) (A1 : Option Addr) (l1 : List Run) (n1 c1 : Nat) (hl1 : l1.length = n1) (hb1 : Runs w w.heap.size A1 l1) (h1 : n1 ≤ 4398046511104) :
    Calls Try.prog 28 #[.slice A1 n1 c1] w fun e w' => e = .returned (.int .u64 ((firstR (nrm l1) : Nat) : Int)) ∧ Below w.heap.size w w' := by
  have H := Lib.hid (pnorm_any w A1 l1 n1 c1 hl1 hb1 h1)
  have HI := Lib.hid (nrm_spec l1).1
  clear hl1 hb1
  generalize nrm l1 = L at *
  go_enter Try.func28, Try.ntmps28
  go_wp2_with fail
  refine H.out.mono ?_
  clear H
  intro e w2 h2
  obtain ⟨A, n, c, rfl, hn, _, hnc, hc, hr, _, hb⟩ := post_runs h2 (fit_order HI.out)
  have HN := Lib.hid hn
  have HR := Lib.hid hr
  have HW := Lib.hid hb
  clear h2 hn hr hb
  by_cases h0 : n = 0
  · subst h0
    have e : Hid (firstR L = 1) := by show _ = _; rw [List.eq_nil_of_length_eq_zero HN.out]; rfl
    go_wp2
    go_ret
    exact ⟨ret_int (by rw [e.out]; rfl), HW.out⟩
  · have hne : ((n : Int) == 0) = false := by rw [beq_eq_false_iff_ne]; omega
    have hn0 : 0 < n := by omega
    obtain ⟨ad, lo, hi, rfl, hlk, hlo, hhi, hc1, hc2⟩ := HR.out.at_ (k := 0) (by rw [HN.out]; exact hn0)
    have hc3 : w2.cell? ⟨ad.block, ad.off + 1, none⟩ = some (.int .u64 (hi : Int)) := by
      have e : (⟨ad.block, ad.off + 1, none⟩ : Addr) = ad.add (0 * 2 + 1) := by unfold Addr.add; simp
      rw [e]; exact hc2
    have hc4 : w2.cell? ad = some (.int .u64 (lo : Int)) := by simpa [Addr.add] using hc1
    have hmay := (may_iff (lo, hi)).1 (HI.out.1 _ (List.mem_of_getElem? hlk))
    simp only at hmay
    have e : Hid (firstR L = if lo = 1 then hi + 1 else 1) := by
      show _ = _
      cases L with
      | nil => simp at hlk
      | cons r L => obtain rfl : r = (lo, hi) := by simpa using hlk
                    rfl
    clear hlk hc1 hc2
    by_cases hl1 : lo = 1
    · have hb1 : decide ((1 : Int) < (lo : Int)) = false := decide_eq_false (by omega)
      have E : Hid (firstR L = hi + 1) := e.out.trans (if_pos hl1)
      clear e hl1
      go_wp2
      go_ret
      exact ⟨ret_int (by rw [E.out]; go_num), HW.out⟩
    · have hb1 : decide ((1 : Int) < (lo : Int)) = true := decide_eq_true (by omega)
      have E : Hid (firstR L = 1) := e.out.trans (if_neg hl1)
      clear e hl1
      go_wp2
      go_ret
      exact ⟨ret_int (by rw [E.out]; rfl), HW.out⟩

theorem peq_any (w : World) (B1 B2 : Nat) (A1 A2 : Option Addr) (l1 l2 : List Run) (n1 n2 c1 c2 : Nat) (e1 : l1.length = n1) (e2 : l2.length = n2) (h1 : Runs w B1 A1 l1) (h2 : Runs w B2 A2 l2) (h63 : n1 ≤ 9223372036854775807) :
    Calls Try.prog 39 #[.slice A1 n1 c1, .slice A2 n2 c2] w fun e w' => e = .returned (.bool (decide (l1 = l2))) ∧ ∃ m, w' = w.drewN m := by
  have H1 := Lib.hid h1
  have H2 := Lib.hid h2
  have E1 := Lib.hid e1
  have E2 := Lib.hid e2
  clear h1 h2 e1 e2
  by_cases hn : n1 = n2
  · subst hn
    go_enter Try.func39, Try.ntmps39
    go_wp2
    go_loopw [13] (fun i wr => ∃ k : Nat, k ≤ n1 ∧ i = .int .i64 (k : Int) ∧ l1.take k = l2.take k ∧ ∃ m, wr = w.drewN m) (fun i _ => n1 - (intOf i).toNat)
    case atStart => exact ⟨0, Nat.zero_le _, rfl, by simp, 0, rfl⟩
    case round =>
      obtain ⟨k, hk, rfl, ht, m, rfl⟩ := hrel
      have HT := Lib.hid ht
      clear ht
      by_cases hlt : k < n1
      · obtain ⟨a1, x1, x2, rfl, hlx, hx1, hx2, hc1, hc2⟩ := H1.out.at_ (k := k) (by rw [E1.out]; exact hlt)
        obtain ⟨a2, y1, y2, rfl, hly, hy1, hy2, hd1, hd2⟩ := H2.out.at_ (k := k) (by rw [E2.out]; exact hlt)
        have hc3 : w.cell? ⟨(a1.add (k * 2)).block, (a1.add (k * 2)).off + 1, none⟩ = some (.int .u64 (x2 : Int)) := by rw [add_next]; exact hc2
        have hd3 : w.cell? ⟨(a2.add (k * 2)).block, (a2.add (k * 2)).off + 1, none⟩ = some (.int .u64 (y2 : Int)) := by rw [add_next]; exact hd2
        have LX := Lib.hid hlx
        have LY := Lib.hid hly
        clear hlx hly hc2 hd2
        by_cases hxy : x1 = y1 ∧ x2 = y2
        · obtain ⟨rfl, rfl⟩ := hxy
          have hs := Lib.hid (take_more HT.out LX.out LY.out)
          go_wp2_with fail
          go_quiet (fail)
          go_wp2
          go_roundw
          case rel => exact ⟨k + 1, by omega, by go_num, hs.out, _, rfl⟩
          case measure => simp [intOf]; omega
        · have hd : Hid (decide (l1 = l2) = false) := decide_eq_false (ne_at LX.out LY.out (fun e => hxy (by cases e; exact ⟨rfl, rfl⟩)))
          by_cases hx : x1 = y1
          · subst hx
            have hx2' : ¬ x2 = y2 := fun e => hxy ⟨rfl, e⟩
            have hb2 : ((x2 : Int) == (y2 : Int)) = false := by rw [beq_eq_false_iff_ne]; omega
            clear hxy
            go_wp2_with fail
            go_quiet (fail)
            go_wp2
            go_ret
            exact ⟨ret_bool hd.out.symm, _, World.drewN_drewN ..⟩
          · have hb2 : ((x1 : Int) == (y1 : Int)) = false := by rw [beq_eq_false_iff_ne]; omega
            clear hxy
            go_wp2_with fail
            go_quiet (fail)
            go_wp2
            go_ret
            exact ⟨ret_bool hd.out.symm, _, World.drewN_drewN ..⟩
      · obtain rfl : k = n1 := by omega
        have hd : Hid (l1 = l2) := by
          have h := HT.out
          rw [List.take_of_length_le (by rw [E1.out]; exact Nat.le_refl _), List.take_of_length_le (by rw [E2.out]; exact Nat.le_refl _)] at h
          exact h
        go_wp2
        go_ret
        exact ⟨ret_bool (by rw [decide_eq_true hd.out]), m, rfl⟩
  · have hd : Hid (decide (l1 = l2) = false) := decide_eq_false (fun e => hn (by rw [← E1.out, ← E2.out, e]))
    have hne : ((n1 : Int) != (n2 : Int)) = true := by rw [bne_iff_ne]; omega
    go_enter Try.func39, Try.ntmps39
    go_wp2
    go_ret
    exact ⟨ret_bool hd.out.symm, 0, rfl⟩
theorem same_any (w : World) (A1 A2 : Option Addr) (l1 l2 : List Run) (n1 n2 c1 c2 : Nat) (hl1 : l1.length = n1) (hl2 : l2.length = n2) (hb1 : Runs w w.heap.size A1 l1) (hb2 : Runs w w.heap.size A2 l2) (h1 : n1 ≤ 4398046511104) (h2 : n2 ≤ 4398046511104) :
    Calls Try.prog 18 #[.slice A1 n1 c1, .slice A2 n2 c2] w fun e w' => e = .returned (.bool (decide (nrm l1 = nrm l2))) ∧ Below w.heap.size w w' := by
  have H1 := Lib.hid (pnorm_any w A1 l1 n1 c1 hl1 hb1 h1)
  have HB2 := Lib.hid hb2
  have HL2 := Lib.hid hl2
  clear hl1 hl2 hb1 hb2
  go_enter Try.func18, Try.ntmps18
  go_wp2_with fail
  refine H1.out.mono ?_
  rintro e w1 p1
  obtain ⟨B1, m1, d1, rfl, e1, _, f1, f1', r1, o1, b1⟩ := post_runs p1 (fit_order (nrm_spec l1).1)
  have R1 := Lib.hid r1
  have E1 := Lib.hid e1
  have W1 := Lib.hid b1
  have H2 := Lib.hid (pnorm_any w1 A2 l2 n2 c2 HL2.out (HB2.out.up b1) h2)
  clear p1 r1 o1 b1 e1
  go_wp2_with fail
  refine H2.out.mono ?_
  rintro e w2 p2
  obtain ⟨B2, m2, d2, rfl, e2, _, f2, f2', r2, o2, b2⟩ := post_runs p2 (fit_order (nrm_spec l2).1)
  have H3 := Lib.hid (peq_any w2 _ _ B1 B2 (nrm l1) (nrm l2) m1 m2 d1 d2 E1.out e2 (R1.out.up b2) r2 (by omega))
  have W2 : Hid (Below w.heap.size w w2) := W1.out.trans (b2.mono W1.out.size)
  clear p2 r2 o2 b2 e2
  go_wp2_with fail
  refine H3.out.mono ?_
  rintro e w3 ⟨rfl, q, rfl⟩
  go_wp2
  go_ret
  exact ⟨rfl, below_drewK W2.out q⟩
end Go.Proofs.Ytaoojiacdkabbaa.Ru
