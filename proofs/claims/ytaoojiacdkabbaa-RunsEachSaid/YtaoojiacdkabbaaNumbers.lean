/- The contracts of the document's Good, Size, First, Last and Of for layer runs. Condition: at most 512 runs, at most 500 numbers. -/
import Derived.Test.YtaoojiacdkabbaaAnswers
namespace Go.Proofs.Ytaoojiacdkabbaa.Ru
open Go.ChangeShapes Go.WideShapes Go.ChangeAt Go.RowKit
set_option linter.unusedVariables false

theorem below_drewK {B : Nat} {a w : World} (h : Below B a w) (n : Nat) : Below B a (w.drewN n) := Go.below_drewN h n

theorem good_any (w : World) (A1 : Option Addr) (l1 : List Run) (n1 c1 : Nat) (hl1 : l1.length = n1) (hA1 : A1 = none → n1 = 0 ∧ c1 = 0) (hb1 : Runs w w.heap.size A1 l1) (h1 : n1 ≤ 512) :
    Calls Try.prog 22 #[.slice A1 n1 c1] w fun e w' => e = .returned (.bool (decide (l1 = normL l1))) ∧ Below w.heap.size w w' := by
  have HL := Lib.hid hl1
  have HA := Lib.hid hA1
  have HB := Lib.hid hb1
  clear hl1 hA1 hb1
  go_enter Try.func22, Try.ntmps22
  go_wp2_with fail
  refine (norm_any w A1 l1 n1 c1 HL.out HA.out HB.out h1).mono ?_
  intro e w2 h2
  obtain ⟨A, n, c, rfl, hn, _, _, _, hr, _, hb⟩ := post_runs h2 (fit_order (norm_spec l1).1)
  have HN := Lib.hid hn
  have HR := Lib.hid hr
  have HW := Lib.hid hb
  clear h2 hn hr hb
  go_wp2_with fail
  refine (eq_any w2 _ _ A1 A l1 (normL l1) n1 n c1 c HL.out HN.out (HB.out.up HW.out) HR.out (by omega)).mono ?_
  rintro e w3 ⟨rfl, m, rfl⟩
  go_wp2
  go_ret
  exact ⟨rfl, below_drewK HW.out m⟩

theorem sizeR_append (a b : List Run) : sizeR (a ++ b) = sizeR a + sizeR b := by
  induction a with
  | nil => simp [sizeR]
  | cons r a ih => simp only [List.cons_append, sizeR, ih]; omega
theorem sizeR_take {l : List Run} {k lo hi : Nat} (h : l[k]? = some (lo, hi)) : sizeR (l.take (k + 1)) = sizeR (l.take k) + (hi - lo + 1) := by
  rw [List.take_add_one, h, sizeR_append]
  rfl
theorem sizeR_le (l : List Run) (k : Nat) : sizeR (l.take k) ≤ sizeR l := by
  have := sizeR_append (l.take k) (l.drop k)
  rw [List.take_append_drop] at this
  omega

theorem size_any (w : World) (A1 : Option Addr) (l1 : List Run) (n1 c1 : Nat) (hl1 : l1.length = n1) (hA1 : A1 = none → n1 = 0 ∧ c1 = 0) (hb1 : Runs w w.heap.size A1 l1) (h1 : n1 ≤ 512) :
    Calls Try.prog 27 #[.slice A1 n1 c1] w fun e w' => e = .returned (.int .u64 ((sizeR (normL l1) : Nat) : Int)) ∧ Below w.heap.size w w' := by
  have HL := Lib.hid hl1
  have HA := Lib.hid hA1
  have HB := Lib.hid hb1
  clear hl1 hA1 hb1
  have HI := Lib.hid (norm_spec l1).1
  have H := Lib.hid (norm_any w A1 l1 n1 c1 HL.out HA.out HB.out h1)
  generalize normL l1 = L at *
  go_enter Try.func27, Try.ntmps27
  go_wp2_with fail
  refine H.out.mono ?_
  clear H
  intro e w2 h2
  obtain ⟨A, n, c, rfl, hn, _, hnc, hc, hr, _, hb⟩ := post_runs h2 (fit_order HI.out)
  have HN := Lib.hid hn
  have HR := Lib.hid hr
  have HW := Lib.hid hb
  have HZ : Hid (sizeR L ≤ 281474976710656) := size_le HI.out
  clear h2 hn hr hb
  go_wp2_with fail
  go_loopw [3, 4] (fun s i wr => ∃ (k m : Nat), k ≤ n ∧ i = .int .i64 (k : Int) ∧ s = .int .u64 (m : Int) ∧ sizeR (L.take k) = m ∧ ∃ d, wr = w2.drewN d) (fun _ i _ => n - (intOf i).toNat)
  case atStart => exact ⟨0, 0, Nat.zero_le _, rfl, rfl, rfl, 0, rfl⟩
  case round =>
    obtain ⟨k, m, hk, rfl, rfl, hm, d, rfl⟩ := hrel
    have HM := Lib.hid hm
    have hm48 : m ≤ 281474976710656 := by rw [← hm]; exact Nat.le_trans (sizeR_le L k) HZ.out
    clear hm
    by_cases hlt : k < n
    · obtain ⟨ad, lo, hi, rfl, hlk, hlo, hhi, hc1, hc2⟩ := HR.out.at_ (k := k) (by rw [HN.out]; exact hlt)
      have hc3 : w2.cell? ⟨(ad.add (k * 2)).block, (ad.add (k * 2)).off + 1, none⟩ = some (.int .u64 (hi : Int)) := by rw [add_next]; exact hc2
      have hmay := (may_iff (lo, hi)).1 (HI.out.1 _ (List.mem_of_getElem? hlk))
      simp only at hmay
      have HS := Lib.hid (sizeR_take hlk)
      clear hlk hc2
      obtain ⟨s1, hs1⟩ : ∃ s1, s1 = m + hi := ⟨_, rfl⟩
      obtain ⟨s2, hs2⟩ : ∃ s2, s2 = m + hi - lo := ⟨_, rfl⟩
      obtain ⟨s3, hs3⟩ : ∃ s3, s3 = m + (hi - lo + 1) := ⟨_, rfl⟩
      have hw1 : IntKind.u64.wrap ((m : Int) + (hi : Int)) = (s1 : Int) := by rw [IntKind.wrap_u64]; omega
      have hw2 : IntKind.u64.wrap ((s1 : Int) - (lo : Int)) = (s2 : Int) := by rw [IntKind.wrap_u64]; omega
      have hw3 : IntKind.u64.wrap ((s2 : Int) + 1) = (s3 : Int) := by rw [IntKind.wrap_u64]; omega
      have HE : Hid (sizeR (L.take (k + 1)) = s3) := by show _ = _; rw [HS.out, HM.out, hs3]
      clear hs1 hs2 hs3
      go_wp2_with fail
      go_quiet (fail)
      go_wp2
      go_roundw
      case rel => exact ⟨k + 1, s3, by omega, by go_num, rfl, HE.out, _, rfl⟩
      case measure => simp [intOf]; omega
    · obtain rfl : k = n := by omega
      have e : Hid (sizeR L = m) := by
        have h := HM.out
        rw [List.take_of_length_le (by rw [HN.out]; exact Nat.le_refl _)] at h
        exact h
      go_wp2
      go_ret
      exact ⟨ret_int (by rw [e.out]), below_drewK HW.out d⟩

theorem first_any (w : World) (A1 : Option Addr) (l1 : List Run) (n1 c1 : Nat) (hl1 : l1.length = n1) (hA1 : A1 = none → n1 = 0 ∧ c1 = 0) (hb1 : Runs w w.heap.size A1 l1) (h1 : n1 ≤ 512) :
    Calls Try.prog 29 #[.slice A1 n1 c1] w fun e w' => e = .returned (.int .u64 ((firstR (normL l1) : Nat) : Int)) ∧ Below w.heap.size w w' := by
  have HL := Lib.hid hl1
  have HA := Lib.hid hA1
  have HB := Lib.hid hb1
  clear hl1 hA1 hb1
  have HI := Lib.hid (norm_spec l1).1
  have H := Lib.hid (norm_any w A1 l1 n1 c1 HL.out HA.out HB.out h1)
  generalize normL l1 = L at *
  go_enter Try.func29, Try.ntmps29
  go_wp2_with fail
  refine H.out.mono ?_
  clear H
  intro e w2 h2
  obtain ⟨A, n, c, rfl, hn, _, hnc, hc, hr, _, hb⟩ := post_runs h2 (fit_order HI.out)
  have HN := Lib.hid hn
  have HR := Lib.hid hr
  have HW := Lib.hid hb
  clear h2 hn hr hb
  by_cases h0 : n = 0
  · subst h0
    have e : Hid (firstR L = 1) := by show _ = _; rw [List.eq_nil_of_length_eq_zero HN.out]; rfl
    go_wp2
    go_ret
    exact ⟨ret_int (by rw [e.out]; rfl), HW.out⟩
  · have hne : ((n : Int) == 0) = false := by rw [beq_eq_false_iff_ne]; omega
    have hn0 : 0 < n := by omega
    obtain ⟨ad, lo, hi, rfl, hlk, hlo, hhi, hc1, hc2⟩ := HR.out.at_ (k := 0) (by rw [HN.out]; exact hn0)
    have hc3 : w2.cell? ⟨ad.block, ad.off + 1, none⟩ = some (.int .u64 (hi : Int)) := by
      have e : (⟨ad.block, ad.off + 1, none⟩ : Addr) = ad.add (0 * 2 + 1) := by unfold Addr.add; simp
      rw [e]; exact hc2
    have hc4 : w2.cell? ad = some (.int .u64 (lo : Int)) := by simpa [Addr.add] using hc1
    have hmay := (may_iff (lo, hi)).1 (HI.out.1 _ (List.mem_of_getElem? hlk))
    simp only at hmay
    have e : Hid (firstR L = if lo = 1 then hi + 1 else 1) := by
      show _ = _
      cases L with
      | nil => simp at hlk
      | cons r L => obtain rfl : r = (lo, hi) := by simpa using hlk
                    rfl
    clear hlk hc1 hc2
    by_cases hl1 : lo = 1
    · have hb1 : ((lo : Int) != 1) = false := by rw [bne_eq_false_iff_eq]; omega
      have E : Hid (firstR L = hi + 1) := e.out.trans (if_pos hl1)
      clear e hl1
      go_wp2
      go_ret
      exact ⟨ret_int (by rw [E.out]; go_num), HW.out⟩
    · have hb1 : ((lo : Int) != 1) = true := by rw [bne_iff_ne]; omega
      have E : Hid (firstR L = 1) := e.out.trans (if_neg hl1)
      clear e hl1
      go_wp2
      go_ret
      exact ⟨ret_int (by rw [E.out]; rfl), HW.out⟩

theorem last_any (w : World) (A1 : Option Addr) (l1 : List Run) (n1 c1 : Nat) (hl1 : l1.length = n1) (hA1 : A1 = none → n1 = 0 ∧ c1 = 0) (hb1 : Runs w w.heap.size A1 l1) (h1 : n1 ≤ 512) :
    Calls Try.prog 31 #[.slice A1 n1 c1] w fun e w' => e = .returned (.int .u64 ((lastR (normL l1) : Nat) : Int)) ∧ Below w.heap.size w w' := by
  have HL := Lib.hid hl1
  have HA := Lib.hid hA1
  have HB := Lib.hid hb1
  clear hl1 hA1 hb1
  have HI := Lib.hid (norm_spec l1).1
  have H := Lib.hid (norm_any w A1 l1 n1 c1 HL.out HA.out HB.out h1)
  generalize normL l1 = L at *
  go_enter Try.func31, Try.ntmps31
  go_wp2_with fail
  refine H.out.mono ?_
  clear H
  intro e w2 h2
  obtain ⟨A, n, c, rfl, hn, _, hnc, hc, hr, _, hb⟩ := post_runs h2 (fit_order HI.out)
  have HN := Lib.hid hn
  have HR := Lib.hid hr
  have HW := Lib.hid hb
  clear h2 hn hr hb
  by_cases h0 : n = 0
  · subst h0
    have e : Hid (lastR L = 0) := by show _ = _; rw [List.eq_nil_of_length_eq_zero HN.out]; rfl
    go_wp2
    go_ret
    exact ⟨ret_int (by rw [e.out]; rfl), HW.out⟩
  · have hne : ((n : Int) == 0) = false := by rw [beq_eq_false_iff_ne]; omega
    obtain ⟨z, hz⟩ : ∃ z, n = z + 1 := ⟨n - 1, by omega⟩
    have hzI : (n : Int) - 1 = (z : Int) := by omega
    have hzn : z < n := by omega
    obtain ⟨ad, lo, hi, rfl, hlk, hlo, hhi, hc1, hc2⟩ := HR.out.at_ (k := z) (by rw [HN.out]; exact hzn)
    have hc3 : w2.cell? ⟨(ad.add (z * 2)).block, (ad.add (z * 2)).off + 1, none⟩ = some (.int .u64 (hi : Int)) := by rw [add_next]; exact hc2
    have e : Hid (lastR L = hi) := by
      show _ = _
      obtain ⟨o, l2, h2, rfl, ho⟩ := last_of (HN.out.trans hz)
      rw [List.getElem?_append_right (by omega), ho] at hlk
      simp at hlk
      rw [last_snoc]
      exact hlk.2
    clear hlk hc1 hc2 hz
    go_wp2
    go_ret
    exact ⟨ret_int (by rw [e.out]), HW.out⟩
end Go.Proofs.Ytaoojiacdkabbaa.Ru
