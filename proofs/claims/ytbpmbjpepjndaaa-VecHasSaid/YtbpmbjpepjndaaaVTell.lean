/- The contracts of the document's answers for layer dot that tell of lists: Same. For every list. -/
import Derived.Test.YtbpmbjpepjndaaaVOne
import Derived.Deep.RegionHeld3
namespace Go.Proofs.Ytbpmbjpepjndaaa.Dt
open Go.ChangeShapes Go.WideShapes Go.ChangeAt Go.RowKit
set_option linter.unusedVariables false

theorem bel_drewN {B : Nat} {w W : World} (h : Below B w W) (m : Nat) : Below B w (W.drewN m) := h.trans ⟨rfl, rfl, rfl, Nat.le_refl _, fun _ _ => rfl⟩
theorem bel_drew {w W : World} (h : Below w.heap.size w W) : Below w.heap.size w W.drew := h.drew
theorem take_more {l m : List Dot} {k : Nat} {x : Dot} (h : l.take k = m.take k) (h1 : l[k]? = some x) (h2 : m[k]? = some x) : l.take (k + 1) = m.take (k + 1) := by
  rw [List.take_add_one, List.take_add_one, h, h1, h2]
theorem ne_at {l m : List Dot} {k : Nat} {x y : Dot} (h1 : l[k]? = some x) (h2 : m[k]? = some y) (hn : x ≠ y) : l ≠ m := by
  intro e
  rw [e, h2] at h1
  exact hn (Option.some.inj h1).symm
theorem rsame_any (w : World) (B1 B2 : Nat) (A1 A2 : Option Addr) (l1 l2 : List Dot) (n1 n2 c1 c2 : Nat) (e1 : l1.length = n1) (e2 : l2.length = n2) (h1 : Dots w B1 A1 l1) (h2 : Dots w B2 A2 l2) (h63 : n1 ≤ 9223372036854775807) :
    Calls Try.prog 12 #[.slice A1 n1 c1, .slice A2 n2 c2] w fun e w' => e = .returned (.bool (decide (l1 = l2))) ∧ ∃ m, w' = w.drewN m := by
  have H1 := Lib.hid h1
  have H2 := Lib.hid h2
  have E1 := Lib.hid e1
  have E2 := Lib.hid e2
  clear h1 h2 e1 e2
  by_cases hn : n1 = n2
  · subst hn
    go_enter Try.func12, Try.ntmps12
    go_wp2
    go_loopw [5] (fun i wr => ∃ k : Nat, k ≤ n1 ∧ i = .int .i64 (k : Int) ∧ l1.take k = l2.take k ∧ ∃ m, wr = w.drewN m) (fun i _ => n1 - (intOf i).toNat)
    case atStart => exact ⟨0, Nat.zero_le _, rfl, by simp, 0, rfl⟩
    case round =>
      obtain ⟨k, hk, rfl, ht, m, rfl⟩ := hrel
      have HT := Lib.hid ht
      clear ht
      by_cases hlt : k < n1
      · obtain ⟨a1, x1, x2, rfl, hlx, hx1, hx2, hc1, hc2⟩ := H1.out.at_ (k := k) (by rw [E1.out]; exact hlt)
        obtain ⟨a2, y1, y2, rfl, hly, hy1, hy2, hd1, hd2⟩ := H2.out.at_ (k := k) (by rw [E2.out]; exact hlt)
        have hc3 : w.cell? ⟨(a1.add (k * 2)).block, (a1.add (k * 2)).off + 1, none⟩ = some (.int .u64 (x2 : Int)) := by rw [add_next]; exact hc2
        have hd3 : w.cell? ⟨(a2.add (k * 2)).block, (a2.add (k * 2)).off + 1, none⟩ = some (.int .u64 (y2 : Int)) := by rw [add_next]; exact hd2
        have LX := Lib.hid hlx
        have LY := Lib.hid hly
        clear hlx hly hc2 hd2
        by_cases hxy : x1 = y1 ∧ x2 = y2
        · obtain ⟨rfl, rfl⟩ := hxy
          have hs := Lib.hid (take_more HT.out LX.out LY.out)
          go_wp2_with fail
          go_quiet (fail)
          go_wp2
          go_roundw
          case rel => exact ⟨k + 1, by omega, by go_num, hs.out, _, rfl⟩
          case measure => simp [intOf]; omega
        · have hd : Hid (decide (l1 = l2) = false) := decide_eq_false (ne_at LX.out LY.out (fun e => hxy (by cases e; exact ⟨rfl, rfl⟩)))
          by_cases hx : x1 = y1
          · subst hx
            have hx2' : ¬ x2 = y2 := fun e => hxy ⟨rfl, e⟩
            have hb2 : ((x2 : Int) == (y2 : Int)) = false := by rw [beq_eq_false_iff_ne]; omega
            clear hxy
            go_wp2_with fail
            go_quiet (fail)
            go_wp2
            go_ret
            exact ⟨ret_bool hd.out.symm, _, World.drewN_drewN ..⟩
          · have hb2 : ((x1 : Int) == (y1 : Int)) = false := by rw [beq_eq_false_iff_ne]; omega
            clear hxy
            go_wp2_with fail
            go_quiet (fail)
            go_wp2
            go_ret
            exact ⟨ret_bool hd.out.symm, _, World.drewN_drewN ..⟩
      · obtain rfl : k = n1 := by omega
        have hd : Hid (l1 = l2) := by
          have h := HT.out
          rw [List.take_of_length_le (by rw [E1.out]; exact Nat.le_refl _), List.take_of_length_le (by rw [E2.out]; exact Nat.le_refl _)] at h
          exact h
        go_wp2
        go_ret
        exact ⟨ret_bool (by rw [decide_eq_true hd.out]), m, rfl⟩
  · have hd : Hid (decide (l1 = l2) = false) := decide_eq_false (fun e => hn (by rw [← E1.out, ← E2.out, e]))
    have hne : ((n1 : Int) != (n2 : Int)) = true := by rw [bne_iff_ne]; omega
    go_enter Try.func12, Try.ntmps12
    go_wp2
    go_ret
    exact ⟨ret_bool hd.out.symm, 0, rfl⟩

theorem take_next {l : List Dot} {k : Nat} {x : Dot} (h1 : l[k]? = some x) : l.take (k + 1) = l.take k ++ [x] := by
  rw [List.take_add_one, h1]; rfl
theorem rcmp_later (w W : World) (a b : Dot) (hW : Below w.heap.size w W) :
    Calls Try.prog 41 #[.agg #[.int .u16 (a.1 : Int), .int .u64 (a.2 : Int)], .agg #[.int .u16 (b.1 : Int), .int .u64 (b.2 : Int)]] W fun e V => e = .returned (.int .i64 (cmpD a b)) ∧ Below w.heap.size w V :=
  (rcmp_any W a b).mono fun _ _ ⟨h1, h2⟩ => ⟨h1, hW.trans (h2.mono hW.size)⟩
theorem cmp_sign (a b : Dot) : aheadD a b = false → 0 ≤ cmpD a b := by
  intro h
  unfold cmpD
  split
  · omega
  · rw [h]; simp
theorem Dots.cells {w : World} {B : Nat} {A : Option Addr} {l : List Dot} (h : Dots w B A l) {k : Nat} (hk : k < l.length) :
    ∃ (ad : Addr) (x : Dot), A = some ad ∧ ad.block < B ∧ l[k]? = some x ∧ x.1 < 65536 ∧ x.2 < 18446744073709551616 ∧ ∀ V, Below B w V → V.cell? (ad.add (k * 2)) = some (.int .u16 (x.1 : Int)) ∧ V.cell? ⟨(ad.add (k * 2)).block, (ad.add (k * 2)).off + 1, none⟩ = some (.int .u64 (x.2 : Int)) := by
  obtain ⟨ad, e, hB, _⟩ := h.2 (by rw [dv_length]; omega)
  obtain ⟨ad', lo, hi, e', hl, h1, h2, hc1, hc2⟩ := h.at_ hk
  obtain rfl : ad = ad' := by rw [e] at e'; exact Option.some.inj e'
  refine ⟨ad, (lo, hi), e, hB, hl, h1, h2, fun V hV => ⟨(hV.cell (by rw [block_add]; exact hB)).trans hc1, ?_⟩⟩
  rw [add_next]
  exact (hV.cell (by rw [block_add]; exact hB)).trans hc2

end Go.Proofs.Ytbpmbjpepjndaaa.Dt
