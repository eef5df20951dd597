/- The contracts of the document's answers for layer dot that tell of lists: Same, Has, Rising. For every list. -/
import Derived.Test.YtbaiiidkffafmaaDOne
import Derived.Deep.RegionHeld3
namespace Go.Proofs.Ytbaiiidkffafmaa.Dt
open Go.ChangeShapes Go.WideShapes Go.ChangeAt Go.RowKit
set_option linter.unusedVariables false

theorem bel_drewN {B : Nat} {w W : World} (h : Below B w W) (m : Nat) : Below B w (W.drewN m) := h.trans ⟨rfl, rfl, rfl, Nat.le_refl _, fun _ _ => rfl⟩
theorem take_more {l m : List Dot} {k : Nat} {x : Dot} (h : l.take k = m.take k) (h1 : l[k]? = some x) (h2 : m[k]? = some x) : l.take (k + 1) = m.take (k + 1) := by
  rw [List.take_add_one, List.take_add_one, h, h1, h2]
theorem ne_at {l m : List Dot} {k : Nat} {x y : Dot} (h1 : l[k]? = some x) (h2 : m[k]? = some y) (hn : x ≠ y) : l ≠ m := by
  intro e
  rw [e, h2] at h1
  exact hn (Option.some.inj h1).symm
theorem rsame_any (w : World) (B1 B2 : Nat) (A1 A2 : Option Addr) (l1 l2 : List Dot) (n1 n2 c1 c2 : Nat) (e1 : l1.length = n1) (e2 : l2.length = n2) (h1 : Dots w B1 A1 l1) (h2 : Dots w B2 A2 l2) (h63 : n1 ≤ 9223372036854775807) :
    Calls Try.prog 19 #[.slice A1 n1 c1, .slice A2 n2 c2] w fun e w' => e = .returned (.bool (decide (l1 = l2))) ∧ ∃ m, w' = w.drewN m := by
  have H1 := Lib.hid h1
  have H2 := Lib.hid h2
  have E1 := Lib.hid e1
  have E2 := Lib.hid e2
  clear h1 h2 e1 e2
  by_cases hn : n1 = n2
  · subst hn
    go_enter Try.func19, Try.ntmps19
    go_wp2
    go_loopw [5] (fun i wr => ∃ k : Nat, k ≤ n1 ∧ i = .int .i64 (k : Int) ∧ l1.take k = l2.take k ∧ ∃ m, wr = w.drewN m) (fun i _ => n1 - (intOf i).toNat)
    case atStart => exact ⟨0, Nat.zero_le _, rfl, by simp, 0, rfl⟩
    case round =>
      obtain ⟨k, hk, rfl, ht, m, rfl⟩ := hrel
      have HT := Lib.hid ht
      clear ht
      by_cases hlt : k < n1
      · obtain ⟨a1, x1, x2, rfl, hlx, hx1, hx2, hc1, hc2⟩ := H1.out.at_ (k := k) (by rw [E1.out]; exact hlt)
        obtain ⟨a2, y1, y2, rfl, hly, hy1, hy2, hd1, hd2⟩ := H2.out.at_ (k := k) (by rw [E2.out]; exact hlt)
        have hc3 : w.cell? ⟨(a1.add (k * 2)).block, (a1.add (k * 2)).off + 1, none⟩ = some (.int .u64 (x2 : Int)) := by rw [add_next]; exact hc2
        have hd3 : w.cell? ⟨(a2.add (k * 2)).block, (a2.add (k * 2)).off + 1, none⟩ = some (.int .u64 (y2 : Int)) := by rw [add_next]; exact hd2
        have LX := Lib.hid hlx
        have LY := Lib.hid hly
        clear hlx hly hc2 hd2
        by_cases hxy : x1 = y1 ∧ x2 = y2
        · obtain ⟨rfl, rfl⟩ := hxy
          have hs := Lib.hid (take_more HT.out LX.out LY.out)
          go_wp2_with fail
          go_quiet (fail)
          go_wp2
          go_roundw
          case rel => exact ⟨k + 1, by omega, by go_num, hs.out, _, rfl⟩
          case measure => simp [intOf]; omega
        · have hd : Hid (decide (l1 = l2) = false) := decide_eq_false (ne_at LX.out LY.out (fun e => hxy (by cases e; exact ⟨rfl, rfl⟩)))
          by_cases hx : x1 = y1
          · subst hx
            have hx2' : ¬ x2 = y2 := fun e => hxy ⟨rfl, e⟩
            have hb2 : ((x2 : Int) == (y2 : Int)) = false := by rw [beq_eq_false_iff_ne]; omega
            clear hxy
            go_wp2_with fail
            go_quiet (fail)
            go_wp2
            go_ret
            exact ⟨ret_bool hd.out.symm, _, World.drewN_drewN ..⟩
          · have hb2 : ((x1 : Int) == (y1 : Int)) = false := by rw [beq_eq_false_iff_ne]; omega
            clear hxy
            go_wp2_with fail
            go_quiet (fail)
            go_wp2
            go_ret
            exact ⟨ret_bool hd.out.symm, _, World.drewN_drewN ..⟩
      · obtain rfl : k = n1 := by omega
        have hd : Hid (l1 = l2) := by
          have h := HT.out
          rw [List.take_of_length_le (by rw [E1.out]; exact Nat.le_refl _), List.take_of_length_le (by rw [E2.out]; exact Nat.le_refl _)] at h
          exact h
        go_wp2
        go_ret
        exact ⟨ret_bool (by rw [decide_eq_true hd.out]), m, rfl⟩
  · have hd : Hid (decide (l1 = l2) = false) := decide_eq_false (fun e => hn (by rw [← E1.out, ← E2.out, e]))
    have hne : ((n1 : Int) != (n2 : Int)) = true := by rw [bne_iff_ne]; omega
    go_enter Try.func19, Try.ntmps19
    go_wp2
    go_ret
    exact ⟨ret_bool hd.out.symm, 0, rfl⟩

theorem take_next {l : List Dot} {k : Nat} {x : Dot} (h1 : l[k]? = some x) : l.take (k + 1) = l.take k ++ [x] := by
  rw [List.take_add_one, h1]; rfl
set_option maxHeartbeats 1000000 in
theorem rhas_any (w : World) (A : Option Addr) (l : List Dot) (n c : Nat) (d : Dot) (e1 : l.length = n) (h1 : Dots w w.heap.size A l) (h63 : n ≤ 9223372036854775807) :
    Calls Try.prog 14 #[.slice A n c, .agg #[.int .u16 (d.1 : Int), .int .u64 (d.2 : Int)]] w fun e w' => e = .returned (.bool (decide (d ∈ l))) ∧ Below w.heap.size w w' := by
  obtain ⟨d1, d2⟩ := d
  have H1 := Lib.hid (h1.below (below_new w (.cells #[.int .u16 (d1 : Int), .int .u64 (d2 : Int)] 25)))
  have E1 := Lib.hid e1
  have HB : Hid (Below w.heap.size w (w.alloc (.cells #[.int .u16 (d1 : Int), .int .u64 (d2 : Int)] 25))) := below_new w _
  have hd0 : (w.alloc (.cells #[.int .u16 (d1 : Int), .int .u64 (d2 : Int)] 25)).cell? ⟨w.heap.size, 0, none⟩ = some (.int .u16 (d1 : Int)) := by rw [World.cell?_alloc_mark]; rfl
  have hd1 : (w.alloc (.cells #[.int .u16 (d1 : Int), .int .u64 (d2 : Int)] 25)).cell? ⟨w.heap.size, 1, none⟩ = some (.int .u64 (d2 : Int)) := by rw [World.cell?_alloc_mark]; rfl
  clear h1 e1
  go_enter Try.func14, Try.ntmps14
  go_wp2
  generalize hw1 : w.alloc (.cells #[.int .u16 (d1 : Int), .int .u64 (d2 : Int)] 25) = w1 at *
  clear hw1
  go_loopw [5] (fun i wr => ∃ k : Nat, k ≤ n ∧ i = .int .i64 (k : Int) ∧ ((d1, d2) ∉ l.take k) ∧ ∃ m, wr = w1.drewN m) (fun i _ => n - (intOf i).toNat)
  case atStart => exact ⟨0, Nat.zero_le _, rfl, by simp, 0, rfl⟩
  case round =>
    obtain ⟨k, hk, rfl, ht, m, rfl⟩ := hrel
    have HT := Lib.hid ht
    clear ht
    by_cases hlt : k < n
    · obtain ⟨a1, x1, x2, rfl, hlx, hx1, hx2, hc1, hc2⟩ := H1.out.at_ (k := k) (by rw [E1.out]; exact hlt)
      have hc3 : w1.cell? ⟨(a1.add (k * 2)).block, (a1.add (k * 2)).off + 1, none⟩ = some (.int .u64 (x2 : Int)) := by rw [add_next]; exact hc2
      have LX := Lib.hid hlx
      clear hlx hc2
      by_cases hxy : x1 = d1 ∧ x2 = d2
      · obtain ⟨rfl, rfl⟩ := hxy
        have hs : Hid (decide ((x1, x2) ∈ l) = true) := Lib.hid (decide_eq_true (List.mem_of_getElem? LX.out))
        go_wp2_with fail
        go_quiet (fail)
        go_wp2
        go_ret
        exact ⟨ret_bool hs.out.symm, bel_drewN (bel_drewN HB.out _) _⟩
      · have hs : Hid ((d1, d2) ∉ l.take (k + 1)) := Lib.hid (by
          rw [take_next LX.out, List.mem_append, List.mem_singleton]
          rintro (h | h)
          · exact HT.out h
          · cases h; exact hxy ⟨rfl, rfl⟩)
        by_cases hx : x1 = d1
        · subst hx
          have hx2' : ¬ x2 = d2 := fun e => hxy ⟨rfl, e⟩
          have hb2 : ((x2 : Int) == (d2 : Int)) = false := by rw [beq_eq_false_iff_ne]; omega
          clear hxy
          go_wp2_with fail
          go_quiet (fail)
          go_wp2
          go_roundw
          case rel => exact ⟨k + 1, by omega, by go_num, hs.out, _, rfl⟩
          case measure => simp [intOf]; omega
        · have hb2 : ((x1 : Int) == (d1 : Int)) = false := by rw [beq_eq_false_iff_ne]; omega
          clear hxy
          go_wp2_with fail
          go_quiet (fail)
          go_wp2
          go_roundw
          case rel => exact ⟨k + 1, by omega, by go_num, hs.out, _, rfl⟩
          case measure => simp [intOf]; omega
    · obtain rfl : k = n := by omega
      have hs : Hid (decide ((d1, d2) ∈ l) = false) := Lib.hid (decide_eq_false (by
        have h := HT.out
        rw [List.take_of_length_le (by rw [E1.out]; exact Nat.le_refl _)] at h
        exact h))
      go_wp2
      go_ret
      exact ⟨ret_bool hs.out.symm, bel_drewN HB.out _⟩
end Go.Proofs.Ytbaiiidkffafmaa.Dt
