/- The contracts of the document's Texts and more of layer card. For every list of texts. -/
import Derived.Test.YtdmjhaifilfniaaKWords
import Derived.Deep.RegionHeld3
import Derived.Laws.Cover1
namespace Go.Proofs.Ytdmjhaifilfniaa.Kd
open Go.ChangeShapes Go.WideShapes Go.ChangeAt Go.RowKit
set_option linter.unusedVariables false

theorem bel_drewN {B : Nat} {w W : World} (h : Below B w W) (m : Nat) : Below B w (W.drewN m) := h.trans ⟨rfl, rfl, rfl, Nat.le_refl _, fun _ _ => rfl⟩
theorem below_drewN (B : Nat) (w : World) (m : Nat) : Below B w (w.drewN m) := ⟨rfl, rfl, rfl, Nat.le_refl _, fun _ _ => rfl⟩
theorem drew_more {w W : World} (h : ∃ m, W = w.drewN m) (k : Nat) : ∃ m, W.drewN k = w.drewN m := by
  obtain ⟨m, rfl⟩ := h
  exact ⟨_, World.drewN_drewN ..⟩
theorem ret_bool {a b : Bool} (h : a = b) : Ending.returned (.bool a) = .returned (.bool b) := by rw [h]
theorem take_more {α : Type} {l m : List α} {k : Nat} {x : α} (h : l.take k = m.take k) (h1 : l[k]? = some x) (h2 : m[k]? = some x) : l.take (k + 1) = m.take (k + 1) := by
  rw [List.take_add_one, List.take_add_one, h, h1, h2]
theorem ne_at {α : Type} {l m : List α} {k : Nat} {x y : α} (h1 : l[k]? = some x) (h2 : m[k]? = some y) (hn : x ≠ y) : l ≠ m := by
  intro e
  rw [e, h2] at h1
  exact hn (Option.some.inj h1).symm
/-- two texts compared. -/
theorem eq_texts (s t : ByteArray) : (s.toList == t.toList) = decide (s = t) := by
  rw [Bool.eq_iff_iff, beq_iff_eq, decide_eq_true_iff]
  constructor
  · intro h
    rw [ByteArray.toList_eq, ByteArray.toList_eq] at h
    have := congrArg Fd.ba h
    rwa [Fd.ba_list, Fd.ba_list] at this
  · intro h
    rw [h]

set_option maxHeartbeats 4000000 in
theorem rtexts_any (w : World) (B1 B2 : Nat) (A1 A2 : Option Addr) (l1 l2 : List ByteArray) (n1 n2 c1 c2 : Nat) (h1 : TextsAt w B1 A1 l1 n1 c1) (h2 : TextsAt w B2 A2 l2 n2 c2) :
    Calls Try.prog 8 #[.slice A1 n1 c1, .slice A2 n2 c2] w fun e w' => e = .returned (.bool (decide (l1 = l2))) ∧ ∃ m, w' = w.drewN m := by
  have H1 := Lib.hid h1
  have H2 := Lib.hid h2
  have h63 : n1 ≤ 281474976710656 := Nat.le_trans h1.wide (by decide)
  clear h1 h2
  by_cases hn : n1 = n2
  · subst hn
    go_enter Try.func8, Try.ntmps8
    go_wp2
    go_loopw [5] (fun i wr => ∃ k : Nat, k ≤ n1 ∧ i = .int .i64 (k : Int) ∧ l1.take k = l2.take k ∧ ∃ m, wr = w.drewN m) (fun i _ => n1 - (intOf i).toNat)
    case atStart => exact ⟨0, Nat.zero_le _, rfl, by simp, 0, rfl⟩
    case round =>
      obtain ⟨k, hk, rfl, ht, m, rfl⟩ := hrel
      have HT := Lib.hid ht
      clear ht
      by_cases hlt : k < n1
      · obtain ⟨a1, x, rfl, _, hlx, _, hc1⟩ := H1.out.at_ hlt
        obtain ⟨a2, y, rfl, _, hly, _, hd1⟩ := H2.out.at_ hlt
        have hq := eq_texts x y
        by_cases hxy : x = y
        · subst hxy
          have hs := Lib.hid (take_more HT.out hlx hly)
          clear hlx hly hq
          go_wp2_with fail
          go_quiet (fail)
          go_wp2
          go_roundw
          case rel => exact ⟨k + 1, by omega, by go_num, hs.out, _, rfl⟩
          case measure => simp [intOf]; omega
        · have hd : Hid (decide (l1 = l2) = false) := decide_eq_false (ne_at hlx hly hxy)
          rw [decide_eq_false hxy] at hq
          clear hlx hly hxy
          go_wp2_with fail
          go_quiet (fail)
          go_wp2
          go_ret
          exact ⟨ret_bool hd.out.symm, _, World.drewN_drewN ..⟩
      · obtain rfl : k = n1 := by omega
        have hd : Hid (l1 = l2) := by
          have h := HT.out
          rw [List.take_of_length_le (by rw [H1.out.len]; exact Nat.le_refl _), List.take_of_length_le (by rw [H2.out.len]; exact Nat.le_refl _)] at h
          exact h
        go_wp2
        go_ret
        exact ⟨ret_bool (by rw [decide_eq_true hd.out]), m, rfl⟩
  · have hd : Hid (decide (l1 = l2) = false) := decide_eq_false (fun e => hn (by rw [← H1.out.len, ← H2.out.len, e]))
    have hne : ((n1 : Int) != (n2 : Int)) = true := by rw [bne_iff_ne]; omega
    go_enter Try.func8, Try.ntmps8
    go_wp2
    go_ret
    exact ⟨ret_bool hd.out.symm, 0, rfl⟩

/-- may the text at a place stand beside another one? -/
def okM (l : List ByteArray) (s : ByteArray) (k : Nat) : Bool :=
  match l[k]? with
  | none => true
  | some x => Fd.textB x.data.toList && !decide (x = s) && (decide (k = 0) || (match l[k - 1]? with | some y => Op.bytesLess y.toList x.toList | none => true))
def moreB (l : List ByteArray) (s : ByteArray) : Bool := (List.range l.length).all (okM l s)
theorem more_true {l : List ByteArray} {s : ByteArray} {n : Nat} (hn : l.length = n) (h : ∀ j, j < n → okM l s j = true) : moreB l s = true := by
  unfold moreB
  rw [List.all_eq_true]
  intro j hj
  rw [List.mem_range, hn] at hj
  exact h j hj
theorem more_false {l : List ByteArray} {s : ByteArray} {k : Nat} (hk : k < l.length) (h : okM l s k = false) : moreB l s = false := by
  unfold moreB
  rw [List.all_eq_false]
  exact ⟨k, List.mem_range.2 hk, by rw [h]; simp⟩

end Go.Proofs.Ytdmjhaifilfniaa.Kd
