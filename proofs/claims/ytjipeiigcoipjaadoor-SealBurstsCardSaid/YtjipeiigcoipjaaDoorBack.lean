/- The walk of the law SealBack: it returns true, for every kind and every slice of at most 2^47 - 4096 bytes; nothing that was there has changed. It asks that crc's table lies in its variable. -/
import Derived.Test.YtjipeiigcoipjaaDoorBursts
namespace Go.Proofs.YtjipeiigcoipjaaDoor.Se
open Go.ChangeShapes Go.WideShapes Go.ChangeAt Go.RowKit
set_option linter.unusedVariables false

/-- what is opened was sealed so. -/
theorem opened_shut {l : List Nat} (h : errOf l = 0) : Crc.shut (kindOf l :: bodyOf l) = l ∧ (bodyOf l).length + 5 = l.length := by
  by_cases h5 : l.length < 5
  · have : errOf l = 2 := if_pos h5
    omega
  · by_cases hf : Crc.fits l = true
    · obtain ⟨x, hx⟩ : ∃ x, l[0]? = some x := ⟨l[0]'(by omega), List.getElem?_eq_getElem _⟩
      obtain ⟨k, hk⟩ : ∃ k, l.length = k + 4 := ⟨l.length - 4, by omega⟩
      obtain ⟨e1, e2, _⟩ := told_ok hk (by omega) hf hx
      have e3 : x :: (l.take k).drop 1 = l.take k := by
        cases l with
        | nil => simp at hx
        | cons y ys =>
          obtain rfl : y = x := by simpa using hx
          obtain ⟨j, rfl⟩ : ∃ j, k = j + 1 := ⟨k - 1, by simp at h5; simp at hk; omega⟩
          simp
      have e4 : l.length - 4 = k := by omega
      have hfit := of_decide_eq_true hf
      rw [e4] at hfit
      refine ⟨by rw [e1, e2, e3]; exact hfit.symm, ?_⟩
      rw [e2, List.length_drop, List.length_take]; omega
    · have hff : Crc.fits l = false := by simpa using hf
      obtain ⟨_, _, e3⟩ := told_bad (by omega) hff
      omega
theorem kindOf_lt {l : List Nat} (h : Crc.Small l) : kindOf l < 256 := by
  unfold kindOf
  split
  · decide
  · split
    · cases l with
      | nil => decide
      | cons y ys => exact h y (by simp)
    · decide

/-- what holds at each round's head: the opened body is one's own, all else as it was. -/
def TurnRel (w : World) (A : Option Addr) (n c : Nat) (i : Value) (wr : World) : Prop :=
  ∃ (k : Nat) (m : List Nat), k ≤ n ∧ i = .int .i64 (k : Int) ∧ Crc.Small m ∧ wr.ownsRow w.heap.size 5 1 (.slice A n c) n (vals m) ∧ Below w.heap.size w wr
theorem turn_step {w wr : World} {g n c k y : Nat} {m : List Nat} (hk : k < n) (hgw : w.heap.size ≤ g) (h : Crc.Small m ∧ wr.ownsRow w.heap.size 5 1 (.slice (some ⟨g, 0, none⟩) n c) n (vals m) ∧ Below w.heap.size w wr) (hy : y < 256) :
    TurnRel w (some ⟨g, 0, none⟩) n c (.int .i64 ((k : Int) + 1)) (wr.setCell ⟨g, k, none⟩ (.int .u8 (y : Int))) := by
  obtain ⟨hs, ho, hb⟩ := h
  refine ⟨k + 1, m.set k y, hk, by go_num, fun z hz => ?_, ?_, hb.setCell hgw _⟩
  · rcases List.mem_or_eq_of_mem_set hz with hz | rfl
    · exact hs z hz
    · exact hy
  · rw [← vals_set]
    exact (ho.stored k _).1

set_option maxHeartbeats 1000000 in
theorem back_walk (w : World) (A : Option Addr) (l : List Nat) (n c x : Nat) (hx : x < 256) (hn : l.length = n) (hA : A = none → n = 0 ∧ c = 0) (ht : Tab w) (hb : Bytes w w.heap.size A l) (hlc : n ≤ c) (hc : c ≤ 9223372036854775807) (hl : n ≤ 140737488351232) :
    Calls Tryd.prog 5 #[.int .u8 (x : Int), .slice A n c] w fun e w' => e = .returned (.bool true) ∧ Below w.heap.size w w' := by
  have hT := Lib.hid ht
  have hB := Lib.hid hb
  have HN := Lib.hid hn
  have HA := Lib.hid hA
  have sS : Hid (Crc.Small (Crc.shut (x :: l))) := Crc.shut_small (small_one hx hb.1)
  have sL : Hid ((Crc.shut (x :: l)).length = n + 5) := by show _ = _; rw [Crc.shut_length, List.length_cons, hn]
  have ⟨k1, k2, k3⟩ := shut_opens x l
  have HK := Lib.hid (And.intro k1 (And.intro k2 k3))
  have B0 : Hid (Below w.heap.size w (w.alloc (.cells #[] 5))) := below_new w _
  have O0 := Lib.hid (out_new w)
  have hB0 : Hid (Bytes (w.alloc (.cells #[] 5)) (w.alloc (.cells #[] 5)).heap.size A l) := hb.up B0.out
  clear ht hb hn hA k1 k2 k3
  obtain ⟨s, hs⟩ : ∃ s, Crc.shut (x :: l) = s := ⟨_, rfl⟩
  have HS := Lib.hid hs
  rw [hs] at sS sL HK
  clear hs
  go_enter Tryd.func5, Tryd.ntmps5
  go_wp2_with (
    (at_builtin
     refine wpList_out rfl (.tmp 14) (.tmp 15) rfl rfl _ w.heap.size w.heap.size A l n c rfl rfl O0.out HA.out hB0.out HN.out (by omega) (by simp) ?_
     intro g1 cap1 w1 ho1 hg1 hB1
     have KO : Hid (Bytes w1 w1.heap.size (some ⟨g1, 0, none⟩) l) := bytes_own ho1 hB.out.1
     have B1 : Hid (Below w.heap.size w w1) := B0.out.grown hg1 (by simp) (fun k e => by cases e; exact Nat.le_refl _)
     clear ho1 hg1 hB1))
  refine (pshut_any w1 (some ⟨g1, 0, none⟩) l n cap1 x HN.out (fun e => by cases e) KO.out hx hl (hT.out.below B1.out)).mono ?_
  rw [HS.out]
  intro e w2 h2
  obtain ⟨g2, cap2, n2, rfl, hn2, hnc2, hc2, hb2, bel2⟩ := post_bytes h2 sS.out
  obtain rfl : n2 = n + 5 := hn2.symm.trans sL.out
  have B2 : Hid (Below w.heap.size w w2) := B1.out.trans (bel2.mono B1.out.size)
  have KO := Lib.hid (KO.out.up bel2)
  have KB := Lib.hid hb2
  clear h2 bel2 hb2 hn2
  go_wp2_with fail
  refine (open_any w2 (some ⟨g2, 0, none⟩) s (n + 5) cap2 sL.out (hT.out.below B2.out) KB.out hnc2 hc2 (by omega)).mono ?_
  rintro e w3 ⟨A3, n3, c3, rfl, hn3, hb3, hA3, ho3, bel3⟩
  rw [HK.out.1, HK.out.2.2]
  rw [HK.out.2.1] at hn3 ho3 hb3
  obtain rfl : n = n3 := HN.out.symm.trans hn3
  have HR : Hid (TurnRel w2 A3 n c3 (.int .i64 0) w3) := ⟨0, l, Nat.zero_le _, rfl, hB.out.1, ho3, bel3⟩
  clear hn3 hb3 ho3 bel3 hA3
  go_wp2_with fail
  go_loopw [28] (fun i wr => TurnRel w2 A3 n c3 i wr) (fun i _ => n - (intOf i).toNat)
  case atStart => exact HR.out
  case round =>
    clear HR
    obtain ⟨k, m, hk, rfl, hm, ho, hb⟩ := hrel
    have HREL := Lib.hid (And.intro hm (And.intro ho hb))
    clear hm ho hb
    by_cases hlt : k < n
    · obtain ⟨g, cap', e1, hgw⟩ := own_shape (w := w2) HREL.out.2.1 (.inl (by omega))
      obtain ⟨rfl, rfl⟩ : A3 = some ⟨g, 0, none⟩ ∧ c3 = cap' := by simpa using e1
      have hml : m.length = n := by
        have := HREL.out.2.1.1
        rw [vals_length] at this
        omega
      obtain ⟨y, hy⟩ : ∃ y, m[k]? = some y := ⟨m[k]'(by omega), List.getElem?_eq_getElem _⟩
      have hyb : y < 256 := HREL.out.1 y (List.mem_of_getElem? hy)
      have hcell : wr.cell? ⟨g, k, none⟩ = some (.int .u8 (y : Int)) := by
        rw [HREL.out.2.1.cellAt k (by omega), vals_get, hy]; rfl
      have hfz : wr.frozen? ⟨g, k, none⟩ = false := HREL.out.2.1.frozenAt k
      obtain ⟨z, hz⟩ : ∃ z, z = (y + 1) % 256 := ⟨_, rfl⟩
      have hzI : ((y : Int) + 1) % 256 = (z : Int) := by omega
      have hST := Lib.hid (turn_step (w := w2) hlt hgw HREL.out (show z < 256 by omega))
      clear hy e1 hz hml
      go_wp2
      go_roundw
      case rel => exact hST.out
      case measure => simp [intOf]; omega
    · obtain rfl : k = n := by omega
      have B4 : Hid (Below w.heap.size w wr) := B2.out.trans (HREL.out.2.2.mono B2.out.size)
      have KO := Lib.hid (KO.out.up HREL.out.2.2)
      have KB := Lib.hid (KB.out.up HREL.out.2.2)
      have kx := Lib.hid (kindOf_lt hB.out.1)
      clear HREL
      go_wp2_with fail
      refine (open_any wr A l k c HN.out (hT.out.below B4.out) (hB.out.up B4.out) hlc hc (by omega)).mono ?_
      rintro e w5 ⟨A5, n5, c5, rfl, hn5, hb5, hA5, _, bel5⟩
      have B5 : Hid (Below w.heap.size w w5) := B4.out.trans (bel5.mono B4.out.size)
      have KO := Lib.hid (KO.out.up bel5)
      have KB := Lib.hid (KB.out.up bel5)
      have K5 := Lib.hid hb5
      have N5 := Lib.hid hn5
      have H5 := Lib.hid hA5
      clear bel5 hb5 hn5 hA5
      obtain ⟨f, hf⟩ : ∃ f, errOf l = f := ⟨_, rfl⟩
      obtain ⟨q, hq⟩ : ∃ q, kindOf l = q := ⟨_, rfl⟩
      have HF := Lib.hid hf
      have HQ := Lib.hid hq
      rw [hf, hq]
      rw [hq] at kx
      clear hf hq
      go_wp2_with fail
      refine (equal_is w5 _ _ _ _ _ _ k k cap1 c true HN.out HN.out KO.out (hB.out.up B5.out) (by simp)).mono ?_
      rintro e w' ⟨rfl, rfl⟩
      go_wp2_with fail
      refine (rshut_any w5 A l k c x HN.out HA.out (hB.out.up B5.out) hx hl).mono ?_
      rw [HS.out]
      intro e w6 h6
      obtain ⟨g6, cap6, n6, rfl, hn6, _, _, hb6, bel6⟩ := post_bytes h6 sS.out
      obtain rfl : n6 = k + 5 := hn6.symm.trans sL.out
      have B6 : Hid (Below w.heap.size w w6) := B5.out.trans (bel6.mono B5.out.size)
      have KB := Lib.hid (KB.out.up bel6)
      have K5 := Lib.hid (K5.out.up bel6)
      have K6 := Lib.hid hb6
      clear h6 bel6 hb6 hn6
      go_wp2_with fail
      refine (equal_is w6 _ _ _ _ _ _ (k + 5) (k + 5) cap2 cap6 true sL.out sL.out KB.out K6.out (by simp)).mono ?_
      rintro e w' ⟨rfl, rfl⟩
      by_cases hf0 : f = 0
      · have ⟨he, hle⟩ := opened_shut (HF.out.trans hf0)
        rw [HQ.out] at he
        have HE := Lib.hid he
        have hn5 : n5 + 5 = k := by rw [← N5.out, ← HN.out]; exact hle
        have N5' := Lib.hid hn5
        have hl5 : n5 ≤ 140737488351232 := by omega
        subst hf0
        clear he hle hn5
        go_wp2_with fail
        refine (pshut_any w6 A5 (bodyOf l) n5 c5 q N5.out H5.out K5.out kx.out hl5 (hT.out.below B6.out)).mono ?_
        rw [HE.out]
        intro e w7 h7
        obtain ⟨g7, cap7, n7, rfl, hn7, _, _, hb7, bel7⟩ := post_bytes h7 hB.out.1
        have B7 : Hid (Below w.heap.size w w7) := B6.out.trans (bel7.mono B6.out.size)
        have K7 := Lib.hid hb7
        have N7 := Lib.hid hn7
        clear h7 bel7 hb7 hn7
        go_wp2_with fail
        refine (equal_is w7 _ _ _ _ _ _ n7 k cap7 c true N7.out HN.out K7.out (hB.out.up B7.out) (by simp)).mono ?_
        rintro e w' ⟨rfl, rfl⟩
        go_wp2_with fail
        refine (works_any w7 (hT.out.below B7.out)).mono ?_
        rintro e w8 ⟨rfl, bel8⟩
        go_wp2
        go_ret
        exact ⟨rfl, B7.out.trans (bel8.mono B7.out.size)⟩
      · have hfI : ((f : Int) != 0) = true := by rw [bne_iff_ne]; omega
        clear hf0
        go_wp2_with fail
        refine (works_any w6 (hT.out.below B6.out)).mono ?_
        rintro e w8 ⟨rfl, bel8⟩
        go_wp2
        go_ret
        exact ⟨rfl, B6.out.trans (bel8.mono B6.out.size)⟩
end Go.Proofs.YtjipeiigcoipjaaDoor.Se
