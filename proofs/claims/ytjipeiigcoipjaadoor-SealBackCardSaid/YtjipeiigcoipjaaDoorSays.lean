/- The walks of the laws SealSays and SealOpens: each returns true, for every slice of at most 2^47 - 4096 bytes; nothing that was there has changed. They ask that crc's table lies in its variable. -/
import Derived.Test.YtjipeiigcoipjaaDoorWorks
namespace Go.Proofs.YtjipeiigcoipjaaDoor.Se
open Go.ChangeShapes Go.WideShapes Go.ChangeAt Go.RowKit
set_option linter.unusedVariables false

/-- what an answered list is to the walks behind it. -/
theorem post_bytes {w w' : World} {m : List Nat} {e : Ending} (h : AppPost w m e w') (hs : Crc.Small m) : ∃ g cap n, e = .returned (.slice (some ⟨g, 0, none⟩) n cap) ∧ m.length = n ∧ n ≤ cap ∧ cap ≤ 9223372036854775807 ∧ Bytes w' w'.heap.size (some ⟨g, 0, none⟩) m ∧ Below w.heap.size w w' := by
  obtain ⟨g, cap, n, rfl, hn, hg, ho, hb⟩ := h
  refine ⟨g, cap, n, rfl, hn, ?_, ?_, bytes_own ho hs, hb⟩
  · rcases ho.2 with ⟨h, _⟩ | ⟨_, _, _, h, _, _, h1, _⟩
    · cases h
    · cases h; exact h1
  · rcases ho.2 with ⟨h, _⟩ | ⟨_, _, _, h, _, _, _, h1, _⟩
    · cases h
    · cases h; exact h1

set_option maxHeartbeats 400000 in
theorem says_walk (w : World) (A : Option Addr) (l : List Nat) (n c mask : Nat) (at_ : Int) (hn : l.length = n) (hA : A = none → n = 0 ∧ c = 0) (ht : Tab w) (hb : Bytes w w.heap.size A l) (hl : n ≤ 140737488351232) (hm : mask < 4294967296) (a0 : -9223372036854775808 ≤ at_) (a1 : at_ ≤ 9223372036854775807) :
    Calls Tryd.prog 3 #[.slice A n c, .int .i64 at_, .int .u32 (mask : Int)] w fun e w' => e = .returned (.bool true) ∧ Below w.heap.size w w' := by
  have hT := Lib.hid ht
  have hB := Lib.hid hb
  have HN := Lib.hid hn
  have HA := Lib.hid hA
  clear ht hb hn hA
  obtain ⟨k, hk⟩ : ∃ k, mask % 256 = k := ⟨_, rfl⟩
  have hkI : (mask : Int) % 256 = (k : Int) := by omega
  have hk256 : k < 256 := by omega
  have hS : Hid (Crc.Small (Crc.shut (k :: l))) := Crc.shut_small (small_one hk256 hB.out.1)
  clear hk
  go_enter Tryd.func3, Tryd.ntmps3
  go_wp2_with fail
  rw [hkI]
  clear hkI
  refine (rspoil_any w A l n c mask at_ HN.out hB.out (by omega) hm a0 a1).mono ?_
  rintro e w1 ⟨A1, c1, cnt, rfl, hn1, hb1, hcn, bel1⟩
  have B1 := Lib.hid bel1
  have K1 := Lib.hid hb1
  have N1 := Lib.hid hn1
  clear bel1 hb1 hn1 hcn
  go_wp2_with fail
  refine (pshut_any w1 A l n c k HN.out HA.out (hB.out.up B1.out) hk256 hl (hT.out.below B1.out)).mono ?_
  intro e w2 h2
  obtain ⟨g2, cap2, n2, rfl, hn2, _, _, hb2, bel2⟩ := post_bytes h2 hS.out
  have B2 : Hid (Below w.heap.size w w2) := B1.out.trans (bel2.mono B1.out.size)
  have K1 := Lib.hid (K1.out.up bel2)
  have K2 := Lib.hid hb2
  have N2 := Lib.hid hn2
  clear h2 bel2 hb2 hn2
  go_wp2_with fail
  refine (rshut_any w2 A l n c k HN.out HA.out (hB.out.up B2.out) hk256 hl).mono ?_
  intro e w3 h3
  obtain ⟨g3, cap3, n3, rfl, hn3, _, _, hb3, bel3⟩ := post_bytes h3 hS.out
  have B3 : Hid (Below w.heap.size w w3) := B2.out.trans (bel3.mono B2.out.size)
  have K1 := Lib.hid (K1.out.up bel3)
  have K2 := Lib.hid (K2.out.up bel3)
  have K3 := Lib.hid hb3
  have N3 := Lib.hid hn3
  clear h3 bel3 hb3 hn3
  go_wp2_with fail
  refine (equal_is w3 _ _ _ _ _ _ n2 n3 cap2 cap3 true N2.out N3.out K2.out K3.out (by simp)).mono ?_
  rintro e w' ⟨rfl, rfl⟩
  go_wp2_with fail
  refine (pspoil_any w3 A l n c mask at_ HN.out HA.out (hB.out.up B3.out) (by omega) hm a0 a1).mono ?_
  rintro e w4 ⟨A4, n4, c4, rfl, hn4, hb4, _, _, _, bel4, _⟩
  have B4 : Hid (Below w.heap.size w w4) := B3.out.trans (bel4.mono B3.out.size)
  have K1 := Lib.hid (K1.out.up bel4)
  have K4 := Lib.hid hb4
  have N4 := Lib.hid hn4
  clear bel4 hb4 hn4
  go_wp2_with fail
  refine (equal_is w4 _ _ _ _ _ _ n4 n c4 c1 true N4.out N1.out K4.out K1.out (by simp)).mono ?_
  rintro e w' ⟨rfl, rfl⟩
  go_wp2_with fail
  refine (works_any w4 (hT.out.below B4.out)).mono ?_
  rintro e w5 ⟨rfl, bel5⟩
  go_wp2
  go_ret
  exact ⟨rfl, B4.out.trans (bel5.mono B4.out.size)⟩

theorem opens_walk (w : World) (A : Option Addr) (l : List Nat) (n c : Nat) (hn : l.length = n) (ht : Tab w) (hb : Bytes w w.heap.size A l) (hlc : n ≤ c) (hc : c ≤ 9223372036854775807) (hl : n ≤ 140737488351232) :
    Calls Tryd.prog 4 #[.slice A n c] w fun e w' => e = .returned (.bool true) ∧ Below w.heap.size w w' := by
  have hT := Lib.hid ht
  have hB := Lib.hid hb
  have HN := Lib.hid hn
  clear ht hb hn
  obtain ⟨x, hx⟩ : ∃ x, kindOf l = x := ⟨_, rfl⟩
  obtain ⟨f, hf⟩ : ∃ f, errOf l = f := ⟨_, rfl⟩
  have HX := Lib.hid hx
  have HF := Lib.hid hf
  clear hx hf
  go_enter Tryd.func4, Tryd.ntmps4
  go_wp2_with fail
  refine (open_any w A l n c HN.out hT.out hB.out hlc hc (by omega)).mono ?_
  rintro e w1 ⟨A1, n1, c1, rfl, hn1, hb1, _, _, bel1⟩
  have B1 := Lib.hid bel1
  have K1 := Lib.hid hb1
  have N1 := Lib.hid hn1
  rw [HX.out, HF.out]
  clear bel1 hb1 hn1
  go_wp2_with fail
  refine (ropen_any w1 A l n c HN.out (hB.out.up B1.out) hlc hc (by omega)).mono ?_
  rintro e w2 ⟨A2, n2, c2, rfl, hn2, hb2, _, _, bel2⟩
  have B2 : Hid (Below w.heap.size w w2) := B1.out.trans (bel2.mono B1.out.size)
  have K1 := Lib.hid (K1.out.up bel2)
  have K2 := Lib.hid hb2
  have N2 := Lib.hid hn2
  rw [HX.out, HF.out]
  clear bel2 hb2 hn2
  go_wp2_with fail
  refine (equal_is w2 _ _ _ _ _ _ n1 n2 c1 c2 true N1.out N2.out K1.out K2.out (by simp)).mono ?_
  rintro e w' ⟨rfl, rfl⟩
  go_wp2_with fail
  refine (works_any w2 (hT.out.below B2.out)).mono ?_
  rintro e w5 ⟨rfl, bel5⟩
  go_wp2
  go_ret
  exact ⟨rfl, B2.out.trans (bel5.mono B2.out.size)⟩
end Go.Proofs.YtjipeiigcoipjaaDoor.Se
