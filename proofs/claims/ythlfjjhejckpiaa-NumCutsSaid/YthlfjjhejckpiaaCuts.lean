/- The walk of the law NumCuts: it returns true, for every number and every cut; nothing that was there has changed. -/
import Derived.Test.YthlfjjhejckpiaaWorks
namespace Go.Proofs.Ythlfjjhejckpiaa.Nu
open Go.ChangeShapes Go.WideShapes Go.ChangeAt Go.RowKit
set_option linter.unusedVariables false

/-- of a number's bytes without the last ones too few are left. -/
theorem what_cut {v k : Nat} (hv : v < 18446744073709551616) (hk0 : 0 < k) (hk : k < 1 + blen v) : ((enc v).take k)[0]? = some (blen v) ∧ What (blen v) (((enc v).take k).drop (0 + 1)) 0 0 0 2 := by
  obtain ⟨j, rfl⟩ : ∃ j, k = j + 1 := ⟨k - 1, by omega⟩
  have e : (enc v).take (j + 1) = blen v :: (dig (blen v) v).take j := by unfold enc; rw [List.take_succ_cons]
  rw [e]
  refine ⟨rfl, .short ?_ ?_⟩
  · refine decide_eq_true ⟨blen_le v, .inr ?_⟩
    obtain ⟨b, hb⟩ : ∃ b, blen v = b + 1 := ⟨blen v - 1, by omega⟩
    have hd := dig_head hv hb
    rw [hb]
    simp only [dig, Nat.zero_add, List.drop_succ_cons, List.drop_zero]
    cases j with
    | zero => simp
    | succ j => simpa using hd
  · simp [dig_length]; omega

theorem read_cut (w : World) (g n cap k v : Nat) (hv : v < 18446744073709551616) (hn : (enc v).length = n) (hk : k < n) (hnc : n ≤ cap) (hcm : cap ≤ 9223372036854775807) (hb : Bytes w w.heap.size (some ⟨g, 0, none⟩) (enc v)) :
    Calls Try.prog 13 #[.slice (some ⟨g, 0, none⟩) k cap, .int .i64 0] w (Says w 0 0 2) := by
  rw [enc_length] at hn
  rcases Nat.eq_zero_or_pos k with h0 | h0
  · subst h0
    exact read_end w _ 0 cap (by omega)
  · obtain ⟨h1, h2⟩ := what_cut hv h0 (by omega)
    exact read_some w ⟨g, 0, none⟩ ((enc v).take k) k cap 0 (blen v) 0 0 2 (by rw [List.length_take, enc_length]; omega) (by omega) hcm (hb.take k) h0 h1 h2

theorem own_room {w : World} {B g n cap : Nat} {xs : List Value} (h : w.ownsRow B 5 1 (.slice (some ⟨g, 0, none⟩) n cap) n xs) : n ≤ cap ∧ cap ≤ 9223372036854775807 := by
  rcases h.2 with ⟨h', _⟩ | ⟨g', cap', cur, h', _, _, h1, h2, _⟩
  · simp at h'
  · simp only [Value.slice.injEq, Option.some.injEq, Addr.mk.injEq, and_true, true_and] at h'
    obtain ⟨rfl, rfl⟩ := h'
    exact ⟨h1, by simpa [maxLen] using h2⟩

theorem cuts_walk (w : World) (v cut : Nat) (hv : v < 18446744073709551616) (hcut : cut < 256) :
    Calls Try.prog 7 #[.int .u64 (v : Int), .int .u8 (cut : Int)] w fun e w' => e = .returned (.bool true) ∧ Below w.heap.size w w' := by
  go_enter Try.func7, Try.ntmps7
  go_wp2_with fail
  refine (append_nil w v hv).mono ?_
  rintro e w1 ⟨g, cap, n, rfl, hn, hgw, hown, hbel⟩
  obtain ⟨hnc, hcm⟩ := own_room hown
  have HY := Lib.hid (bytes_own hown (enc_small v))
  have HN := Lib.hid hn
  have HB := Lib.hid hbel
  have hn1 : n = 1 + blen v := by rw [← hn, enc_length]
  have hbl := blen_le v
  have hnp : 0 < n := by omega
  have hn9 : n ≤ 9 := by omega
  have HN1 := Lib.hid hn1
  clear hn hown hbel hn1 hgw
  obtain ⟨k, hk⟩ : ∃ k : Nat, k = cut % n := ⟨_, rfl⟩
  have hkl : k < n := by rw [hk]; exact Nat.mod_lt _ hnp
  have hkI : (cut : Int) % (n : Int) = (k : Int) := by rw [hk]; simp
  have hpos : decide ((0 : Int) < (n : Int)) = true := by rw [decide_eq_true_iff]; omega
  have hne : ((n : Int) == 0) = false := by rw [beq_eq_false_iff_ne]; omega
  clear hk
  go_wp2_with fail
  have b2 := below_new w1 (.cells #[.int .u8 7, .int .u8 7] 5)
  have hy7 : Bytes (w1.alloc (.cells #[.int .u8 7, .int .u8 7] 5)) (w1.heap.size + 1) (some ⟨w1.heap.size, 0, none⟩) [7] := (bytes_new w1 [7, 7] _ rfl (by intro x hx; simp at hx; omega) 5).take 1
  refine (append_any _ _ [7] 1 _ v rfl (by simpa using hy7) (by omega) hv).mono ?_
  rintro e w3 ⟨g3, cap3, n3, rfl, hn3, hgw3, hown3, hbel3⟩
  have HY3 := Lib.hid ((HY.out.up b2).up hbel3)
  have hcell : w3.cell? ⟨w1.heap.size, 1, none⟩ = some (.int .u8 7) := by
    rw [hbel3.cell (by simp)]
    rw [World.cell?_alloc_new]; rfl
  have HB3 := Lib.hid (HB.out.trans ((b2.trans (hbel3.mono b2.size)).mono HB.out.size))
  have hn4 : n3 = 1 + (1 + blen v) := by rw [← hn3]; simp [enc_length]; omega
  have hn3b : n3 ≤ 10 := by omega
  have heq : ((n3 : Int) == 1 + (1 + ((blen v : Nat) : Int))) = true := by rw [beq_iff_eq]; omega
  clear b2 hy7 hn3 hown3 hbel3 hn4 hgw3
  rw [hkI]
  have i1 : (0 : Int) ≤ (k : Int) := by omega
  have i2 : (k : Int) ≤ (cap : Int) := by omega
  have i3 : k ≤ cap := by omega
  clear hkI hpos hne
  go_wp2_with fail
  refine (read_cut _ g n cap k v hv HN.out hkl hnc hcm HY3.out).mono ?_
  rintro e w' ⟨rfl, m, rfl⟩
  go_wp2_with fail
  refine (Sh.size_c v _ hv).mono ?_
  rintro e w' ⟨rfl, rfl⟩
  go_wp2_with fail
  refine (works_any _).mono ?_
  rintro e w4 ⟨rfl, hb4⟩
  have HB4 := Lib.hid hb4
  clear hb4
  go_wp2
  go_ret
  exact ⟨rfl, (HB3.out.trans (below_drewN _ w3 m)).trans (HB4.out.mono HB3.out.size)⟩
end Go.Proofs.Ythlfjjhejckpiaa.Nu
