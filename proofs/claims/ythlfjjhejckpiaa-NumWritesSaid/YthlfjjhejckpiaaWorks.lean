/- The contract of the laws' 'works' (the chapter's examples), and the walks of NumWrites and NumReads: each returns true; nothing that was there has changed. -/
import Derived.Test.YthlfjjhejckpiaaAppend
import Derived.Test.YthlfjjhejckpiaaRead2
namespace Go.Proofs.Ythlfjjhejckpiaa.Nu
open Go.ChangeShapes Go.WideShapes Go.ChangeAt Go.RowKit
set_option linter.unusedVariables false

theorem append_nil (w : World) (v : Nat) (hv : v < 18446744073709551616) : Calls Try.prog 9 #[.slice none 0 0, .int .u64 (v : Int)] w (AppPost w (enc v)) := by
  have := append_any w none [] 0 0 v rfl (Bytes.none_ _ _ _) (by omega) hv
  rwa [List.nil_append] at this
theorem rappend_nil (w : World) (v : Nat) (hv : v < 18446744073709551616) : Calls Try.prog 10 #[.slice none 0 0, .int .u64 (v : Int)] w (AppPost w (enc v)) := by
  have := rappend_any w none [] 0 0 v rfl (fun _ => ⟨rfl, rfl⟩) (Bytes.none_ _ _ _) (by omega) hv
  rwa [List.nil_append] at this
theorem append_258 (w : World) : Calls Try.prog 9 #[.slice none 0 0, .int .u64 258] w (AppPost w [2, 1, 2]) := append_nil w 258 (by omega)
theorem append_0 (w : World) : Calls Try.prog 9 #[.slice none 0 0, .int .u64 0] w (AppPost w [0]) := append_nil w 0 (by omega)
theorem size_258 (w : World) : Calls Try.prog 11 #[.int .u64 258] w fun e w' => e = .returned (.int .i64 3) ∧ w = w' := Sh.size_c 258 w (by omega)
theorem equal_same (w : World) (B1 B2 : Nat) (A1 A2 : Option Addr) (l : List Nat) (n1 n2 c1 c2 : Nat) (e1 : l.length = n1) (e2 : l.length = n2) (h1 : Bytes w B1 A1 l) (h2 : Bytes w B2 A2 l) :
    Calls Try.prog 8 #[.slice A1 n1 c1, .slice A2 n2 c2] w fun e w' => e = .returned (.bool true) ∧ w = w' :=
  (equal_any w B1 B2 A1 A2 l l n1 n2 c1 c2 e1 e2 h1 h2).mono fun _ _ h => ⟨h.1.trans (by simp), h.2⟩

theorem works_any (w : World) : Calls Try.prog 12 #[] w fun e w' => e = .returned (.bool true) ∧ Below w.heap.size w w' := by
  go_enter Try.func12, Try.ntmps12
  go_wp2_with fail
  refine (append_258 w).mono ?_
  rintro e w1 ⟨g, cap, n, rfl, hn, hgw, hown, hbel⟩
  have HY := Lib.hid (bytes_own hown (by intro x hx; simp at hx; omega))
  have HN := Lib.hid hn
  have HB := Lib.hid hbel
  clear hn hown hbel
  go_wp2_with fail
  refine (equal_same _ _ _ _ _ [2, 1, 2] _ _ _ _ HN.out rfl (HY.out.up (below_new w1 _)) (bytes_new w1 [2, 1, 2] _ rfl (by intro x hx; simp at hx; omega) 5)).mono ?_
  rintro e w' ⟨rfl, rfl⟩
  have HB2 := Lib.hid (HB.out.alloc HB.out.size (.cells #[.int .u8 2, .int .u8 1, .int .u8 2] 5))
  clear HY HB
  go_wp2_with fail
  refine (append_0 _).mono ?_
  rintro e w2 ⟨g2, cap2, n2, rfl, hn2, hgw2, hown2, hbel2⟩
  have HY2 := Lib.hid (bytes_own hown2 (by intro x hx; simp at hx; omega))
  have HN2 := Lib.hid hn2
  have HB3 := Lib.hid (HB2.out.trans (hbel2.mono HB2.out.size))
  clear hn2 hown2 hbel2 hgw2
  go_wp2_with fail
  refine (equal_same _ _ _ _ _ [0] _ _ _ _ HN2.out rfl (HY2.out.up (below_new w2 _)) (bytes_new w2 [0] _ rfl (by intro x hx; simp at hx; omega) 5)).mono ?_
  rintro e w' ⟨rfl, rfl⟩
  have HB4 := Lib.hid (HB3.out.alloc HB3.out.size (.cells #[.int .u8 0] 5))
  go_wp2_with fail
  refine (size_258 _).mono ?_
  rintro e w' ⟨rfl, rfl⟩
  go_wp2
  go_ret
  exact ⟨rfl, HB4.out⟩

theorem writes_walk (w : World) (A : Option Addr) (l : List Nat) (n c v : Nat) (hn : l.length = n) (hA : A = none → n = 0 ∧ c = 0) (hb : Bytes w w.heap.size A l) (hl : n ≤ 140737488351232) (hv : v < 18446744073709551616) :
    Calls Try.prog 3 #[.slice A n c, .int .u64 (v : Int)] w fun e w' => e = .returned (.bool true) ∧ Below w.heap.size w w' := by
  have HA := Lib.hid hA
  have HY := Lib.hid hb
  have HN := Lib.hid hn
  clear hA hb hn
  go_enter Try.func3, Try.ntmps3
  go_wp2_with fail
  refine (append_any w A l n c v HN.out HY.out hl hv).mono ?_
  rintro e w1 ⟨g1, cap1, n1, rfl, hn1, hgw1, hown1, hbel1⟩
  have hs : Small (l ++ enc v) := small_append HY.out.1 (enc_small v)
  have HS := Lib.hid hs
  have HY1 := Lib.hid (bytes_own hown1 hs)
  have HN1 := Lib.hid hn1
  have HB1 := Lib.hid hbel1
  clear hn1 hown1 hbel1 hgw1 hs
  go_wp2_with fail
  refine (rappend_any w1 A l n c v HN.out HA.out (HY.out.up HB1.out) hl hv).mono ?_
  rintro e w2 ⟨g2, cap2, n2, rfl, hn2, hgw2, hown2, hbel2⟩
  have HY2 := Lib.hid (bytes_own hown2 HS.out)
  have HN2 := Lib.hid hn2
  have HB2 := Lib.hid (HB1.out.trans (hbel2.mono HB1.out.size))
  have HYY := Lib.hid (HY1.out.up hbel2)
  clear hn2 hown2 hbel2 hgw2
  go_wp2_with fail
  refine (equal_same _ _ _ _ _ (l ++ enc v) _ _ _ _ HN1.out HN2.out HYY.out HY2.out).mono ?_
  rintro e w' ⟨rfl, rfl⟩
  go_wp2_with fail
  refine (Sh.size_c v _ hv).mono ?_
  rintro e w' ⟨rfl, rfl⟩
  go_wp2_with fail
  refine (rappend_nil _ v hv).mono ?_
  rintro e w3 ⟨g3, cap3, n3, rfl, hn3, hgw3, hown3, hbel3⟩
  have hbl := blen_le v
  have heq : (1 + ((blen v : Nat) : Int) == (n3 : Int)) = true := by rw [beq_iff_eq, ← hn3, enc_length]; omega
  have hnb : n3 ≤ 9 := by rw [← hn3, enc_length]; omega
  have HB3 := Lib.hid (HB2.out.trans (hbel3.mono HB2.out.size))
  clear hn3 hown3 hbel3 hgw3
  go_wp2_with fail
  refine (works_any _).mono ?_
  rintro e w4 ⟨rfl, hbel4⟩
  have HB4 := Lib.hid (HB3.out.trans (hbel4.mono HB3.out.size))
  clear hbel4
  go_wp2
  go_ret
  exact ⟨rfl, HB4.out⟩

/-- at each place both Reads answer the same. -/
theorem both (w : World) (A : Option Addr) (l : List Nat) (n c : Nat) (at_ : Int) (hn : l.length = n) (hnc : n ≤ c) (hc : c ≤ 9223372036854775807) (hb : Bytes w w.heap.size A l) (h1 : -9223372036854775808 ≤ at_) (h2 : at_ ≤ 9223372036854775807) :
    ∃ v y f : Nat, Calls Try.prog 13 #[.slice A n c, .int .i64 at_] w (Says w v y f) ∧ ∀ m, Calls Try.prog 14 #[.slice A n c, .int .i64 at_] (w.drewN m) (Says (w.drewN m) v y f) := by
  by_cases ho : at_ < 0 ∨ (n : Int) < at_
  · exact ⟨0, 0, 1, read_out w A n c at_ ho h1 h2 (by omega), fun m => rread_out _ A n c at_ ho h1 h2 (by omega)⟩
  · obtain ⟨a, rfl⟩ := Int.eq_ofNat_of_zero_le (show 0 ≤ at_ by omega)
    by_cases he : a = n
    · subst he
      exact ⟨0, 0, 2, read_end w A a c (by omega), fun m => rread_end _ A a c (by omega)⟩
    · have ha : a < n := by omega
      obtain ⟨ad, rfl, _⟩ := hb.2 (by omega)
      have hx : l[a]? = some l[a] := List.getElem?_eq_getElem (by omega)
      obtain ⟨v, y, f, hw⟩ := what_is l[a] (l.drop (a + 1)) a
      exact ⟨v, y, f, read_some w ad l n c a l[a] v y f hn hnc hc hb ha hx hw, fun m => rread_some _ ad l n c a l[a] v y f hn (by omega) (hb.below (below_drewN _ w m)) ha hx hw⟩

theorem reads_walk (w : World) (A : Option Addr) (l : List Nat) (n c : Nat) (at_ : Int) (hn : l.length = n) (hnc : n ≤ c) (hc : c ≤ 9223372036854775807) (hb : Bytes w w.heap.size A l) (h1 : -9223372036854775808 ≤ at_) (h2 : at_ ≤ 9223372036854775807) :
    Calls Try.prog 4 #[.slice A n c, .int .i64 at_] w fun e w' => e = .returned (.bool true) ∧ Below w.heap.size w w' := by
  obtain ⟨v, y, f, c1, c2⟩ := both w A l n c at_ hn hnc hc hb h1 h2
  have C1 := Lib.hid c1
  have C2 := Lib.hid c2
  clear c1 c2 hb hn
  go_enter Try.func4, Try.ntmps4
  go_wp2_with fail
  refine C1.out.mono ?_
  rintro e w' ⟨rfl, m, rfl⟩
  go_wp2_with fail
  refine (C2.out m).mono ?_
  rintro e w' ⟨rfl, m2, rfl⟩
  go_wp2_with fail
  refine (works_any _).mono ?_
  rintro e w4 ⟨rfl, hbel4⟩
  have HB4 := Lib.hid hbel4
  clear hbel4
  go_wp2
  go_ret
  exact ⟨rfl, (below_drewN _ w (m + m2)).trans HB4.out⟩
end Go.Proofs.Ythlfjjhejckpiaa.Nu
