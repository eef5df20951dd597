/- The contracts of num's Read and of the document's: both answer the same three numbers, at every place of every slice of bytes; nothing has changed but what was drawn. -/
import Derived.Test.YtpleafcjacbkkaaBytes
import Derived.Deep.QuietTactic
import Derived.BigQuiet
namespace Go.Proofs.Ytpleafcjacbkkaa.Nu
open Go.ChangeShapes Go.WideShapes Go.ChangeAt Go.RowKit
set_option linter.unusedVariables false

/-- an answer of three numbers; nothing is drawn, or the order of what only reads. -/
def Says (w : World) (v y f : Nat) (e : Ending) (w' : World) : Prop :=
  e = .returned (.tuple #[.int .u64 (v : Int), .int .i64 (y : Int), .int .i64 (f : Int)]) ∧ ∃ m, w' = w.drewN m

theorem read_out (w : World) (A : Option Addr) (n c : Nat) (at_ : Int) (h : at_ < 0 ∨ (n : Int) < at_) (h1 : -9223372036854775808 ≤ at_) (h2 : at_ ≤ 9223372036854775807) (hn : n ≤ 9223372036854775807) :
    Calls Try.prog 43 #[.slice A n c, .int .i64 at_] w (Says w 0 0 1) := by
  by_cases h0 : at_ < 0
  · clear h
    go_enter Try.func43, Try.ntmps43
    go_wp2
    go_ret3
    exact ⟨rfl, 0, rfl⟩
  · have h3 : (n : Int) < at_ := by omega
    have hd : decide ((n : Int) < at_) = true := decide_eq_true h3
    have hd0 : decide (at_ < 0) = false := decide_eq_false h0
    clear h
    go_enter Try.func43, Try.ntmps43
    go_wp2
    go_ret3
    exact ⟨rfl, 0, rfl⟩
theorem rread_out (w : World) (A : Option Addr) (n c : Nat) (at_ : Int) (h : at_ < 0 ∨ (n : Int) < at_) (h1 : -9223372036854775808 ≤ at_) (h2 : at_ ≤ 9223372036854775807) (hn : n ≤ 9223372036854775807) :
    Calls Try.prog 36 #[.slice A n c, .int .i64 at_] w (Says w 0 0 1) := by
  by_cases h0 : at_ < 0
  · clear h
    go_enter Try.func36, Try.ntmps36
    go_wp2
    go_ret3
    exact ⟨rfl, 0, rfl⟩
  · have h3 : (n : Int) < at_ := by omega
    have hd : decide ((n : Int) < at_) = true := decide_eq_true h3
    have hd0 : decide (at_ < 0) = false := decide_eq_false h0
    clear h
    go_enter Try.func36, Try.ntmps36
    go_wp2
    go_ret3
    exact ⟨rfl, 0, rfl⟩
theorem read_end (w : World) (A : Option Addr) (n c : Nat) (hn : n ≤ 9223372036854775807) : Calls Try.prog 43 #[.slice A n c, .int .i64 (n : Int)] w (Says w 0 0 2) := by
  have hd0 : decide ((n : Int) < 0) = false := decide_eq_false (by omega)
  go_enter Try.func43, Try.ntmps43
  go_wp2
  go_ret3
  exact ⟨rfl, 0, rfl⟩
theorem rread_end (w : World) (A : Option Addr) (n c : Nat) (hn : n ≤ 9223372036854775807) : Calls Try.prog 36 #[.slice A n c, .int .i64 (n : Int)] w (Says w 0 0 2) := by
  have hd0 : decide ((n : Int) < 0) = false := decide_eq_false (by omega)
  go_enter Try.func36, Try.ntmps36
  go_wp2
  go_ret3
  exact ⟨rfl, 0, rfl⟩

/-- what stands at a place: which answer. -/
inductive What (n : Nat) (r : List Nat) (a : Nat) : Nat → Nat → Nat → Prop
  | form (h : form n r = false) : What n r a 0 0 4
  | short (h : form n r = true) (hl : r.length < n) : What n r a 0 0 2
  | ok (h : form n r = true) (hl : n ≤ r.length) : What n r a (val (r.take n)) (a + 1 + n) 0
theorem what_is (n : Nat) (r : List Nat) (a : Nat) : ∃ v y f, What n r a v y f := by
  cases h : form n r with
  | false => exact ⟨_, _, _, .form h⟩
  | true =>
    rcases Nat.lt_or_ge r.length n with hl | hl
    · exact ⟨_, _, _, .short h hl⟩
    · exact ⟨_, _, _, .ok h hl⟩

set_option maxHeartbeats 1600000 in
theorem read_some (w : World) (ad : Addr) (l : List Nat) (n c a x v y f : Nat) (hn : l.length = n) (hnc : n ≤ c) (hc : c ≤ 9223372036854775807) (hb : Bytes w w.heap.size (some ad) l) (ha : a < n) (hx : l[a]? = some x)
    (hw : What x (l.drop (a + 1)) a v y f) : Calls Try.prog 43 #[.slice (some ad) n c, .int .i64 (a : Int)] w (Says w v y f) := by
  obtain ⟨ad', x', e, hx8, hlx, hcell⟩ := hb.at_ (k := a) (by omega)
  obtain rfl := Option.some.inj e
  obtain rfl : x = x' := Option.some.inj (hx.symm.trans hlx)
  have HW := Lib.hid hw
  have HB := Lib.hid hb
  have HN := Lib.hid hn
  clear hx hlx hw hb hn
  have d0 : decide ((a : Int) < 0) = false := decide_eq_false (by omega)
  have d1 : decide ((n : Int) < (a : Int)) = false := decide_eq_false (by omega)
  have d2 : ((a : Int) == (n : Int)) = false := by rw [beq_eq_false_iff_ne]; omega
  have d3 : (0 : Int) ≤ (a : Int) := by omega
  have d4 : (a : Int) < (n : Int) := by omega
  have d5 : (0 : Int) ≤ (a : Int) + 1 := by omega
  have d6 : (a : Int) + 1 ≤ (n : Int) := by omega
  have d7 : (a : Int) + 1 ≤ (c : Int) := by omega
  by_cases hca : c = a + 1
  · go_enter Try.func43, Try.ntmps43
    go_wp2_with fail
    go_quiet (fail)
    go_wp2_with fail
    clear d0 d1 d2 d3 d4 d5 d6 d7 hcell
    have HBR : Hid (Bytes (w.drewN nq) w.heap.size (some ad) (l.drop (a + 1))) := Bytes.empty (by rw [List.length_drop, HN.out]; omega)
    have HL : Hid ((l.drop (a + 1)).length = n - (a + 1)) := by
      show _ = _
      rw [List.length_drop, HN.out]
    refine (isForm_any _ w.heap.size _ (l.drop (a + 1)) x _ _ HL.out hx8 HBR.out (by rw [HL.out]; omega)).mono ?_
    rintro e w' ⟨rfl, rfl⟩
    generalize hm : n - (a + 1) = m at *
    cases HW.out with
    | form h =>
      rw [h]
      clear hm
      go_wp2
      go_ret3
      exact ⟨rfl, _, rfl⟩
    | short h hl =>
      rw [h]
      have dl : decide (m < x) = true := decide_eq_true (by rw [HL.out] at hl; omega)
      clear hm h hl
      go_wp2
      go_ret3
      exact ⟨rfl, _, rfl⟩
    | ok h hl =>
      rw [h]
      rw [HL.out] at hl
      obtain rfl : x = 0 := by omega
      obtain rfl : m = 0 := by omega
      have e4 : (a : Int) + 1 ≤ 9223372036854775807 := by omega
      clear hm h hl
      go_wp2_with fail
      refine (join_any _ w.heap.size _ [] 0 _ rfl (by omega) (Bytes.none_ _ _ _)).mono ?_
      rintro e w' ⟨rfl, rfl⟩
      go_wp2
      go_ret3
      exact ⟨by simp [val], _, rfl⟩
  · go_enter Try.func43, Try.ntmps43
    go_wp2_with fail
    go_quiet (fail)
    go_wp2_with fail
    clear d0 d1 d2 d3 d4 d5 d6 d7 hcell
    have HBR : Hid (Bytes (w.drewN nq) w.heap.size (some ⟨ad.block, ad.off + (a + 1), none⟩) (l.drop (a + 1))) := by
        have hq := (HB.out.below (below_drewN _ w nq)).drop (a + 1)
        rwa [show ad.add (a + 1) = ⟨ad.block, ad.off + (a + 1), none⟩ by unfold Addr.add; simp] at hq
    have HL : Hid ((l.drop (a + 1)).length = n - (a + 1)) := by
      show _ = _
      rw [List.length_drop, HN.out]
    refine (isForm_any _ w.heap.size _ (l.drop (a + 1)) x _ _ HL.out hx8 HBR.out (by rw [HL.out]; omega)).mono ?_
    rintro e w' ⟨rfl, rfl⟩
    generalize hm : n - (a + 1) = m at *
    cases HW.out with
    | form h =>
      rw [h]
      clear hm
      go_wp2
      go_ret3
      exact ⟨rfl, _, rfl⟩
    | short h hl =>
      rw [h]
      have dl : decide (m < x) = true := decide_eq_true (by rw [HL.out] at hl; omega)
      clear hm h hl
      go_wp2
      go_ret3
      exact ⟨rfl, _, rfl⟩
    | ok h hl =>
      rw [h]
      rw [HL.out] at hl
      have hx9 : x ≤ 8 := (of_decide_eq_true h).1
      have dl : decide (m < x) = false := decide_eq_false (by omega)
      have e1 : (0 : Int) ≤ (x : Int) := by omega
      have e2 : (x : Int) ≤ ((c - (a + 1) : Nat) : Int) := by omega
      have e3 : x ≤ c - (a + 1) := by omega
      have e4 : (a : Int) + 1 + (x : Int) ≤ 9223372036854775807 := by omega
      have HM := Lib.hid hm
      clear hm h
      go_wp2_with fail
      refine (join_any _ w.heap.size _ ((l.drop (a + 1)).take x) x _ (by rw [List.length_take, HL.out]; omega) hx9 (HBR.out.take x)).mono ?_
      rintro e w' ⟨rfl, rfl⟩
      go_wp2
      go_ret3
      exact ⟨rfl, _, rfl⟩

end Go.Proofs.Ytpleafcjacbkkaa.Nu
