/- The contracts of pack's writer, going on: Bytes; the law's own example; and every method of a nil writer and of a nil reader. -/
import Derived.Test.YtpleafcjacbkkaaWriter
namespace Go.Proofs.Ytpleafcjacbkkaa.Nu
open Go.ChangeShapes Go.WideShapes Go.ChangeAt Go.RowKit
set_option linter.unusedVariables false

theorem below_two {w w' : World} {B g : Nat} {rb : Option Nat} (h : Two w w' g rb) (hg : B ≤ g) (hr : ∀ k, rb = some k → B ≤ k) (hB : B ≤ w.heap.size) : Below B w w' :=
  ⟨h.os, h.tape, h.output, h.size, fun k hk => h.block k (by omega) (by omega) (fun e => by have := hr k e.symm; omega)⟩
theorem PW.row {w : World} {B g : Nat} {rb : Option Nat} {m : List Nat} (h : PW w B g rb m) : ∀ k, rb = some k → B ≤ k ∧ k < w.heap.size := by
  obtain ⟨v, n, h1, rfl, h3, _⟩ := h
  exact h3.lt
theorem PW.base {w : World} {B g : Nat} {rb : Option Nat} {m : List Nat} (h : PW w B g rb m) : B ≤ g ∧ g < w.heap.size := by
  obtain ⟨v, n, h1, rfl, h3, _, _, h6⟩ := h
  exact ⟨h6, h1.lt⟩
theorem PW.small {w : World} {B g : Nat} {rb : Option Nat} {m : List Nat} (h : PW w B g rb m) : Small m := by
  obtain ⟨v, n, h1, rfl, h3, _, h5, h6⟩ := h
  exact h5
theorem PW.new (w : World) : PW (w.alloc (.cells #[.slice none 0 0] 44)) w.heap.size w.heap.size none [] :=
  ⟨.slice none 0 0, 0, At.new _ _ _, rfl, World.ownsRow_nil _ _ _ _, rfl, fun x hx => (by cases hx), Nat.le_refl _⟩
theorem wbytes_any (w : World) (B g : Nat) (rb : Option Nat) (m : List Nat) (h : PW w B g rb m) (hm : m.length ≤ 140737488355328) :
    Calls Try.prog 33 #[.pointer (some ⟨g, 0, none⟩)] w (ClonePost w m) := by
  obtain ⟨v, n, h1, h1b, h3, h4, h5, h6⟩ := h
  have c0 := h1.cell 0
  simp at c0
  rcases h3.2 with ⟨rfl, rfl⟩ | ⟨g1, cap, cur, rfl, _⟩
  · obtain rfl := List.eq_nil_of_length_eq_zero h4
    clear h1 h1b h3 h4 h5
    go_enter Try.func33, Try.ntmps33
    go_wp2_with fail
    refine (clone_any w none [] 0 0 rfl (fun _ => ⟨rfl, rfl⟩) (Bytes.none_ _ _ _) (by omega)).mono ?_
    rintro r w' ⟨A, n, c, rfl, hp⟩
    have HP := Lib.hid hp
    clear hp
    go_wp2
    go_ret
    exact ⟨A, n, c, rfl, HP.out⟩
  · have HB := Lib.hid (bytes_own h3 h5)
    have H4 := Lib.hid h4
    rw [h4] at hm
    clear h1 h1b h3 h4 h5
    go_enter Try.func33, Try.ntmps33
    go_wp2_with fail
    refine (clone_any w (some ⟨g1, 0, none⟩) m n cap H4.out (fun h => (by cases h)) HB.out hm).mono ?_
    rintro r w' ⟨A, n', c, rfl, hp⟩
    have HP := Lib.hid hp
    clear hp
    go_wp2
    go_ret
    exact ⟨A, n', c, rfl, HP.out⟩

def ab : ByteArray := ⟨#[97, 98]⟩
theorem ex_bytes : ([] ++ enc 258) ++ (enc ab.size ++ sb ab) = [2, 1, 2, 1, 2, 97, 98] := by decide

set_option maxHeartbeats 1000000 in
theorem works_any (w : World) : Calls Try.prog 24 #[] w fun r w' => r = .returned (.bool true) ∧ Below w.heap.size w w' := by
  have HW := Lib.hid (PW.new w)
  have HB0 : Hid (Below w.heap.size w (w.alloc (.cells #[.slice none 0 0] 44))) := below_new w _
  go_enter Try.func24, Try.ntmps24
  go_wp2_with fail
  refine (wnum_any _ _ _ _ [] 258 HW.out (by decide) (by decide)).mono ?_
  rintro r w1 ⟨rfl, rb1, hp1, hr1, ht1⟩
  have HP1 := Lib.hid hp1
  have HB1 := Lib.hid (HB0.out.trans (below_two ht1 (Nat.le_refl _) (fun k h => (by cases h)) (by simp)))
  clear hp1 hr1 ht1
  go_wp2_with fail
  refine (wtext_any _ _ _ _ _ ab HP1.out (by decide)).mono ?_
  rintro r w2 ⟨rfl, rb2, hp2, hr2, ht2⟩
  have HP2 := Lib.hid hp2
  have HB2 := Lib.hid (HB1.out.trans (below_two ht2 (Nat.le_refl _) (fun k h => (HP1.out.row k h).1) HB1.out.size))
  clear hp2 hr2 ht2
  go_wp2_with fail
  refine (wbytes_any _ _ _ _ _ HP2.out (by decide)).mono ?_
  rintro r w3 ⟨A, n, c, rfl, hl, hb, _, _, _, hbel, _⟩
  have HL := Lib.hid hl
  have HB := Lib.hid hb
  have HB3 := Lib.hid (HB2.out.trans (hbel.mono HB2.out.size))
  clear hl hb hbel
  go_wp2_with fail
  have hb1 := HB.out
  rw [ex_bytes] at hb1
  have hl1 := HL.out
  rw [ex_bytes] at hl1
  refine (equal_any _ w3.heap.size (w3.heap.size + 1) A (some ⟨w3.heap.size, 0, none⟩) [2, 1, 2, 1, 2, 97, 98] [2, 1, 2, 1, 2, 97, 98] n 7 c 7 hl1 rfl (hb1.below (below_new w3 _)) (bytes_new w3 _ _ rfl (by unfold Small; decide) 5)).mono ?_
  rintro r w4 ⟨rfl, rfl⟩
  clear hb1 hl1
  go_wp2
  go_ret
  exact ⟨rfl, HB3.out.alloc HB3.out.size _⟩

theorem nil25 (w : World) (x : Int) : Calls Try.prog 25 #[.pointer none, .int .u64 x] w fun r w' => r = .returned (.tuple #[]) ∧ w = w' := by
  go_enter Try.func25, Try.ntmps25
  go_wp2
  refine bodyPost_ret (results_none rfl _ _ _) rfl ?_
  exact ⟨rfl, rfl⟩
theorem nil27 (w : World) (x : Int) : Calls Try.prog 27 #[.pointer none, .int .u8 x] w fun r w' => r = .returned (.tuple #[]) ∧ w = w' := by
  go_enter Try.func27, Try.ntmps27
  go_wp2
  refine bodyPost_ret (results_none rfl _ _ _) rfl ?_
  exact ⟨rfl, rfl⟩
theorem nil30 (w : World) (s : ByteArray) : Calls Try.prog 30 #[.pointer none, .string s] w fun r w' => r = .returned (.tuple #[]) ∧ w = w' := by
  go_enter Try.func30, Try.ntmps30
  go_wp2
  refine bodyPost_ret (results_none rfl _ _ _) rfl ?_
  exact ⟨rfl, rfl⟩
theorem nil17 (w : World) (x : Int) : Calls Try.prog 17 #[.pointer none, .int .i64 x] w fun r w' => r = .returned (.tuple #[]) ∧ w = w' := by
  go_enter Try.func17, Try.ntmps17
  go_wp2
  refine bodyPost_ret (results_none rfl _ _ _) rfl ?_
  exact ⟨rfl, rfl⟩
theorem nil33 (w : World) : Calls Try.prog 33 #[.pointer none] w fun r w' => r = .returned (.slice none 0 0) ∧ w = w' := by
  go_enter Try.func33, Try.ntmps33
  go_wp2
  go_ret
  exact ⟨rfl, rfl⟩
theorem nil7 (w : World) : Calls Try.prog 7 #[.pointer none] w fun r w' => r = .returned (.int .u64 0) ∧ w = w' := by
  go_enter Try.func7, Try.ntmps7
  go_wp2
  go_ret
  exact ⟨rfl, rfl⟩
theorem nil9 (w : World) (x : Int) : Calls Try.prog 9 #[.pointer none, .int .u64 x] w fun r w' => r = .returned (.int .u64 0) ∧ w = w' := by
  go_enter Try.func9, Try.ntmps9
  go_wp2
  go_ret
  exact ⟨rfl, rfl⟩
theorem nil11 (w : World) : Calls Try.prog 11 #[.pointer none] w fun r w' => r = .returned (.int .u8 0) ∧ w = w' := by
  go_enter Try.func11, Try.ntmps11
  go_wp2
  go_ret
  exact ⟨rfl, rfl⟩
theorem nil13 (w : World) : Calls Try.prog 13 #[.pointer none] w fun r w' => r = .returned (.bool false) ∧ w = w' := by
  go_enter Try.func13, Try.ntmps13
  go_wp2
  go_ret
  exact ⟨rfl, rfl⟩
theorem nil15 (w : World) (x : Int) : Calls Try.prog 15 #[.pointer none, .int .i64 x] w fun r w' => r = .returned (.string ⟨#[]⟩) ∧ w = w' := by
  go_enter Try.func15, Try.ntmps15
  go_wp2
  go_ret
  exact ⟨rfl, rfl⟩
theorem nil21 (w : World) : Calls Try.prog 21 #[.pointer none] w fun r w' => r = .returned (.int .i64 0) ∧ w = w' := by
  go_enter Try.func21, Try.ntmps21
  go_wp2
  go_ret
  exact ⟨rfl, rfl⟩
theorem nil23 (w : World) : Calls Try.prog 23 #[.pointer none] w fun r w' => r = .returned (.int .i64 1) ∧ w = w' := by
  go_enter Try.func23, Try.ntmps23
  go_wp2
  go_ret
  exact ⟨rfl, rfl⟩
theorem nil19 (w : World) : Calls Try.prog 19 #[.pointer none] w fun r w' => r = .returned (.int .i64 1) ∧ w = w' := by
  go_enter Try.func19, Try.ntmps19
  go_wp2
  go_ret
  exact ⟨rfl, rfl⟩
theorem nil28 (w : World) : Calls Try.prog 28 #[.pointer none, .bool true] w fun r w' => r = .returned (.tuple #[]) ∧ w = w' := by
  go_enter Try.func28, Try.ntmps28
  go_wp2_with fail
  refine (nil27 w 1).mono ?_
  rintro r w' ⟨rfl, rfl⟩
  go_wp2
  go_end0
  exact ⟨rfl, rfl⟩
end Go.Proofs.Ytpleafcjacbkkaa.Nu
