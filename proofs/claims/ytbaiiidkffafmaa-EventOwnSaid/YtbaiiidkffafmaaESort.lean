/- The contracts of the document's Sort and Dots of layer event. For every list of at most 2^40 events (Sort); of at most 30 events with at most 300 kills each (Dots: more would do). -/
import Derived.Test.YtbaiiidkffafmaaEPut
import Derived.Test.YtbaiiidkffafmaaDPut
namespace Go.Proofs.Ytbaiiidkffafmaa.Ev
open Go.ChangeShapes Go.WideShapes Go.ChangeAt Go.RowKit
set_option linter.unusedVariables false

noncomputable def sortE (l : List Evt) : List Evt := l.foldl putE []
theorem take_one {α : Type} {l : List α} {k : Nat} {x : α} (h : l[k]? = some x) : l.take (k + 1) = l.take k ++ [x] := by rw [List.take_add_one, h]; rfl
theorem sort_next {l : List Evt} {k : Nat} {x : Evt} (h : l[k]? = some x) : sortE (l.take (k + 1)) = putE (sortE (l.take k)) x := by
  unfold sortE
  rw [take_one h, List.foldl_append]; rfl
theorem put_long (l : List Evt) (e : Evt) : (putE l e).length ≤ l.length + 1 := by
  unfold putE
  have h := st_long l e l.length
  split
  · omega
  · split
    · rename_i h1
      rw [if_pos h1] at h
      exact h
    · rename_i h1
      rw [if_neg h1] at h
      rw [List.length_append]
      simp only [List.length_cons, List.length_nil]
      omega
theorem sort_long (l : List Evt) (k : Nat) : (sortE (l.take k)).length ≤ k := by
  induction k with
  | zero => exact Nat.le_refl _
  | succ k ih =>
    rcases Nat.lt_or_ge k l.length with h | h
    · rw [sort_next (List.getElem?_eq_getElem h)]
      have := put_long (sortE (l.take k)) l[k]
      omega
    · rw [List.take_of_length_le (by omega), ← List.take_of_length_le h]
      omega

set_option maxHeartbeats 8000000 in
theorem rsort_any (w : World) (A0 : Option Addr) (l : List Evt) (n c0 : Nat) (hl : EventsAt w w.heap.size A0 l n c0) (h40 : n ≤ 1099511627776) :
    Calls Try.prog 18 #[.slice A0 n c0] w (EvPost w (sortE l)) := by
  have HL := Lib.hid hl
  clear hl
  go_enter Try.func18, Try.ntmps18
  go_wp2_with fail
  go_loopw [3, 4] (fun v i wr => ∃ (k m : Nat) (A : Option Addr) (c : Nat), k ≤ n ∧ i = .int .i64 (k : Int) ∧ v = .slice A m c ∧ EventsAt wr wr.heap.size A (sortE (l.take k)) m c ∧ Below w.heap.size w wr) (fun _ i _ => n - (intOf i).toNat)
  case atStart => exact ⟨0, 0, none, 0, Nat.zero_le _, rfl, rfl, EventsAt.none_ _ _, Below.refl _ _⟩
  case round =>
    obtain ⟨k, m, A, c, hk, rfl, rfl, ho, hw⟩ := hrel
    have HO := Lib.hid ho
    have HW := Lib.hid hw
    clear ho hw
    by_cases hlt : k < n
    · obtain ⟨ad, q, y, rfl, hB, hly, hq, cq⟩ := (HL.out.up HW.out).at_ hlt
      have HN := Lib.hid (sort_next hly)
      have hmk := sort_long l k
      rw [HO.out.len] at hmk
      have CP := rput_any wr A (sortE (l.take k)) m c q y HO.out hq (by omega)
      simp only [EV.val] at CP
      obtain ⟨e0, e1, e2, e3, e4, e5, e6⟩ := cq
      clear hly hq
      go_wp2_with fail
      refine CP.mono ?_
      rintro e V ⟨A3, m3, c3, rfl, ho3, hb3⟩
      rw [← HN.out] at ho3
      have HO3 := Lib.hid ho3
      have HW3 := Lib.hid (HW.out.trans (hb3.mono HW.out.size))
      clear ho3 hb3 CP e0 e1 e2 e3 e4 e5 e6
      go_wp2
      go_roundw
      case rel => exact ⟨k + 1, m3, A3, c3, by omega, by go_num, rfl, HO3.out, HW3.out⟩
      case measure => simp [intOf]; omega
    · obtain rfl : k = n := by omega
      have e : Hid (l.take k = l) := Lib.hid (List.take_of_length_le (by rw [HL.out.len]; exact Nat.le_refl _))
      rw [e.out] at HO
      go_wp2
      go_ret
      exact ⟨A, m, c, rfl, HO.out, HW.out⟩

/-- the dots of an event and all its kills, put. -/
def dotsOne (m : List Dt.Dot) (x : Evt) : List Dt.Dot := x.kills.foldl Dt.putD (Dt.putD m x.dot)
/-- the dots of events, and all their kills. -/
def dotsE (l : List Evt) : List Dt.Dot := l.foldl dotsOne []
def dotsTo (l : List Evt) (k : Nat) : List Dt.Dot := (l.take k).foldl dotsOne []
def killsTo (m : List Dt.Dot) (x : Evt) (j : Nat) : List Dt.Dot := (x.kills.take j).foldl Dt.putD (Dt.putD m x.dot)
theorem dots_next {l : List Evt} {k : Nat} {x : Evt} (h : l[k]? = some x) : dotsTo l (k + 1) = dotsOne (dotsTo l k) x := by
  unfold dotsTo
  rw [take_one h, List.foldl_append]; rfl
theorem kills_next {m : List Dt.Dot} {x : Evt} {j : Nat} {d : Dt.Dot} (h : x.kills[j]? = some d) : killsTo m x (j + 1) = Dt.putD (killsTo m x j) d := by
  unfold killsTo
  rw [take_one h, List.foldl_append]; rfl
theorem kills_all {m : List Dt.Dot} {x : Evt} {n : Nat} (hn : x.kills.length = n) : killsTo m x n = dotsOne m x := by
  unfold killsTo dotsOne
  rw [List.take_of_length_le (by rw [hn]; exact Nat.le_refl _)]
end Go.Proofs.Ytbaiiidkffafmaa.Ev
