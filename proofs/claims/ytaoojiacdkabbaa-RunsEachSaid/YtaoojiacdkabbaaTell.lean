/- The program's 'tells', 'apart' and 'telling': the contract of what goes over the runs that tell something. For every list of runs. -/
import Derived.RangeFuncNested
import Derived.RangeFuncBound
import Derived.RangeFuncCalls
import Derived.RangeFuncLeaves
import Derived.Shelf.Abstract
import Derived.Shelf.RegionOpen
import Derived.WalkKit
import Derived.OwnWalkIn
import Derived.TacticsInMore
import Derived.LoopNIn
import Derived.LoopIn
import Derived.Maps.AppendAt
import Derived.Test.YtaoojiacdkabbaaJoined
namespace Go.Proofs.Ytaoojiacdkabbaa.Ru
open Go.ChangeShapes Go.WideShapes Go.ChangeAt Go.RowKit Go.Shelf
set_option linter.unusedVariables false

attribute [local go_sem] Oper.semAt_some

theorem tells_any (w : World) (lo hi : Nat) :
    Calls Try.prog 46 #[.agg #[.int .u64 (lo : Int), .int .u64 (hi : Int)]] w fun e w' => e = .returned (.bool (mayR (lo, hi))) ∧ Below w.heap.size w w' := by
  by_cases c1 : lo = 0
  · have hd : mayR (lo, hi) = false := decide_eq_false (fun h => by have := h.1; simp at this; omega)
    have d1 : ((lo : Int) != 0) = false := by rw [bne_eq_false_iff_eq]; omega
    rw [hd]
    clear hd
    go_enter Try.func46, Try.ntmps46
    go_wp2
    go_ret
    exact ⟨rfl, below_new w _⟩
  · have d1 : ((lo : Int) != 0) = true := by rw [bne_iff_ne]; omega
    by_cases c2 : lo ≤ hi
    · have d2 : decide ((lo : Int) ≤ (hi : Int)) = true := decide_eq_true (by omega)
      have hd : mayR (lo, hi) = decide ((hi : Int) ≤ 281474976710655) := decide_eq_decide.2 ⟨fun h => by have := h.2.2; simp at this; omega, fun h => ⟨by simp; omega, c2, by simp; omega⟩⟩
      rw [hd]
      clear hd
      go_enter Try.func46, Try.ntmps46
      go_wp2
      go_ret
      exact ⟨rfl, below_new w _⟩
    · have hd : mayR (lo, hi) = false := decide_eq_false (fun h => c2 h.2.1)
      have d2 : decide ((lo : Int) ≤ (hi : Int)) = false := decide_eq_false (by omega)
      rw [hd]
      clear hd
      go_enter Try.func46, Try.ntmps46
      go_wp2
      go_ret
      exact ⟨rfl, below_new w _⟩

theorem apart_any (w : World) (alo ahi blo bhi : Nat) (h : ahi ≤ 281474976710656) :
    Calls Try.prog 47 #[.agg #[.int .u64 (alo : Int), .int .u64 (ahi : Int)], .agg #[.int .u64 (blo : Int), .int .u64 (bhi : Int)]] w fun e w' => e = .returned (.bool (decide (ahi + 1 < blo))) ∧ Below w.heap.size w w' := by
  have h1 : IntKind.u64.wrap ((ahi : Int) + 1) = ((ahi + 1 : Nat) : Int) := by simp [IntKind.wrap, IntKind.bits, IntKind.signed]; omega
  have hd : decide (ahi + 1 < blo) = decide (((ahi + 1 : Nat) : Int) < (blo : Int)) := decide_eq_decide.2 (by omega)
  rw [hd]
  generalize ((ahi + 1 : Nat) : Int) = z at h1 ⊢
  go_enter Try.func47, Try.ntmps47
  go_wp2
  go_ret
  exact ⟨rfl, (below_new w _).trans ((below_new _ _).mono (below_new w _).size)⟩

theorem telling_any (w : World) (A : Option Addr) (len c : Nat) :
    Calls Try.prog 41 #[.slice A len c] w fun e w' => e = .returned (.func (.func 53) #[] #[.pointer (some ⟨w.heap.size, 0, none⟩)]) ∧ w' = w.alloc (.cells #[.slice A len c] 22) := by
  go_enter Try.func41, Try.ntmps41
  go_wp2
  go_ret
  exact ⟨rfl, rfl⟩

theorem turn_below {w w' : World} (h : Below w.heap.size w w') (row : Option Nat) : w.grownBy w' row := ⟨h.os, h.tape, h.output, h.size, fun i hi _ => h.block i hi⟩
/-- a run as one value. -/
def encR (r : Run) : Array Value := #[.agg #[.int .u64 (r.1 : Int), .int .u64 (r.2 : Int)]]
theorem tells_take {l : List Run} {k : Nat} {r : Run} (h : l[k]? = some r) : tells (l.take (k + 1)) = tells (l.take k) ++ (if mayR r = true then [r] else []) := by
  unfold tells
  rw [List.take_add_one, h]
  simp only [Option.toList_some, List.filter_append, List.filter_cons, List.filter_nil]
theorem tells_part (l : List Run) (k : Nat) : tells (l.take k) <+: tells l := by
  refine ⟨tells (l.drop k), ?_⟩
  unfold tells
  rw [← List.filter_append, List.take_append_drop]

set_option maxRecDepth 100000 in
set_option maxHeartbeats 2000000 in
theorem telling1_in (n : Nat) (hn : 1 ≤ n) (l Bs n₀ : Nat) (A : Option Addr) (len c : Nat) (zs : List Run) (hl : zs.length = len) (h63 : len ≤ 9223372036854775807) (J Jx : List Run → World → Prop) (W : World)
    (hJ : AbidesFrom W.heap.size J) (hn₀ : n₀ ≤ W.heap.size)
    (hY : ∀ pre x W1, J pre W1 → pre.length < (tells zs).length → YieldAt Fence.wide (n - 1) Try.prog l (encR x) W1 fun e W' =>
      (e = .returned (.bool true) ∧ J (pre ++ [x]) W' ∧ Below n₀ W1 W') ∨ (e = .returned (.bool false) ∧ Jx (pre ++ [x]) W'))
    (hBs : W.cell? ⟨Bs, 0, none⟩ = some (.slice A len c)) (hc : Runs W n₀ A zs) (h0 : J [] W) :
    CallsIn Fence.wide n Try.prog 53 #[.func (.yield l) #[] #[], .pointer (some ⟨Bs, 0, none⟩)] W fun e W' => (∃ v, e = .returned v) ∧
      ((∃ ys, ys = tells zs ∧ J ys W') ∨ (∃ pre, pre <+: tells zs ∧ Jx pre W')) := by
  have HC := Lib.hid hc
  have HL := Lib.hid hl
  clear hc hl
  refine callsIn_of_wp Try.func53 rfl trivial ?_ rfl
  simp only [Try.ntmps53, List.size_toArray, List.length_cons, List.length_nil, Nat.reduceAdd, Nat.reduceSub, Array.replicate_succ, Array.replicate_zero, List.push_toArray, List.append_toArray, List.nil_append, List.cons_append]
  gi_wp2
  gi_loopw [7] (fun i wr => ∃ k : Nat, k ≤ len ∧ i = .int .i64 (k : Int) ∧ J (tells (zs.take k)) wr ∧ Below n₀ W wr)
    (fun i _ => len - (intOf i).toNat)
  case atStart => exact ⟨0, Nat.zero_le _, rfl, h0, Below.refl _ _⟩
  case round =>
    obtain ⟨k, hk, rfl, hJs, hnx⟩ := hrel
    have HX := Lib.hid hnx
    clear hnx
    by_cases hlt : k < len
    · obtain ⟨ad, lo, hi, rfl, hlk, hlo, hhi, hc1, hc2⟩ := (HC.out.below HX.out).at_ (k := k) (by rw [HL.out]; exact hlt)
      have LK := Lib.hid hlk
      have hc3 : wr.cell? ⟨(ad.add (k * 2)).block, (ad.add (k * 2)).off + 1, none⟩ = some (.int .u64 (hi : Int)) := by rw [add_next]; exact hc2
      clear hlk hc2
      have L0 : Hid (Below wr.heap.size wr (wr.alloc (.cells #[.int .u64 (lo : Int), .int .u64 (hi : Int)] 31))) := below_new _ _
      have C0 : Hid ((wr.alloc (.cells #[.int .u64 (lo : Int), .int .u64 (hi : Int)] 31)).cell? ⟨wr.heap.size, 0, none⟩ = some (.int .u64 (lo : Int)) ∧ (wr.alloc (.cells #[.int .u64 (lo : Int), .int .u64 (hi : Int)] 31)).cell? ⟨wr.heap.size, 1, none⟩ = some (.int .u64 (hi : Int))) := ⟨World.cell?_alloc_new _ _ _ _, World.cell?_alloc_new _ _ _ _⟩
      have S0 : Hid (wr.heap.size < (wr.alloc (.cells #[.int .u64 (lo : Int), .int .u64 (hi : Int)] 31)).heap.size) := by show _ < _; simp
      gi_wp2_with fail
      refine ⟨trivial, callsIn_wide.2 ((tells_any _ lo hi).mono ?_)⟩
      rintro e w4 ⟨rfl, hb4⟩
      have q1 := (hb4.cell (p := ⟨wr.heap.size, 0, none⟩) S0.out).trans C0.out.1
      have q2 := (hb4.cell (p := ⟨wr.heap.size, 1, none⟩) S0.out).trans C0.out.2
      have L4 : Hid (Below wr.heap.size wr w4) := L0.out.trans (hb4.mono L0.out.size)
      have X4 : Hid (Below n₀ W w4) := HX.out.trans (L4.out.mono (Nat.le_trans hn₀ HX.out.size))
      have hJ4 : J (tells (zs.take k)) w4 := hJ _ _ _ none hJs (turn_below L4.out none) (fun r e => by cases e)
      have T1 := Lib.hid (tells_take LK.out)
      clear hb4 hc1 hc3 C0 S0 hJs
      by_cases cm : mayR (lo, hi) = true
      · have T2 : Hid (tells (zs.take (k + 1)) = tells (zs.take k) ++ [(lo, hi)]) := by show _ = _; rw [T1.out, if_pos cm]
        obtain ⟨fn, tmps, assign, body, hy, hR⟩ := hY _ (lo, hi) w4 hJ4 (by
          have := (tells_part zs (k + 1)).length_le
          rw [T2.out, List.length_append, List.length_singleton] at this
          omega)
        dsimp only [encR] at hy
        rw [cm]
        gi_wp2
        refine hR.mono ?_
        rintro e W3 (⟨rfl, hJ3, hk3⟩ | ⟨rfl, hJx3⟩)
        · have X3 : Hid (Below n₀ W W3) := X4.out.trans hk3
          rw [← T2.out] at hJ3
          gi_wp2
          go_roundw
          case rel => exact ⟨k + 1, by omega, by go_num, hJ3, X3.out⟩
          case measure => simp [intOf]; omega
        · rw [← T2.out] at hJx3
          gi_wp2
          refine bodyPost_ret (results_none rfl _ _ _) rfl ?_
          exact ⟨⟨_, rfl⟩, .inr ⟨_, tells_part zs _, hJx3⟩⟩
      · have cm' : mayR (lo, hi) = false := by simpa using cm
        rw [if_neg cm, List.append_nil] at T1
        rw [← T1.out] at hJ4
        rw [cm']
        gi_wp2
        refine ⟨fun _ h => (by cases h), ?_⟩
        gi_wp2
        go_roundw
        case rel => exact ⟨k + 1, by omega, by go_num, hJ4, X4.out⟩
        case measure => simp [intOf]; omega
    · obtain rfl : k = len := by omega
      gi_wp2
      go_end0
      exact ⟨⟨_, rfl⟩, .inl ⟨_, by rw [List.take_of_length_le (by rw [HL.out]; exact Nat.le_refl _)], hJs⟩⟩

/-- what 'telling' answers goes over just the runs that tell something, in their order. -/
theorem telling_stops (n : Nat) (hn : 1 ≤ n) (Bs n₀ : Nat) (A : Option Addr) (len c : Nat) (zs : List Run) (hl : zs.length = len) (h63 : len ≤ 9223372036854775807) (w : World) (hB : Bs < w.heap.size) (hn₀ : n₀ ≤ w.heap.size)
    (hc : w.cell? ⟨Bs, 0, none⟩ = some (.slice A len c)) (hr : Runs w n₀ A zs) :
    SeqStopsK Fence.wide n Try.prog 53 #[.pointer (some ⟨Bs, 0, none⟩)] encR (Below n₀) (fun ys => ys = tells zs) (fun pre => pre <+: tells zs) (tells zs).length w := fun l J Jx W hW hJ hJx hY h0 =>
  telling1_in n hn l Bs n₀ A len c zs hl h63 J Jx W hJ (Nat.le_trans hn₀ hW.size) hY ((hW.cell (p := ⟨Bs, 0, none⟩) hB).trans hc) (hr.below (hW.mono hn₀)) h0
end Go.Proofs.Ytaoojiacdkabbaa.Ru
