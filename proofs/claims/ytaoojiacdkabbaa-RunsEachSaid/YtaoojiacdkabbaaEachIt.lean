/- The contract of what 'Each' answers: it goes over the numbers of a list in order, rising, as far as one likes. -/
import Derived.Test.YtaoojiacdkabbaaEachM
import Derived.Test.YtaoojiacdkabbaaHas
namespace Go.Proofs.Ytaoojiacdkabbaa.Ru
open Go.ChangeShapes Go.WideShapes Go.ChangeAt Go.RowKit Go.Shelf
set_option linter.unusedVariables false

attribute [local go_sem] Oper.semAt_some

/-- what a round that goes on keeps: all cells but those of the blocks X. -/
structure KeepX (X : Nat → Prop) (W W' : World) : Prop where
  size : W.heap.size ≤ W'.heap.size
  cells : ∀ (b : Nat) (c : Array Value) (e : TypeId) (f : Nat × Nat), ¬ X b → W.heap[b]? = some (.cells c e f) → W'.heap[b]? = some (.cells c e f)
theorem KeepX.refl (X : Nat → Prop) (W : World) : KeepX X W W := ⟨Nat.le_refl _, fun _ _ _ _ _ h => h⟩
theorem KeepX.trans {X : Nat → Prop} {A B C : World} (h : KeepX X A B) (k : KeepX X B C) : KeepX X A C := ⟨Nat.le_trans h.size k.size, fun b c e f hb hc => k.cells b c e f hb (h.cells b c e f hb hc)⟩
theorem KeepX.below {X : Nat → Prop} {W W' : World} (h : Below W.heap.size W W') : KeepX X W W' := ⟨h.size, fun b c e f _ hc => (h.block b (Array.getElem?_eq_some_iff.1 hc).1).trans hc⟩
theorem KeepX.cell {X : Nat → Prop} {W W' : World} (h : KeepX X W W') {a : Addr} {v : Value} (ha : ¬ X a.block) (hc : W.cell? a = some v) : W'.cell? a = some v := by
  unfold World.cell? at hc ⊢
  cases hb : W.heap[a.block]? with
  | none => rw [hb] at hc; cases hc
  | some o =>
    cases o with
    | cells c e f =>
      rw [h.cells _ _ _ _ ha hb]
      rw [hb] at hc
      exact hc
    | _ => rw [hb] at hc; cases hc
theorem keepX_b {X : Nat → Prop} {B : Nat} (W : World) (l : Nat) (o o' : Obj) (_ : B ≤ l) (h : W.heap[l]? = some o) (ho : o.isCells = false) (_ : o.isWalk = false) : KeepX X W (W.putObj l o') :=
  ⟨(grownBy_putObj' W l o').size, fun b c e f _ hc => ((grownBy_putObj' W l o').block b (Array.getElem?_eq_some_iff.1 hc).1 (fun e' => by cases e'; rw [h] at hc; cases hc; cases ho)).trans hc⟩
def encU (x : U64) : Array Value := #[.int .u64 (x.1 : Int)]

theorem runN_step {lo hi x : Nat} (h1 : lo ≤ x) (h2 : x ≤ hi) : List.range' lo (x + 1 - lo) = List.range' lo (x - lo) ++ [x] := by
  rw [show x + 1 - lo = (x - lo) + 1 by omega, List.range'_concat]
  congr 2
  omega
theorem numsU_part {l : List Run} {k lo hi x : Nat} (hk : l[k]? = some (lo, hi)) (h1 : lo ≤ x) (h2 : x ≤ hi) : (numsN (l.take k) ++ List.range' lo (x + 1 - lo)).map toU <+: numsU l := by
  have hlt := (List.getElem?_eq_some_iff.1 hk).1
  have hl : l = l.take k ++ (lo, hi) :: l.drop (k + 1) := by
    conv => lhs; rw [← List.take_append_drop k l]
    rw [List.drop_eq_getElem_cons hlt]
    rw [List.getElem?_eq_getElem hlt] at hk
    rw [Option.some.inj hk]
  have hr : runN (lo, hi) = List.range' lo (x + 1 - lo) ++ List.range' (x + 1) (hi - x) := by
    unfold runN
    show List.range' lo (hi + 1 - lo) = _
    rw [show hi + 1 - lo = (x + 1 - lo) + (hi - x) by omega, ← List.range'_append_1]
    congr 2
    omega
  refine ⟨(List.range' (x + 1) (hi - x) ++ numsN (l.drop (k + 1))).map toU, ?_⟩
  unfold numsU
  conv => rhs; rw [hl, numsN_append, numsN_cons, hr]
  rw [← List.map_append]
  simp only [List.append_assoc]

set_option maxRecDepth 100000 in
set_option maxHeartbeats 4000000 in
theorem each1_in (X : Nat → Prop) (n : Nat) (hn : 1 ≤ n) (l Bs n₀ : Nat) (A : Option Addr) (len c : Nat) (L : List Run) (hO : InOrder L) (hl : L.length = len) (h63 : len ≤ 9223372036854775807) (J Jx : List U64 → World → Prop) (W : World)
    (hJ : AbidesFrom W.heap.size J) (hX : ∀ b, X b → n₀ ≤ b ∧ b < W.heap.size) (hBn : Bs < n₀)
    (hY : ∀ pre x W1, J pre W1 → pre.length < (numsU L).length → YieldAt Fence.wide (n - 1) Try.prog l (encU x) W1 fun e W' =>
      (e = .returned (.bool true) ∧ J (pre ++ [x]) W' ∧ KeepX X W1 W') ∨ (e = .returned (.bool false) ∧ Jx (pre ++ [x]) W'))
    (hBs : W.cell? ⟨Bs, 0, none⟩ = some (.slice A len c)) (hc : Runs W n₀ A L) (h0 : J [] W) :
    CallsIn Fence.wide n Try.prog 49 #[.func (.yield l) #[] #[], .pointer (some ⟨Bs, 0, none⟩)] W fun e W' => (∃ v, e = .returned v) ∧
      ((∃ ys, ys = numsU L ∧ J ys W') ∨ (∃ pre, pre <+: numsU L ∧ Jx pre W')) := by
  have HC := Lib.hid hc
  have HL := Lib.hid hl
  have HO := Lib.hid hO
  have HX := Lib.hid hX
  clear hc hl hO hX
  refine callsIn_of_wp Try.func49 rfl trivial ?_ rfl
  simp only [Try.ntmps49, List.size_toArray, List.length_cons, List.length_nil, Nat.reduceAdd, Nat.reduceSub, Array.replicate_succ, Array.replicate_zero, List.push_toArray, List.append_toArray, List.nil_append, List.cons_append]
  have hnf : ∀ V : World, (binOp .eql 55 (.func (.yield l) #[] #[]) .nilFunc).run Try.prog V = .ok (.bool false) V := fun _ => by kernel_rfl
  gi_wp2
  gi_loopw [10] (fun i wr => ∃ k : Nat, k ≤ len ∧ i = .int .i64 (k : Int) ∧ J (numsU (L.take k)) wr ∧ KeepX X W wr) (fun i _ => len - (intOf i).toNat)
  case atStart => exact ⟨0, Nat.zero_le _, rfl, h0, KeepX.refl _ _⟩
  case round =>
    obtain ⟨k, hk, rfl, hJs, hnx⟩ := hrel
    have HK := Lib.hid hnx
    clear hnx
    by_cases hlt : k < len
    · obtain ⟨ad, lo, hi, rfl, hlk, hlo, hhi, q1, q2⟩ := HC.out.at_ (k := k) (by rw [HL.out]; exact hlt)
      have hadb : ad.block < n₀ := by
        obtain ⟨ad', e, h, _⟩ := HC.out.2 (by rw [rv_length, HL.out]; omega)
        cases e; exact h
      have LK := Lib.hid hlk
      have mm := (may_iff (lo, hi)).1 (HO.out.1 _ (List.mem_of_getElem? hlk))
      have hlohi : lo ≤ hi := mm.2.1
      have hhi2 : hi ≤ 281474976710655 := mm.2.2
      have nX : ∀ b, b < n₀ → ¬ X b := fun b hb hx => by have := (HX.out b hx).1; omega
      have q3 : wr.cell? (ad.add (k * 2)) = some (.int .u64 (lo : Int)) := HK.out.cell (by rw [block_add]; exact nX _ hadb) q1
      have q4 : wr.cell? ⟨(ad.add (k * 2)).block, (ad.add (k * 2)).off + 1, none⟩ = some (.int .u64 (hi : Int)) := by
        rw [add_next]; exact HK.out.cell (by rw [block_add]; exact nX _ hadb) q2
      have fresh : Hid (¬ X wr.heap.size) := fun hx => by have := (HX.out _ hx).2; have := HK.out.size; omega
      have P0 := Lib.hid (Pair.new wr (lo, hi))
      have L0 : Hid (Below wr.heap.size wr (wr.alloc (.cells #[.int .u64 (lo : Int), .int .u64 (hi : Int)] 31))) := below_new _ _
      have HK1 : Hid (KeepX X W (wr.alloc (.cells #[.int .u64 (lo : Int), .int .u64 (hi : Int)] 31))) := HK.out.trans (KeepX.below L0.out)
      have hJ1 : J ((numsN (L.take k) ++ List.range' lo (lo - lo)).map toU) (wr.alloc (.cells #[.int .u64 (lo : Int), .int .u64 (hi : Int)] 31)) := by
        rw [Nat.sub_self, List.range'_zero, List.append_nil]
        exact hJ _ _ _ none hJs (turn_below L0.out none) (fun r e => by cases e)
      clear hlk q1 q2 mm hJs
      gi_wp2_with fail
      clear q3 q4
      generalize wr.alloc (.cells #[.int .u64 (lo : Int), .int .u64 (hi : Int)] 31) = V0 at P0 HK1 hJ1 ⊢
      obtain ⟨Bx, hBx⟩ : ∃ b, wr.heap.size = b := ⟨_, rfl⟩
      rw [hBx] at P0 fresh ⊢
      have hS : Hid (∃ x : Nat, Value.int .u64 (lo : Int) = .int .u64 (x : Int) ∧ lo ≤ x ∧ x ≤ hi + 1 ∧ J ((numsN (L.take k) ++ List.range' lo (x - lo)).map toU) V0 ∧ KeepX X W V0 ∧ Pair V0 Bx (lo, hi)) := ⟨lo, rfl, Nat.le_refl _, by omega, hJ1, HK1.out, P0.out⟩
      clear hBx hJ1 HK1 P0 L0 HK
      gi_loopw [5] (fun v wr => ∃ x : Nat, v = .int .u64 (x : Int) ∧ lo ≤ x ∧ x ≤ hi + 1 ∧ J ((numsN (L.take k) ++ List.range' lo (x - lo)).map toU) wr ∧ KeepX X W wr ∧ Pair wr Bx (lo, hi)) (fun v _ => hi + 1 - (intOf v).toNat)
      case atStart => exact hS.out
      case round =>
        clear hS
        obtain ⟨x, rfl, hx1, hx2, hJs, hkx, hP⟩ := hrel
        have HKX := Lib.hid hkx
        have HP := Lib.hid hP
        have e2 := hP.cell2
        clear hkx hP
        by_cases hxh : x ≤ hi
        · have dx : decide ((x : Int) ≤ (hi : Int)) = true := decide_eq_true (by omega)
          have tv : (toU x).1 = x := toU_val (by omega)
          have hs : Hid ((numsN (L.take k) ++ List.range' lo (x + 1 - lo)).map toU = (numsN (L.take k) ++ List.range' lo (x - lo)).map toU ++ [toU x]) := by
            show _ = _
            rw [runN_step hx1 hxh, ← List.append_assoc, List.map_append (l₁ := _ ++ _)]
            rfl
          have hpart := Lib.hid (numsU_part LK.out hx1 hxh)
          obtain ⟨fn, tmps, assign, body, hy, hR⟩ := hY _ (toU x) wr hJs (by
            have h := hpart.out.length_le
            rw [hs.out, List.length_append, List.length_singleton] at h
            omega)
          dsimp only [encU] at hy
          rw [tv] at hy
          gi_wp2
          refine hR.mono ?_
          rintro e W3 (⟨rfl, hJ3, hk3⟩ | ⟨rfl, hJx3⟩)
          · rw [← hs.out] at hJ3
            have HK3 : Hid (KeepX X W W3) := HKX.out.trans hk3
            have HP3 : Hid (Pair W3 Bx (lo, hi)) := hk3.cells _ _ _ _ fresh.out HP.out
            gi_wp2
            go_roundw
            case rel => exact ⟨x + 1, by go_num, by omega, by omega, hJ3, HK3.out, HP3.out⟩
            case measure => simp [intOf]; omega
          · rw [← hs.out] at hJx3
            gi_wp2
            refine bodyPost_ret (results_none rfl _ _ _) rfl ?_
            exact ⟨⟨_, rfl⟩, .inr ⟨_, hpart.out, hJx3⟩⟩
        · have dx : decide ((x : Int) ≤ (hi : Int)) = false := decide_eq_false (by omega)
          have ht : Hid (numsU (L.take (k + 1)) = (numsN (L.take k) ++ List.range' lo (x - lo)).map toU) := by
            show _ = _
            unfold numsU
            rw [List.take_add_one, LK.out, numsN_append]
            rw [show x - lo = hi + 1 - lo by omega]
            simp [numsN, runN]
          rw [← ht.out] at hJs
          gi_wp2
          go_roundw
          case rel => exact ⟨k + 1, by omega, by go_num, hJs, HKX.out⟩
          case measure => simp [intOf]; omega
    · obtain rfl : k = len := by omega
      gi_wp2
      go_end0
      exact ⟨⟨_, rfl⟩, .inl ⟨_, by rw [List.take_of_length_le (by rw [HL.out]; exact Nat.le_refl _)], hJs⟩⟩

theorem each_stops (X : Nat → Prop) (n : Nat) (hn : 1 ≤ n) (Bs n₀ : Nat) (A : Option Addr) (len c : Nat) (L : List Run) (hO : InOrder L) (hl : L.length = len) (h63 : len ≤ 9223372036854775807) (w : World)
    (hX : ∀ b, X b → n₀ ≤ b ∧ b < w.heap.size) (hBn : Bs < n₀) (hn₀ : n₀ ≤ w.heap.size) (hc : w.cell? ⟨Bs, 0, none⟩ = some (.slice A len c)) (hr : Runs w n₀ A L) :
    SeqStopsK Fence.wide n Try.prog 49 #[.pointer (some ⟨Bs, 0, none⟩)] encU (KeepX X) (fun ys => ys = numsU L) (fun pre => pre <+: numsU L) (numsU L).length w := fun l J Jx W hW hJ hJx hY h0 =>
  each1_in X n hn l Bs n₀ A len c L hO hl h63 J Jx W hJ (fun b hb => ⟨(hX b hb).1, Nat.lt_of_lt_of_le (hX b hb).2 hW.size⟩) hBn hY ((hW.cell (p := ⟨Bs, 0, none⟩) (Nat.lt_of_lt_of_le hBn hn₀)).trans hc) (hr.below (hW.mono hn₀)) h0
end Go.Proofs.Ytaoojiacdkabbaa.Ru
