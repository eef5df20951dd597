/- Words and contracts that the proofs of this seat stand on, part 11 of 14. -/
import Derived.Test.YtmhghgogehmehaaMgJ
import Derived.Deep.RegionHeld3
import Derived.RangeFuncNested
import Derived.RangeFuncBound
import Derived.RangeFuncCalls
import Derived.RangeFuncLeaves
import Derived.Shelf.Abstract
import Derived.Shelf.RegionOpen
import Derived.WalkKit
import Derived.OwnWalkIn
import Derived.TacticsInMore
import Derived.LoopNIn
import Derived.LoopIn
import Derived.Maps.AppendAt
import Derived.Test.YtmhghgogehmehaaMgC
import Derived.Test.YtmhghgogehmehaaMgE
import Derived.Shelf.SlSortCmp.QuietGrown

/- The contract of the program's 'byDevice': a map from devices to the runs of each, as they stand in the context, in lists of their own. Condition: at most 2^28 parts, of at most 2^28 runs together. -/
namespace Go.Proofs.Ytmhghgogehmehaa.Cx
open Go.ChangeShapes Go.WideShapes Go.ChangeAt Go.RowKit Go.Maps
set_option linter.unusedVariables false
set_option maxRecDepth 4000

/-- the box of a part that came in. -/
theorem pbox_at (w : World) (d : Nat) (A : Option Addr) (n c : Nat) : ∀ V, Below (w.alloc (.cells #[.int .u16 (d : Int), .slice A n c] 38)).heap.size (w.alloc (.cells #[.int .u16 (d : Int), .slice A n c] 38)) V → V.cell? ⟨w.heap.size, 0, none⟩ = some (.int .u16 (d : Int)) ∧ V.cell? ⟨w.heap.size, 1, none⟩ = some (.slice A n c) := by
  intro V hV
  have h1 : (w.alloc (.cells #[.int .u16 (d : Int), .slice A n c] 38)).cell? ⟨w.heap.size, 0, none⟩ = some (.int .u16 (d : Int)) := by simp [go_sem]
  have h2 : (w.alloc (.cells #[.int .u16 (d : Int), .slice A n c] 38)).cell? ⟨w.heap.size, 1, none⟩ = some (.slice A n c) := by simp [go_sem]
  exact ⟨(hV.cell (World.block_lt_of_cell? _ _ h1)).trans h1, (hV.cell (World.block_lt_of_cell? _ _ h2)).trans h2⟩
set_option maxHeartbeats 4000000 in
theorem pbydev_any (w : World) (A1 : Option Addr) (a : List Part) (n1 c1 : Nat) (h1 : CtxAt w A1 a n1 c1) (ha : Wide 268435456 a) :
    Calls Try.prog 30 #[.slice A1 n1 c1] w fun e w' => e = .returned (.map (some w.heap.size)) ∧ MapO w' (w.heap.size + 1) w.heap.size n1 (rawC a) ∧ Below w.heap.size w w' := by
  have hmm := @run_makeMap Try.prog
  have H1 := Lib.hid h1
  have HM0 := Lib.hid (mapO_new w)
  have HB0 : Hid (Below w.heap.size w (w.alloc (.map #[] 0))) := Lib.hid (Dt.below_new _ _)
  have hn1 : n1 ≤ 268435456 := by rw [← h1.len]; exact ha.1
  have HL : Hid (∀ k d, (rawF (fun _ => []) (a.take k) d).length ≤ 268435456) := Lib.hid (fun k d => by
    have q1 := raw_len (fun _ => []) a k d
    have q2 := weight_take a k
    have q3 := ha.2
    simp only [List.length_nil] at q1
    omega)
  have HP : Hid (∀ (k : Nat) (x : Part), a[k]? = some x → x.2.length ≤ 268435456) := Lib.hid (fun k x hx => Nat.le_trans (weight_part hx) ha.2)
  have HF : Hid (∀ k d, Ru.Fit (rawF (fun _ => []) (a.take k) d)) := Lib.hid (fun k d => raw_fit (fun x hx => h1.fit x (List.mem_of_mem_take hx)) d (fun r hr => by cases hr))
  clear h1 ha
  go_enter Try.func30, Try.ntmps30
  go_wp2_with fail
  generalize w.alloc (.map #[] 0) = w0 at HM0 HB0 ⊢
  go_loopw [9] (fun i wr => ∃ k : Nat, k ≤ n1 ∧ i = .int .i64 (k : Int) ∧ MapO wr (w.heap.size + 1) w.heap.size k (rawF (fun _ => []) (a.take k)) ∧ Below w.heap.size w wr) (fun i _ => n1 - (intOf i).toNat)
  case atStart => exact ⟨0, Nat.zero_le _, rfl, HM0.out, HB0.out⟩
  case round =>
    obtain ⟨k, hk, rfl, hmk, hg⟩ := hrel
    have HMK := Lib.hid hmk
    have HW := Lib.hid hg
    have hsz := hmk.lt
    clear hmk hg
    by_cases hlt : k < n1
    · obtain ⟨ad, p, x, rfl, hB, hx, hp, hcell⟩ := H1.out.cells hlt
      have HN := Lib.hid (raw_next (f := fun _ => []) hx)
      have HPL := Lib.hid (HP.out k x hx)
      have HX := Lib.hid (hp.up HW.out)
      have hd1 := hp.fit
      have hpd := hp.dev
      obtain ⟨d1, d2⟩ := hcell wr HW.out
      clear hx hp hcell
      have BX : Hid (Below wr.heap.size wr (wr.alloc (.cells #[.int .u16 (x.1 : Int), .slice p.adr p.len p.cap] 38))) := Lib.hid (Dt.below_new _ _)
      obtain ⟨d3, d4⟩ := pbox_at wr x.1 p.adr p.len p.cap _ (Below.refl _ _)
      by_cases h0 : x.1 = 0
      · have dz : ((x.1 : Int) != 0) = false := by rw [bne_eq_false_iff_eq]; omega
        have HS : Hid (rawF (fun _ => []) (a.take (k + 1)) = rawF (fun _ => []) (a.take k)) := Lib.hid (by rw [HN.out]; exact raw_skip h0)
        have HR : Hid (MapO (wr.alloc (.cells #[.int .u16 (x.1 : Int), .slice p.adr p.len p.cap] 38)) (w.heap.size + 1) w.heap.size (k + 1) (rawF (fun _ => []) (a.take (k + 1)))) := Lib.hid (by rw [HS.out]; exact (HMK.out.up BX.out).more (by omega))
        have HW1 := Lib.hid (HW.out.trans (BX.out.mono HW.out.size))
        have hz : ((x.1 : Nat) : Int) = 0 := by omega
        rw [hz] at HR HW1
        clear HN HS HMK HX BX
        go_wp2
        go_roundw
        case rel => exact ⟨k + 1, hlt, by go_num, HR.out, HW1.out⟩
        case measure => simp [intOf]; omega
      · have dz : ((x.1 : Int) != 0) = true := by rw [bne_iff_ne]; omega
        have HS : Hid ((fun d => if d = x.1 then rawF (fun _ => []) (a.take k) x.1 ++ x.2 else rawF (fun _ => []) (a.take k) d) = rawF (fun _ => []) (a.take (k + 1))) := Lib.hid (by rw [HN.out]; exact raw_put h0)
        have HFN := Lib.hid (HF.out (k + 1) x.1)
        have HEN : Hid (rawF (fun _ => []) (a.take (k + 1)) x.1 = rawF (fun _ => []) (a.take k) x.1 ++ x.2) := Lib.hid (by rw [← HS.out]; exact if_pos rfl)
        rw [HEN.out] at HFN
        have HLK := Lib.hid (HL.out k x.1)
        generalize hwb : wr.alloc (.cells #[.int .u16 (x.1 : Int), .slice p.adr p.len p.cap] 38) = wb at BX d3 d4
        have hbox : wb.heap.size = wr.heap.size + 1 := by rw [← hwb]; simp
        have HXB := Lib.hid (HX.out.up BX.out)
        obtain ⟨A2, k2, c2, hA2, hk2, hlook, hstore⟩ := (HMK.out.up BX.out).look hd1
        have r1 := hlook wb (Ru.turn_refl _ _)
        have r2 := hlook wb.drew (bel_grown ((Below.refl _ _).drew) _)
        have BD : Hid (Below wb.heap.size wb wb.drew) := Lib.hid ((Below.refl _ _).drew)
        have HO2 := Lib.hid (Dt.own_kept hA2 BD.out)
        have hk2' : k2 ≤ 268435456 := by rw [← hk2]; exact HLK.out
        have hpl' : p.len ≤ 268435456 := by rw [← HX.out.len]; exact HPL.out
        have HBL : Hid (Ru.Lies wb.drew wb.drew.heap.size p.adr (Ru.rv x.2)) := Lib.hid ((HXB.out.up BD.out).runs.2)
        have HXL := Lib.hid HX.out.len
        have HXN := Lib.hid HX.out.nil
        have HOL := Lib.hid (fun j hj => (hA2.lt j hj))
        have HST := Lib.hid hstore
        have HW1 := Lib.hid ((HW.out.trans (BX.out.mono HW.out.size)).trans (BD.out.mono (Nat.le_trans HW.out.size BX.out.size)))
        have hBsz : w.heap.size + 1 ≤ wb.drew.heap.size := by show w.heap.size + 1 ≤ wb.heap.size; omega
        have HKC : Hid (∀ w5 : World, World.grownBy wb.drew w5 (Value.slice A2 k2 c2).ownBlock → w5.cell? ⟨wr.heap.size, 0, none⟩ = some (.int .u16 (x.1 : Int)) ∧ w5.cell? ⟨wr.heap.size, 1, none⟩ = some (.slice p.adr p.len p.cap)) := Lib.hid (fun w5 hg5 => by
          have hq := HMK.out
          have hne : some wr.heap.size ≠ (Value.slice A2 k2 c2).ownBlock := fun e => by
            obtain ⟨A9, k9, c9, hA9, _, hl9, _⟩ := hq.look hd1
            have e9 := hl9 wb (bel_grown BX.out _)
            rw [r1] at e9
            have e8 : Value.slice A2 k2 c2 = Value.slice A9 k9 c9 := by injection e9
            rw [e8] at e
            have := (hA9.lt wr.heap.size e.symm).2
            omega
          have hl2 : wr.heap.size < wb.drew.heap.size := by show wr.heap.size < wb.heap.size; omega
          exact ⟨(hg5.cell_far _ hl2 hne).trans d3, (hg5.cell_far _ hl2 hne).trans d4⟩)
        have HK6 : Hid (∀ w5 w6 : World, World.grownBy wb.drew w5 (Value.slice A2 k2 c2).ownBlock → w5.grownBy w6 (some w.heap.size) → w6.cell? ⟨wr.heap.size, 0, none⟩ = some (.int .u16 (x.1 : Int)) ∧ w6.cell? ⟨wr.heap.size, 1, none⟩ = some (.slice p.adr p.len p.cap)) := Lib.hid (fun w5 w6 hg5 hg6 => by
          obtain ⟨q1, q2⟩ := HKC.out w5 hg5
          have hl2 : wr.heap.size < w5.heap.size := by have := hg5.size; show wr.heap.size < w5.heap.size; have e : wb.drew.heap.size = wb.heap.size := rfl; omega
          have hne : some wr.heap.size ≠ some w.heap.size := fun e => by injection e with e; omega
          exact ⟨(hg6.cell_far _ hl2 hne).trans q1, (hg6.cell_far _ hl2 hne).trans q2⟩)
        clear HN hA2 hlook hstore HLK HPL HX HMK BX BD HXB hk2 HEN
        go_wp2_with fail
        go_region_held3 (fun V => V.cell? ⟨wr.heap.size, 0, none⟩ = some (.int .u16 (x.1 : Int)) ∧ V.cell? ⟨wr.heap.size, 1, none⟩ = some (.slice p.adr p.len p.cap)) (first | exact ⟨d3, d4⟩ | assumption) (first
          | (refine step_app rfl (.tmp 22) (.tmp 24) rfl rfl (w.heap.size + 1) k2 (.slice A2 k2 c2) (rawF (fun _ => []) (a.take k) x.1) p.adr x.2 p.len p.cap rfl rfl HO2.out HXN.out HBL.out HXL.out (by omega) hBsz ?_; intro A5 c5 w5 ho5 hg5 hl5; have hcV := HKC.out w5 hg5; obtain ⟨w6, hrun, hM6, hg6⟩ := HST.out w5 A5 (k2 + p.len) c5 _ (World.grownBy.trans (bel_grown ((Below.refl _ _).drew) _) hg5) ho5 HFN.out (hl5.imp (fun h => h) (fun h j hj => by rw [h] at hj; injection hj with hj; rw [← hj]; exact Nat.le_refl _)) (by omega); have hcV6 := HK6.out w5 w6 hg5 hg6))
        all_goals
          have HR : Hid (MapO w6 (w.heap.size + 1) w.heap.size (k + 1) (rawF (fun _ => []) (a.take (k + 1)))) := Lib.hid (hM6.turn HS.out)
          have HW6 : Hid (Below w.heap.size w w6) := Lib.hid ((HW1.out.grown hg5 HW1.out.size (fun j hj => by have := (HOL.out j hj).1; omega)).grown hg6 (Nat.le_trans HW1.out.size hg5.size) (fun j hj => by cases hj; exact Nat.le_refl _))
          clear hM6 hg6 hrun hg5 hl5 ho5 hcV hcV6 r1 r2 HO2 HBL HXL HXN HOL HST HW1 HKC HK6 HS HFN d1 d2 d3 d4
          go_wp2
          go_roundw
          case rel => exact ⟨k + 1, hlt, by go_num, HR.out, HW6.out⟩
          case measure => simp [intOf]; omega
    · obtain rfl : k = n1 := by omega
      have e : Hid (a.take k = a) := Lib.hid (List.take_of_length_le (by rw [H1.out.len]; exact Nat.le_refl _))
      rw [e.out] at HMK
      go_wp2
      go_ret
      exact ⟨rfl, HMK.out, HW.out⟩
end Go.Proofs.Ytmhghgogehmehaa.Cx

/- The program's 'tells', 'apart' and 'telling': the contract of what goes over the runs that tell something. For every list of runs. -/
namespace Go.Proofs.Ytmhghgogehmehaa.Ru
open Go.ChangeShapes Go.WideShapes Go.ChangeAt Go.RowKit Go.Shelf
set_option linter.unusedVariables false

attribute [local go_sem] Oper.semAt_some

theorem tells_any (w : World) (lo hi : Nat) :
    Calls Try.prog 34 #[.agg #[.int .u64 (lo : Int), .int .u64 (hi : Int)]] w fun e w' => e = .returned (.bool (mayR (lo, hi))) ∧ Below w.heap.size w w' := by
  by_cases c1 : lo = 0
  · have hd : mayR (lo, hi) = false := decide_eq_false (fun h => by have := h.1; simp at this; omega)
    have d1 : ((lo : Int) != 0) = false := by rw [bne_eq_false_iff_eq]; omega
    rw [hd]
    clear hd
    go_enter Try.func34, Try.ntmps34
    go_wp2
    go_ret
    exact ⟨rfl, below_new w _⟩
  · have d1 : ((lo : Int) != 0) = true := by rw [bne_iff_ne]; omega
    by_cases c2 : lo ≤ hi
    · have d2 : decide ((lo : Int) ≤ (hi : Int)) = true := decide_eq_true (by omega)
      have hd : mayR (lo, hi) = decide ((hi : Int) ≤ 281474976710655) := decide_eq_decide.2 ⟨fun h => by have := h.2.2; simp at this; omega, fun h => ⟨by simp; omega, c2, by simp; omega⟩⟩
      rw [hd]
      clear hd
      go_enter Try.func34, Try.ntmps34
      go_wp2
      go_ret
      exact ⟨rfl, below_new w _⟩
    · have hd : mayR (lo, hi) = false := decide_eq_false (fun h => c2 h.2.1)
      have d2 : decide ((lo : Int) ≤ (hi : Int)) = false := decide_eq_false (by omega)
      rw [hd]
      clear hd
      go_enter Try.func34, Try.ntmps34
      go_wp2
      go_ret
      exact ⟨rfl, below_new w _⟩

theorem apart_any (w : World) (alo ahi blo bhi : Nat) (h : ahi ≤ 281474976710656) :
    Calls Try.prog 35 #[.agg #[.int .u64 (alo : Int), .int .u64 (ahi : Int)], .agg #[.int .u64 (blo : Int), .int .u64 (bhi : Int)]] w fun e w' => e = .returned (.bool (decide (ahi + 1 < blo))) ∧ Below w.heap.size w w' := by
  have h1 : IntKind.u64.wrap ((ahi : Int) + 1) = ((ahi + 1 : Nat) : Int) := by simp [IntKind.wrap, IntKind.bits, IntKind.signed]; omega
  have hd : decide (ahi + 1 < blo) = decide (((ahi + 1 : Nat) : Int) < (blo : Int)) := decide_eq_decide.2 (by omega)
  rw [hd]
  generalize ((ahi + 1 : Nat) : Int) = z at h1 ⊢
  go_enter Try.func35, Try.ntmps35
  go_wp2
  go_ret
  exact ⟨rfl, (below_new w _).trans ((below_new _ _).mono (below_new w _).size)⟩

theorem telling_any (w : World) (A : Option Addr) (len c : Nat) :
    Calls Try.prog 46 #[.slice A len c] w fun e w' => e = .returned (.func (.func 57) #[] #[.pointer (some ⟨w.heap.size, 0, none⟩)]) ∧ w' = w.alloc (.cells #[.slice A len c] 36) := by
  go_enter Try.func46, Try.ntmps46
  go_wp2
  go_ret
  exact ⟨rfl, rfl⟩

theorem turn_below {w w' : World} (h : Below w.heap.size w w') (row : Option Nat) : w.grownBy w' row := ⟨h.os, h.tape, h.output, h.size, fun i hi _ => h.block i hi⟩
/-- a run as one value. -/
def encR (r : Run) : Array Value := #[.agg #[.int .u64 (r.1 : Int), .int .u64 (r.2 : Int)]]
theorem tells_take {l : List Run} {k : Nat} {r : Run} (h : l[k]? = some r) : tells (l.take (k + 1)) = tells (l.take k) ++ (if mayR r = true then [r] else []) := by
  unfold tells
  rw [List.take_add_one, h]
  simp only [Option.toList_some, List.filter_append, List.filter_cons, List.filter_nil]
theorem tells_part (l : List Run) (k : Nat) : tells (l.take k) <+: tells l := by
  refine ⟨tells (l.drop k), ?_⟩
  unfold tells
  rw [← List.filter_append, List.take_append_drop]

set_option maxRecDepth 100000 in
set_option maxHeartbeats 2000000 in
theorem telling1_in (n : Nat) (hn : 1 ≤ n) (l Bs n₀ : Nat) (A : Option Addr) (len c : Nat) (zs : List Run) (hl : zs.length = len) (h63 : len ≤ 9223372036854775807) (J Jx : List Run → World → Prop) (W : World)
    (hJ : AbidesFrom W.heap.size J) (hn₀ : n₀ ≤ W.heap.size)
    (hY : ∀ pre x W1, J pre W1 → pre.length < (tells zs).length → YieldAt Fence.wide (n - 1) Try.prog l (encR x) W1 fun e W' =>
      (e = .returned (.bool true) ∧ J (pre ++ [x]) W' ∧ Below n₀ W1 W') ∨ (e = .returned (.bool false) ∧ Jx (pre ++ [x]) W'))
    (hBs : W.cell? ⟨Bs, 0, none⟩ = some (.slice A len c)) (hc : Runs W n₀ A zs) (h0 : J [] W) :
    CallsIn Fence.wide n Try.prog 57 #[.func (.yield l) #[] #[], .pointer (some ⟨Bs, 0, none⟩)] W fun e W' => (∃ v, e = .returned v) ∧
      ((∃ ys, ys = tells zs ∧ J ys W') ∨ (∃ pre, pre <+: tells zs ∧ Jx pre W')) := by
  have HC := Lib.hid hc
  have HL := Lib.hid hl
  clear hc hl
  refine callsIn_of_wp Try.func57 rfl trivial ?_ rfl
  simp only [Try.ntmps57, List.size_toArray, List.length_cons, List.length_nil, Nat.reduceAdd, Nat.reduceSub, Array.replicate_succ, Array.replicate_zero, List.push_toArray, List.append_toArray, List.nil_append, List.cons_append]
  gi_wp2
  gi_loopw [7] (fun i wr => ∃ k : Nat, k ≤ len ∧ i = .int .i64 (k : Int) ∧ J (tells (zs.take k)) wr ∧ Below n₀ W wr)
    (fun i _ => len - (intOf i).toNat)
  case atStart => exact ⟨0, Nat.zero_le _, rfl, h0, Below.refl _ _⟩
  case round =>
    obtain ⟨k, hk, rfl, hJs, hnx⟩ := hrel
    have HX := Lib.hid hnx
    clear hnx
    by_cases hlt : k < len
    · obtain ⟨ad, lo, hi, rfl, hlk, hlo, hhi, hc1, hc2⟩ := (HC.out.below HX.out).at_ (k := k) (by rw [HL.out]; exact hlt)
      have LK := Lib.hid hlk
      have hc3 : wr.cell? ⟨(ad.add (k * 2)).block, (ad.add (k * 2)).off + 1, none⟩ = some (.int .u64 (hi : Int)) := by rw [add_next]; exact hc2
      clear hlk hc2
      have L0 : Hid (Below wr.heap.size wr (wr.alloc (.cells #[.int .u64 (lo : Int), .int .u64 (hi : Int)] 35))) := below_new _ _
      have C0 : Hid ((wr.alloc (.cells #[.int .u64 (lo : Int), .int .u64 (hi : Int)] 35)).cell? ⟨wr.heap.size, 0, none⟩ = some (.int .u64 (lo : Int)) ∧ (wr.alloc (.cells #[.int .u64 (lo : Int), .int .u64 (hi : Int)] 35)).cell? ⟨wr.heap.size, 1, none⟩ = some (.int .u64 (hi : Int))) := ⟨World.cell?_alloc_new _ _ _ _, World.cell?_alloc_new _ _ _ _⟩
      have S0 : Hid (wr.heap.size < (wr.alloc (.cells #[.int .u64 (lo : Int), .int .u64 (hi : Int)] 35)).heap.size) := by show _ < _; simp
      gi_wp2_with fail
      refine ⟨trivial, callsIn_wide.2 ((tells_any _ lo hi).mono ?_)⟩
      rintro e w4 ⟨rfl, hb4⟩
      have q1 := (hb4.cell (p := ⟨wr.heap.size, 0, none⟩) S0.out).trans C0.out.1
      have q2 := (hb4.cell (p := ⟨wr.heap.size, 1, none⟩) S0.out).trans C0.out.2
      have L4 : Hid (Below wr.heap.size wr w4) := L0.out.trans (hb4.mono L0.out.size)
      have X4 : Hid (Below n₀ W w4) := HX.out.trans (L4.out.mono (Nat.le_trans hn₀ HX.out.size))
      have hJ4 : J (tells (zs.take k)) w4 := hJ _ _ _ none hJs (turn_below L4.out none) (fun r e => by cases e)
      have T1 := Lib.hid (tells_take LK.out)
      clear hb4 hc1 hc3 C0 S0 hJs
      by_cases cm : mayR (lo, hi) = true
      · have T2 : Hid (tells (zs.take (k + 1)) = tells (zs.take k) ++ [(lo, hi)]) := by show _ = _; rw [T1.out, if_pos cm]
        obtain ⟨fn, tmps, assign, body, hy, hR⟩ := hY _ (lo, hi) w4 hJ4 (by
          have := (tells_part zs (k + 1)).length_le
          rw [T2.out, List.length_append, List.length_singleton] at this
          omega)
        dsimp only [encR] at hy
        rw [cm]
        gi_wp2
        refine hR.mono ?_
        rintro e W3 (⟨rfl, hJ3, hk3⟩ | ⟨rfl, hJx3⟩)
        · have X3 : Hid (Below n₀ W W3) := X4.out.trans hk3
          rw [← T2.out] at hJ3
          gi_wp2
          go_roundw
          case rel => exact ⟨k + 1, by omega, by go_num, hJ3, X3.out⟩
          case measure => simp [intOf]; omega
        · rw [← T2.out] at hJx3
          gi_wp2
          refine bodyPost_ret (results_none rfl _ _ _) rfl ?_
          exact ⟨⟨_, rfl⟩, .inr ⟨_, tells_part zs _, hJx3⟩⟩
      · have cm' : mayR (lo, hi) = false := by simpa using cm
        rw [if_neg cm, List.append_nil] at T1
        rw [← T1.out] at hJ4
        rw [cm']
        gi_wp2
        refine ⟨fun _ h => (by cases h), ?_⟩
        gi_wp2
        go_roundw
        case rel => exact ⟨k + 1, by omega, by go_num, hJ4, X4.out⟩
        case measure => simp [intOf]; omega
    · obtain rfl : k = len := by omega
      gi_wp2
      go_end0
      exact ⟨⟨_, rfl⟩, .inl ⟨_, by rw [List.take_of_length_le (by rw [HL.out]; exact Nat.le_refl _)], hJs⟩⟩

/-- what 'telling' answers goes over just the runs that tell something, in their order. -/
theorem telling_stops (n : Nat) (hn : 1 ≤ n) (Bs n₀ : Nat) (A : Option Addr) (len c : Nat) (zs : List Run) (hl : zs.length = len) (h63 : len ≤ 9223372036854775807) (w : World) (hB : Bs < w.heap.size) (hn₀ : n₀ ≤ w.heap.size)
    (hc : w.cell? ⟨Bs, 0, none⟩ = some (.slice A len c)) (hr : Runs w n₀ A zs) :
    SeqStopsK Fence.wide n Try.prog 57 #[.pointer (some ⟨Bs, 0, none⟩)] encR (Below n₀) (fun ys => ys = tells zs) (fun pre => pre <+: tells zs) (tells zs).length w := fun l J Jx W hW hJ hJx hY h0 =>
  telling1_in n hn l Bs n₀ A len c zs hl h63 J Jx W hJ (Nat.le_trans hn₀ hW.size) hY ((hW.cell (p := ⟨Bs, 0, none⟩) hB).trans hc) (hr.below (hW.mono hn₀)) h0
end Go.Proofs.Ytmhghgogehmehaa.Ru

/- The contracts of the program's 'Has' and 'Last', which go over the runs that tell something. For every list of runs. -/
namespace Go.Proofs.Ytmhghgogehmehaa.Ru
open Go.ChangeShapes Go.WideShapes Go.ChangeAt Go.RowKit Go.Shelf
set_option linter.unusedVariables false

attribute [local go_sem] Oper.semAt_some

theorem keepsFrom_below {W W' : World} (B : Nat) (h : Below W.heap.size W W') : KeepsFrom B W W' := ⟨h.size, fun k o _ hk _ => (h.block k (Array.getElem?_eq_some_iff.1 hk).1).trans hk⟩

/-- a block that is a run. -/
def Pair (W : World) (B : Nat) (r : Run) : Prop := W.heap[B]? = some (.cells #[.int .u64 (r.1 : Int), .int .u64 (r.2 : Int)] 35 (0, 0))
theorem Pair.lt {W : World} {B : Nat} {r : Run} (h : Pair W B r) : B < W.heap.size := (Array.getElem?_eq_some_iff.1 h).1
theorem Pair.new (W : World) (r : Run) : Pair (W.alloc (.cells #[.int .u64 (r.1 : Int), .int .u64 (r.2 : Int)] 35)) W.heap.size r := World.alloc_heap_new W _
theorem Pair.cell1 {W : World} {B : Nat} {r : Run} (h : Pair W B r) : W.cell? ⟨B, 0, none⟩ = some (.int .u64 (r.1 : Int)) := by simp [World.cell?, show W.heap[B]? = _ from h]
theorem Pair.cell2 {W : World} {B : Nat} {r : Run} (h : Pair W B r) : W.cell? ⟨B, 1, none⟩ = some (.int .u64 (r.2 : Int)) := by simp [World.cell?, show W.heap[B]? = _ from h]
theorem Pair.kept {W W' : World} {row : Option Nat} {B : Nat} {r : Run} (h : Pair W B r) (hg : W.grownBy W' row) (hne : some B ≠ row) : Pair W' B r := (hg.block B h.lt hne).trans h
theorem Pair.below {W W' : World} {B : Nat} {r : Run} (h : Pair W B r) (hb : Below W.heap.size W W') : Pair W' B r := (hb.block B h.lt).trans h
theorem Boxed.later {W W' : World} {B : Nat} {t : TypeId} {v : Value} (h : Boxed W B t v) (hb : Below W.heap.size W W') : Boxed W' B t v := (hb.block B h.lt).trans h
theorem pair_own (r : Run) (B B0 : Nat) : OwnFrom B0 (fun (_ : Unit) W => Pair W B r) := fun s X Y row hs hg hrow =>
  hs.kept hg (fun e' => by obtain ⟨_, o, ho, hc⟩ := hrow B e'.symm; rw [show X.heap[B]? = _ from hs] at ho; cases ho; cases hc)

/-- is a number within one of these runs, whether they tell something or not? -/
def inAny (l : List Run) (n : Nat) : Bool := l.any fun r => decide (r.1 ≤ n) && decide (n ≤ r.2)
theorem inAny_snoc (l : List Run) (r : Run) (n : Nat) : inAny (l ++ [r]) n = (inAny l n || (decide (r.1 ≤ n) && decide (n ≤ r.2))) := by unfold inAny; simp
theorem inAny_part {l m : List Run} (h : l <+: m) {n : Nat} (hl : inAny l n = true) : inAny m n = true := by
  obtain ⟨k, rfl⟩ := h
  unfold inAny at *
  rw [List.any_append, hl]; rfl
theorem inAny_tells (l : List Run) (n : Nat) : inAny (tells l) n = has l n := by
  rw [← has_tells l n]
  unfold inAny has
  rw [Bool.eq_iff_iff, List.any_eq_true, List.any_eq_true]
  constructor
  · rintro ⟨r, h1, h2⟩
    exact ⟨r, h1, by rw [(List.mem_filter.1 h1).2, h2]; rfl⟩
  · rintro ⟨r, h1, h2⟩
    refine ⟨r, h1, ?_⟩
    rw [Bool.and_eq_true] at h2
    exact h2.2

end Go.Proofs.Ytmhghgogehmehaa.Ru

/- The contract of the program's 'Good'. For every list of runs that any machine can hold. -/
namespace Go.Proofs.Ytmhghgogehmehaa.Ru
open Go.ChangeShapes Go.WideShapes Go.ChangeAt Go.RowKit Go.Shelf
set_option linter.unusedVariables false
set_option maxRecDepth 4000

theorem order_one {r : Run} (h : mayR r = true) : InOrder [r] := ⟨fun s hs => by obtain rfl := List.mem_singleton.1 hs; exact h, by simp⟩
theorem order_last {o : List Run} {s r : Run} (h : InOrder (o ++ [s])) (hr : mayR r = true) (hf : s.2 + 1 < r.1) : InOrder (o ++ [s] ++ [r]) := by
  refine order_snoc h hr fun t ht => ?_
  obtain ⟨h1, h2, h3⟩ := order_init h
  rcases List.mem_append.1 ht with ht | ht
  · have := h3 t ht
    have := (may_iff s).1 h2
    omega
  · obtain rfl := List.mem_singleton.1 ht
    exact hf
theorem order_take {l : List Run} (h : InOrder l) (k : Nat) : InOrder (l.take k) := ⟨fun r hr => h.1 r (List.mem_of_mem_take hr), List.Pairwise.sublist (List.take_sublist _ _) h.2⟩
theorem take_snoc {l : List Run} {k : Nat} {r : Run} (h : l[k]? = some r) : l.take (k + 1) = l.take k ++ [r] := by rw [List.take_add_one, h]; rfl
theorem tells_x (w : World) (lo hi : Nat) :
    Calls Try.prog 34 #[.agg #[.int .u64 (lo : Int), .int .u64 (hi : Int)]] w fun e w' => e = .returned (.bool (mayR (lo, hi))) ∧ w' = w.alloc (.cells #[.int .u64 (lo : Int), .int .u64 (hi : Int)] 35) := by
  by_cases c1 : lo = 0
  · subst c1
    have hd : mayR (0, hi) = false := decide_eq_false (fun h => by have := h.1; simp at this)
    rw [hd]
    clear hd
    go_enter Try.func34, Try.ntmps34
    go_wp2
    go_ret
    exact ⟨rfl, rfl⟩
  · have d1 : ((lo : Int) != 0) = true := by rw [bne_iff_ne]; omega
    by_cases c2 : lo ≤ hi
    · have d2 : decide ((lo : Int) ≤ (hi : Int)) = true := decide_eq_true (by omega)
      have hd : mayR (lo, hi) = decide ((hi : Int) ≤ 281474976710655) := decide_eq_decide.2 ⟨fun h => by have := h.2.2; simp at this; omega, fun h => ⟨by simp; omega, c2, by simp; omega⟩⟩
      rw [hd]
      clear hd
      go_enter Try.func34, Try.ntmps34
      go_wp2
      go_ret
      exact ⟨rfl, rfl⟩
    · have hd : mayR (lo, hi) = false := decide_eq_false (fun h => c2 h.2.1)
      have d2 : decide ((lo : Int) ≤ (hi : Int)) = false := decide_eq_false (by omega)
      rw [hd]
      clear hd
      go_enter Try.func34, Try.ntmps34
      go_wp2
      go_ret
      exact ⟨rfl, rfl⟩
theorem tells_g (W : World) (r : Run) (b : Bool) (hb : mayR r = b) :
    Calls Try.prog 34 #[.agg #[.int .u64 (r.1 : Int), .int .u64 (r.2 : Int)]] W fun e w' => e = .returned (.bool b) ∧ ∃ q os', w' = Sort.grow (W.drewN q) os' :=
  (tells_x W r.1 r.2).mono fun _ _ ⟨h1, h2⟩ => ⟨by rw [h1, ← hb], 0, #[.cells #[.int .u64 (r.1 : Int), .int .u64 (r.2 : Int)] 35], h2.trans (Sort.alloc_eq_grow _ _)⟩
theorem apart_g (W : World) (s r : Run) (b : Bool) (h : s.2 ≤ 281474976710656) (hb : decide (s.2 + 1 < r.1) = b) :
    Calls Try.prog 35 #[.agg #[.int .u64 (s.1 : Int), .int .u64 (s.2 : Int)], .agg #[.int .u64 (r.1 : Int), .int .u64 (r.2 : Int)]] W fun e w' => e = .returned (.bool b) ∧ ∃ q os', w' = Sort.grow (W.drewN q) os' := by
  have h1 : IntKind.u64.wrap ((s.2 : Int) + 1) = ((s.2 + 1 : Nat) : Int) := by simp [IntKind.wrap, IntKind.bits, IntKind.signed]; omega
  have hd : decide (((s.2 + 1 : Nat) : Int) < (r.1 : Int)) = b := by rw [← hb]; exact decide_eq_decide.2 (by omega)
  generalize ((s.2 + 1 : Nat) : Int) = z at h1 hd ⊢
  clear hb
  go_enter Try.func35, Try.ntmps35
  go_wp2
  go_ret
  exact ⟨rfl, 0, _, by rw [Sort.alloc_eq_grow, Sort.alloc_eq_grow, Sort.grow_grow]; rfl⟩
theorem tells_later (w W : World) (r : Run) (b : Bool) (hb : mayR r = b) (bel : Below w.heap.size w W) :
    Calls Try.prog 34 #[.agg #[.int .u64 (r.1 : Int), .int .u64 (r.2 : Int)]] W fun e w' => e = .returned (.bool b) ∧ Below w.heap.size w w' :=
  (tells_any W r.1 r.2).mono fun _ _ ⟨h1, h2⟩ => ⟨by rw [h1, ← hb], bel.trans (h2.mono bel.size)⟩
theorem below_grow (V : World) (n : Nat) (os : Array Obj) : Below V.heap.size V (Sort.grow (V.drewN n) os) :=
  ⟨rfl, rfl, rfl, by show V.heap.size ≤ (V.heap ++ os).size; simp, fun i hi => by show (V.heap ++ os)[i]? = V.heap[i]?; exact Array.getElem?_append_left hi⟩

set_option maxHeartbeats 1000000 in
theorem pgood_any (w : World) (A1 : Option Addr) (l : List Run) (n c1 : Nat) (hl : l.length = n) (hb : Runs w w.heap.size A1 l) (h63 : n ≤ 9223372036854775807) :
    Calls Try.prog 28 #[.slice A1 n c1] w fun e w' => e = .returned (.bool (decide (l = nrm l))) ∧ Below w.heap.size w w' := by
  have HL := Lib.hid hl
  have HB := Lib.hid hb
  have HT : Hid (InOrder l → decide (l = nrm l) = true) := fun h => decide_eq_true ((good_comes l).1 h)
  have HF : Hid (¬ InOrder l → decide (l = nrm l) = false) := fun h => decide_eq_false (fun e => h ((good_comes l).2 e))
  clear hl hb
  generalize decide (l = nrm l) = ans at HT HF ⊢
  go_enter Try.func28, Try.ntmps28
  go_wp2
  go_loopw [7] (fun i wr => ∃ k : Nat, k ≤ n ∧ i = .int .i64 (k : Int) ∧ InOrder (l.take k) ∧ Below w.heap.size w wr) (fun i _ => n - (intOf i).toNat)
  case atStart => exact ⟨0, Nat.zero_le _, rfl, order_nil, Below.refl _ _⟩
  case round =>
    obtain ⟨k, hk, rfl, hi, hbl⟩ := hrel
    have HI := Lib.hid hi
    have HW := Lib.hid hbl
    clear hi hbl
    by_cases hlt : k < n
    · obtain ⟨ad, lo, hi, rfl, hlk, hlo, hhi, q1, q2⟩ := (HB.out.below HW.out).at_ (k := k) (by rw [HL.out]; exact hlt)
      have q3 : wr.cell? ⟨(ad.add (k * 2)).block, (ad.add (k * 2)).off + 1, none⟩ = some (.int .u64 (hi : Int)) := by rw [add_next]; exact q2
      have LK := Lib.hid hlk
      have L0 : Hid (Below wr.heap.size wr (wr.alloc (.cells #[.int .u64 (lo : Int), .int .u64 (hi : Int)] 35))) := below_new _ _
      have P0 := Lib.hid (Pair.new wr (lo, hi))
      clear hlk q2
      have HCR : Hid (∀ V, Below (wr.alloc (.cells #[.int .u64 (lo : Int), .int .u64 (hi : Int)] 35)).heap.size (wr.alloc (.cells #[.int .u64 (lo : Int), .int .u64 (hi : Int)] 35)) V → V.cell? ⟨wr.heap.size, 0, none⟩ = some (.int .u64 (lo : Int)) ∧ V.cell? ⟨wr.heap.size, 1, none⟩ = some (.int .u64 (hi : Int))) := fun V hV => ⟨(P0.out.below hV).cell1, (P0.out.below hV).cell2⟩
      have HWV : Hid (∀ V, Below (wr.alloc (.cells #[.int .u64 (lo : Int), .int .u64 (hi : Int)] 35)).heap.size (wr.alloc (.cells #[.int .u64 (lo : Int), .int .u64 (hi : Int)] 35)) V → Below w.heap.size w V) := fun V hV => HW.out.trans ((L0.out.trans (hV.mono L0.out.size)).mono HW.out.size)
      have HNO : Hid (¬ InOrder (l.take (k + 1)) → ans = false) := fun h => HF.out (fun h2 => h (order_take h2 _))
      clear P0
      rcases k with _ | z
      · have q4 : wr.cell? ad = some (.int .u64 (lo : Int)) := by simpa [Addr.add] using q1
        have q5 : wr.cell? ⟨ad.block, ad.off + 1, none⟩ = some (.int .u64 (hi : Int)) := by simpa [Addr.add] using q3
        clear q1 q3
        obtain ⟨b, hb⟩ : ∃ b, mayR (lo, hi) = b := ⟨_, rfl⟩
        go_wp2_with fail
        clear q4 q5
        generalize wr.alloc (.cells #[.int .u64 (lo : Int), .int .u64 (hi : Int)] 35) = V0 at HCR HWV L0 ⊢
        have hmx : Try.prog.follows .mixedOrders = true := by kernel_rfl
        have g3 : ∀ n os, (Sort.grow (V0.drewN n) os).cell? ⟨wr.heap.size, 0, none⟩ = some (.int .u64 (lo : Int)) := fun n os => (HCR.out _ (below_grow V0 n os)).1
        have g4 : ∀ n os, (Sort.grow (V0.drewN n) os).cell? ⟨wr.heap.size, 1, none⟩ = some (.int .u64 (hi : Int)) := fun n os => (HCR.out _ (below_grow V0 n os)).2
        have ct := fun W => tells_g W (lo, hi) b hb
        clear HCR L0
        cases b with
        | true =>
          have HR : Hid (InOrder (l.take (0 + 1))) := by
            show InOrder _
            rw [take_snoc LK.out]
            exact order_one hb
          refine wp_region_quiet_grown hmx (by kernel_rfl) ?_
          repeat (
            (with_reducible refine wpQuiet_step (fun K hK => ?_))
            go_simp
            first
              | ((with_reducible refine hK _ ?_); clear hK K)
              | ((rw [if_neg (fun h => by cases h)]); (with_reducible refine hK _ ?_); clear hK K)
              | (apply Exists.intro; refine ⟨fun _ => ?_, hK _ ?_⟩; (go_at_call 34; refine Calls.grown_of (ct _)); clear hK K))
          with_reducible refine wpQuiet_nil ?_
          intro _ hw'
          obtain ⟨⟨nq, osq⟩, hw''⟩ := hw'
          subst hw''
          have HWV2 := Lib.hid (HWV.out _ (below_grow V0 nq osq))
          generalize Sort.grow (V0.drewN nq) osq = V at HWV2 ⊢
          go_wp2
          go_roundw
          case rel => exact ⟨1, by omega, by go_num, HR.out, HWV2.out⟩
          case measure => simp [intOf]; omega
        | false =>
          have HA : Hid (ans = false) := HNO.out (fun h => by
            have := h.1 (lo, hi) (by rw [take_snoc LK.out]; simp)
            rw [hb] at this; cases this)
          refine wp_region_quiet_grown hmx (by kernel_rfl) ?_
          repeat (
            (with_reducible refine wpQuiet_step (fun K hK => ?_))
            go_simp
            first
              | ((with_reducible refine hK _ ?_); clear hK K)
              | ((rw [if_neg (fun h => by cases h)]); (with_reducible refine hK _ ?_); clear hK K)
              | (apply Exists.intro; refine ⟨fun _ => ?_, hK _ ?_⟩; (go_at_call 34; refine Calls.grown_of (ct _)); clear hK K))
          with_reducible refine wpQuiet_nil ?_
          intro _ hw'
          obtain ⟨⟨nq, osq⟩, hw''⟩ := hw'
          subst hw''
          have HWV2 := Lib.hid (HWV.out _ (below_grow V0 nq osq))
          generalize Sort.grow (V0.drewN nq) osq = V at HWV2 ⊢
          go_wp2
          go_ret
          exact ⟨ret_bool HA.out.symm, HWV2.out⟩
      · obtain ⟨b, hb⟩ : ∃ b, mayR (lo, hi) = b := ⟨_, rfl⟩
        have hzn : z < n := by omega
        obtain ⟨ad2, slo, shi, e, hlz, hslo, hshi, s1, s2⟩ := (HB.out.below HW.out).at_ (k := z) (by rw [HL.out]; exact hzn)
        cases e
        have s3 : wr.cell? ⟨(ad.add (z * 2)).block, (ad.add (z * 2)).off + 1, none⟩ = some (.int .u64 (shi : Int)) := by rw [add_next]; exact s2
        have SK := Lib.hid hlz
        have hs2 : shi ≤ 281474976710656 := by
          have := (may_iff (slo, shi)).1 (HI.out.1 (slo, shi) (by rw [take_snoc hlz]; simp))
          have h2 : shi ≤ 281474976710655 := this.2.2
          omega
        have S1 : Hid ((wr.alloc (.cells #[.int .u64 (lo : Int), .int .u64 (hi : Int)] 35)).cell? (ad.add (z * 2)) = some (.int .u64 (slo : Int)) ∧ (wr.alloc (.cells #[.int .u64 (lo : Int), .int .u64 (hi : Int)] 35)).cell? ⟨(ad.add (z * 2)).block, (ad.add (z * 2)).off + 1, none⟩ = some (.int .u64 (shi : Int))) := ⟨(L0.out.cell (World.block_lt_of_cell? wr _ s1)).trans s1, (L0.out.cell (World.block_lt_of_cell? wr _ s3)).trans s3⟩
        have SB : Hid ((ad.add (z * 2)).block < (wr.alloc (.cells #[.int .u64 (lo : Int), .int .u64 (hi : Int)] 35)).heap.size) := Nat.lt_of_lt_of_le (World.block_lt_of_cell? wr _ s1) L0.out.size
        clear hlz s1 s2 s3
        go_wp2_with fail
        clear q1 q3
        generalize wr.alloc (.cells #[.int .u64 (lo : Int), .int .u64 (hi : Int)] 35) = V0 at HCR HWV L0 S1 SB ⊢
        have hmx : Try.prog.follows .mixedOrders = true := by kernel_rfl
        have g1 : ∀ n os, (Sort.grow (V0.drewN n) os).cell? (ad.add (z * 2)) = some (.int .u64 (slo : Int)) := fun n os => ((below_grow V0 n os).cell SB.out).trans S1.out.1
        have g2 : ∀ n os, (Sort.grow (V0.drewN n) os).cell? ⟨(ad.add (z * 2)).block, (ad.add (z * 2)).off + 1, none⟩ = some (.int .u64 (shi : Int)) := fun n os => ((below_grow V0 n os).cell (p := ⟨(ad.add (z * 2)).block, (ad.add (z * 2)).off + 1, none⟩) SB.out).trans S1.out.2
        have g3 : ∀ n os, (Sort.grow (V0.drewN n) os).cell? ⟨wr.heap.size, 0, none⟩ = some (.int .u64 (lo : Int)) := fun n os => (HCR.out _ (below_grow V0 n os)).1
        have g4 : ∀ n os, (Sort.grow (V0.drewN n) os).cell? ⟨wr.heap.size, 1, none⟩ = some (.int .u64 (hi : Int)) := fun n os => (HCR.out _ (below_grow V0 n os)).2
        have ct := fun W => tells_g W (lo, hi) b hb
        clear HCR L0 S1 SB
        have hp : (0 : Int) < ((z : Nat) : Int) + 1 := by omega
        have hp2 : decide ((0 : Int) < ((z : Nat) : Int) + 1) = true := decide_eq_true (by omega)
        have hw1 : IntKind.i64.wrap (((z : Nat) : Int) + 1 - 1) = (z : Int) := by simp [IntKind.wrap, IntKind.bits, IntKind.signed]; omega
        have hw2 : IntKind.i64.wrap ((z : Nat) : Int) = (z : Int) := by simp [IntKind.wrap, IntKind.bits, IntKind.signed]; omega
        have hz0 : (0 : Int) ≤ (z : Int) := by omega
        have hz1 : (z : Int) < (n : Int) := by omega
        cases b with
        | true =>
          obtain ⟨b2, hb2⟩ : ∃ b2, decide (shi + 1 < lo) = b2 := ⟨_, rfl⟩
          have ca := fun W => apart_g W (slo, shi) (lo, hi) b2 hs2 hb2
          cases b2 with
          | true =>
            have HR : Hid (InOrder (l.take (z + 1 + 1))) := by
              show InOrder _
              have h1 := HI.out
              rw [take_snoc LK.out]
              rw [take_snoc SK.out] at h1 ⊢
              exact order_last h1 hb (of_decide_eq_true hb2)
            refine wp_region_quiet_grown hmx (by kernel_rfl) ?_
            repeat (
              (with_reducible refine wpQuiet_step (fun K hK => ?_))
              go_simp
              first
                | ((with_reducible refine hK _ ?_); clear hK K)
                | ((rw [if_neg (fun h => by cases h)]); (with_reducible refine hK _ ?_); clear hK K)
                | (apply Exists.intro; refine ⟨fun _ => ?_, hK _ ?_⟩; (first | (go_at_call 34; refine Calls.grown_of (ct _)) | (go_at_call 35; refine Calls.grown_of (ca _))); clear hK K))
            with_reducible refine wpQuiet_nil ?_
            intro _ hw'
            obtain ⟨⟨nq, osq⟩, hw''⟩ := hw'
            subst hw''
            have HWV2 := Lib.hid (HWV.out _ (below_grow V0 nq osq))
            generalize Sort.grow (V0.drewN nq) osq = V at HWV2 ⊢
            go_wp2
            go_roundw
            case rel => exact ⟨z + 1 + 1, by omega, by go_num, HR.out, HWV2.out⟩
            case measure => simp [intOf]; omega
          | false =>
            have HA : Hid (ans = false) := HNO.out (fun h => by
              rw [take_snoc LK.out, take_snoc SK.out] at h
              have := (order_init h).2.2 (slo, shi) (by simp)
              exact of_decide_eq_false hb2 this)
            refine wp_region_quiet_grown hmx (by kernel_rfl) ?_
            repeat (
              (with_reducible refine wpQuiet_step (fun K hK => ?_))
              go_simp
              first
                | ((with_reducible refine hK _ ?_); clear hK K)
                | ((rw [if_neg (fun h => by cases h)]); (with_reducible refine hK _ ?_); clear hK K)
                | (apply Exists.intro; refine ⟨fun _ => ?_, hK _ ?_⟩; (first | (go_at_call 34; refine Calls.grown_of (ct _)) | (go_at_call 35; refine Calls.grown_of (ca _))); clear hK K))
            with_reducible refine wpQuiet_nil ?_
            intro _ hw'
            obtain ⟨⟨nq, osq⟩, hw''⟩ := hw'
            subst hw''
            have HWV2 := Lib.hid (HWV.out _ (below_grow V0 nq osq))
            generalize Sort.grow (V0.drewN nq) osq = V at HWV2 ⊢
            go_wp2
            go_ret
            exact ⟨ret_bool HA.out.symm, HWV2.out⟩
        | false =>
          have HA : Hid (ans = false) := HNO.out (fun h => by
            have := h.1 (lo, hi) (by rw [take_snoc LK.out]; simp)
            rw [hb] at this; cases this)
          refine wp_region_quiet_grown hmx (by kernel_rfl) ?_
          repeat (
            (with_reducible refine wpQuiet_step (fun K hK => ?_))
            go_simp
            first
              | ((with_reducible refine hK _ ?_); clear hK K)
              | ((rw [if_neg (fun h => by cases h)]); (with_reducible refine hK _ ?_); clear hK K)
              | (apply Exists.intro; refine ⟨fun _ => ?_, hK _ ?_⟩; (go_at_call 34; refine Calls.grown_of (ct _)); clear hK K))
          with_reducible refine wpQuiet_nil ?_
          intro _ hw'
          obtain ⟨⟨nq, osq⟩, hw''⟩ := hw'
          subst hw''
          have HWV2 := Lib.hid (HWV.out _ (below_grow V0 nq osq))
          generalize Sort.grow (V0.drewN nq) osq = V at HWV2 ⊢
          go_wp2
          go_ret
          exact ⟨ret_bool HA.out.symm, HWV2.out⟩
    · obtain rfl : k = n := by omega
      have e : Hid (ans = true) := HT.out (by have := HI.out; rwa [List.take_of_length_le (by rw [HL.out]; exact Nat.le_refl _)] at this)
      go_wp2
      go_ret
      exact ⟨ret_bool e.out.symm, HW.out⟩
end Go.Proofs.Ytmhghgogehmehaa.Ru

/- The contract of the program's Good of layer ctx. For every context. -/
namespace Go.Proofs.Ytmhghgogehmehaa.Cx
open Go.ChangeShapes Go.WideShapes Go.ChangeAt Go.RowKit Go.Maps
set_option linter.unusedVariables false
set_option maxRecDepth 4000

set_option maxHeartbeats 4000000 in
theorem pgood_any (w : World) (A1 : Option Addr) (a : List Part) (n1 c1 : Nat) (h1 : CtxAt w A1 a n1 c1) :
    Calls Try.prog 17 #[.slice A1 n1 c1] w fun e w' => e = .returned (.bool (goodC a)) ∧ Below w.heap.size w w' := by
  have H1 := Lib.hid h1
  have h63 : n1 ≤ 9223372036854775807 := Nat.le_trans h1.cap h1.max
  have HT : Hid ((∀ k, k < n1 → okP a k) → goodC a = true) := Lib.hid (fun h => good_yes h1.fit (by rw [h1.len]; exact h))
  have HF : Hid (∀ k, k < n1 → ¬ okP a k → goodC a = false) := Lib.hid (fun k hk h => good_no h1.fit (by rw [h1.len]; exact hk) h)
  clear h1
  generalize goodC a = ans at HT HF ⊢
  go_enter Try.func17, Try.ntmps17
  go_wp2
  go_loopw [7] (fun i wr => ∃ k : Nat, k ≤ n1 ∧ i = .int .i64 (k : Int) ∧ (∀ j, j < k → okP a j) ∧ Below w.heap.size w wr) (fun i _ => n1 - (intOf i).toNat)
  case atStart => exact ⟨0, Nat.zero_le _, rfl, (fun j hj => absurd hj (Nat.not_lt_zero _)), Below.refl _ _⟩
  case round =>
    obtain ⟨k, hk, rfl, hi, hbl⟩ := hrel
    have HI := Lib.hid hi
    have HW := Lib.hid hbl
    clear hi hbl
    by_cases hlt : k < n1
    · obtain ⟨ad, p, x, rfl, hB, hx, hp, hcell⟩ := H1.out.cells hlt
      obtain ⟨x1, xl⟩ := x
      have LK := Lib.hid hx
      have HX := Lib.hid (hp.up HW.out)
      have hxf := hp.fit
      obtain ⟨d1, d2⟩ := hcell wr HW.out
      dsimp only at d1 d2 hxf
      clear hx hp hcell
      have L0 : Hid (Below wr.heap.size wr (wr.alloc (.cells #[.int .u16 (x1 : Int), .slice p.adr p.len p.cap] 38))) := Lib.hid (Dt.below_new _ _)
      have HX0 := Lib.hid (HX.out.up L0.out)
      have HCR := Lib.hid (pbox_at wr x1 p.adr p.len p.cap)
      have HWV : Hid (∀ V, Below (wr.alloc (.cells #[.int .u16 (x1 : Int), .slice p.adr p.len p.cap] 38)).heap.size (wr.alloc (.cells #[.int .u16 (x1 : Int), .slice p.adr p.len p.cap] 38)) V → Below w.heap.size w V) := Lib.hid (fun V hV => HW.out.trans ((L0.out.trans (hV.mono L0.out.size)).mono HW.out.size))
      have HNO : Hid (¬ okP a k → ans = false) := Lib.hid (HF.out k hlt)
      clear HX
      by_cases h0 : x1 = 0
      · have HA : Hid (ans = false) := Lib.hid (HNO.out (fun h => by have := (h _ LK.out).1; dsimp only at this; omega))
        have dz : ((x1 : Int) == 0) = true := by rw [beq_iff_eq]; omega
        have h0' := Lib.hid h0
        clear h0
        go_wp2_with fail
        generalize wr.alloc (.cells #[.int .u16 (x1 : Int), .slice p.adr p.len p.cap] 38) = V0 at HCR HWV HX0 L0 ⊢
        have hmx : Try.prog.follows .mixedOrders = true := by kernel_rfl
        have g3 : ∀ n os, (Sort.grow (V0.drewN n) os).cell? ⟨wr.heap.size, 0, none⟩ = some (.int .u16 (x1 : Int)) := fun n os => (HCR.out _ (below_grow V0 n os)).1
        have g4 : ∀ n os, (Sort.grow (V0.drewN n) os).cell? ⟨wr.heap.size, 1, none⟩ = some (.slice p.adr p.len p.cap) := fun n os => (HCR.out _ (below_grow V0 n os)).2
        have g1 : True := trivial
        refine wp_region_quiet_grown hmx (by kernel_rfl) ?_
        repeat (
          (with_reducible refine wpQuiet_step (fun K hK => ?_))
          go_simp
          first
            | ((with_reducible refine hK _ ?_); clear hK K)
            | ((rw [if_neg (fun h => by cases h)]); (with_reducible refine hK _ ?_); clear hK K))
        with_reducible refine wpQuiet_nil ?_
        intro _ hw'
        obtain ⟨⟨nq, osq⟩, hw''⟩ := hw'
        subst hw''
        have bV := below_grow V0 nq osq
        have HWV2 := Lib.hid (HWV.out _ bV)
        obtain ⟨e3, e4⟩ := HCR.out _ bV
        have HXV := Lib.hid (HX0.out.up bV)
        clear bV g1 g3 g4
        generalize Sort.grow (V0.drewN nq) osq = V at HWV2 HXV e3 e4 ⊢
        go_wp2
        go_ret
        exact ⟨Ru.ret_bool HA.out.symm, HWV2.out⟩
      · have dz : ((x1 : Int) == 0) = false := by rw [beq_eq_false_iff_ne]; omega
        rcases k with _ | z
        · have q4 : wr.cell? ad = some (.int .u16 (x1 : Int)) := by simpa [Addr.add] using d1
          have q5 : wr.cell? ⟨ad.block, ad.off + 1, none⟩ = some (.slice p.adr p.len p.cap) := by simpa [Addr.add] using d2
          clear d1 d2
          go_wp2_with fail
          clear q4 q5
          generalize wr.alloc (.cells #[.int .u16 (x1 : Int), .slice p.adr p.len p.cap] 38) = V0 at HCR HWV HX0 L0 ⊢
          have hmx : Try.prog.follows .mixedOrders = true := by kernel_rfl
          have g3 : ∀ n os, (Sort.grow (V0.drewN n) os).cell? ⟨wr.heap.size, 0, none⟩ = some (.int .u16 (x1 : Int)) := fun n os => (HCR.out _ (below_grow V0 n os)).1
          have g4 : ∀ n os, (Sort.grow (V0.drewN n) os).cell? ⟨wr.heap.size, 1, none⟩ = some (.slice p.adr p.len p.cap) := fun n os => (HCR.out _ (below_grow V0 n os)).2
          have g1 : True := trivial
          refine wp_region_quiet_grown hmx (by kernel_rfl) ?_
          repeat (
            (with_reducible refine wpQuiet_step (fun K hK => ?_))
            go_simp
            first
              | ((with_reducible refine hK _ ?_); clear hK K)
              | ((rw [if_neg (fun h => by cases h)]); (with_reducible refine hK _ ?_); clear hK K))
          with_reducible refine wpQuiet_nil ?_
          intro _ hw'
          obtain ⟨⟨nq, osq⟩, hw''⟩ := hw'
          subst hw''
          have bV := below_grow V0 nq osq
          have HWV2 := Lib.hid (HWV.out _ bV)
          obtain ⟨e3, e4⟩ := HCR.out _ bV
          have HXV := Lib.hid (HX0.out.up bV)
          clear bV g1 g3 g4
          generalize Sort.grow (V0.drewN nq) osq = V at HWV2 HXV e3 e4 ⊢
          by_cases hl0 : p.len = 0
          · have HA : Hid (ans = false) := Lib.hid (HNO.out (fun h => (h _ LK.out).2.1 (List.eq_nil_of_length_eq_zero (by rw [HXV.out.len]; exact hl0))))
            have dl : ((p.len : Int) == 0) = true := by rw [beq_iff_eq]; omega
            have hl0' := Lib.hid hl0
            clear hl0
            go_wp2
            go_ret
            exact ⟨Ru.ret_bool HA.out.symm, HWV2.out⟩
          · have dl : ((p.len : Int) == 0) = false := by rw [beq_eq_false_iff_ne]; omega
            have hne : xl ≠ [] := fun e => hl0 (by rw [← HXV.out.len, e]; rfl)
            have CG := Ru.pgood_any V p.adr xl p.len p.cap HXV.out.len HXV.out.runs (Nat.le_trans HXV.out.cap HXV.out.max)
            by_cases hg : xl = Ru.nrm xl
            · rw [decide_eq_true hg] at CG
              have HR : Hid (∀ j, j < 0 + 1 → okP a j) := Lib.hid (fun j hj => by
                rcases Nat.lt_or_ge j (0) with h | h
                · exact HI.out j h
                · obtain rfl : j = 0 := by omega
                  intro y hy
                  rw [LK.out] at hy
                  cases hy
                  exact ⟨by omega, hne, hg, fun y h => absurd h (Nat.lt_irrefl _)⟩)
              clear hg hne
              go_wp2_with fail
              refine CG.mono ?_
              rintro e V2 ⟨rfl, hb⟩
              have HV2 := Lib.hid (HWV2.out.trans (hb.mono HWV2.out.size))
              clear hb CG e3 e4
              go_wp2
              go_roundw
              case rel => exact ⟨0 + 1, by omega, by go_num, HR.out, HV2.out⟩
              case measure => simp [intOf]; omega
            · rw [decide_eq_false hg] at CG
              have HA : Hid (ans = false) := Lib.hid (HNO.out (fun h => hg (h _ LK.out).2.2.1))
              clear hg hne
              go_wp2_with fail
              refine CG.mono ?_
              rintro e V2 ⟨rfl, hb⟩
              have HV2 := Lib.hid (HWV2.out.trans (hb.mono HWV2.out.size))
              clear hb CG e3 e4
              go_wp2
              go_ret
              exact ⟨Ru.ret_bool HA.out.symm, HV2.out⟩
        · have hzn : z < n1 := by omega
          obtain ⟨ad2, p2, y, e, hB2, hy, hp2, hcell2⟩ := H1.out.cells hzn
          cases e
          obtain ⟨y1, yl⟩ := y
          have SK := Lib.hid hy
          have hyf := hp2.fit
          obtain ⟨s1, s2⟩ := hcell2 wr HW.out
          dsimp only at s1 hyf
          have S1 : Hid ((wr.alloc (.cells #[.int .u16 (x1 : Int), .slice p.adr p.len p.cap] 38)).cell? (ad.add (z * 2)) = some (.int .u16 (y1 : Int))) := Lib.hid ((L0.out.cell (World.block_lt_of_cell? wr _ s1)).trans s1)
          have SB : Hid ((ad.add (z * 2)).block < (wr.alloc (.cells #[.int .u16 (x1 : Int), .slice p.adr p.len p.cap] 38)).heap.size) := Lib.hid (Nat.lt_of_lt_of_le (World.block_lt_of_cell? wr _ s1) L0.out.size)
          clear hy hp2 hcell2 s1 s2
          go_wp2_with fail
          clear d1 d2
          generalize wr.alloc (.cells #[.int .u16 (x1 : Int), .slice p.adr p.len p.cap] 38) = V0 at HCR HWV HX0 L0 S1 SB ⊢
          have hmx : Try.prog.follows .mixedOrders = true := by kernel_rfl
          have g1 : ∀ n os, (Sort.grow (V0.drewN n) os).cell? (ad.add (z * 2)) = some (.int .u16 (y1 : Int)) := fun n os => ((below_grow V0 n os).cell SB.out).trans S1.out
          have g3 : ∀ n os, (Sort.grow (V0.drewN n) os).cell? ⟨wr.heap.size, 0, none⟩ = some (.int .u16 (x1 : Int)) := fun n os => (HCR.out _ (below_grow V0 n os)).1
          have g4 : ∀ n os, (Sort.grow (V0.drewN n) os).cell? ⟨wr.heap.size, 1, none⟩ = some (.slice p.adr p.len p.cap) := fun n os => (HCR.out _ (below_grow V0 n os)).2
          clear S1 SB
          have hp : (0 : Int) < ((z : Nat) : Int) + 1 := by omega
          have hp2 : decide ((0 : Int) < ((z : Nat) : Int) + 1) = true := decide_eq_true (by omega)
          have hw1 : IntKind.i64.wrap (((z : Nat) : Int) + 1 - 1) = (z : Int) := by simp [IntKind.wrap, IntKind.bits, IntKind.signed]; omega
          have hw2 : IntKind.i64.wrap ((z : Nat) : Int) = (z : Int) := by simp [IntKind.wrap, IntKind.bits, IntKind.signed]; omega
          have hz0 : (0 : Int) ≤ (z : Int) := by omega
          have hz1 : (z : Int) < (n1 : Int) := by omega
          by_cases hsl : y1 < x1
          · have hge : decide ((x1 : Int) ≤ (y1 : Int)) = false := decide_eq_false (by omega)
            have hge2 : ¬ (x1 : Int) ≤ (y1 : Int) := by omega
            have hge3 : ¬ x1 ≤ y1 := by omega
            refine wp_region_quiet_grown hmx (by kernel_rfl) ?_
            repeat (
              (with_reducible refine wpQuiet_step (fun K hK => ?_))
              go_simp
              first
                | ((with_reducible refine hK _ ?_); clear hK K)
                | ((rw [if_neg (fun h => by cases h)]); (with_reducible refine hK _ ?_); clear hK K))
            with_reducible refine wpQuiet_nil ?_
            intro _ hw'
            obtain ⟨⟨nq, osq⟩, hw''⟩ := hw'
            subst hw''
            have bV := below_grow V0 nq osq
            have HWV2 := Lib.hid (HWV.out _ bV)
            obtain ⟨e3, e4⟩ := HCR.out _ bV
            have HXV := Lib.hid (HX0.out.up bV)
            clear bV g1 g3 g4
            generalize Sort.grow (V0.drewN nq) osq = V at HWV2 HXV e3 e4 ⊢
            by_cases hl0 : p.len = 0
            · have HA : Hid (ans = false) := Lib.hid (HNO.out (fun h => (h _ LK.out).2.1 (List.eq_nil_of_length_eq_zero (by rw [HXV.out.len]; exact hl0))))
              have dl : ((p.len : Int) == 0) = true := by rw [beq_iff_eq]; omega
              have hl0' := Lib.hid hl0
              clear hl0
              go_wp2
              go_ret
              exact ⟨Ru.ret_bool HA.out.symm, HWV2.out⟩
            · have dl : ((p.len : Int) == 0) = false := by rw [beq_eq_false_iff_ne]; omega
              have hne : xl ≠ [] := fun e => hl0 (by rw [← HXV.out.len, e]; rfl)
              have CG := Ru.pgood_any V p.adr xl p.len p.cap HXV.out.len HXV.out.runs (Nat.le_trans HXV.out.cap HXV.out.max)
              by_cases hg : xl = Ru.nrm xl
              · rw [decide_eq_true hg] at CG
                have HR : Hid (∀ j, j < z + 1 + 1 → okP a j) := Lib.hid (fun j hj => by
                  rcases Nat.lt_or_ge j (z + 1) with h | h
                  · exact HI.out j h
                  · obtain rfl : j = z + 1 := by omega
                    intro y hy
                    rw [LK.out] at hy
                    cases hy
                    exact ⟨by omega, hne, hg, fun y _ hy2 => by rw [Nat.add_sub_cancel] at hy2; rw [SK.out] at hy2; cases hy2; exact hsl⟩)
                clear hg hne
                go_wp2_with fail
                refine CG.mono ?_
                rintro e V2 ⟨rfl, hb⟩
                have HV2 := Lib.hid (HWV2.out.trans (hb.mono HWV2.out.size))
                clear hb CG e3 e4
                go_wp2
                go_roundw
                case rel => exact ⟨z + 1 + 1, by omega, by go_num, HR.out, HV2.out⟩
                case measure => simp [intOf]; omega
              · rw [decide_eq_false hg] at CG
                have HA : Hid (ans = false) := Lib.hid (HNO.out (fun h => hg (h _ LK.out).2.2.1))
                clear hg hne
                go_wp2_with fail
                refine CG.mono ?_
                rintro e V2 ⟨rfl, hb⟩
                have HV2 := Lib.hid (HWV2.out.trans (hb.mono HWV2.out.size))
                clear hb CG e3 e4
                go_wp2
                go_ret
                exact ⟨Ru.ret_bool HA.out.symm, HV2.out⟩
          · have hge : decide ((x1 : Int) ≤ (y1 : Int)) = true := decide_eq_true (by omega)
            have hge2 : (x1 : Int) ≤ (y1 : Int) := by omega
            have hge3 : x1 ≤ y1 := by omega
            have HA : Hid (ans = false) := Lib.hid (HNO.out (fun h => hsl ((h _ LK.out).2.2.2 _ (Nat.succ_pos _) (by rw [Nat.add_sub_cancel]; exact SK.out))))
            refine wp_region_quiet_grown hmx (by kernel_rfl) ?_
            repeat (
              (with_reducible refine wpQuiet_step (fun K hK => ?_))
              go_simp
              first
                | ((with_reducible refine hK _ ?_); clear hK K)
                | ((rw [if_neg (fun h => by cases h)]); (with_reducible refine hK _ ?_); clear hK K))
            with_reducible refine wpQuiet_nil ?_
            intro _ hw'
            obtain ⟨⟨nq, osq⟩, hw''⟩ := hw'
            subst hw''
            have bV := below_grow V0 nq osq
            have HWV2 := Lib.hid (HWV.out _ bV)
            obtain ⟨e3, e4⟩ := HCR.out _ bV
            have HXV := Lib.hid (HX0.out.up bV)
            clear bV g1 g3 g4
            generalize Sort.grow (V0.drewN nq) osq = V at HWV2 HXV e3 e4 ⊢
            go_wp2
            go_ret
            exact ⟨Ru.ret_bool HA.out.symm, HWV2.out⟩
    · obtain rfl : k = n1 := by omega
      have HA : Hid (ans = true) := Lib.hid (HT.out HI.out)
      go_wp2
      go_ret
      exact ⟨Ru.ret_bool HA.out.symm, HW.out⟩
end Go.Proofs.Ytmhghgogehmehaa.Cx
