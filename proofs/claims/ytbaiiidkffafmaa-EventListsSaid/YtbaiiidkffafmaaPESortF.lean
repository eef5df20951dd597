/- The contracts of slices.Clone, SortStableFunc and CompactFunc as the program's Sort of layer event calls them. For every list of at most 3 * 2^39 events. -/
import Derived.Test.YtbaiiidkffafmaaPEFirst
import Derived.Test.YtbaiiidkffafmaaEApp
import Derived.Shelf.SlSortCmp.WholeK
namespace Go.Proofs
open Go.Shelf
def Try.insE_ren : Go.Shelf.Ren := ⟨fun | 20 => 60 | n => n, fun | 22 => 30 | 24 => 28 | 25 => 51 | 3 => 3 | 0 => 0 | 4 => 4 | n => n, fun | n => n⟩
theorem Try.insE : Go.Proofs.SlLaysF0.n20 Try.prog Try.insE_ren := {
  mixed := by kernel_rfl
  f20 := ⟨Try.f60.name, by decide, Try.func60.trans (congrArg some (by kernel_rfl))⟩
  t0 := Try.underlying0
  a0 := Try.isAgg0
  z0 := Try.sizeOf0
  v0 := Try.zeroValue0
  t3 := Try.underlying3
  a3 := Try.isAgg3
  z3 := Try.sizeOf3
  v3 := Try.zeroValue3
  t4 := Try.underlying4
  a4 := Try.isAgg4
  z4 := Try.sizeOf4
  v4 := Try.zeroValue4
  t22 := Try.underlying30
  a22 := Try.isAgg30
  z22 := Try.sizeOf30
  v22 := Try.zeroValue30
  t25 := Try.underlying51
  a25 := Try.isAgg51
  z25 := Try.sizeOf51
  v25 := Try.zeroValue51 }
end Go.Proofs
namespace Go.Proofs.Ytbaiiidkffafmaa.St
open Go.ChangeShapes Go.WideShapes Go.ChangeAt Go.RowKit Go.Shelf Go.Lib Go.Sort
set_option linter.unusedVariables false
theorem laysE : Lays Try.prog 7 := {
  mixed := by kernel_rfl
  fSwap := Try.func75
  fRot := Try.func64
  fMerge := Try.func61
  fStab := Try.func53
  fSort := Try.func37
  t0 := Try.underlying0
  a0 := Try.isAgg0
  z0 := Try.sizeOf0
  v0 := Try.zeroValue0
  t3 := Try.underlying3
  a3 := Try.isAgg3
  z3 := Try.sizeOf3
  v3 := Try.zeroValue3
  t4 := Try.underlying4
  a4 := Try.isAgg4
  z4 := Try.sizeOf4
  v4 := Try.zeroValue4
  t62 := Try.underlying62
  a62 := Try.isAgg62
  z62 := Try.sizeOf62
  v62 := Try.zeroValue62
  t30 := Try.underlying30
  a30 := Try.isAgg30
  z30 := Try.sizeOf30
  v30 := Try.zeroValue30
  t51 := Try.underlying51
  a51 := Try.isAgg51
  z51 := Try.sizeOf51
  v51 := Try.zeroValue51
  aE := Try.isAgg28
  zE := Try.sizeOf28 }
theorem laysC : LaysC Try.prog 7 := {
  mixed := by kernel_rfl
  fComp := Try.func39
  t0 := Try.underlying0
  a0 := Try.isAgg0
  z0 := Try.sizeOf0
  v0 := Try.zeroValue0
  t3 := Try.underlying3
  a3 := Try.isAgg3
  z3 := Try.sizeOf3
  v3 := Try.zeroValue3
  t4 := Try.underlying4
  a4 := Try.isAgg4
  z4 := Try.sizeOf4
  v4 := Try.zeroValue4
  t30 := Try.underlying30
  a30 := Try.isAgg30
  z30 := Try.sizeOf30
  v30 := Try.zeroValue30
  t33 := Try.underlying33
  a33 := Try.isAgg33
  z33 := Try.sizeOf33
  v33 := Try.zeroValue33
  aE := Try.isAgg28
  zE := Try.sizeOf28 }
/-- the insertion sort of a part. -/
theorem ins_any {α : Type} [Inhabited α] {enc : α → List Value} {w0 : World} {blk off : Nat} {d0 : Array α} (R : RowK enc 7 w0 blk off d0) (h62 : d0.size < 4611686018427387904) {cf : α → α → Int} (hS : SWO (ltOf cf)) (g : Nat) (cb : Array Value) (eg : ∀ args w, (callFunc g args).run Try.prog w = .ok (.enter g args) w) (hC : CmpLays Try.prog g cb enc 7 cf blk off d0.size w0) (cap : Nat)
    (a b : Nat) (dk : Array α) (W : World) (hs : dk.size = d0.size) (hab : a ≤ b) (hb : b ≤ d0.size) (hw : SWK enc 7 w0 blk off dk W) :
    Calls Try.prog 60 #[.slice (some ⟨blk, off, none⟩) d0.size cap, .int .i64 a, .int .i64 b, .func (.func g) #[] cb] W (MergedTo cf enc 7 w0 blk off dk a b) := by
  have h := AnyQ.insertionSortCmpFunc_w Try.insE 7 Try.isAgg28 Try.sizeOf28 enc cf g cb blk off cap a b d0 dk w0 W eg hC R hs.symm hw hS hab (by omega) (by omega)
  rw [hs] at h
  refine h.mono ?_
  rintro e w' ⟨rfl, h1⟩
  obtain ⟨h2, h3⟩ := ins_merged hS dk hab (by omega)
  exact ⟨rfl, _, h3, h1, h2⟩
end Go.Proofs.Ytbaiiidkffafmaa.St
namespace Go.Proofs.Ytbaiiidkffafmaa.Ev
open Go.ChangeShapes Go.WideShapes Go.ChangeAt Go.RowKit
set_option linter.unusedVariables false
set_option maxRecDepth 4000
theorem pcloneE (w : World) (A : Option Addr) (l : List EV) (n c : Nat) (hl : l.length = n) (hA : A = none → n = 0 ∧ c = 0) (hb : Dt.Lies w w.heap.size A (ev l)) (h41 : n ≤ 1649267441664) :
    Calls Try.prog 36 #[.slice A n c] w fun e w' => ∃ A' c', e = .returned (.slice A' n c') ∧ w'.ownsRow w.heap.size 28 7 (.slice A' n c') n (ev l) ∧ Below w.heap.size w w' := by
  have HL := Lib.hid hl
  have HB := Lib.hid hb
  cases A with
  | none =>
    obtain ⟨rfl, rfl⟩ := hA rfl
    obtain rfl := List.eq_nil_of_length_eq_zero hl
    have q : ∀ W : World, (binOp .eql 30 (.slice none 0 0) (.slice none 0 0)).run Try.prog W = .ok (.bool true) W := fun W => Lib.run_eql_slice_nil W 30 28 none 0 0 0 0 Try.underlying30
    clear hA hl hb
    go_enter Try.func36, Try.ntmps36
    go_wp2
    go_ret
    exact ⟨none, 0, rfl, World.ownsRow_nil _ _ _ _, Below.refl _ _⟩
  | some ad =>
    have q : ∀ W : World, (binOp .eql 30 (.slice (some ad) n c) (.slice none 0 0)).run Try.prog W = .ok (.bool false) W := fun W => Lib.run_eql_slice_nil W 30 28 (some ad) n c 0 0 Try.underlying30
    have HW := Lib.hid (below_new w (.cells #[] 28))
    have hO : (w.alloc (.cells #[] 28)).ownsRow w.heap.size 28 7 (.slice (some ⟨w.heap.size, 0, none⟩) 0 0) 0 (ev []) := World.ownsRow_lit w #[] 0 (Nat.le_refl _) (Nat.zero_le _) rfl
    have HO := Lib.hid hO
    have HB2 : Hid (Dt.Lies (w.alloc (.cells #[] 28)) (w.alloc (.cells #[] 28)).heap.size (some ad) (ev l)) := Lib.hid ((hb.below HW.out).more HW.out.size)
    clear hA hl hb hO
    go_enter Try.func36, Try.ntmps36
    go_wp2_with (at_builtin; refine wpList_evt rfl (.tmp 5) (.tmp 6) rfl rfl _ w.heap.size 0 (.slice (some ⟨w.heap.size, 0, none⟩) 0 0) [] (some ad) l n c rfl rfl HO.out (fun h => by cases h) HB2.out HL.out (by omega) HW.out.size ?_; intro A3 c3 V3 ho3 hg3; have HO3 := Lib.hid ho3; have HW3 := Lib.hid (HW.out.grown hg3 HW.out.size (fun k hk => (HO.out.lt k hk).1)); clear ho3 hg3)
    go_ret
    have h0 : 0 + n = n := Nat.zero_add n
    have ho := HO3.out
    rw [h0] at ho
    exact ⟨A3, c3, by rw [← h0]; rfl, ho, HW3.out⟩
end Go.Proofs.Ytbaiiidkffafmaa.Ev
