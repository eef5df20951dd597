/- The contracts of slices.swapRangeCmpFunc and rotateCmpFunc at structs, over any program that holds them. For every list of fewer than 2^62 structs. -/
import Derived.Test.YtbaiiidkffafmaaEWords
import Derived.Test.YtbaiiidkffafmaaSPlain
import Derived.Shelf.SlSortCmp.KitK
namespace Go.Proofs.Ytbaiiidkffafmaa.St
open Go.ChangeShapes Go.WideShapes Go.ChangeAt Go.RowKit Go.Shelf Go.Lib Go.Sort
set_option linter.unusedVariables false
set_option maxRecDepth 4000

/-- a program that holds the stable sort's functions at events, and their types but the event itself: k cells. -/
structure Lays (P : Program) (k : Nat) : Prop where
  mixed : P.follows .mixedOrders = true
  fSwap : P.funcs[(75 : Nat)]? = some Try.f75
  fRot : P.funcs[(64 : Nat)]? = some Try.f64
  fMerge : P.funcs[(61 : Nat)]? = some Try.f61
  fStab : P.funcs[(53 : Nat)]? = some Try.f53
  fSort : P.funcs[(37 : Nat)]? = some Try.f37
  t0 : P.underlying 0 = some (TypeDesc.tuple #[])
  a0 : ∀ w, (isAgg 0).run P w = .ok false w
  z0 : ∀ w, (Go.sizeOf 0).run P w = .ok 1 w
  v0 : ∀ w, (zeroValue 0).run P w = .ok (Value.tuple #[]) w
  t3 : P.underlying 3 = some (TypeDesc.int IntKind.i64)
  a3 : ∀ w, (isAgg 3).run P w = .ok false w
  z3 : ∀ w, (Go.sizeOf 3).run P w = .ok 1 w
  v3 : ∀ w, (zeroValue 3).run P w = .ok (Value.int IntKind.i64 0) w
  t4 : P.underlying 4 = some (TypeDesc.bool)
  a4 : ∀ w, (isAgg 4).run P w = .ok false w
  z4 : ∀ w, (Go.sizeOf 4).run P w = .ok 1 w
  v4 : ∀ w, (zeroValue 4).run P w = .ok (Value.bool false) w
  t62 : P.underlying 62 = some (TypeDesc.int IntKind.u64)
  a62 : ∀ w, (isAgg 62).run P w = .ok false w
  z62 : ∀ w, (Go.sizeOf 62).run P w = .ok 1 w
  v62 : ∀ w, (zeroValue 62).run P w = .ok (Value.int IntKind.u64 0) w
  t30 : P.underlying 30 = some (TypeDesc.slice 28)
  a30 : ∀ w, (isAgg 30).run P w = .ok false w
  z30 : ∀ w, (Go.sizeOf 30).run P w = .ok 1 w
  v30 : ∀ w, (zeroValue 30).run P w = .ok (Value.slice none 0 0) w
  t51 : P.underlying 51 = some (TypeDesc.func #[28, 28] #[3] false)
  a51 : ∀ w, (isAgg 51).run P w = .ok false w
  z51 : ∀ w, (Go.sizeOf 51).run P w = .ok 1 w
  v51 : ∀ w, (zeroValue 51).run P w = .ok (Value.nilFunc) w
  aE : ∀ w, (isAgg 28).run P w = .ok true w
  zE : ∀ w, (Go.sizeOf 28).run P w = .ok k w

/-- the swap's step, told of rows. -/
theorem swr_zero {α : Type} (A : Nat → α) (a b : Nat) : swr A a b 0 = A := by
  funext k
  unfold swr
  repeat' split
  all_goals first | rfl | (exfalso; omega)
theorem swr_next {α : Type} [Inhabited α] {dk d : Array α} {a b i n : Nat} (hs : dk.size = d.size) (hi : i < n) (ha : a + n ≤ b) (hb : b + n ≤ d.size) (h : row dk = swr (row d) a b i) : row (swp dk (a + i) (b + i)) = swr (row d) a b (i + 1) := by
  rw [row_swp dk (by omega) (by omega), h]
  funext k
  unfold swr
  repeat' split
  all_goals first | rfl | (congr 1; omega) | (exfalso; omega)

variable {P : Program} {α : Type} [Inhabited α] {enc : α → List Value} {k : Nat} {w0 : World} {blk off : Nat} {d0 : Array α}

set_option maxHeartbeats 4000000 in
theorem swapRange_any (L : Lays P k) (R : RowK enc k w0 blk off d0) (h62 : d0.size < 4611686018427387904) (cap a b n : Nat) (fv : Value) (d : Array α) (hs : d.size = d0.size) (ha : a + n ≤ b) (hb : b + n ≤ d0.size) (w : World) (hw : SWK enc k w0 blk off d w) :
    Calls P 75 #[.slice (some ⟨blk, off, none⟩) d0.size cap, .int .i64 a, .int .i64 b, .int .i64 n, fv] w fun e w' =>
      e = .returned (.tuple #[]) ∧ ∃ d', d'.size = d0.size ∧ SWK enc k w0 blk off d' w' ∧ row d' = swr (row d) a b n := by
  have mixed := L.mixed; have t0 := L.t0; have a0 := L.a0; have z0 := L.z0; have v0 := L.v0; have t3 := L.t3; have a3 := L.a3; have z3 := L.z3; have v3 := L.v3; have t4 := L.t4; have a4 := L.a4; have z4 := L.z4; have v4 := L.v4; have t30 := L.t30; have a30 := L.a30; have z30 := L.z30; have v30 := L.v30; have aE := L.aE; have zE := L.zE
  have u30 := run_underlying L.t30
  have HR := Lib.hid R
  have HW := Lib.hid hw
  have F := L.fSwap
  clear hw R L
  go_enter F, Try.ntmps75
  go_wp2
  go_loopw [10] (fun vi wr => ∃ (i : Nat) (dk : Array α), vi = .int .i64 (i : Int) ∧ i ≤ n ∧ dk.size = d0.size ∧ SWK enc k w0 blk off dk wr ∧ row dk = swr (row d) a b i) (fun vi _ => n - (intOf vi).toNat)
  case atStart => exact ⟨0, d, rfl, Nat.zero_le _, hs, HW.out, (swr_zero _ _ _).symm⟩
  case round =>
    obtain ⟨i, dk, rfl, hin, hsk, hwk, hrow⟩ := hrel
    have HWK := Lib.hid hwk
    have HROW := Lib.hid hrow
    clear hwk hrow
    by_cases hlt : i < n
    · have hz : (i : Int) < (n : Int) := by omega
      have i1 : a + i < dk.size := by omega
      have i2 : b + i < dk.size := by omega
      have w1 : IntKind.i64.wrap ((a : Int) + (i : Int)) = (a : Int) + (i : Int) := by rw [IntKind.wrap_i64]; omega
      have w2 : IntKind.i64.wrap ((b : Int) + (i : Int)) = (b : Int) + (i : Int) := by rw [IntKind.wrap_i64]; omega
      have n1 : ((a : Int) + (i : Int)).toNat = a + i := by omega
      have n2 : ((b : Int) + (i : Int)).toNat = b + i := by omega
      have p1 : (0 : Int) ≤ (a : Int) + (i : Int) := by omega
      have p2 : (0 : Int) ≤ (b : Int) + (i : Int) := by omega
      have q1 : (a : Int) + (i : Int) < (d0.size : Int) := by omega
      have q2 : (b : Int) + (i : Int) < (d0.size : Int) := by omega
      have l1 := HWK.out.ld1 HR.out hsk P (a + i) i1
      have l2 := HWK.out.ld1 HR.out hsk P (b + i) i2
      have s1 := HWK.out.st1 HR.out hsk P (a + i) i1 dk[b + i]!
      have s2 := HWK.out.st2 HR.out hsk P (a + i) (b + i) i1 i2 dk[b + i]! dk[a + i]!
      have HS := Lib.hid (HWK.out.swapped HR.out (a + i) (b + i) i1 i2)
      have hsA : (enc dk[a + i]!).length = k := HR.out.hk _
      have hsB : (enc dk[b + i]!).length = k := HR.out.hk _
      have HN := Lib.hid (swr_next (d := d) (hsk.trans hs.symm) hlt ha (by rw [hs]; exact hb) HROW.out)
      clear HWK HROW
      generalize enc dk[a + i]! = cA at *
      generalize enc dk[b + i]! = cB at *
      go_wp2_with fail
      go_big_region_o
      all_goals go_wp2
      go_roundw
      case rel => exact ⟨i + 1, _, by go_num, by omega, by rw [size_swp]; exact hsk, HS.out, HN.out⟩
      case measure => simp [intOf]; omega
    · obtain rfl : i = n := by omega
      go_wp2
      go_end0
      exact ⟨rfl, dk, hsk, HWK.out, HROW.out⟩

theorem rot_start {α : Type} (D : Nat → α) (a m b : Nat) (h1 : a < m) (h2 : m < b) : rot D (m - (m - a)) m (m + (b - m)) = rot D a m b := by
  rw [show m - (m - a) = a by omega, show m + (b - m) = b by omega]
set_option maxHeartbeats 4000000 in
theorem rotate_any (L : Lays P k) (R : RowK enc k w0 blk off d0) (h62 : d0.size < 4611686018427387904) (cap a m b : Nat) (fv : Value) (d : Array α) (hs : d.size = d0.size) (ha : a < m) (hm : m < b) (hb : b ≤ d0.size) (w : World) (hw : SWK enc k w0 blk off d w) :
    Calls P 64 #[.slice (some ⟨blk, off, none⟩) d0.size cap, .int .i64 a, .int .i64 m, .int .i64 b, fv] w fun e w' =>
      e = .returned (.tuple #[]) ∧ ∃ d', d'.size = d0.size ∧ SWK enc k w0 blk off d' w' ∧ row d' = rot (row d) a m b := by
  have CS := fun (x y n : Nat) (dk : Array α) (hsk : dk.size = d0.size) (ha : x + n ≤ y) (hb : y + n ≤ d0.size) (W : World) (hw : SWK enc k w0 blk off dk W) => swapRange_any L R h62 cap x y n fv dk hsk ha hb W hw
  have mixed := L.mixed; have t0 := L.t0; have a0 := L.a0; have z0 := L.z0; have v0 := L.v0; have t3 := L.t3; have a3 := L.a3; have z3 := L.z3; have v3 := L.v3; have t4 := L.t4; have a4 := L.a4; have z4 := L.z4; have v4 := L.v4; have t30 := L.t30; have a30 := L.a30; have z30 := L.z30; have v30 := L.v30; have t51 := L.t51; have a51 := L.a51; have z51 := L.z51; have v51 := L.v51
  have u30 := run_underlying L.t30
  have e75 : ∀ args w, (callFunc 75 args).run P w = .ok (.enter 75 args) w := enters_of L.fSwap (by kernel_rfl) rfl
  have HCS := Lib.hid CS
  have HW := Lib.hid hw
  have F := L.fRot
  have hz1 : (a : Int) < (m : Int) := by omega
  have hz2 : (m : Int) < (b : Int) := by omega
  have w1 : IntKind.i64.wrap ((m : Int) - (a : Int)) = (m : Int) - (a : Int) := by rw [IntKind.wrap_i64]; omega
  have w2 : IntKind.i64.wrap ((b : Int) - (m : Int)) = (b : Int) - (m : Int) := by rw [IntKind.wrap_i64]; omega
  have e1 : (m : Int) - (a : Int) = ((m - a : Nat) : Int) := by omega
  have e2 : (b : Int) - (m : Int) = ((b - m : Nat) : Int) := by omega
  rw [e1] at w1
  rw [e2] at w2
  clear hw R L CS
  go_enter F, Try.ntmps64
  go_wp2
  go_loopw [10, 11] (fun vi vj wr => ∃ (i j : Nat) (dk : Array α), vi = .int .i64 (i : Int) ∧ vj = .int .i64 (j : Int) ∧ 0 < i ∧ 0 < j ∧ i + a ≤ m ∧ m + j ≤ b ∧ dk.size = d0.size ∧ SWK enc k w0 blk off dk wr ∧ rot (row dk) (m - i) m (m + j) = rot (row d) a m b) (fun vi vj _ => (intOf vi).toNat + (intOf vj).toNat)
  case atStart => exact ⟨m - a, b - m, d, by go_num, by go_num, by omega, by omega, by omega, by omega, hs, HW.out, rot_start _ _ _ _ ha hm⟩
  case round =>
    obtain ⟨i, j, dk, rfl, rfl, hi0, hj0, him, hjb, hsk, hwk, hrow⟩ := hrel
    have HWK := Lib.hid hwk
    have HROW := Lib.hid hrow
    clear hwk hrow
    have p1 : (0 : Int) ≤ (m : Int) - (i : Int) := by omega
    have ws : IntKind.i64.wrap ((m : Int) - (i : Int)) = (m : Int) - (i : Int) := by rw [IntKind.wrap_i64]; omega
    rcases Nat.lt_trichotomy i j with hlt | rfl | hlt
    · have hne : ((i : Int) != (j : Int)) = true := by rw [bne_iff_ne]; omega
      have hgt : decide ((i : Int) > (j : Int)) = false := decide_eq_false (by omega)
      have hgt' : ¬ (j : Int) < (i : Int) := by omega
      have wt : IntKind.i64.wrap ((m : Int) + (j : Int)) = (m : Int) + (j : Int) := by rw [IntKind.wrap_i64]; omega
      have wu : IntKind.i64.wrap ((m : Int) + (j : Int) - (i : Int)) = (m : Int) + (j : Int) - (i : Int) := by rw [IntKind.wrap_i64]; omega
      have wv : IntKind.i64.wrap ((j : Int) - (i : Int)) = (j : Int) - (i : Int) := by rw [IntKind.wrap_i64]; omega
      have C := HCS.out (m - i) (m + j - i) i dk hsk (by omega) (by omega) wr HWK.out
      rw [show ((m - i : Nat) : Int) = (m : Int) - (i : Int) by omega, show ((m + j - i : Nat) : Int) = (m : Int) + (j : Int) - (i : Int) by omega] at C
      go_wp2_with fail
      refine C.mono ?_
      rintro e w3 ⟨rfl, d3, hs3, hw3, hr3⟩
      have HW3 := Lib.hid hw3
      have HR3 : Hid (rot (row d3) (m - i) m (m + (j - i)) = rot (row d) a m b) := Lib.hid (by rw [hr3, rot_less (row dk) (m - i) m i j (by omega) hlt]; exact HROW.out)
      clear hw3 hr3 C
      go_wp2
      go_roundw
      case rel => exact ⟨i, j - i, d3, by go_num, by go_num, hi0, by omega, him, by omega, hs3, HW3.out, HR3.out⟩
      case measure => simp [intOf]; omega
    · have hne : ((i : Int) != (i : Int)) = false := by simp
      have C := HCS.out (m - i) m i dk hsk (by omega) (by omega) wr HWK.out
      rw [show ((m - i : Nat) : Int) = (m : Int) - (i : Int) by omega] at C
      go_wp2_with fail
      refine C.mono ?_
      rintro e w3 ⟨rfl, d3, hs3, hw3, hr3⟩
      have HW3 := Lib.hid hw3
      have HR3 : Hid (row d3 = rot (row d) a m b) := Lib.hid (by rw [hr3, rot_same (row dk) (m - i) m i (by omega)]; exact HROW.out)
      clear hw3 hr3 C
      go_wp2
      go_end0
      exact ⟨rfl, d3, hs3, HW3.out, HR3.out⟩
    · have hne : ((i : Int) != (j : Int)) = true := by rw [bne_iff_ne]; omega
      have hgt : decide ((i : Int) > (j : Int)) = true := decide_eq_true (by omega)
      have hgt' : (j : Int) < (i : Int) := by omega
      have wv : IntKind.i64.wrap ((i : Int) - (j : Int)) = (i : Int) - (j : Int) := by rw [IntKind.wrap_i64]; omega
      have C := HCS.out (m - i) m j dk hsk (by omega) (by omega) wr HWK.out
      rw [show ((m - i : Nat) : Int) = (m : Int) - (i : Int) by omega] at C
      go_wp2_with fail
      refine C.mono ?_
      rintro e w3 ⟨rfl, d3, hs3, hw3, hr3⟩
      have HW3 := Lib.hid hw3
      have HR3 : Hid (rot (row d3) (m - (i - j)) m (m + j) = rot (row d) a m b) := Lib.hid (by rw [hr3, show m - (i - j) = m - i + j by omega, rot_more (row dk) (m - i) m i j (by omega) hlt]; exact HROW.out)
      clear hw3 hr3 C
      go_wp2
      go_roundw
      case rel => exact ⟨i - j, j, d3, by go_num, by go_num, by omega, hj0, by omega, hjb, hs3, HW3.out, HR3.out⟩
      case measure => simp [intOf]; omega
end Go.Proofs.Ytbaiiidkffafmaa.St
