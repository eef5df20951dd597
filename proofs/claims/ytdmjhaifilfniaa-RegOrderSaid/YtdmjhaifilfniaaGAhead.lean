/- The contracts of the document's ahead and Winner of layer reg. -/
import Derived.Test.YtdmjhaifilfniaaGAt
import Derived.StillTailTactics
namespace Go.Proofs.Ytdmjhaifilfniaa.Rg
open Go.ChangeShapes Go.WideShapes Go.ChangeAt Go.RowKit
set_option linter.unusedVariables false

theorem win_eq {x y : Vl} (h1 : x.1.2 ≤ y.1.2) (h2 : ((x.1.2 : Nat) : Int) = (y.1.2 : Int)) : winB x y = decide (y.1.1 < x.1.1) := by
  have e : x.1.2 = y.1.2 := by omega
  unfold winB
  rw [e]
  simp
theorem win_ne {x y : Vl} (h2 : ¬ ((x.1.2 : Nat) : Int) = (y.1.2 : Int)) : winB x y = decide (y.1.2 < x.1.2) := by
  have e : ¬ x.1.2 = y.1.2 := by omega
  unfold winB
  rw [decide_eq_false e]
  simp
set_option maxHeartbeats 4000000 in
theorem rahead_any (w : World) (x y : Vl) :
    Calls Try.prog 15 #[vval x, vval y] w fun e w' => e = .returned (.bool (winB x y)) ∧ Below w.heap.size w w' := by
  go_enter Try.func15, Try.ntmps15
  go_wp2
  · rename_i h1 h2
    go_ret
    exact ⟨Kd.ret_bool (by rw [win_eq h1 h2, decide_eq_false (show ¬ y.1.2 < x.1.2 by omega), Bool.false_or]), below_new2 _ _ _⟩
  · rename_i h1 h2
    go_ret
    exact ⟨Kd.ret_bool (by rw [win_ne h2]), below_new2 _ _ _⟩
  · rename_i h1
    go_ret
    exact ⟨Kd.ret_bool (by rw [win_ne (by omega), decide_eq_true (by omega)]), below_new2 _ _ _⟩

theorem win_one {l : List Vl} {x : Vl} (h : l[0]? = some x) : x = winV (l.take 1) := by
  cases l with
  | nil => simp at h
  | cons y l =>
    obtain rfl : y = x := by simpa using h
    rfl
theorem win_next {l : List Vl} {k : Nat} {x : Vl} (h1 : 1 ≤ k) (h : l[k]? = some x) : winV (l.take (k + 1)) = if winB x (winV (l.take k)) = true then x else winV (l.take k) := by
  cases l with
  | nil => simp at h
  | cons y l =>
    obtain ⟨j, rfl⟩ : ∃ j, k = j + 1 := ⟨k - 1, by omega⟩
    have hj : l[j]? = some x := by simpa using h
    show winF y (l.take (j + 1)) = if winB x (winF y (l.take j)) = true then x else winF y (l.take j)
    unfold winF
    rw [List.take_add_one, hj, List.foldl_append]
    rfl
/-- an empty value's box. -/
abbrev zbox : Obj := .cells #[.int .u16 0, .int .u64 0, .string ⟨#[]⟩] 29
set_option maxHeartbeats 4000000 in
theorem rwinner_any (w : World) (A : Option Addr) (l : List Vl) (n c : Nat) (h : ValsAt w w.heap.size A l n c) :
    Calls Try.prog 7 #[.slice A n c] w fun e w' => e = .returned (.tuple #[vval (winV l), .bool (decide (0 < l.length))]) ∧ Below w.heap.size w w' := by
  have H := Lib.hid h
  have h63 : n ≤ 281474976710656 := Nat.le_trans h.wide (by decide)
  clear h
  by_cases h0 : n = 0
  · subst h0
    obtain rfl := List.eq_nil_of_length_eq_zero H.out.len
    go_enter Try.func7, Try.ntmps7
    go_wp2
    refine bodyPost_ret (v := .tuple #[vval ((0, 0), ⟨#[]⟩), .bool false]) ?_ rfl ?_
    · simp [results, Try.f7, go_sem]
    · exact ⟨rfl, below_new _ _⟩
  · obtain ⟨ad, x, rfl, hadb, hlx, hfx, hcx⟩ := H.out.at_ (k := 0) (by omega)
    rw [Nat.zero_mul, show ad.add 0 = ad from by simp [Addr.add]] at hcx
    have hn0 : ((n : Int) == 0) = false := by rw [beq_eq_false_iff_ne]; omega
    obtain ⟨q0, q1, q2⟩ := hcx.kept (below_new w zbox)
    obtain ⟨r0, r1, r2⟩ := hcx.kept (below_new2 w zbox zbox)
    go_enter Try.func7, Try.ntmps7
    go_wp2_with fail
    go_loopw [5] (fun i wr => ∃ (k : Nat) (y : Vl), 1 ≤ k ∧ k ≤ n ∧ i = .int .i64 (k : Int) ∧ y = winV (l.take k) ∧ At wr w.heap.size 29 #[.int .u16 0, .int .u64 0, .string ⟨#[]⟩] ∧ At wr (w.heap.size + 1) 29 #[.int .u16 (y.1.1 : Int), .int .u64 (y.1.2 : Int), .string y.2] ∧ Below w.heap.size w wr) (fun i _ => n - (intOf i).toNat)
    case atStart =>
      refine ⟨1, x, Nat.le_refl _, by omega, rfl, win_one hlx, (At.new w _ _).up (below_new _ _), ?_, below_new2 _ _ _⟩
      have h := At.new (w.alloc zbox) 29 #[.int .u16 (x.1.1 : Int), .int .u64 (x.1.2 : Int), .string x.2]
      rw [alloc_size] at h
      exact h
    case round =>
      obtain ⟨k, y, hk1, hk, rfl, hy, hz, hg, hw⟩ := hrel
      have HY := Lib.hid hy
      have HZ := Lib.hid hz
      have HG := Lib.hid hg
      have HW := Lib.hid hw
      have hsz : w.heap.size + 1 < wr.heap.size := hg.lt
      have e0 := hg.cell 0
      have e1 := hg.cell 1
      have e2 := hg.cell 2
      simp at e0 e1 e2
      clear hy hz hg hw
      by_cases hlt : k < n
      · obtain ⟨ad', z, e, _, hlz, hfz, hcz⟩ := H.out.at_ hlt
        cases e
        have hczr := hcz.kept HW.out
        obtain ⟨p0, p1, p2⟩ := hczr
        have CT := rahead_any wr.drew z y
        have HN := Lib.hid (win_next hk1 hlz)
        clear hlz
        go_wp2_with fail
        go_still_tail 5, (by kernel_rfl)
        go_wp2_with fail
        refine CT.mono ?_
        rintro e w2 ⟨rfl, hb⟩
        have HB2 : Hid (Below wr.heap.size wr w2) := Lib.hid ((Below.refl _ wr).drew.trans hb)
        clear hb
        obtain ⟨p0, p1, p2⟩ := CellsV.kept ⟨p0, p1, p2⟩ HB2.out
        cases hwb : winB z y with
        | false =>
          go_wp2
          go_roundw
          case rel =>
            refine ⟨k + 1, y, by omega, by omega, by go_num, ?_, HZ.out.up HB2.out, HG.out.up HB2.out, HW.out.trans (HB2.out.mono HW.out.size)⟩
            rw [HN.out, ← HY.out, hwb]
            rfl
          case measure => simp [intOf]; omega
        | true =>
          have G2 := HG.out.up HB2.out
          have G3 := G2.set 0 (.int .u16 (z.1.1 : Int))
          have G4 := G3.set 1 (.int .u64 (z.1.2 : Int))
          have G5 := Lib.hid (G4.set 2 (.string z.2))
          have s0 := G2.cell 0
          have s1 := G3.cell 1
          have s2 := G4.cell 2
          have f0 := G2.frozen 0
          have f1 := G3.frozen 1
          have f2 := G4.frozen 2
          simp at s0 s1 s2
          have hzz : Hid (At (((w2.setCell ⟨w.heap.size + 1, 0, none⟩ (.int .u16 (z.1.1 : Int))).setCell ⟨w.heap.size + 1, 1, none⟩ (.int .u64 (z.1.2 : Int))).setCell ⟨w.heap.size + 1, 2, none⟩ (.string z.2)) w.heap.size 29 #[.int .u16 0, .int .u64 0, .string ⟨#[]⟩]) :=
            Lib.hid ((((HZ.out.up HB2.out).other _ _ _ (by omega)).other _ _ _ (by omega)).other _ _ _ (by omega))
          have hbb : Hid (Below w.heap.size w (((w2.setCell ⟨w.heap.size + 1, 0, none⟩ (.int .u16 (z.1.1 : Int))).setCell ⟨w.heap.size + 1, 1, none⟩ (.int .u64 (z.1.2 : Int))).setCell ⟨w.heap.size + 1, 2, none⟩ (.string z.2))) :=
            Lib.hid ((((HW.out.trans (HB2.out.mono HW.out.size)).setCell (Nat.le_succ _) _).setCell (Nat.le_succ _) _).setCell (Nat.le_succ _) _)
          clear G2 G3 G4
          go_wp2
          go_roundw
          case rel =>
            refine ⟨k + 1, z, by omega, by omega, by go_num, ?_, hzz.out, G5.out, hbb.out⟩
            rw [HN.out, ← HY.out, hwb]
            rfl
          case measure => simp [intOf]; omega
      · obtain rfl : k = n := by omega
        have hd : Hid (y = winV l ∧ decide (0 < l.length) = true) := by
          have h := HY.out
          rw [List.take_of_length_le (by rw [H.out.len]; exact Nat.le_refl _)] at h
          exact ⟨h, decide_eq_true (by rw [H.out.len]; omega)⟩
        have G3 := HZ.out.set 0 (.int .u16 (y.1.1 : Int))
        have G4 := G3.set 1 (.int .u64 (y.1.2 : Int))
        have G5 := G4.set 2 (.string y.2)
        have z0 := HZ.out.cell 0
        have z1 := G3.cell 1
        have z2 := G4.cell 2
        have f0 := HZ.out.frozen 0
        have f1 := G3.frozen 1
        have f2 := G4.frozen 2
        have g0 := G5.cell 0
        have g1 := G5.cell 1
        have g2 := G5.cell 2
        simp at z0 z1 z2 g0 g1 g2
        have hbb : Hid (Below w.heap.size w (((wr.setCell ⟨w.heap.size, 0, none⟩ (.int .u16 (y.1.1 : Int))).setCell ⟨w.heap.size, 1, none⟩ (.int .u64 (y.1.2 : Int))).setCell ⟨w.heap.size, 2, none⟩ (.string y.2))) :=
          Lib.hid (((HW.out.setCell (Nat.le_refl _) _).setCell (Nat.le_refl _) _).setCell (Nat.le_refl _) _)
        clear G3 G4 G5
        go_wp2
        refine bodyPost_ret (v := .tuple #[vval y, .bool true]) ?_ rfl ?_
        · simp [results, Try.f7, go_sem, g0, g1, g2]
        · exact ⟨by rw [hd.out.2, hd.out.1], hbb.out⟩
end Go.Proofs.Ytdmjhaifilfniaa.Rg
