/- The contracts of the program's beats and Winner of layer reg. -/
import Derived.Test.YtdmjhaifilfniaaGSide
namespace Go.Proofs.Ytdmjhaifilfniaa.Rg
open Go.ChangeShapes Go.WideShapes Go.ChangeAt Go.RowKit
set_option linter.unusedVariables false

theorem win_dots (a b : Vl) : winB a b = (decide (b.1.2 < a.1.2) || decide (a.1.2 = b.1.2) && decide (b.1.1 < a.1.1)) := rfl
set_option maxHeartbeats 4000000 in
theorem pbeats_any (w : World) (x y : Vl) :
    Calls Try.prog 14 #[.agg #[.int .u16 (x.1.1 : Int), .int .u64 (x.1.2 : Int)], .agg #[.int .u16 (y.1.1 : Int), .int .u64 (y.1.2 : Int)]] w fun e w' => e = .returned (.bool (winB x y)) ∧ Below w.heap.size w w' := by
  rw [win_dots]
  obtain ⟨⟨x1, x2⟩, x3⟩ := x
  obtain ⟨⟨y1, y2⟩, y3⟩ := y
  simp only
  by_cases h1 : y2 < x2
  · have e1 : decide ((y2 : Int) < (x2 : Int)) = true := decide_eq_true (by omega)
    rw [decide_eq_true h1, Bool.true_or]
    go_enter Try.func14, Try.ntmps14
    go_wp2
    go_ret
    exact ⟨rfl, below_new2 _ _ _⟩
  · have e1 : decide ((y2 : Int) < (x2 : Int)) = false := decide_eq_false (by omega)
    rw [decide_eq_false h1, Bool.false_or]
    by_cases h2 : x2 = y2
    · subst h2
      rw [decide_eq_true rfl, Bool.true_and]
      go_enter Try.func14, Try.ntmps14
      go_wp2
      go_ret
      exact ⟨Kd.ret_bool (by simp), below_new2 _ _ _⟩
    · have e2 : ((x2 : Int) == (y2 : Int)) = false := by rw [beq_eq_false_iff_ne]; omega
      rw [decide_eq_false h2, Bool.false_and]
      go_enter Try.func14, Try.ntmps14
      go_wp2
      go_ret
      exact ⟨rfl, below_new2 _ _ _⟩

theorem win_from1 {l : List Vl} {k : Nat} {x : Vl} (h : l[k + 1]? = some x) : winV (l.take (k + 1 + 1)) = if winB x (winV (l.take (k + 1))) = true then x else winV (l.take (k + 1)) := win_next (by omega) h
theorem add_later (ad : Addr) (k : Nat) : ad.add ((k + 1) * 3) = ⟨ad.block, ad.off + 3 + k * 3, none⟩ := by
  show (if (k + 1) * 3 = 0 then ad else (⟨ad.block, ad.off + (k + 1) * 3, none⟩ : Addr)) = _
  rw [if_neg (by omega), show ad.off + (k + 1) * 3 = ad.off + 3 + k * 3 by omega]
set_option maxHeartbeats 4000000 in
theorem pwinner_any (w : World) (A : Option Addr) (l : List Vl) (n c : Nat) (h : ValsAt w w.heap.size A l n c) :
    Calls Try.prog 6 #[.slice A n c] w fun e w' => e = .returned (.tuple #[vval (winV l), .bool (decide (0 < l.length))]) ∧ Below w.heap.size w w' := by
  have H := Lib.hid h
  have h63 : n ≤ 281474976710656 := Nat.le_trans h.wide (by decide)
  have hcap : n ≤ c := h.cap
  have hmax : c ≤ 9223372036854775807 := h.max
  clear h
  by_cases h0 : n = 0
  · subst h0
    obtain rfl := List.eq_nil_of_length_eq_zero H.out.len
    go_enter Try.func6, Try.ntmps6
    go_wp2
    refine bodyPost_ret (v := .tuple #[vval ((0, 0), ⟨#[]⟩), .bool false]) ?_ rfl ?_
    · simp [results, Try.f6, go_sem]
    · exact ⟨rfl, below_new _ _⟩
  · obtain ⟨ad, x, rfl, hadb, hlx, hfx, hcx⟩ := H.out.at_ (k := 0) (by omega)
    rw [Nat.zero_mul, show ad.add 0 = ad from by simp [Addr.add]] at hcx
    have hn0 : ((n : Int) == 0) = false := by rw [beq_eq_false_iff_ne]; omega
    obtain ⟨q0, q1, q2⟩ := hcx.kept (below_new w zbox)
    obtain ⟨r0, r1, r2⟩ := hcx.kept (below_new2 w zbox zbox)
    by_cases hc1 : c = 1
    · obtain rfl : n = 1 := by omega
      have HD := Lib.hid (show x = winV l ∧ decide (0 < l.length) = true from by
        have h := win_one hlx
        rw [List.take_of_length_le (by rw [H.out.len]; exact Nat.le_refl _)] at h
        exact ⟨h, decide_eq_true (by rw [H.out.len]; exact Nat.one_pos)⟩)
      have HZ : Hid (At ((w.alloc zbox).alloc (vbox x)) w.heap.size 29 #[.int .u16 0, .int .u64 0, .string ⟨#[]⟩]) := Lib.hid ((At.new w _ _).up (below_new _ _))
      have HG : Hid (At ((w.alloc zbox).alloc (vbox x)) (w.heap.size + 1) 29 #[.int .u16 (x.1.1 : Int), .int .u64 (x.1.2 : Int), .string x.2]) := Lib.hid (by
        have h := At.new (w.alloc zbox) 29 #[.int .u16 (x.1.1 : Int), .int .u64 (x.1.2 : Int), .string x.2]
        rw [alloc_size] at h
        exact h)
      have HW := Lib.hid (below_new2 w zbox (vbox x))
      clear hlx
      go_enter Try.func6, Try.ntmps6
      go_wp2_with fail
      generalize (w.alloc (.cells #[.int .u16 0, .int .u64 0, .string ⟨#[]⟩] 29)).alloc (vbox x) = wx at *
      go_loopw [17] (fun i wr => i = .int .i64 0 ∧ wr = wx) (fun i _ => 0)
      case atStart => exact ⟨rfl, rfl⟩
      case round =>
        obtain ⟨rfl, rfl⟩ := hrel
        have e0 := HG.out.cell 0
        have e1 := HG.out.cell 1
        have e2 := HG.out.cell 2
        have G3 := HZ.out.set 0 (.int .u16 (x.1.1 : Int))
        have G4 := G3.set 1 (.int .u64 (x.1.2 : Int))
        have G5 := G4.set 2 (.string x.2)
        have z0 := HZ.out.cell 0
        have z1 := G3.cell 1
        have z2 := G4.cell 2
        have f0 := HZ.out.frozen 0
        have f1 := G3.frozen 1
        have f2 := G4.frozen 2
        have g0 := G5.cell 0
        have g1 := G5.cell 1
        have g2 := G5.cell 2
        simp at e0 e1 e2 z0 z1 z2 g0 g1 g2
        have hbb : Hid (Below w.heap.size w (((wr.setCell ⟨w.heap.size, 0, none⟩ (.int .u16 (x.1.1 : Int))).setCell ⟨w.heap.size, 1, none⟩ (.int .u64 (x.1.2 : Int))).setCell ⟨w.heap.size, 2, none⟩ (.string x.2))) :=
          Lib.hid (((HW.out.setCell (Nat.le_refl _) _).setCell (Nat.le_refl _) _).setCell (Nat.le_refl _) _)
        clear G3 G4 G5
        go_wp2
        refine bodyPost_ret (v := .tuple #[vval x, .bool true]) ?_ rfl ?_
        · simp [results, Try.f6, go_sem, g0, g1, g2]
        · exact ⟨by rw [HD.out.2, HD.out.1], hbb.out⟩
    have hcc : 1 < c := by omega
    go_enter Try.func6, Try.ntmps6
    go_wp2_with fail
    go_loopw [17] (fun i wr => ∃ (k : Nat) (y : Vl), k + 1 ≤ n ∧ i = .int .i64 (k : Int) ∧ y = winV (l.take (k + 1)) ∧ At wr w.heap.size 29 #[.int .u16 0, .int .u64 0, .string ⟨#[]⟩] ∧ At wr (w.heap.size + 1) 29 #[.int .u16 (y.1.1 : Int), .int .u64 (y.1.2 : Int), .string y.2] ∧ Below w.heap.size w wr) (fun i _ => n - 1 - (intOf i).toNat)
    case atStart =>
      refine ⟨0, x, by omega, rfl, win_one hlx, (At.new w _ _).up (below_new _ _), ?_, below_new2 _ _ _⟩
      have h := At.new (w.alloc zbox) 29 #[.int .u16 (x.1.1 : Int), .int .u64 (x.1.2 : Int), .string x.2]
      rw [alloc_size] at h
      exact h
    case round =>
      obtain ⟨k, y, hk, rfl, hy, hz, hg, hw⟩ := hrel
      have HY := Lib.hid hy
      have HZ := Lib.hid hz
      have HG := Lib.hid hg
      have HW := Lib.hid hw
      have hsz : w.heap.size + 1 < wr.heap.size := hg.lt
      have HE0 : Hid (∀ V, Below wr.heap.size wr V → V.cell? ⟨w.heap.size + 1, 0, none⟩ = some (.int .u16 (y.1.1 : Int)) ∧ V.cell? ⟨w.heap.size + 1, 1, none⟩ = some (.int .u64 (y.1.2 : Int)) ∧ V.cell? ⟨w.heap.size + 1, 2, none⟩ = some (.string y.2)) := Lib.hid (fun V hV => by
        have h := hg.up hV
        have e0 := h.cell 0
        have e1 := h.cell 1
        have e2 := h.cell 2
        simp at e0 e1 e2
        exact ⟨e0, e1, e2⟩)
      obtain ⟨e0, e1, e2⟩ := HE0.out wr (Below.refl _ _)
      clear hy hz hg hw
      by_cases hlt : k < n - 1
      · obtain ⟨ad', z, e, _, hlz, hfz, hcz⟩ := H.out.at_ (k := k + 1) (by omega)
        cases e
        rw [add_later] at hcz
        have hczr := hcz.kept HW.out
        obtain ⟨p0, p1, p2⟩ := hczr
        have CT := pbeats_any (wr.alloc (vbox z)) z y
        have HN := Lib.hid (win_from1 hlz)
        clear hlz
        obtain ⟨d0, d1, d2⟩ := HE0.out _ (below_new wr (vbox z))
        have HBZ := Lib.hid (below_new wr (vbox z))
        go_wp2_with fail
        refine CT.mono ?_
        rintro e w2 ⟨rfl, hb⟩
        have HB2 : Hid (Below wr.heap.size wr w2) := Lib.hid (HBZ.out.trans (hb.mono HBZ.out.size))
        obtain ⟨b0, b1, b2⟩ := (vbox_new wr z w2 (by rw [alloc_size] at hb; exact hb)).zero
        clear hb d0 d1 d2 e0 e1 e2 p0 p1 p2
        cases hwb : winB z y with
        | false =>
          go_wp2
          go_roundw
          case rel =>
            refine ⟨k + 1, y, by omega, by go_num, ?_, HZ.out.up HB2.out, HG.out.up HB2.out, HW.out.trans (HB2.out.mono HW.out.size)⟩
            rw [HN.out, ← HY.out, hwb]
            rfl
          case measure => simp [intOf]; omega
        | true =>
          have G2 := HG.out.up HB2.out
          have G3 := G2.set 0 (.int .u16 (z.1.1 : Int))
          have G4 := G3.set 1 (.int .u64 (z.1.2 : Int))
          have G5 := Lib.hid (G4.set 2 (.string z.2))
          have s0 := G2.cell 0
          have s1 := G3.cell 1
          have s2 := G4.cell 2
          have f0 := G2.frozen 0
          have f1 := G3.frozen 1
          have f2 := G4.frozen 2
          simp at s0 s1 s2
          have hzz : Hid (At (((w2.setCell ⟨w.heap.size + 1, 0, none⟩ (.int .u16 (z.1.1 : Int))).setCell ⟨w.heap.size + 1, 1, none⟩ (.int .u64 (z.1.2 : Int))).setCell ⟨w.heap.size + 1, 2, none⟩ (.string z.2)) w.heap.size 29 #[.int .u16 0, .int .u64 0, .string ⟨#[]⟩]) :=
            Lib.hid ((((HZ.out.up HB2.out).other _ _ _ (by omega)).other _ _ _ (by omega)).other _ _ _ (by omega))
          have hbb : Hid (Below w.heap.size w (((w2.setCell ⟨w.heap.size + 1, 0, none⟩ (.int .u16 (z.1.1 : Int))).setCell ⟨w.heap.size + 1, 1, none⟩ (.int .u64 (z.1.2 : Int))).setCell ⟨w.heap.size + 1, 2, none⟩ (.string z.2))) :=
            Lib.hid ((((HW.out.trans (HB2.out.mono HW.out.size)).setCell (Nat.le_succ _) _).setCell (Nat.le_succ _) _).setCell (Nat.le_succ _) _)
          clear G2 G3 G4
          go_wp2
          go_roundw
          case rel =>
            refine ⟨k + 1, z, by omega, by go_num, ?_, hzz.out, G5.out, hbb.out⟩
            rw [HN.out, ← HY.out, hwb]
            rfl
          case measure => simp [intOf]; omega
      · obtain rfl : n = k + 1 := by omega
        have hd : Hid (y = winV l ∧ decide (0 < l.length) = true) := by
          have h := HY.out
          rw [List.take_of_length_le (by rw [H.out.len]; exact Nat.le_refl _)] at h
          exact ⟨h, decide_eq_true (by rw [H.out.len]; omega)⟩
        have G3 := HZ.out.set 0 (.int .u16 (y.1.1 : Int))
        have G4 := G3.set 1 (.int .u64 (y.1.2 : Int))
        have G5 := G4.set 2 (.string y.2)
        have z0 := HZ.out.cell 0
        have z1 := G3.cell 1
        have z2 := G4.cell 2
        have f0 := HZ.out.frozen 0
        have f1 := G3.frozen 1
        have f2 := G4.frozen 2
        have g0 := G5.cell 0
        have g1 := G5.cell 1
        have g2 := G5.cell 2
        simp at z0 z1 z2 g0 g1 g2
        have hbb : Hid (Below w.heap.size w (((wr.setCell ⟨w.heap.size, 0, none⟩ (.int .u16 (y.1.1 : Int))).setCell ⟨w.heap.size, 1, none⟩ (.int .u64 (y.1.2 : Int))).setCell ⟨w.heap.size, 2, none⟩ (.string y.2))) :=
          Lib.hid (((HW.out.setCell (Nat.le_refl _) _).setCell (Nat.le_refl _) _).setCell (Nat.le_refl _) _)
        clear G3 G4 G5
        go_wp2
        refine bodyPost_ret (v := .tuple #[vval y, .bool true]) ?_ rfl ?_
        · simp [results, Try.f6, go_sem, g0, g1, g2]
        · exact ⟨by rw [hd.out.2, hd.out.1], hbb.out⟩
end Go.Proofs.Ytdmjhaifilfniaa.Rg
