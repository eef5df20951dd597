/- The contract of the law's own example 'works': it returns true; nothing that was there has changed. It asks that crc's table lies in its variable. -/
import Derived.Test.YtjipeiigcoipjaaDoorRopen
namespace Go.Proofs.YtjipeiigcoipjaaDoor.Se
open Go.ChangeShapes Go.WideShapes Go.ChangeAt Go.RowKit
set_option linter.unusedVariables false

theorem equal_is (w : World) (B1 B2 : Nat) (A1 A2 : Option Addr) (l1 l2 : List Nat) (n1 n2 c1 c2 : Nat) (b : Bool) (e1 : l1.length = n1) (e2 : l2.length = n2) (h1 : Bytes w B1 A1 l1) (h2 : Bytes w B2 A2 l2) (hb : decide (l1 = l2) = b) :
    Calls Tryd.prog 8 #[.slice A1 n1 c1, .slice A2 n2 c2] w fun e w' => e = .returned (.bool b) ∧ w = w' := by
  subst hb
  exact equal_any w B1 B2 A1 A2 l1 l2 n1 n2 c1 c2 e1 e2 h1 h2

theorem seven : Crc.shut [7] = [7, 46, 122, 102, 76] := by decide +kernel
theorem seven_spoilt : Crc.spoilt [7, 46, 122, 102, 76] 0 1 = [6, 46, 122, 102, 76] := by decide +kernel
theorem place_zero : place 0 5 = 0 := by decide +kernel

theorem works_any (w : World) (ht : Tab w) :
    Calls Tryd.prog 12 #[] w fun e w' => e = .returned (.bool true) ∧ Below w.heap.size w w' := by
  have hT := Lib.hid ht
  clear ht
  go_enter Tryd.func12, Tryd.ntmps12
  go_wp2_with fail
  refine (pshut_any w none [] 0 0 7 rfl (fun _ => ⟨rfl, rfl⟩) (Bytes.none_ _ _ _) (by decide) (by decide) hT.out).mono ?_
  rintro e w1 ⟨g1, cap1, n1, rfl, hn1, hg1, ho1, hb1⟩
  rw [seven] at hn1 ho1
  obtain rfl : 5 = n1 := hn1
  have K1 : Hid (Bytes w1 w1.heap.size (some ⟨g1, 0, none⟩) [7, 46, 122, 102, 76]) := bytes_own ho1 (by rw [← seven]; exact Crc.shut_small (small_one (by decide) (fun y hy => by cases hy)))
  have HB1 := Lib.hid hb1
  have HC1 : 5 ≤ cap1 := by
    rcases ho1.2 with ⟨h, _⟩ | ⟨_, _, _, h, _, _, h1, _⟩
    · cases h
    · cases h; exact h1
  clear ho1 hb1 hg1
  go_wp2_with fail
  refine (pspoil_any w1 (some ⟨g1, 0, none⟩) [7, 46, 122, 102, 76] 5 cap1 1 0 rfl (fun e => by cases e) K1.out (by decide) (by decide) (by decide) (by decide)).mono ?_
  rintro e w2 ⟨A2, n2, cap2, rfl, hn2, hb2, hc2, hcm2, hz2, hbel2, ho2⟩
  rw [place_zero, seven_spoilt] at hn2 hb2 ho2
  obtain rfl : 5 = n2 := hn2
  obtain ⟨g2, cap2', e2, hgw2⟩ := own_shape (w := w1) ho2 (.inl (by decide))
  obtain ⟨rfl, rfl⟩ : A2 = some ⟨g2, 0, none⟩ ∧ cap2 = cap2' := by simpa using e2
  have K2 : Hid (Bytes w2 w2.heap.size (some ⟨g1, 0, none⟩) [7, 46, 122, 102, 76]) := K1.out.up hbel2
  have K3 := Lib.hid hb2
  have T1 : Hid (Bytes w2 w2.heap.size (some ⟨g1, 1, none⟩) [46, 122, 102, 76]) := K2.out.drop 1
  have T2 : Hid (Bytes w2 w2.heap.size (some ⟨g2, 1, none⟩) [46, 122, 102, 76]) := K3.out.drop 1
  have c1 : w2.cell? ⟨g1, 0, none⟩ = some (.int .u8 7) := by
    obtain ⟨ad, e, _, hc⟩ := K2.out.2 (by decide)
    cases e
    exact hc 0 7 rfl
  have c2 : w2.cell? ⟨g2, 0, none⟩ = some (.int .u8 6) := by
    obtain ⟨ad, e, _, hc⟩ := K3.out.2 (by decide)
    cases e
    exact hc 0 6 rfl
  have HB2 : Hid (Below w.heap.size w w2) := HB1.out.trans (hbel2.mono HB1.out.size)
  have E1 : ∀ n, Calls Tryd.prog 8 #[.slice (some ⟨g1, 1, none⟩) 4 (cap1 - 1), .slice (some ⟨g2, 1, none⟩) 4 (cap2 - 1)] (w2.drewN n) fun e w' => e = .returned (.bool true) ∧ ∃ m, w' = w2.drewN m := fun n =>
    Calls.quiet_of_same ((equal_is (w2.drewN n) w2.heap.size w2.heap.size _ _ _ _ 4 4 _ _ true rfl rfl (T1.out.below (below_drewN _ _ _)) (T2.out.below (below_drewN _ _ _)) rfl).mono fun _ _ ⟨h1, h2⟩ => ⟨h1, h2.symm⟩)
  have HE := Lib.hid E1
  clear E1
  have d1 : ¬ cap1 = 1 := by omega
  have d2 : ¬ cap2 = 1 := by omega
  have i1 : (5 : Int) ≤ (cap1 : Int) := by omega
  have i2 : (5 : Int) ≤ (cap2 : Int) := by omega
  clear hb2 ho2 hbel2 e2
  go_wp2_with fail
  go_quiet ((go_at_call 8; exact HE.out _))
  go_wp2
  go_ret
  exact ⟨rfl, Go.below_drewN HB2.out _⟩
end Go.Proofs.YtjipeiigcoipjaaDoor.Se
