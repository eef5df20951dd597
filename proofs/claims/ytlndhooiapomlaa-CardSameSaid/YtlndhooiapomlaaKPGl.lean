/- The contracts of the program's goodLine and Good of layer card. For every line and card. -/
import Derived.Test.YtlndhooiapomlaaKSide
import Derived.Test.YtlndhooiapomlaaKPUn
import Derived.Shelf.SlSortCmp.QuietGrown
namespace Go.Proofs.Ytlndhooiapomlaa.Kd
open Go.ChangeShapes Go.WideShapes Go.ChangeAt Go.RowKit
set_option linter.unusedVariables false

theorem pfield_any (w : World) (f : Nat) (hf : f < 256) : Calls Try.prog 34 #[.int .u8 (f : Int)] w fun e w' => e = .returned (.bool (Fd.goodB f)) ∧ w' = w := by
  by_cases h1 : 1 ≤ f
  · have d1 : decide (1 ≤ (f : Int)) = true := decide_eq_true (by omega)
    have HR : Hid (Fd.goodB f = decide ((f : Int) ≤ 5)) := Lib.hid (by unfold Fd.goodB; rw [Bool.eq_iff_iff]; simp; omega)
    go_enter Try.func34, Try.ntmps34
    go_wp2
    all_goals
      go_ret
      exact ⟨ret_bool HR.out.symm, rfl⟩
  · have d1 : decide (1 ≤ (f : Int)) = false := decide_eq_false (by omega)
    have HR : Hid (Fd.goodB f = false) := Lib.hid (decide_eq_false (by omega))
    go_enter Try.func34, Try.ntmps34
    go_wp2
    all_goals
      go_ret
      exact ⟨ret_bool HR.out.symm, rfl⟩

/-- may a line be? -/
def lineB (x : Ln) : Bool := Fd.goodB x.1 && Fd.textB x.2.1.data.toList && moreB x.2.2 x.2.1
theorem boxl (w : World) (v0 v1 v2 : Value) (t : TypeId) (V : World) (hb : Below (w.heap.size + 1) (w.alloc (.cells #[v0, v1, v2] t)) V) :
    V.cell? ⟨w.heap.size, 0, none⟩ = some v0 ∧ V.cell? ⟨w.heap.size, 1, none⟩ = some v1 ∧ V.cell? ⟨w.heap.size, 2, none⟩ = some v2 :=
  ⟨(hb.cell (Nat.lt_succ_self _)).trans (by rw [World.cell?_alloc_mark]; rfl), (hb.cell (Nat.lt_succ_self _)).trans (by rw [World.cell?_alloc_mark]; rfl), (hb.cell (Nat.lt_succ_self _)).trans (by rw [World.cell?_alloc_mark]; rfl)⟩

set_option maxHeartbeats 8000000 in
theorem pgoodline_any (w : World) (p : LV) (x : Ln) (h : LineIs w w.heap.size p x) :
    Calls Try.prog 23 #[p.val] w fun e w' => e = .returned (.bool (lineB x)) ∧ w' = w.alloc (.cells #[.int .u8 (p.fld : Int), .string p.txt, .slice p.adr p.len p.cap] 28) := by
  obtain ⟨p1, p2, A, n, c⟩ := p
  obtain ⟨x1, x2, l⟩ := x
  have e1 : p1 = x1 := h.fld
  have e2 : p2 = x2 := h.txt
  subst e1 e2
  have hf : p1 < 256 := h.fit
  have hsh : Short p2 := h.short
  have h63 : n ≤ 281474976710656 := Nat.le_trans h.more.wide (by decide)
  have H : Hid (TextsAt (w.alloc (.cells #[.int .u8 (p1 : Int), .string p2, .slice A n c] 28)) w.heap.size A l n c) := Lib.hid (h.more.below (below_new w (.cells #[.int .u8 (p1 : Int), .string p2, .slice A n c] 28)))
  clear h
  simp only [LV.val]
  obtain ⟨k1, k2, k3⟩ := boxl w (.int .u8 (p1 : Int)) (.string p2) (.slice A n c) 28 _ (Below.refl _ _)
  have CG := fun W => pfield_any W p1 hf
  have CT := fun W => Fd.ptext_any p2 W (by unfold Short at hsh; omega)
  have HA : Hid (lineB (p1, p2, l) = (Fd.goodB p1 && Fd.textB p2.data.toList && moreB l p2)) := Lib.hid rfl
  generalize lineB (p1, p2, l) = ans at HA ⊢
  clear hf hsh
  generalize hW : w.alloc (.cells #[.int .u8 (p1 : Int), .string p2, .slice A n c] 28) = W at H k1 k2 k3 ⊢
  cases hG : Fd.goodB p1 with
  | false =>
    rw [hG] at CG
    have hd : Hid (ans = false) := Lib.hid (by rw [HA.out, hG]; rfl)
    clear hG HA
    go_enter Try.func23, Try.ntmps23
    go_wp2_with fail
    refine (CG _).mono ?_
    rintro e w' ⟨rfl, rfl⟩
    go_wp2
    go_ret
    exact ⟨ret_bool hd.out.symm, by first | rfl | exact hW⟩
  | true =>
    rw [hG] at CG
    cases hT : Fd.textB p2.data.toList with
    | false =>
      rw [hT] at CT
      have hd : Hid (ans = false) := Lib.hid (by rw [HA.out, hG, hT]; rfl)
      clear hG hT HA
      go_enter Try.func23, Try.ntmps23
      go_wp2_with fail
      refine (CG _).mono ?_
      rintro e w' ⟨rfl, rfl⟩
      go_wp2_with fail
      refine (CT _).mono ?_
      rintro e w' ⟨rfl, rfl⟩
      go_wp2
      go_ret
      exact ⟨ret_bool hd.out.symm, by first | rfl | exact hW⟩
    | true =>
      rw [hT] at CT
      have HM : Hid (ans = moreB l p2) := Lib.hid (by rw [HA.out, hG, hT]; rfl)
      clear hG hT HA
      go_enter Try.func23, Try.ntmps23
      go_wp2_with fail
      refine (CG _).mono ?_
      rintro e w' ⟨rfl, rfl⟩
      go_wp2_with fail
      refine (CT _).mono ?_
      rintro e w' ⟨rfl, rfl⟩
      go_wp2_with fail
      try rw [hW]
      clear hW
      go_loop [18] (fun i => ∃ k : Nat, k ≤ n ∧ i = .int .i64 (k : Int) ∧ ∀ j, j < k → okM l p2 j = true) (fun i => n - (intOf i).toNat)
      case atStart => exact ⟨0, Nat.zero_le _, rfl, fun j hj => by omega⟩
      case round =>
        obtain ⟨k, hk, rfl, ht⟩ := hrel
        have HT := Lib.hid ht
        clear ht CG CT
        by_cases hlt : k < n
        · obtain ⟨ad, s, rfl, _, hls, hss, hc⟩ := H.out.at_ hlt
          have CS := fun W => Fd.ptext_any s W (by unfold Short at hss; omega)
          have hq := eq_texts s p2
          have hkl : k < l.length := by rw [H.out.len]; exact hlt
          have HE : Hid (okM l p2 k = (Fd.textB s.data.toList && !decide (s = p2) && (decide (k = 0) || (match l[k - 1]? with | some y => Op.bytesLess y.toList s.toList | none => true)))) := Lib.hid (by unfold okM; rw [hls]; rfl)
          have HNO : Hid (okM l p2 k = false → ans = false) := Lib.hid (fun h => by rw [HM.out]; exact more_false hkl h)
          have HYE : Hid (okM l p2 k = true → ∀ j, j < k + 1 → okM l p2 j = true) := Lib.hid (fun h j hj => by
            rcases Nat.lt_succ_iff_lt_or_eq.1 hj with h2 | rfl
            · exact HT.out j h2
            · exact h)
          clear hls hss hkl
          by_cases h0 : k = 0
          · subst h0
            rw [show ad.add 0 = ad from by simp [Addr.add]] at hc
            by_cases hx : s = p2
            · rw [decide_eq_true hx] at hq
              have hd := Lib.hid (HNO.out (by rw [HE.out, decide_eq_true hx]; simp))
              clear hx HE HNO HYE
              go_wp2
              go_ret
              exact ⟨ret_bool hd.out.symm, by first | rfl | exact hW⟩
            · rw [decide_eq_false hx] at hq
              cases hS : Fd.textB s.data.toList with
              | false =>
                rw [hS] at CS
                have hd := Lib.hid (HNO.out (by rw [HE.out, hS]; rfl))
                clear hx HE HNO HYE hS
                go_wp2_with fail
                refine (CS _).mono ?_
                rintro e w' ⟨rfl, rfl⟩
                go_wp2
                go_ret
                exact ⟨ret_bool hd.out.symm, by first | rfl | exact hW⟩
              | true =>
                rw [hS] at CS
                have hs := Lib.hid (HYE.out (by rw [HE.out, hS, decide_eq_false hx]; rfl))
                clear hx HE HNO HYE hS
                go_wp2_with fail
                refine (CS _).mono ?_
                rintro e w' ⟨rfl, rfl⟩
                go_wp2
                go_round
                case rel => exact ⟨1, by omega, rfl, hs.out⟩
                case measure => simp [intOf]; omega
          · have hd0 : decide (0 < k) = true := decide_eq_true (by omega)
            obtain ⟨ad2, y, e2, _, hly, _, hc2⟩ := H.out.at_ (k := k - 1) (by omega)
            obtain rfl := Option.some.inj e2
            have hw1 : IntKind.i64.wrap ((k : Int) - 1) = (k : Int) - 1 := IntWalk.i64_in _ (by omega)
            have hw2 : 1 ≤ (k : Int) := by omega
            have hw3 : 0 ≤ (k : Int) - 1 := by omega
            have hw4 : ((k : Int) - 1).toNat = k - 1 := by omega
            have hw5 : k - 1 < n := by omega
            have hw6 : (k : Int) - 1 < (n : Int) := by omega
            have hw7 : 0 < k := by omega
            have hw8 : 1 ≤ k := by omega
            have HE2 : Hid (okM l p2 k = (Fd.textB s.data.toList && !decide (s = p2) && (decide (k = 0) || Op.bytesLess y.toList s.toList))) := Lib.hid (by rw [HE.out, hly])
            clear hly HE
            have HE := HE2
            clear HE2
            cases hl : Op.bytesLess y.toList s.toList with
            | false =>
              have hd := Lib.hid (HNO.out (by rw [HE.out, hl, decide_eq_false h0]; simp))
              clear HE HNO HYE
              go_wp2
              go_ret
              exact ⟨ret_bool hd.out.symm, by first | rfl | exact hW⟩
            | true =>
              by_cases hx : s = p2
              · rw [decide_eq_true hx] at hq
                have hd := Lib.hid (HNO.out (by rw [HE.out, decide_eq_true hx]; simp))
                clear hx HE HNO HYE
                go_wp2
                go_ret
                exact ⟨ret_bool hd.out.symm, by first | rfl | exact hW⟩
              · rw [decide_eq_false hx] at hq
                cases hS : Fd.textB s.data.toList with
                | false =>
                  rw [hS] at CS
                  have hd := Lib.hid (HNO.out (by rw [HE.out, hS]; rfl))
                  clear hx HE HNO HYE hS
                  go_wp2_with fail
                  refine (CS _).mono ?_
                  rintro e w' ⟨rfl, rfl⟩
                  go_wp2
                  go_ret
                  exact ⟨ret_bool hd.out.symm, by first | rfl | exact hW⟩
                | true =>
                  rw [hS] at CS
                  have hs := Lib.hid (HYE.out (by rw [HE.out, hS, decide_eq_false hx, hl, decide_eq_false h0]; rfl))
                  clear hx HE HNO HYE hS
                  go_wp2_with fail
                  refine (CS _).mono ?_
                  rintro e w' ⟨rfl, rfl⟩
                  go_wp2
                  go_round
                  case rel => exact ⟨k + 1, by omega, by go_num, hs.out⟩
                  case measure => simp [intOf]; omega
        · obtain rfl : k = n := by omega
          have hd : Hid (ans = true) := Lib.hid (by rw [HM.out]; exact more_true H.out.len HT.out)
          go_wp2
          go_ret
          exact ⟨ret_bool hd.out.symm, by first | rfl | exact hW⟩
end Go.Proofs.Ytlndhooiapomlaa.Kd
