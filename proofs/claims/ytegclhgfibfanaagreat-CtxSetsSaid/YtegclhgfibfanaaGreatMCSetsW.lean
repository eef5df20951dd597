/- CtxSets: the law's walk (gen-csets.py printed it). -/
import Derived.Test.YtegclhgfibfanaaGreatKD
namespace Go.Proofs.YtegclhgfibfanaaGreat.Cx
open Go.ChangeShapes Go.WideShapes Go.ChangeAt Go.RowKit
set_option linter.unusedVariables false

theorem sets_end (P : PCtx) (w : World) (A1 A2 : Option Addr) (a b : List Part) (n1 n2 c1 c2 : Nat) (ha : CtxAt w A1 a n1 c1) (hb : CtxAt w A2 b n2 c2) (h : ¬ (fewC a = true ∧ fewC b = true)) :
    Calls Tryz.prog 4 #[.slice A1 n1 c1, .slice A2 n2 c2] w fun e w' => e = .returned (.bool true) ∧ Below w.heap.size w w' := by
  have C1 := rfew_any w A1 a n1 c1 ha
  cases h1 : fewC a with
  | false =>
    rw [h1] at C1
    clear h ha hb
    go_enter Tryz.func4, Tryz.ntmps4
    go_wp2_with fail
    refine C1.mono ?_
    rintro e w1 ⟨rfl, b1⟩
    have HB := Lib.hid b1
    clear b1 C1
    go_wp2_with fail
    refine (works_any P _).mono ?_
    rintro e w2 ⟨rfl, b2⟩
    have HE : Hid (Below w.heap.size w w2) := Lib.hid (HB.out.trans (b2.mono HB.out.size))
    clear b2
    go_wp2
    go_ret
    exact ⟨rfl, HE.out⟩
  | true =>
    rw [h1] at C1
    have h2 : fewC b = false := by
      cases h2 : fewC b with
      | false => rfl
      | true => exact absurd ⟨h1, h2⟩ h
    have HB2 := Lib.hid hb
    clear h ha hb
    go_enter Tryz.func4, Tryz.ntmps4
    go_wp2_with fail
    refine C1.mono ?_
    rintro e w1 ⟨rfl, b1⟩
    have HB := Lib.hid b1
    have C2 := Lib.hid (rfew_any w1 A2 b n2 c2 (HB2.out.up b1))
    rw [h2] at C2
    clear b1 C1 HB2
    go_wp2_with fail
    refine C2.out.mono ?_
    rintro e w2 ⟨rfl, b2⟩
    have HD : Hid (Below w.heap.size w w2) := Lib.hid (HB.out.trans (b2.mono HB.out.size))
    clear b2 C2 HB
    go_wp2_with fail
    refine (works_any P _).mono ?_
    rintro e w3 ⟨rfl, b3⟩
    have HE : Hid (Below w.heap.size w w3) := Lib.hid (HD.out.trans (b3.mono HD.out.size))
    clear b3
    go_wp2
    go_ret
    exact ⟨rfl, HE.out⟩
/-- the document's Eq of what is the same. -/
theorem eq_true (w : World) (A1 A2 : Option Addr) (a : List Part) (n1 n2 c1 c2 : Nat) (h1 : CtxAt w A1 a n1 c1) (h2 : CtxAt w A2 a n2 c2) :
    Calls Tryz.prog 7 #[.slice A1 n1 c1, .slice A2 n2 c2] w fun e w' => e = .returned (.bool true) ∧ Below w.heap.size w w' :=
  (req_any w A1 A2 a a n1 n2 c1 c2 h1 h2 (few_small h1)).mono fun _ _ ⟨h3, h4⟩ => ⟨by rw [h3, decide_eq_true rfl], h4⟩
set_option maxHeartbeats 16000000 in
theorem sets_few (P : PCtx) (w : World) (A1 A2 : Option Addr) (a b : List Part) (n1 n2 c1 c2 : Nat) (ha : CtxAt w A1 a n1 c1) (hb : CtxAt w A2 b n2 c2) (f1 : fewC a = true) (f2 : fewC b = true) :
    Calls Tryz.prog 4 #[.slice A1 n1 c1, .slice A2 n2 c2] w fun e w' => e = .returned (.bool true) ∧ Below w.heap.size w w' := by
  have s1 := few_is f1
  have s2 := few_is f2
  have W1 : Wide 67108864 a := (small_wide s1).more (by decide)
  have W2 : Wide 67108864 b := (small_wide s2).more (by decide)
  have Ha0 := Lib.hid ha
  have Hb0 := Lib.hid hb
  clear ha hb
  obtain ⟨J, hJ⟩ : ∃ J, setC a b 0 = J := ⟨_, rfl⟩
  obtain ⟨M, hM⟩ : ∃ M, setC a b 1 = M := ⟨_, rfl⟩
  obtain ⟨X, hX⟩ : ∃ X, setC a b 2 = X := ⟨_, rfl⟩
  obtain ⟨u, hu⟩ : ∃ u, withinC a b = u := ⟨_, rfl⟩
  obtain ⟨v, hv⟩ : ∃ v, sameC a b = v := ⟨_, rfl⟩
  have C0 := Lib.hid (rfew_any w A1 a n1 c1 Ha0.out)
  rw [f1] at C0
  go_enter Tryz.func4, Tryz.ntmps4
  go_wp2_with fail
  refine C0.out.mono ?_
  rintro e w0 ⟨rfl, b0⟩
  have HW0 : Hid (Below w.heap.size w w0) := Lib.hid b0
  have Ha1 := Lib.hid (Ha0.out.up b0)
  have Hb1 := Lib.hid (Hb0.out.up b0)
  clear b0 C0 Ha0 Hb0
  have C2 := Lib.hid (rfew_any w0 A2 b n2 c2 Hb1.out)
  rw [f2] at C2
  go_wp2_with fail
  refine C2.out.mono ?_
  rintro e w2 ⟨rfl, b2⟩
  have HW2 : Hid (Below w.heap.size w w2) := Lib.hid (HW0.out.trans (b2.mono HW0.out.size))
  have Ha2 := Lib.hid (Ha1.out.up b2)
  have Hb2 := Lib.hid (Hb1.out.up b2)
  clear C2 b2 HW0 Ha1 Hb1
  have C3 := Lib.hid (P.join w2 A1 A2 a b n1 n2 c1 c2 Ha2.out Hb2.out W1 W2)
  rw [hJ] at C3
  go_wp2_with fail
  refine C3.out.mono ?_
  rintro e w3 ⟨A3, n3, c3, rfl, a3, b3⟩
  have HW3 : Hid (Below w.heap.size w w3) := Lib.hid (HW2.out.trans (b3.mono HW2.out.size))
  have Ha3 := Lib.hid (Ha2.out.up b3)
  have Hb3 := Lib.hid (Hb2.out.up b3)
  have Hp3 := Lib.hid a3
  clear a3
  clear C3 b3 HW2 Ha2 Hb2
  have C4 := Lib.hid ((rjoin_any w3 A1 A2 a b n1 n2 c1 c2 Ha3.out Hb3.out s1 s2).mono fun _ _ h => ctx_has h)
  rw [hJ] at C4
  go_wp2_with fail
  refine C4.out.mono ?_
  rintro e w4 ⟨A4, n4, c4, rfl, a4, b4⟩
  have HW4 : Hid (Below w.heap.size w w4) := Lib.hid (HW3.out.trans (b4.mono HW3.out.size))
  have Ha4 := Lib.hid (Ha3.out.up b4)
  have Hb4 := Lib.hid (Hb3.out.up b4)
  have Hp4 := Lib.hid (Hp3.out.up b4)
  have Hr4 := Lib.hid a4
  clear a4
  clear C4 b4 HW3 Ha3 Hb3 Hp3
  have C5 := Lib.hid (eq_true w4 A3 A4 J n3 n4 c3 c4 Hp4.out Hr4.out)
  go_wp2_with fail
  refine C5.out.mono ?_
  rintro e w5 ⟨rfl, b5⟩
  have HW5 : Hid (Below w.heap.size w w5) := Lib.hid (HW4.out.trans (b5.mono HW4.out.size))
  clear Hp4
  clear Hr4
  have Ha5 := Lib.hid (Ha4.out.up b5)
  have Hb5 := Lib.hid (Hb4.out.up b5)
  clear C5 b5 HW4 Ha4 Hb4
  have C6 := Lib.hid (P.meet w5 A1 A2 a b n1 n2 c1 c2 Ha5.out Hb5.out W1 W2)
  rw [hM] at C6
  go_wp2_with fail
  refine C6.out.mono ?_
  rintro e w6 ⟨A6, n6, c6, rfl, a6, b6⟩
  have HW6 : Hid (Below w.heap.size w w6) := Lib.hid (HW5.out.trans (b6.mono HW5.out.size))
  have Ha6 := Lib.hid (Ha5.out.up b6)
  have Hb6 := Lib.hid (Hb5.out.up b6)
  have Hp6 := Lib.hid a6
  clear a6
  clear C6 b6 HW5 Ha5 Hb5
  have C7 := Lib.hid ((rmeet_any w6 A1 A2 a b n1 n2 c1 c2 Ha6.out Hb6.out s1 s2).mono fun _ _ h => ctx_has h)
  rw [hM] at C7
  go_wp2_with fail
  refine C7.out.mono ?_
  rintro e w7 ⟨A7, n7, c7, rfl, a7, b7⟩
  have HW7 : Hid (Below w.heap.size w w7) := Lib.hid (HW6.out.trans (b7.mono HW6.out.size))
  have Ha7 := Lib.hid (Ha6.out.up b7)
  have Hb7 := Lib.hid (Hb6.out.up b7)
  have Hp7 := Lib.hid (Hp6.out.up b7)
  have Hr7 := Lib.hid a7
  clear a7
  clear C7 b7 HW6 Ha6 Hb6 Hp6
  have C8 := Lib.hid (eq_true w7 A6 A7 M n6 n7 c6 c7 Hp7.out Hr7.out)
  go_wp2_with fail
  refine C8.out.mono ?_
  rintro e w8 ⟨rfl, b8⟩
  have HW8 : Hid (Below w.heap.size w w8) := Lib.hid (HW7.out.trans (b8.mono HW7.out.size))
  clear Hp7
  clear Hr7
  have Ha8 := Lib.hid (Ha7.out.up b8)
  have Hb8 := Lib.hid (Hb7.out.up b8)
  clear C8 b8 HW7 Ha7 Hb7
  have C9 := Lib.hid (P.minus w8 A1 A2 a b n1 n2 c1 c2 Ha8.out Hb8.out W1 W2)
  rw [hX] at C9
  go_wp2_with fail
  refine C9.out.mono ?_
  rintro e w9 ⟨A9, n9, c9, rfl, a9, b9⟩
  have HW9 : Hid (Below w.heap.size w w9) := Lib.hid (HW8.out.trans (b9.mono HW8.out.size))
  have Ha9 := Lib.hid (Ha8.out.up b9)
  have Hb9 := Lib.hid (Hb8.out.up b9)
  have Hp9 := Lib.hid a9
  clear a9
  clear C9 b9 HW8 Ha8 Hb8
  have C10 := Lib.hid ((rminus_any w9 A1 A2 a b n1 n2 c1 c2 Ha9.out Hb9.out s1 s2).mono fun _ _ h => ctx_has h)
  rw [hX] at C10
  go_wp2_with fail
  refine C10.out.mono ?_
  rintro e w10 ⟨A10, n10, c10, rfl, a10, b10⟩
  have HW10 : Hid (Below w.heap.size w w10) := Lib.hid (HW9.out.trans (b10.mono HW9.out.size))
  have Ha10 := Lib.hid (Ha9.out.up b10)
  have Hb10 := Lib.hid (Hb9.out.up b10)
  have Hp10 := Lib.hid (Hp9.out.up b10)
  have Hr10 := Lib.hid a10
  clear a10
  clear C10 b10 HW9 Ha9 Hb9 Hp9
  have C11 := Lib.hid (eq_true w10 A9 A10 X n9 n10 c9 c10 Hp10.out Hr10.out)
  go_wp2_with fail
  refine C11.out.mono ?_
  rintro e w11 ⟨rfl, b11⟩
  have HW11 : Hid (Below w.heap.size w w11) := Lib.hid (HW10.out.trans (b11.mono HW10.out.size))
  clear Hp10
  clear Hr10
  have Ha11 := Lib.hid (Ha10.out.up b11)
  have Hb11 := Lib.hid (Hb10.out.up b11)
  clear C11 b11 HW10 Ha10 Hb10
  have C12 := Lib.hid (P.within w11 A1 A2 a b n1 n2 c1 c2 Ha11.out Hb11.out W1 W2)
  rw [hu] at C12
  go_wp2_with fail
  refine C12.out.mono ?_
  rintro e w12 ⟨rfl, b12⟩
  have HW12 : Hid (Below w.heap.size w w12) := Lib.hid (HW11.out.trans (b12.mono HW11.out.size))
  have Ha12 := Lib.hid (Ha11.out.up b12)
  have Hb12 := Lib.hid (Hb11.out.up b12)
  clear C12 b12 HW11 Ha11 Hb11
  have C13 := Lib.hid (rwithin_any w12 A1 A2 a b n1 n2 c1 c2 Ha12.out Hb12.out s1 s2)
  rw [hu] at C13
  go_wp2_with fail
  refine C13.out.mono ?_
  rintro e w13 ⟨rfl, b13⟩
  have HW13 : Hid (Below w.heap.size w w13) := Lib.hid (HW12.out.trans (b13.mono HW12.out.size))
  have Ha13 := Lib.hid (Ha12.out.up b13)
  have Hb13 := Lib.hid (Hb12.out.up b13)
  clear C13 b13 HW12 Ha12 Hb12
  have C14 := Lib.hid (P.same w13 A1 A2 a b n1 n2 c1 c2 Ha13.out Hb13.out W1 W2)
  rw [hv] at C14
  go_wp2_with fail
  refine C14.out.mono ?_
  rintro e w14 ⟨rfl, b14⟩
  have HW14 : Hid (Below w.heap.size w w14) := Lib.hid (HW13.out.trans (b14.mono HW13.out.size))
  have Ha14 := Lib.hid (Ha13.out.up b14)
  have Hb14 := Lib.hid (Hb13.out.up b14)
  clear C14 b14 HW13 Ha13 Hb13
  have C15 := Lib.hid (rsame_any w14 A1 A2 a b n1 n2 c1 c2 Ha14.out Hb14.out s1 s2)
  rw [hv] at C15
  go_wp2_with fail
  refine C15.out.mono ?_
  rintro e w15 ⟨rfl, b15⟩
  have HW15 : Hid (Below w.heap.size w w15) := Lib.hid (HW14.out.trans (b15.mono HW14.out.size))
  clear Ha14
  clear Hb14
  clear C15 b15 HW14
  have C16 := Lib.hid (works_any P w15)
  go_wp2_with fail
  refine C16.out.mono ?_
  rintro e w16 ⟨rfl, b16⟩
  have HW16 : Hid (Below w.heap.size w w16) := Lib.hid (HW15.out.trans (b16.mono HW15.out.size))
  clear C16 b16 HW15
  go_wp2
  go_ret
  exact ⟨rfl, HW16.out⟩
theorem sets_walk (P : PCtx) (w : World) (A1 A2 : Option Addr) (a b : List Part) (n1 n2 c1 c2 : Nat) (ha : CtxAt w A1 a n1 c1) (hb : CtxAt w A2 b n2 c2) :
    Calls Tryz.prog 4 #[.slice A1 n1 c1, .slice A2 n2 c2] w fun e w' => e = .returned (.bool true) ∧ Below w.heap.size w w' := by
  by_cases h : fewC a = true ∧ fewC b = true
  · exact sets_few P w A1 A2 a b n1 n2 c1 c2 ha hb h.1 h.2
  · exact sets_end P w A1 A2 a b n1 n2 c1 c2 ha hb h
end Go.Proofs.YtegclhgfibfanaaGreat.Cx
