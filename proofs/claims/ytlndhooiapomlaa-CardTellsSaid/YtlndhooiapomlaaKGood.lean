/- The contracts of the document's Good of layer field (a number), and of layer card. For every card. -/
import Derived.Test.YtlndhooiapomlaaKLines
namespace Go.Proofs.Ytlndhooiapomlaa.Kd
open Go.ChangeShapes Go.WideShapes Go.ChangeAt Go.RowKit
set_option linter.unusedVariables false

theorem rfield_any (w : World) (f : Nat) (hf : f < 256) : Calls Try.prog 25 #[.int .u8 (f : Int)] w fun e w' => e = .returned (.bool (Fd.goodB f)) ∧ w' = w := by
  by_cases h1 : 1 ≤ f
  · have d1 : decide (1 ≤ (f : Int)) = true := decide_eq_true (by omega)
    have HR : Hid (Fd.goodB f = decide ((f : Int) ≤ 5)) := Lib.hid (by unfold Fd.goodB; rw [Bool.eq_iff_iff]; simp; omega)
    go_enter Try.func25, Try.ntmps25
    go_wp2
    all_goals
      go_ret
      exact ⟨ret_bool HR.out.symm, rfl⟩
  · have d1 : decide (1 ≤ (f : Int)) = false := decide_eq_false (by omega)
    have HR : Hid (Fd.goodB f = false) := Lib.hid (decide_eq_false (by omega))
    go_enter Try.func25, Try.ntmps25
    go_wp2
    all_goals
      go_ret
      exact ⟨ret_bool HR.out.symm, rfl⟩

/-- may a line stand at a place? -/
def okL (l : List Ln) (k : Nat) : Bool :=
  match l[k]? with
  | none => true
  | some x => Fd.goodB x.1 && (decide (k = 0) || (match l[k - 1]? with | some y => decide (y.1 < x.1) | none => true)) && Fd.textB x.2.1.data.toList && moreB x.2.2 x.2.1
/-- may a card be? -/
def goodC (c : Crd) : Bool := (Dt.unpackD c.1).2 && decide (0 < c.2.length) && (List.range c.2.length).all (okL c.2)
theorem good_true {i : Nat} {l : List Ln} {n : Nat} (h0 : (Dt.unpackD i).2 = true) (hn : l.length = n) (hp : 0 < n) (h : ∀ j, j < n → okL l j = true) : goodC (i, l) = true := by
  have : (List.range l.length).all (okL l) = true := by
    rw [List.all_eq_true]
    intro j hj
    rw [List.mem_range, hn] at hj
    exact h j hj
  unfold goodC
  rw [h0, this, decide_eq_true (show 0 < l.length by omega)]; rfl
theorem good_false {i : Nat} {l : List Ln} {k : Nat} (hk : k < l.length) (h : okL l k = false) : goodC (i, l) = false := by
  have : (List.range l.length).all (okL l) = false := by
    rw [List.all_eq_false]
    exact ⟨k, List.mem_range.2 hk, by rw [h]; simp⟩
  unfold goodC
  rw [this, Bool.and_false]
theorem good_may {i : Nat} (l : List Ln) (h : (Dt.unpackD i).2 = false) : goodC (i, l) = false := by unfold goodC; rw [h, Bool.false_and, Bool.false_and]
theorem good_none (i : Nat) : goodC (i, []) = false := by unfold goodC; simp

/-- what a card's own box holds, in every world that keeps it. -/
theorem box_two (w : World) (v0 v1 : Value) (t : TypeId) (V : World) (hb : Below (w.heap.size + 1) (w.alloc (.cells #[v0, v1] t)) V) :
    V.cell? ⟨w.heap.size, 0, none⟩ = some v0 ∧ V.cell? ⟨w.heap.size, 1, none⟩ = some v1 :=
  ⟨(hb.cell (Nat.lt_succ_self _)).trans (by rw [World.cell?_alloc_mark]; rfl), (hb.cell (Nat.lt_succ_self _)).trans (by rw [World.cell?_alloc_mark]; rfl)⟩
theorem alloc_size (w : World) (o : Obj) : (w.alloc o).heap.size = w.heap.size + 1 := by simp

set_option maxHeartbeats 8000000 in
theorem rgoodc_any (w : World) (p : CV) (x : Crd) (h : CardIs w w.heap.size p x) :
    Calls Try.prog 8 #[p.val] w fun e w' => e = .returned (.bool (goodC x)) ∧ Below w.heap.size w w' := by
  obtain ⟨p0, A, n, c⟩ := p
  obtain ⟨x0, l⟩ := x
  have e1 : p0 = x0 := h.cid
  subst e1
  have hf : p0 < 18446744073709551616 := h.fit
  have H := Lib.hid h.lines
  have h63 : n ≤ 281474976710656 := Nat.le_trans h.lines.wide (by decide)
  clear h
  simp only [CV.val]
  have HB := Lib.hid (below_new w (.cells #[.int .u64 (p0 : Int), .slice A n c] 25))
  have HX := Lib.hid (box_two w (.int .u64 (p0 : Int)) (.slice A n c) 25)
  have CU := fun W => Dt.runpack_any W p0 hf
  generalize hd1 : (Dt.unpackD p0).1.1 = d1 at CU
  generalize hd2 : (Dt.unpackD p0).1.2 = d2 at CU
  clear hd1 hd2
  have HA : Hid (∀ V, Below (w.heap.size + 1) (w.alloc (.cells #[.int .u64 (p0 : Int), .slice A n c] 25)) V → Below (w.heap.size + 1) (w.alloc (.cells #[.int .u64 (p0 : Int), .slice A n c] 25)) (V.alloc (.cells #[.int .u16 (d1 : Int), .int .u64 (d2 : Int)] 45))) := Lib.hid (fun V hV => hV.alloc (by have := hV.size; rw [alloc_size] at this; exact this) _)
  cases hu : (Dt.unpackD p0).2 with
  | false =>
    rw [good_may l hu]
    rw [hu] at CU
    clear hu
    go_enter Try.func8, Try.ntmps8
    go_wp2_with fail
    refine (CU _).mono ?_
    rintro e w' ⟨rfl, hb⟩
    have HW := Lib.hid (HB.out.trans ((HA.out w' (by rw [alloc_size] at hb; exact hb)).mono (Nat.le_succ _)))
    clear hb
    go_wp2
    go_ret
    exact ⟨rfl, HW.out⟩
  | true =>
    rw [hu] at CU
    by_cases hn : n = 0
    · subst hn
      obtain rfl := List.eq_nil_of_length_eq_zero H.out.len
      rw [good_none]
      clear hu
      go_enter Try.func8, Try.ntmps8
      go_wp2_with fail
      refine (CU _).mono ?_
      rintro e w' ⟨rfl, hb⟩
      have HV := Lib.hid (HA.out w' (by rw [alloc_size] at hb; exact hb))
      obtain ⟨k1, k2⟩ := HX.out _ HV.out
      have HW := Lib.hid (HB.out.trans (HV.out.mono (Nat.le_succ _)))
      clear hb
      go_wp2
      go_ret
      exact ⟨rfl, HW.out⟩
    · have hz : ((n : Int) == 0) = false := by rw [beq_eq_false_iff_ne]; omega
      have HU := Lib.hid hu
      clear hu
      go_enter Try.func8, Try.ntmps8
      go_wp2_with fail
      refine (CU _).mono ?_
      rintro e w2 ⟨rfl, hb⟩
      have HV := Lib.hid (HA.out w2 (by rw [alloc_size] at hb; exact hb))
      obtain ⟨k1, k2⟩ := HX.out _ HV.out
      clear hb
      go_wp2_with fail
      generalize w2.alloc (.cells #[.int .u16 (d1 : Int), .int .u64 (d2 : Int)] 45) = W at HV k1 k2 ⊢
      go_loopw [5] (fun i wr => ∃ k : Nat, k ≤ n ∧ i = .int .i64 (k : Int) ∧ (∀ j, j < k → okL l j = true) ∧ Below (w.heap.size + 1) (w.alloc (.cells #[.int .u64 (p0 : Int), .slice A n c] 25)) wr) (fun i _ => n - (intOf i).toNat)
      case atStart => exact ⟨0, Nat.zero_le _, rfl, fun j hj => by omega, HV.out⟩
      case round =>
        clear k1 k2 HV
        obtain ⟨k, hk, rfl, ht, hw⟩ := hrel
        have HT := Lib.hid ht
        have HV := Lib.hid hw
        obtain ⟨k1, k2⟩ := HX.out _ hw
        have hsz : w.heap.size + 1 ≤ wr.heap.size := by have := hw.size; rw [alloc_size] at this; exact this
        have HL : Hid (LinesAt wr w.heap.size A l n c) := Lib.hid (H.out.below (HB.out.trans (hw.mono (Nat.le_succ _))))
        clear ht hw
        by_cases hlt : k < n
        · obtain ⟨ad, q, x, rfl, hadb, hlx, hp, c1, c2, c3⟩ := HL.out.line hlt
          obtain ⟨x1, x2, x3⟩ := x
          obtain ⟨q1, q2, qA, qn, qc⟩ := q
          have hx1 : x1 < 256 := hp.fit
          have hsh : Short x2 := hp.short
          have HM := Lib.hid hp.more
          simp only at c1 c2 c3 HM
          have hkl : k < l.length := by rw [H.out.len]; exact hlt
          have HE : Hid (okL l k = (Fd.goodB x1 && (decide (k = 0) || (match l[k - 1]? with | some y => decide (y.1 < x1) | none => true)) && Fd.textB x2.data.toList && moreB x3 x2)) := Lib.hid (by unfold okL; rw [hlx])
          have HV2 := Lib.hid (HV.out.alloc hsz (.cells #[.int .u8 (x1 : Int), .string x2, .slice qA qn qc] 28))
          have HN := Lib.hid (below_new wr (.cells #[.int .u8 (x1 : Int), .string x2, .slice qA qn qc] 28))
          have b1 : (wr.alloc (.cells #[.int .u8 (x1 : Int), .string x2, .slice qA qn qc] 28)).cell? ⟨wr.heap.size, 0, none⟩ = some (.int .u8 (x1 : Int)) := by rw [World.cell?_alloc_mark]; rfl
          have b2 : (wr.alloc (.cells #[.int .u8 (x1 : Int), .string x2, .slice qA qn qc] 28)).cell? ⟨wr.heap.size, 1, none⟩ = some (.string x2) := by rw [World.cell?_alloc_mark]; rfl
          have b3 : (wr.alloc (.cells #[.int .u8 (x1 : Int), .string x2, .slice qA qn qc] 28)).cell? ⟨wr.heap.size, 2, none⟩ = some (.slice qA qn qc) := by rw [World.cell?_alloc_mark]; rfl
          have HL2 := Lib.hid (HL.out.below (HN.out.mono (by omega)))
          have CG := fun m => rfield_any ((wr.alloc (.cells #[.int .u8 (x1 : Int), .string x2, .slice qA qn qc] 28)).drewN m) x1 hx1
          have CT := fun m => Fd.rtext_any x2 ((wr.alloc (.cells #[.int .u8 (x1 : Int), .string x2, .slice qA qn qc] 28)).drewN m) (by unfold Short at hsh; omega)
          have CM := fun m => rmore_any ((wr.alloc (.cells #[.int .u8 (x1 : Int), .string x2, .slice qA qn qc] 28)).drewN m) w.heap.size qA x3 x2 qn qc ((HM.out.below (HN.out.mono (by omega))).below (below_drewN _ _ _))
          obtain ⟨k3, k4⟩ := HX.out _ HV2.out
          clear hlx hp hsh
          go_wp2_with fail
          clear k1 k2 c1 c2 c3 HN HM HL HV
          generalize wr.alloc (.cells #[.int .u8 (x1 : Int), .string x2, .slice qA qn qc] 28) = V at *
          cases hG : Fd.goodB x1 with
          | false =>
            have hok : okL l k = false := by rw [HE.out, hG]; rfl
            rw [hG] at CG
            clear hG
            have hd : Hid (goodC (p0, l) = false) := good_false hkl hok
            clear hok HE
            go_wp2_with fail
            go_quiet ((first
              | (go_at_call 25; exact Calls.quiet_of_same (CG _))
              | (go_at_call 26; exact Calls.quiet_of_same (CT _))
              | (go_at_call 27; exact Calls.quiet_of (CM _))))
            go_wp2
            go_ret
            exact ⟨ret_bool hd.out.symm, HB.out.trans ((bel_drewN HV2.out _).mono (Nat.le_succ _))⟩
          | true =>
            rw [hG] at CG
            by_cases h0 : k = 0
            · subst h0
              cases hT : Fd.textB x2.data.toList with
              | false =>
                have hok : okL l 0 = false := by rw [HE.out, hG, decide_eq_true (rfl : (0 : Nat) = 0), Bool.true_or, hT]; rfl
                rw [hT] at CT
                clear hT
                have hd : Hid (goodC (p0, l) = false) := good_false hkl hok
                clear hok HE
                go_wp2_with fail
                go_quiet ((first
                  | (go_at_call 25; exact Calls.quiet_of_same (CG _))
                  | (go_at_call 26; exact Calls.quiet_of_same (CT _))
                  | (go_at_call 27; exact Calls.quiet_of (CM _))))
                go_wp2
                go_ret
                exact ⟨ret_bool hd.out.symm, HB.out.trans ((bel_drewN HV2.out _).mono (Nat.le_succ _))⟩
              | true =>
                rw [hT] at CT
                cases hM : moreB x3 x2 with
                | false =>
                  have hok : okL l 0 = false := by rw [HE.out, hG, decide_eq_true (rfl : (0 : Nat) = 0), Bool.true_or, hT, hM]; rfl
                  rw [hM] at CM
                  clear hT hM
                  have hd : Hid (goodC (p0, l) = false) := good_false hkl hok
                  clear hok HE
                  go_wp2_with fail
                  go_quiet ((first
                    | (go_at_call 25; exact Calls.quiet_of_same (CG _))
                    | (go_at_call 26; exact Calls.quiet_of_same (CT _))
                    | (go_at_call 27; exact Calls.quiet_of (CM _))))
                  go_wp2
                  go_ret
                  exact ⟨ret_bool hd.out.symm, HB.out.trans ((bel_drewN HV2.out _).mono (Nat.le_succ _))⟩
                | true =>
                  have hok : okL l 0 = true := by rw [HE.out, hG, decide_eq_true (rfl : (0 : Nat) = 0), Bool.true_or, hT, hM]; rfl
                  rw [hM] at CM
                  clear hT hM
                  have hs : Hid (∀ j, j < 0 + 1 → okL l j = true) := fun j hj => by
                    obtain rfl : j = 0 := by omega
                    exact hok
                  clear hok HE
                  go_wp2_with fail
                  go_quiet ((first
                    | (go_at_call 25; exact Calls.quiet_of_same (CG _))
                    | (go_at_call 26; exact Calls.quiet_of_same (CT _))
                    | (go_at_call 27; exact Calls.quiet_of (CM _))))
                  go_wp2
                  go_roundw
                  case rel => exact ⟨1, by omega, rfl, hs.out, bel_drewN HV2.out _⟩
                  case measure => simp [intOf]; omega
            · have hd0 : decide (0 < k) = true := decide_eq_true (by omega)
              obtain ⟨ad2, q2, y, e2, _, hly, _, d1, _⟩ := HL2.out.line (k := k - 1) (by omega)
              obtain rfl := Option.some.inj e2
              have hw1 : IntKind.i64.wrap ((k : Int) - 1) = (k : Int) - 1 := IntWalk.i64_in _ (by omega)
              have hw2 : 1 ≤ (k : Int) := by omega
              have hw3 : 0 ≤ (k : Int) - 1 := by omega
              have hw4 : ((k : Int) - 1).toNat = k - 1 := by omega
              have hw5 : k - 1 < n := by omega
              have hw6 : (k : Int) - 1 < (n : Int) := by omega
              have hw7 : 0 < k := by omega
              have hw8 : 1 ≤ k := by omega
              obtain ⟨y1, y2, y3⟩ := y
              simp only at d1
              by_cases hyx : y1 < x1
              · have hge : decide (x1 ≤ y1) = false := decide_eq_false (by omega)
                have hlt' : decide (y1 < x1) = true := decide_eq_true hyx
                have HE2 : Hid (okL l k = (Fd.goodB x1 && (decide (k = 0) || decide (y1 < x1)) && Fd.textB x2.data.toList && moreB x3 x2)) := Lib.hid (by rw [HE.out, hly])
                clear hly HE
                have HE := HE2
                clear HE2
                cases hT : Fd.textB x2.data.toList with
                | false =>
                  have hok : okL l k = false := by rw [HE.out, hG, decide_eq_false h0, hlt', hT]; rfl
                  rw [hT] at CT
                  clear hT
                  have hd : Hid (goodC (p0, l) = false) := good_false hkl hok
                  clear hok HE
                  go_wp2_with fail
                  go_quiet ((first
                    | (go_at_call 25; exact Calls.quiet_of_same (CG _))
                    | (go_at_call 26; exact Calls.quiet_of_same (CT _))
                    | (go_at_call 27; exact Calls.quiet_of (CM _))))
                  go_wp2
                  go_ret
                  exact ⟨ret_bool hd.out.symm, HB.out.trans ((bel_drewN HV2.out _).mono (Nat.le_succ _))⟩
                | true =>
                  rw [hT] at CT
                  cases hM : moreB x3 x2 with
                  | false =>
                    have hok : okL l k = false := by rw [HE.out, hG, decide_eq_false h0, hlt', hT, hM]; rfl
                    rw [hM] at CM
                    clear hT hM
                    have hd : Hid (goodC (p0, l) = false) := good_false hkl hok
                    clear hok HE
                    go_wp2_with fail
                    go_quiet ((first
                      | (go_at_call 25; exact Calls.quiet_of_same (CG _))
                      | (go_at_call 26; exact Calls.quiet_of_same (CT _))
                      | (go_at_call 27; exact Calls.quiet_of (CM _))))
                    go_wp2
                    go_ret
                    exact ⟨ret_bool hd.out.symm, HB.out.trans ((bel_drewN HV2.out _).mono (Nat.le_succ _))⟩
                  | true =>
                    have hok : okL l k = true := by rw [HE.out, hG, decide_eq_false h0, hlt', hT, hM]; rfl
                    rw [hM] at CM
                    clear hT hM
                    have hs : Hid (∀ j, j < k + 1 → okL l j = true) := fun j hj => by
                      rcases Nat.lt_succ_iff_lt_or_eq.1 hj with h | rfl
                      · exact HT.out j h
                      · exact hok
                    clear hok HE
                    go_wp2_with fail
                    go_quiet ((first
                      | (go_at_call 25; exact Calls.quiet_of_same (CG _))
                      | (go_at_call 26; exact Calls.quiet_of_same (CT _))
                      | (go_at_call 27; exact Calls.quiet_of (CM _))))
                    go_wp2
                    go_roundw
                    case rel => exact ⟨k + 1, by omega, by go_num, hs.out, bel_drewN HV2.out _⟩
                    case measure => simp [intOf]; omega
              · have hge : decide (x1 ≤ y1) = true := decide_eq_true (by omega)
                have hok : okL l k = false := by rw [HE.out, hly, hG, decide_eq_false h0]; simp [hyx]
                clear hly
                have hd : Hid (goodC (p0, l) = false) := good_false hkl hok
                clear hok HE
                go_wp2_with fail
                go_quiet ((first
                  | (go_at_call 25; exact Calls.quiet_of_same (CG _))
                  | (go_at_call 26; exact Calls.quiet_of_same (CT _))
                  | (go_at_call 27; exact Calls.quiet_of (CM _))))
                go_wp2
                go_ret
                exact ⟨ret_bool hd.out.symm, HB.out.trans ((bel_drewN HV2.out _).mono (Nat.le_succ _))⟩
        · obtain rfl : k = n := by omega
          have hd : Hid (goodC (p0, l) = true) := good_true HU.out H.out.len (by omega) HT.out
          go_wp2
          go_ret
          exact ⟨ret_bool hd.out.symm, HB.out.trans (HV.out.mono (Nat.le_succ _))⟩
end Go.Proofs.Ytlndhooiapomlaa.Kd
