/- Proved: epitaphlaw01.ShiftRound returns true and leaves its arguments as they were: layer shift's turns of a number come to the same in both orders, by 64 places nothing turns, sixty-four turns by a number turn back, and no bit is lost, whatever the input. Conditions: none. -/
import Derived.Test.YtgmpdmcjfphjfaaRows
import Derived.WalkKit
import Derived.ProofKit
import Derived.OpenShut
import Derived.Test.YtgmpdmcjfphjfaaShift
namespace Go.Proofs.Ytgmpdmcjfphjfaa.shiftRound
open Go.ChangeShapes Go.WideShapes Go.ChangeAt Go.RowKit
set_option linter.unusedVariables false      -- a walk need not use every 'w<i>' (that an integer argument fits its kind)

theorem own : ownKnob Try.prog.godebug = none := by kernel_rfl


theorem trn_range (v n : Int) (h0 : 0 ≤ v) (h1 : v < 18446744073709551616) : 0 ≤ Sh.trn v n ∧ Sh.trn v n < 18446744073709551616 := Sh.rotN_range _ v h0 h1

theorem turn_swap (v a b : Int) (w : World) (h0 : 0 ≤ v) (h1 : v < 18446744073709551616) (a0 : -9223372036854775808 ≤ a) (a1 : a ≤ 9223372036854775807) :
    Calls Try.prog 20 #[.int .u64 (Sh.trn v b), .int .i64 a] w fun e w' => e = .returned (.int .u64 (Sh.trn (Sh.trn v a) b)) ∧ w = w' :=
  (Sh.turn_any _ _ w (trn_range v b h0 h1).1 (trn_range v b h0 h1).2 a0 a1).mono fun _ _ h => ⟨h.1.trans (Sh.ret_int (Sh.rotN_comm _ _ v)), h.2⟩

theorem turn_64 (v : Int) (w : World) (h0 : 0 ≤ v) (h1 : v < 18446744073709551616) :
    Calls Try.prog 20 #[.int .u64 v, .int .i64 64] w fun e w' => e = .returned (.int .u64 v) ∧ w = w' :=
  (Sh.turn_any _ _ w h0 h1 (by decide) (by decide)).mono fun _ _ h => ⟨h.1.trans (Sh.ret_int rfl), h.2⟩

theorem not_u64 (v : Int) (h0 : 0 ≤ v) (h1 : v < 18446744073709551616) : bits BinOp.xor IntKind.u64 IntKind.u64.max v = 18446744073709551615 - v := by
  rw [show IntKind.u64.max = 18446744073709551615 from rfl, u64_xor _ v (by decide) (by decide) h0 h1, Nat.xor_comm,
    show (18446744073709551615 : Int).toNat = 18446744073709551615 from rfl, Sh.xor_ones _ (by omega)]
  omega

theorem turn_not (v a : Int) (w : World) (h0 : 0 ≤ v) (h1 : v < 18446744073709551616) (a0 : -9223372036854775808 ≤ a) (a1 : a ≤ 9223372036854775807) :
    Calls Try.prog 20 #[.int .u64 (bits BinOp.xor IntKind.u64 IntKind.u64.max v), .int .i64 a] w fun e w' => e = .returned (.int .u64 (18446744073709551615 - Sh.trn v a)) ∧ w = w' := by
  rw [not_u64 v h0 h1]
  exact (Sh.turn_any _ _ w (by omega) (by omega) a0 a1).mono fun _ _ h => ⟨h.1.trans (Sh.ret_int (Sh.rotN_not _ v h0 h1)), h.2⟩

/-- One turn more. -/
theorem turn_more (v a : Int) (m k : Nat) (hm : m = (a % 64).toNat) (w : World) (h0 : 0 ≤ v) (h1 : v < 18446744073709551616) (a0 : -9223372036854775808 ≤ a) (a1 : a ≤ 9223372036854775807) :
    Calls Try.prog 20 #[.int .u64 (Sh.rotN (k * m) v), .int .i64 a] w fun e w' => e = .returned (.int .u64 (Sh.rotN ((k + 1) * m) v)) ∧ w = w' :=
  (Sh.turn_any _ _ w (Sh.rotN_range _ v h0 h1).1 (Sh.rotN_range _ v h0 h1).2 a0 a1).mono fun _ _ h => ⟨h.1.trans (Sh.ret_int (by
    unfold Sh.trn
    rw [← hm, ← Sh.rotN_add, Nat.succ_mul, Nat.add_comm])), h.2⟩

/-! ### STEP 1: THE WALK: the Go text returns true. 'Grown w w'': the world has at most new blocks (Derived/RowKit3.lean). Part the cases AHEAD of 'go_enter' where a test parts the walk; take each callee by a contract of your own. -/
set_option maxHeartbeats 800000 in
theorem walk (a0 : Int) (a1 : Int) (a2 : Int) (w0 : (Lit.int .u64 a0).wf = true) (w1 : (Lit.int .i64 a1).wf = true) (w2 : (Lit.int .i64 a2).wf = true) (w : World) :
    Calls Try.prog 6 #[.int .u64 a0, .int .i64 a1, .int .i64 a2] w fun e w' => e = .returned (.bool true) ∧ Grown w w' := by
  obtain ⟨v0, v1⟩ := Sh.wf_u64 w0
  obtain ⟨n0, n1⟩ := Sh.wf_i64 w1
  obtain ⟨s0, s1⟩ := Sh.wf_i64 w2
  clear w0 w1 w2
  obtain ⟨m, hm⟩ : ∃ m : Nat, m = (a1 % 64).toNat := ⟨_, rfl⟩
  have HM := Lib.hid hm
  clear hm
  obtain ⟨t0, t1⟩ := trn_range a0 a1 v0 v1
  obtain ⟨u0, u1⟩ := trn_range a0 a2 v0 v1
  go_enter Try.func6, Try.ntmps6
  go_wp2_with fail
  refine (Sh.turn_any _ _ _ v0 v1 n0 n1).mono ?_; rintro e w' ⟨rfl, rfl⟩
  go_wp2_with fail
  go_loop [7, 8] (fun s t => ∃ k : Nat, k ≤ 63 ∧ t = .int .i64 k ∧ s = .int .u64 (Sh.rotN ((k + 1) * m) a0)) (fun _ t => 63 - (intOf t).toNat)
  case atStart => exact ⟨0, by omega, rfl, by rw [Nat.zero_add, Nat.one_mul, HM.out]; rfl⟩
  case round =>
    obtain ⟨k, hk, rfl, rfl⟩ := hrel
    by_cases hlt : k < 63
    · go_wp2_with fail
      refine (turn_more _ _ _ _ HM.out _ v0 v1 n0 n1).mono ?_; rintro e w' ⟨rfl, rfl⟩
      go_wp2_with fail
      go_round
      case rel => exact ⟨k + 1, by omega, by go_num, rfl⟩
      case measure => simp [intOf]; omega
    · obtain rfl : k = 63 := by omega
      have e64 : Sh.rotN ((63 + 1) * m) a0 = a0 := Sh.rotN_64mul m a0 v0 v1
      rw [e64]
      clear e64 hk hlt
      go_wp2_with fail
      refine (Sh.turn_any _ _ _ v0 v1 n0 n1).mono ?_; rintro e w' ⟨rfl, rfl⟩
      go_wp2_with fail
      refine (Sh.turn_any _ _ _ t0 t1 s0 s1).mono ?_; rintro e w' ⟨rfl, rfl⟩
      go_wp2_with fail
      refine (Sh.turn_any _ _ _ v0 v1 s0 s1).mono ?_; rintro e w' ⟨rfl, rfl⟩
      go_wp2_with fail
      refine (turn_swap _ _ _ _ v0 v1 n0 n1).mono ?_; rintro e w' ⟨rfl, rfl⟩
      go_wp2_with fail
      refine (turn_64 _ _ v0 v1).mono ?_; rintro e w' ⟨rfl, rfl⟩
      go_wp2_with fail
      refine (Sh.turn_any _ _ _ v0 v1 n0 n1).mono ?_; rintro e w' ⟨rfl, rfl⟩
      go_wp2_with fail
      refine (turn_not _ _ _ v0 v1 n0 n1).mono ?_; rintro e w' ⟨rfl, rfl⟩
      have hx : (bits .xor .u64 (Sh.trn a0 a1) (18446744073709551615 - Sh.trn a0 a1) == 18446744073709551615) = true := by
        rw [Sh.xor_not_u64 _ t0 t1]; rfl
      go_wp2_with fail
      refine (Sh.works_any _).mono ?_; rintro e w' ⟨rfl, rfl⟩
      go_wp2_with fail
      go_ret
      exact ⟨rfl, Grown.refl _⟩

/-! ### THE ROW's STEP: WRITTEN OUT: LEAVE IT -/
set_option maxRecDepth 100000 in
theorem lifted (os : Os) (started : os.Started) (H : Type) (enc : TypeId × Value → H) :
    ReturnsInHanded {} Try.checked os 6 .any (Rows.shiftRoundSpec.pre6 enc Try.prog Try.f6 Rows.shiftRoundRow.domain false) (Rows.shiftRoundSpec.post enc Try.prog Try.f6 false true false false) := by
  refine returnsInHanded_of_change (C := Try.checked) own started (by kernel_rfl) Try.func6
    (ChangeSpec.witness6 (enc := enc) (C := Try.checked) false ⟨#[], #[.int .u64 0, .int .i64 0, .int .i64 0], []⟩ 8 (by kernel_rfl) (by kernel_rfl) (by kernel_rfl) (by kernel_rfl)) ?_
  intro W base args ds gs before hval0 hW hcnd _
  have hval : ∀ (j : Nat) t v, Try.f6.params[j]? = some t → args[j]? = some v → Value.okWide Try.prog W .any base t v := hval0
  have hW' := hW
  obtain ⟨p, q, hA0, hV, rfl, hfz, hnd⟩ := hW
  have hA : DataW.TrodAll enc Try.prog W 0 (fun _ => true) true Try.f6.params.toList args.toList ds p := hA0
  rw [Try.params6] at hA hval
  obtain ⟨v0, vs0, d0, ds0, p0, q0, hargs, rfl, rfl, h0, r0⟩ := trodAll_cons hA
  obtain ⟨v1, vs1, d1, ds1, p1, q1, rfl, rfl, rfl, h1, r1⟩ := trodAll_cons r0
  obtain ⟨v2, vs2, d2, ds2, p2, q2, rfl, rfl, rfl, h2, r2⟩ := trodAll_cons r1
  obtain ⟨rfl, rfl, rfl⟩ := trodAll_nil r2
  obtain rfl : args = #[v0, v1, v2] := by cases args; simp_all
  obtain ⟨rfl, rfl⟩ := trodVars_none hV
  obtain ⟨a0, rfl, rfl, rfl, w0⟩ := open_int Try.underlying23 (hval 0 23 v0 rfl rfl) h0
  obtain ⟨a1, rfl, rfl, rfl, w1⟩ := open_int Try.underlying3 (hval 1 3 v1 rfl rfl) h1
  obtain ⟨a2, rfl, rfl, rfl, w2⟩ := open_int Try.underlying3 (hval 2 3 v2 rfl rfl) h2
  clear hA0 hval0
  simp only [List.append_nil] at hW'
  refine (walk a0 a1 a2 w0 w1 w2 W).mono fun e W' ⟨he, hg⟩ => ?_
  subst he
  exact ⟨_, rfl, post_of_same (pa := []) (pv := []) hW' (fun _ _ _ => (trodAll_cons_mk (shut_bool Try.underlying4 _) trodAll_mk0)) (fun sp _ => (trodAll_cons_mk (shut_int Try.underlying23 w0) (trodAll_cons_mk (shut_int Try.underlying3 w1) (trodAll_cons_mk (shut_int Try.underlying3 w2) trodAll_mk0)))) (fun _ _ => rfl) rfl
    (hg.frame _) hg.2.1 (ok_one (by kernel_rfl) rfl (okWide_bool_mk Try.underlying4 _))⟩

theorem over : Rows.shiftRoundRow.holds Try.pinned (OpenSpec.ofChange Rows.shiftRoundSpec) :=
  OpenClaim.holds_of_wide 6 Try.f6 rfl rfl rfl rfl rfl rfl rfl ⟨rfl, rfl, rfl, rfl, rfl⟩ rfl rfl rfl rfl rfl (by kernel_rfl) Try.func6 (by kernel_rfl)
    (of_decide_eq_true (by kernel_rfl)) (by unfold Func.isWrapper; first | (rw [if_pos (by decide +kernel)]; kernel_rfl) | (rw [if_neg (by decide +kernel)]; exact ⟨rfl, rfl⟩))
    (fun os started H enc _ => lifted os started H enc)

/-- ████ THE STATEMENT ████ -/
theorem proved : Rows.ShiftRoundSaid :=
  over
#print axioms proved
end Go.Proofs.Ytgmpdmcjfphjfaa.shiftRound
