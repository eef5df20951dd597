/- Proved: epitaphlaw01.ShiftBack returns true and leaves its arguments as they were: what layer shift packs it splits and what it splits it packs, what it folds it unfolds and the other way, and a number is its bytes, whatever the input. Conditions: none. -/
import Derived.Test.YtgmpdmcjfphjfaaRows
import Derived.WalkKit
import Derived.ProofKit
import Derived.OpenShut
import Derived.Test.YtgmpdmcjfphjfaaShift
namespace Go.Proofs.Ytgmpdmcjfphjfaa.shiftBack
open Go.ChangeShapes Go.WideShapes Go.ChangeAt Go.RowKit
set_option linter.unusedVariables false      -- a walk need not use every 'w<i>' (that an integer argument fits its kind)

theorem own : ownKnob Try.prog.godebug = none := by kernel_rfl


theorem low_step (v : Int) (k : Nat) (hk : k < 8) : Sh.wth (v % 2 ^ (8 * k)) k (Sh.byt v k) = v % 2 ^ (8 * (k + 1)) := by
  unfold Sh.wth Sh.byt
  rw [if_pos (by omega), if_pos (by omega), show ((k : Int) * 8).toNat = 8 * k from by omega, show 8 * (k + 1) = 8 * k + 8 from by omega, Int.pow_add,
    show (2 : Int) ^ 8 = 256 from rfl]
  have hp := Sh.pow_pos' (8 * k)
  generalize (2 : Int) ^ (8 * k) = p at *
  have h0 := Int.emod_nonneg v (Int.ne_of_gt hp)
  have h1 := Int.emod_lt_of_pos v hp
  rw [Int.ediv_eq_zero_of_lt h0 h1, Int.emod_emod]
  have e1 := Int.emod_add_mul_ediv v p
  have e2 := Int.emod_add_mul_ediv v (p * 256)
  rw [← Int.ediv_ediv_of_nonneg (Int.le_of_lt hp)] at e2
  have e3 := Int.emod_add_mul_ediv (v / p) 256
  have e4 : p * (v / p) = v / p % 256 * p + p * 256 * (v / p / 256) := by
    have : v / p = v / p % 256 + 256 * (v / p / 256) := by omega
    have h5 : p * (v / p) = p * (v / p % 256 + 256 * (v / p / 256)) := congrArg (p * ·) this
    rw [Int.mul_add, Int.mul_comm p (v / p % 256), ← Int.mul_assoc] at h5
    exact h5
  have e5 : ((0 : Int) / 256 * 256 + v / p % 256) * p = v / p % 256 * p := by simp
  rw [e5]
  omega

theorem split_pack (d v : Int) (w : World) (hd0 : 0 ≤ d) (hd1 : d < 65536) (h0 : 0 ≤ v) (h1 : v < 18446744073709551616) :
    Calls Try.prog 7 #[.int .u64 (d * 281474976710656 + v % 281474976710656)] w fun e w' => e = .returned (.tuple #[.int .u16 d, .int .u64 (v % 281474976710656)]) ∧ w = w' :=
  (Sh.split_any _ w (by omega) (by omega)).mono fun _ _ h => ⟨h.1.trans (by
    rw [show (d * 281474976710656 + v % 281474976710656) / 281474976710656 = d from by omega, show (d * 281474976710656 + v % 281474976710656) % 281474976710656 = v % 281474976710656 from by omega]), h.2⟩

theorem pack_split (v : Int) (w : World) (h0 : 0 ≤ v) (h1 : v < 18446744073709551616) :
    Calls Try.prog 9 #[.int .u16 (v / 281474976710656), .int .u64 (v % 281474976710656)] w fun e w' => e = .returned (.int .u64 v) ∧ w = w' :=
  (Sh.pack_any _ _ w (by omega) (by omega) (by omega) (by omega)).mono fun _ _ h => ⟨h.1.trans (Sh.ret_int (by omega)), h.2⟩

theorem unfold_fold (s : Int) (w : World) (s0 : -9223372036854775808 ≤ s) (s1 : s ≤ 9223372036854775807) :
    Calls Try.prog 24 #[.int .u64 (Sh.fld s)] w fun e w' => e = .returned (.int .i64 s) ∧ w = w' :=
  (Sh.unfold_any _ w (Sh.fld_range s s0 s1).1 (Sh.fld_range s s0 s1).2).mono fun _ _ h => ⟨h.1.trans (Sh.ret_int (Sh.unf_fld s)), h.2⟩

theorem fold_unfold (v : Int) (w : World) (h0 : 0 ≤ v) (h1 : v < 18446744073709551616) :
    Calls Try.prog 22 #[.int .i64 (Sh.unf v)] w fun e w' => e = .returned (.int .u64 v) ∧ w = w' :=
  (Sh.fold_any _ w (Sh.unf_range v h0 h1).1 (Sh.unf_range v h0 h1).2).mono fun _ _ h => ⟨h.1.trans (Sh.ret_int (Sh.fld_unf v h0)), h.2⟩

theorem low_range (v : Int) (k : Nat) (h0 : 0 ≤ v) (h1 : v < 18446744073709551616) : 0 ≤ v % 2 ^ (8 * k) ∧ v % 2 ^ (8 * k) < 18446744073709551616 := by
  have a := Int.emod_nonneg v (Int.ne_of_gt (Sh.pow_pos' (8 * k)))
  have b : v % 2 ^ (8 * k) ≤ v := by
    have e := Int.emod_add_mul_ediv v (2 ^ (8 * k))
    have q : 0 ≤ 2 ^ (8 * k) * (v / 2 ^ (8 * k)) := Int.mul_nonneg (Int.le_of_lt (Sh.pow_pos' _)) (Int.ediv_nonneg h0 (Int.le_of_lt (Sh.pow_pos' _)))
    omega
  omega

/-! ### STEP 1: THE WALK: the Go text returns true. 'Grown w w'': the world has at most new blocks (Derived/RowKit3.lean). Part the cases AHEAD of 'go_enter' where a test parts the walk; take each callee by a contract of your own. -/
set_option maxHeartbeats 800000 in
theorem walk (a0 : Int) (a1 : Int) (a2 : Int) (w0 : (Lit.int .u16 a0).wf = true) (w1 : (Lit.int .u64 a1).wf = true) (w2 : (Lit.int .i64 a2).wf = true) (w : World) :
    Calls Try.prog 5 #[.int .u16 a0, .int .u64 a1, .int .i64 a2] w fun e w' => e = .returned (.bool true) ∧ Grown w w' := by
  obtain ⟨d0, d1⟩ := Sh.wf_u16 w0
  obtain ⟨v0, v1⟩ := Sh.wf_u64 w1
  obtain ⟨s0, s1⟩ := Sh.wf_i64 w2
  clear w0 w1 w2
  go_enter Try.func5, Try.ntmps5
  go_wp2_with fail
  refine (Sh.pack_any _ _ _ d0 d1 v0 v1).mono ?_; rintro e w' ⟨rfl, rfl⟩
  go_wp2_with fail
  refine (split_pack _ _ _ d0 d1 v0 v1).mono ?_; rintro e w' ⟨rfl, rfl⟩
  go_wp2_with fail
  refine (Sh.split_any _ _ v0 v1).mono ?_; rintro e w' ⟨rfl, rfl⟩
  go_wp2_with fail
  go_loop [11, 12] (fun s t => ∃ k : Nat, k ≤ 8 ∧ t = .int .i64 k ∧ s = .int .u64 (a1 % 2 ^ (8 * k))) (fun _ t => 8 - (intOf t).toNat)
  case atStart => exact ⟨0, by omega, rfl, by simp⟩
  case round =>
    obtain ⟨k, hk, rfl, rfl⟩ := hrel
    obtain ⟨x0, x1⟩ := low_range a1 k v0 v1
    obtain ⟨y0, y1⟩ := Sh.byt_range a1 k
    by_cases hlt : k < 8
    · go_wp2_with fail
      refine (Sh.byte_any _ _ _ v0 v1 (by omega) (by omega)).mono ?_; rintro e w' ⟨rfl, rfl⟩
      go_wp2_with fail
      refine (Sh.with_any _ _ _ _ x0 x1 (by omega) (by omega) y0 y1).mono ?_; rintro e w' ⟨rfl, rfl⟩
      rw [low_step a1 k hlt]
      go_wp2_with fail
      go_round
      case rel => exact ⟨k + 1, by omega, by go_num, rfl⟩
      case measure => simp [intOf]; omega
    · obtain rfl : k = 8 := by omega
      have e8 : a1 % 2 ^ (8 * 8) = a1 := by
        rw [show (2 : Int) ^ (8 * 8) = 18446744073709551616 from rfl]; omega
      rw [e8]
      clear e8 x0 x1 y0 y1 hk hlt
      go_wp2_with fail
      refine (pack_split _ _ v0 v1).mono ?_; rintro e w' ⟨rfl, rfl⟩
      go_wp2_with fail
      refine (Sh.fold_any _ _ s0 s1).mono ?_; rintro e w' ⟨rfl, rfl⟩
      go_wp2_with fail
      refine (unfold_fold _ _ s0 s1).mono ?_; rintro e w' ⟨rfl, rfl⟩
      go_wp2_with fail
      refine (Sh.unfold_any _ _ v0 v1).mono ?_; rintro e w' ⟨rfl, rfl⟩
      go_wp2_with fail
      refine (fold_unfold _ _ v0 v1).mono ?_; rintro e w' ⟨rfl, rfl⟩
      go_wp2_with fail
      refine (Sh.works_any _).mono ?_; rintro e w' ⟨rfl, rfl⟩
      go_wp2_with fail
      go_ret
      exact ⟨rfl, Grown.refl _⟩

/-! ### THE ROW's STEP: WRITTEN OUT: LEAVE IT -/
set_option maxRecDepth 100000 in
theorem lifted (os : Os) (started : os.Started) (H : Type) (enc : TypeId × Value → H) :
    ReturnsInHanded {} Try.checked os 5 .any (Rows.shiftBackSpec.pre6 enc Try.prog Try.f5 Rows.shiftBackRow.domain false) (Rows.shiftBackSpec.post enc Try.prog Try.f5 false true false false) := by
  refine returnsInHanded_of_change (C := Try.checked) own started (by kernel_rfl) Try.func5
    (ChangeSpec.witness6 (enc := enc) (C := Try.checked) false ⟨#[], #[.int .u16 0, .int .u64 0, .int .i64 0], []⟩ 8 (by kernel_rfl) (by kernel_rfl) (by kernel_rfl) (by kernel_rfl)) ?_
  intro W base args ds gs before hval0 hW hcnd _
  have hval : ∀ (j : Nat) t v, Try.f5.params[j]? = some t → args[j]? = some v → Value.okWide Try.prog W .any base t v := hval0
  have hW' := hW
  obtain ⟨p, q, hA0, hV, rfl, hfz, hnd⟩ := hW
  have hA : DataW.TrodAll enc Try.prog W 0 (fun _ => true) true Try.f5.params.toList args.toList ds p := hA0
  rw [Try.params5] at hA hval
  obtain ⟨v0, vs0, d0, ds0, p0, q0, hargs, rfl, rfl, h0, r0⟩ := trodAll_cons hA
  obtain ⟨v1, vs1, d1, ds1, p1, q1, rfl, rfl, rfl, h1, r1⟩ := trodAll_cons r0
  obtain ⟨v2, vs2, d2, ds2, p2, q2, rfl, rfl, rfl, h2, r2⟩ := trodAll_cons r1
  obtain ⟨rfl, rfl, rfl⟩ := trodAll_nil r2
  obtain rfl : args = #[v0, v1, v2] := by cases args; simp_all
  obtain ⟨rfl, rfl⟩ := trodVars_none hV
  obtain ⟨a0, rfl, rfl, rfl, w0⟩ := open_int Try.underlying22 (hval 0 22 v0 rfl rfl) h0
  obtain ⟨a1, rfl, rfl, rfl, w1⟩ := open_int Try.underlying23 (hval 1 23 v1 rfl rfl) h1
  obtain ⟨a2, rfl, rfl, rfl, w2⟩ := open_int Try.underlying2 (hval 2 2 v2 rfl rfl) h2
  clear hA0 hval0
  simp only [List.append_nil] at hW'
  refine (walk a0 a1 a2 w0 w1 w2 W).mono fun e W' ⟨he, hg⟩ => ?_
  subst he
  exact ⟨_, rfl, post_of_same (pa := []) (pv := []) hW' (fun _ _ _ => (trodAll_cons_mk (shut_bool Try.underlying4 _) trodAll_mk0)) (fun sp _ => (trodAll_cons_mk (shut_int Try.underlying22 w0) (trodAll_cons_mk (shut_int Try.underlying23 w1) (trodAll_cons_mk (shut_int Try.underlying2 w2) trodAll_mk0)))) (fun _ _ => rfl) rfl
    (hg.frame _) hg.2.1 (ok_one (by kernel_rfl) rfl (okWide_bool_mk Try.underlying4 _))⟩

theorem over : Rows.shiftBackRow.holds Try.pinned (OpenSpec.ofChange Rows.shiftBackSpec) :=
  OpenClaim.holds_of_wide 5 Try.f5 rfl rfl rfl rfl rfl rfl rfl ⟨rfl, rfl, rfl, rfl, rfl⟩ rfl rfl rfl rfl rfl (by kernel_rfl) Try.func5 (by kernel_rfl)
    (of_decide_eq_true (by kernel_rfl)) (by unfold Func.isWrapper; first | (rw [if_pos (by decide +kernel)]; kernel_rfl) | (rw [if_neg (by decide +kernel)]; exact ⟨rfl, rfl⟩))
    (fun os started H enc _ => lifted os started H enc)

/-- ████ THE STATEMENT ████ -/
theorem proved : Rows.ShiftBackSaid :=
  over
#print axioms proved
end Go.Proofs.Ytgmpdmcjfphjfaa.shiftBack
