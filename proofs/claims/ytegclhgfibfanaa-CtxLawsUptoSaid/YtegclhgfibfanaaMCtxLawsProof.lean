/- CtxLaws, in its second form, holds of the program: dots are neither lost nor made when two contexts are joined, met, or taken from each other, in whichever order. Condition: what comes in is of bulk at most 1048576, as the second form says. -/
import Derived.Test.YtegclhgfibfanaaRows
import Derived.Test.YtegclhgfibfanaaMCFrame
import Derived.Test.YtegclhgfibfanaaMCLawsW
import Derived.Test.YtegclhgfibfanaaMPCtx
import Derived.JoinedCond
namespace Go.Proofs.Ytegclhgfibfanaa.ctxLaws
open Go.ChangeShapes Go.WideShapes Go.ChangeAt Go.RowKit Go.Deep
open Go.Proofs.Ytegclhgfibfanaa.Cx
set_option linter.unusedVariables false
set_option maxRecDepth 4000

theorem bulk_one {H : Type} (d : DataW H) : 1 ≤ Rows.uptoBulk d := by
  cases d with
  | lit x => cases x <;> simp [Rows.uptoBulk]
  | _ => simp [Rows.uptoBulk]
theorem bulk_len {H : Type} (l : List (DataW H)) : l.length ≤ Rows.uptoBulkAll l := by
  induction l with
  | nil => simp
  | cons d r ih =>
    have := bulk_one d
    simp only [List.length_cons, Rows.uptoBulkAll]
    omega
theorem bulk_long {H : Type} {d : DataW H} {n : Nat} (h : Long d n) : n ≤ Rows.uptoBulk d := by
  rcases h with rfl | ⟨elems, spare, rfl, rfl⟩
  · exact Nat.zero_le _
  · have := bulk_len elems
    simp only [Rows.uptoBulk]
    omega
theorem bulk_parts {H : Type} (D0 D1 : Nat → DataW H) (l : List Nat) (f : Nat → Nat) (hf : ∀ i ∈ l, f i ≤ Rows.uptoBulk (D1 i)) : (l.map f).sum + l.length ≤ Rows.uptoBulkAll (l.map fun i => .agg [D0 i, D1 i]) := by
  induction l with
  | nil => simp
  | cons i l ih =>
    have h1 := hf i (List.mem_cons_self ..)
    have h2 := ih (fun j hj => hf j (List.mem_cons_of_mem _ hj))
    simp only [List.map_cons, List.sum_cons, List.length_cons, Rows.uptoBulkAll, Rows.uptoBulk]
    omega
theorem sum_range (c : List Part) (k : Nat) (hk : k ≤ c.length) : wC (c.take k) = ((List.range k).map (fun i => (c.getD i (0, [])).2.length)).sum := by
  induction k with
  | zero => rfl
  | succ k ih =>
    have hg := List.getElem?_eq_getElem (l := c) (i := k) (by omega)
    have ih := ih (by omega)
    unfold wC at *
    rw [List.take_add_one, hg, List.map_append, List.sum_append, ih, List.range_succ, List.map_append, List.sum_append]
    simp only [Option.toList_some, List.map_cons, List.map_nil, List.sum_cons, List.sum_nil]
    rw [List.getD_eq_getElem?_getD, hg]
    rfl
/-- what a context weighs is not more than its bulk. -/
theorem wide_bulk {H : Type} {W : World} {a : Option Addr} {c : List Part} {len cap : Nat} {d : DataW H} (h : CtxAt W a c len cap)
    (hl : len = 0 ∨ ∃ (D0 D1 : Nat → DataW H) (spare : List (DataW H)), d = .slice ((List.range len).map fun i => .agg [D0 i, D1 i]) spare ∧ ∀ (i : Nat) (x : Part), c[i]? = some x → Long (D1 i) x.2.length) (hb : Rows.uptoBulk d ≤ 1048576) : Wide 1048576 c := by
  rcases hl with h0 | ⟨D0, D1, spare, rfl, hL⟩
  · have e : c = [] := List.eq_nil_of_length_eq_zero (by rw [h.len]; exact h0)
    subst e
    exact ⟨Nat.zero_le _, Nat.zero_le _⟩
  · have h1 := bulk_parts D0 D1 (List.range len) (fun i => (c.getD i (0, [])).2.length) (fun i hi => by
      have hi2 : i < c.length := by rw [h.len]; exact List.mem_range.1 hi
      have hg := List.getElem?_eq_getElem hi2
      show (c.getD i (0, [])).2.length ≤ _
      rw [List.getD_eq_getElem?_getD, hg]
      exact bulk_long (hL i _ hg))
    have h2 := sum_range c len (by rw [h.len]; exact Nat.le_refl _)
    rw [List.take_of_length_le (by rw [h.len]; exact Nat.le_refl _)] at h2
    rw [← h2, List.length_range] at h1
    simp only [Rows.uptoBulk] at hb
    exact ⟨by rw [h.len]; omega, by omega⟩
theorem short {H : Type} {d0 d1 d2 : DataW H} (hk : Rows.uptoSmall H [d0, d1, d2] = true) : Rows.uptoBulk d0 ≤ 1048576 ∧ Rows.uptoBulk d1 ≤ 1048576 ∧ Rows.uptoBulk d2 ≤ 1048576 := by
  have h : Rows.uptoBulkAll [d0, d1, d2] ≤ 1048576 := of_decide_eq_true hk
  simp only [Rows.uptoBulkAll] at h
  omega

theorem contract (H : Type) (enc : TypeId × Value → H) (W : World) (base : Nat) (args : Array Value) (ds gs : List (DataW H)) (before : List MemPlace)
    (hval0 : ∀ (j : Nat) t v, Try.f3.params[j]? = some t → args[j]? = some v → Value.okWide Try.prog W .any base t v)
    (hW : DataW.Whole enc Try.prog Try.f3.params.toList Rows.ctxLawsSpec.vars false W args.toList ds gs before) (hk : Rows.uptoSmall H (ds ++ gs) = true) :
    Calls Try.prog 3 args W fun e W' => ∃ v, e = .returned v ∧ Rows.ctxLawsSpec.post enc Try.prog Try.f3 false true false false W args v W' := by
  have hval : ∀ (j : Nat) t v, Try.f3.params[j]? = some t → args[j]? = some v → Value.okWide Try.prog W .any base t v := hval0
  have hW' := hW
  obtain ⟨p, q, hA0, hV, rfl, hfz, hnd⟩ := hW
  have hA : DataW.TrodAll enc Try.prog W 0 (fun _ => true) true Try.f3.params.toList args.toList ds p := hA0
  rw [Try.params3] at hA hval
  obtain ⟨v0, vs0, d0, ds0, p0, q0, hargs, rfl, rfl, h0, rr0⟩ := trodAll_cons hA
  obtain ⟨v1, vs1, d1, ds1, p1, q1, rfl, rfl, rfl, h1, rr1⟩ := trodAll_cons rr0
  obtain ⟨v2, vs2, d2, ds2, p2, q2, rfl, rfl, rfl, h2, rr2⟩ := trodAll_cons rr1
  obtain ⟨rfl, rfl, rfl⟩ := trodAll_nil rr2
  obtain rfl : args = #[v0, v1, v2] := by cases args; simp_all
  obtain ⟨rfl, rfl⟩ := trodVars_none hV
  have hbk : Rows.uptoBulk d0 ≤ 1048576 ∧ Rows.uptoBulk d1 ≤ 1048576 ∧ Rows.uptoBulk d2 ≤ 1048576 := short hk
  obtain ⟨a0, len0, cap0, rfl⟩ := okWide_slice Try.underlying23 (hval 0 23 v0 rfl rfl)
  have lt0 : ∀ x ∈ p0, x.block < W.heap.size := by obtain ⟨m, hm⟩ := h0; exact DataW.trod_lt m _ _ _ hm
  obtain ⟨l0, hv0, lg0⟩ := ctx_of h0
  have wd0 : Wide 1048576 l0 := wide_bulk hv0 lg0 (by omega)
  obtain ⟨a1, len1, cap1, rfl⟩ := okWide_slice Try.underlying23 (hval 1 23 v1 rfl rfl)
  have lt1 : ∀ x ∈ p1, x.block < W.heap.size := by obtain ⟨m, hm⟩ := h1; exact DataW.trod_lt m _ _ _ hm
  obtain ⟨l1, hv1, lg1⟩ := ctx_of h1
  have wd1 : Wide 1048576 l1 := wide_bulk hv1 lg1 (by omega)
  obtain ⟨r2, rfl, hr2, hs2, rfl, rd2⟩ := dot_of (hval 2 27 v2 rfl rfl) h2
  have hd2 : r2.1 < 65536 ∧ r2.2 < 18446744073709551616 := ⟨hr2, hs2⟩
  clear hA0 hval0
  refine (laws_walk pctx W a0 a1 l0 l1 len0 len1 cap0 cap1 r2 hv0 hv1 wd0 wd1 hd2).mono fun e W' ⟨he, bel⟩ => ?_
  subst he
  exact ⟨_, rfl, _, _, _, [], _, [], hW', trodAll_mk1 (shut_bool Try.underlying4 _), (trodAll_cons_mk (Below.trod laidOut (by kernel_rfl) (of_decide_eq_true (by kernel_rfl)) h0 bel lt0) (trodAll_cons_mk (Below.trod laidOut (by kernel_rfl) (of_decide_eq_true (by kernel_rfl)) h1 bel lt1) (trodAll_cons_mk (rd2 _ _) trodAll_mk0))), rfl, bel.frame _, fun h => by cases h⟩

set_option maxRecDepth 100000 in
theorem lifted (os : Os) (started : os.Started) (H : Type) (enc : TypeId × Value → H) (F : Stop.Interp) :
    ReturnsInHanded {} Try.checked os 3 .any ((Rows.OpenSpec.upto Rows.ctxLawsSpec).pre6 enc Try.prog Try.f3 Rows.ctxLawsUptoRow.domain false) (((Rows.OpenSpec.upto Rows.ctxLawsSpec).at F).post enc Try.prog Try.f3 false true false false) := by
  refine returnsInHanded_of_cond (C := Try.checked) (s := Rows.OpenSpec.upto Rows.ctxLawsSpec) (k := Rows.uptoSmall) rfl own started (by kernel_rfl) Try.func3
    (OpenSpec.witness (enc := enc) (C := Try.checked) (s := Rows.OpenSpec.upto Rows.ctxLawsSpec) (k := Rows.uptoSmall) rfl false ⟨#[], #[.slice none 0 0, .slice none 0 0, .agg #[.int .u16 0, .int .u64 0]], []⟩ 8 (by kernel_rfl) (by kernel_rfl) (by kernel_rfl)
      (x := ([.nil, .nil, .agg [.lit (.int .u16 0), .lit (.int .u64 0)]], [], [])) (by kernel_rfl) rfl (by kernel_rfl)) ?_
  intro W base args ds gs before hval hW _ hk _
  exact contract H enc W base args ds gs before hval hW hk

theorem over : Rows.ctxLawsUptoRow.holds Try.pinned (Rows.OpenSpec.upto Rows.ctxLawsSpec) :=
  OpenClaim.holds_of_cond 3 Try.f3 rfl rfl rfl rfl rfl rfl rfl ⟨rfl, rfl, rfl, rfl, rfl⟩ rfl rfl rfl rfl rfl (by kernel_rfl) Try.func3 (by kernel_rfl)
    (of_decide_eq_true (by kernel_rfl)) (by unfold Func.isWrapper; first | (rw [if_pos (by decide +kernel)]; kernel_rfl) | (rw [if_neg (by decide +kernel)]; exact ⟨rfl, rfl⟩))
    (fun os started H enc _ F => lifted os started H enc F)

/-- THE STATEMENT, in its second form. -/
theorem proved : Rows.CtxLawsUptoSaid :=
  over
#print axioms proved
end Go.Proofs.Ytegclhgfibfanaa.ctxLaws
