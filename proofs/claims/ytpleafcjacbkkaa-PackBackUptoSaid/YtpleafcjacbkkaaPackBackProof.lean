/- Proved: epitaphlaw04.PackBack returns true and leaves its argument as it was: what was written is read, thing by thing, and nothing is left. Condition: the list of things is of bulk at most 1048576 (the statement's second form). -/
import Derived.Test.YtpleafcjacbkkaaBack
import Derived.Test.YtpleafcjacbkkaaActs
import Derived.JoinedCond
namespace Go.Proofs.Ytpleafcjacbkkaa.packBack
open Go.ChangeShapes Go.WideShapes Go.ChangeAt Go.RowKit Go.Deep
open Go.Proofs.Ytpleafcjacbkkaa.Nu
set_option linter.unusedVariables false

theorem bulk_sum {H : Type} (l : List Thing) : ∀ (D : Nat → DataW H) (h : ∀ (i : Nat) (t : Thing), l[i]? = some t → t.2.2.size + 4 ≤ Rows.uptoBulk (D i)), most l ≤ 3 * Rows.uptoBulkAll ((List.range l.length).map D) := by
  induction l with
  | nil => intro D h; simp [most]
  | cons t r ih =>
    intro D h
    have h0 := h 0 t rfl
    have h1 := ih (fun i => D (i + 1)) (fun i u hu => h (i + 1) u (by simpa using hu))
    rw [List.length_cons, List.range_succ_eq_map, List.map_cons, List.map_map]
    simp only [most, List.map_cons, List.sum_cons, Rows.uptoBulkAll] at h1 ⊢
    have e : (D ∘ Nat.succ) = fun i => D (i + 1) := rfl
    rw [e]
    omega
/-- a list of things that came in, and how many bytes they have at most. -/
theorem things_of {H : Type} {enc : TypeId × Value → H} {W : World} {a : Option Addr} {len cap : Nat} {d : DataW H} {p : List MemPlace} (h : DataW.Trod enc Try.prog W 0 (fun _ => true) true 42 (.slice a len cap) d p) :
    ∃ l : List Thing, l.length = len ∧ Things W W.heap.size a l ∧ len ≤ 9223372036854775807 ∧ most l ≤ 3 * Rows.uptoBulk d := by
  obtain ⟨fuel, hf⟩ := h
  rcases open_slice Try.underlying42 hf with ⟨hcs, hx⟩ | ⟨x, n0, c0, m, f0, D, Pl, hcs, hb, hl, hm, hmm, hx, hi⟩
  · simp [Value.cells] at hcs
    obtain ⟨rfl, rfl, rfl⟩ := hcs
    exact ⟨[], rfl, ⟨fun t ht => (by cases ht), fun h => absurd h (by simp)⟩, by omega, by simp [most]⟩
  · simp [Value.cells] at hcs
    obtain ⟨rfl, rfl, rfl⟩ := hcs
    unfold maxLen at hm
    have hmc : m = cap := by simpa using hmm
    have each : ∀ i, i < len → ∃ t : Thing, (t.1 < 256 ∧ t.2.1 < 18446744073709551616 ∧ W.cell? (x.add (i * 3)) = some (.int .u8 (t.1 : Int)) ∧ W.cell? (x.add (i * 3 + 1)) = some (.int .u64 (t.2.1 : Int)) ∧ W.cell? (x.add (i * 3 + 2)) = some (.string t.2.2)) ∧
        t.2.2.size + 4 = Rows.uptoBulk (D i) := by
      intro i hil
      obtain ⟨cs', k1, k2⟩ := hi i (by omega)
      rw [show Try.prog.cellsOf 46 = 3 by kernel_rfl] at k1
      obtain ⟨_, hlen, hcell⟩ := World.cells?_some k1
      obtain ⟨xs, f1, _, hxy, _, hxl, hfd⟩ := DataW.trod_struct Try.underlying46 k2
      match xs, hxl, cs', hlen with
      | [y0, y1, y2], _, [u0, u1, u2], _ =>
        have g0 := hfd 0 _ rfl
        have g1 := hfd 1 _ rfl
        have g2 := hfd 2 _ rfl
        simp only [List.getElem?_cons_zero, List.getElem?_cons_succ] at g0 g1 g2
        obtain ⟨z0, e0, hs0', w0⟩ := DataW.trod_int Try.underlying5 g0
        obtain ⟨z1, e1, hs1', w1⟩ := DataW.trod_int Try.underlying30 g1
        obtain ⟨s, e2, hs2, _⟩ := DataW.trod_string Try.underlying9 g2
        obtain rfl := (List.cons.inj e0).1
        obtain rfl := (List.cons.inj e1).1
        obtain rfl := (List.cons.inj e2).1
        have h0 := hcell 0 (by omega)
        have h1 := hcell 1 (by omega)
        have h2 := hcell 2 (by omega)
        rw [Go.Deep.add_add] at h0 h1 h2
        obtain ⟨s0, rfl, hs0⟩ := wf_u8 w0
        obtain ⟨s1, rfl, hs1⟩ := wf_u64 w1
        refine ⟨(s0, s1, s), ⟨hs0, hs1, by simpa using h0, by simpa using h1, by simpa using h2⟩, ?_⟩
        have hD : D i = .agg ([y0, y1, y2].map (·.1)) := congrArg Prod.fst hxy
        rw [hD]
        simp only [List.map_cons, List.map_nil, hs0', hs1', hs2, Rows.uptoBulk, Rows.uptoBulkAll]
        have e : s.data.toList.length = s.size := by rw [Array.length_toList]; rfl
        omega
    obtain ⟨L, hL, hQ⟩ := list_of len each
    simp only [Prod.mk.injEq] at hx
    refine ⟨L, hL, ⟨fun y hy => ?_, fun h0 => ⟨x, rfl, ?_, fun j t hj => ⟨(hQ j t hj).1.2.2.1, (hQ j t hj).1.2.2.2.1, (hQ j t hj).1.2.2.2.2⟩⟩⟩, by omega, ?_⟩
    · obtain ⟨i, hi', rfl⟩ := List.getElem_of_mem hy
      have := hQ i _ (List.getElem?_eq_getElem hi')
      exact ⟨this.1.1, this.1.2.1⟩
    · have := hQ 0 _ (List.getElem?_eq_getElem h0)
      have h2 := block_of_cell this.1.2.2.1
      rwa [Nu.block_add] at h2
    · rw [hx.1]
      simp only [Rows.uptoBulk]
      have := bulk_sum L D (fun i t ht => Nat.le_of_eq (hQ i t ht).2)
      rw [hL] at this
      omega

/-- what the bound gives. -/
theorem short {H : Type} {d : DataW H} (hk : Rows.uptoSmall H [d] = true) : Rows.uptoBulk d ≤ 1048576 := by
  have h : Rows.uptoBulkAll [d] ≤ 1048576 := of_decide_eq_true hk
  simp only [Rows.uptoBulkAll] at h
  omega

theorem contract (H : Type) (enc : TypeId × Value → H) (W : World) (base : Nat) (args : Array Value) (ds gs : List (DataW H)) (before : List MemPlace)
    (hval0 : ∀ (j : Nat) t v, Try.f4.params[j]? = some t → args[j]? = some v → Value.okWide Try.prog W .any base t v)
    (hW : DataW.Whole enc Try.prog Try.f4.params.toList Rows.packBackSpec.vars false W args.toList ds gs before) (hk : Rows.uptoSmall H (ds ++ gs) = true) :
    Calls Try.prog 4 args W fun e W' => ∃ v, e = .returned v ∧ Rows.packBackSpec.post enc Try.prog Try.f4 false true false false W args v W' := by
  have hval : ∀ (j : Nat) t v, Try.f4.params[j]? = some t → args[j]? = some v → Value.okWide Try.prog W .any base t v := hval0
  have hW' := hW
  obtain ⟨p, q, hA0, hV, rfl, hfz, hnd⟩ := hW
  have hA : DataW.TrodAll enc Try.prog W 0 (fun _ => true) true Try.f4.params.toList args.toList ds p := hA0
  rw [Try.params4] at hA hval
  obtain ⟨v0, vs0, d0, ds0, p0, q0, hargs, rfl, rfl, h0, r0⟩ := trodAll_cons hA
  obtain ⟨rfl, rfl, rfl⟩ := trodAll_nil r0
  obtain rfl : args = #[v0] := by cases args; simp_all
  obtain ⟨rfl, rfl⟩ := trodVars_none hV
  obtain ⟨a0, len0, cap0, rfl⟩ := okWide_slice Try.underlying42 (hval 0 42 v0 rfl rfl)
  have lt0 : ∀ x ∈ p0, x.block < W.heap.size := by obtain ⟨m, hm⟩ := h0; exact DataW.trod_lt m _ _ _ hm
  obtain ⟨l0, hl0, ht0, hlm0, hmo0⟩ := things_of h0
  have hsh := short hk
  clear hA0 hval0
  refine (back_walk W a0 l0 len0 cap0 hl0 ht0 hlm0 (by omega)).mono fun e W' ⟨he, bel⟩ => ?_
  subst he
  exact ⟨_, rfl, _, _, _, [], _, [], hW', trodAll_mk1 (shut_bool Try.underlying4 _), (trodAll_cons_mk (Below.trod laidOut (by kernel_rfl) (of_decide_eq_true (by kernel_rfl)) h0 bel lt0) trodAll_mk0), rfl, bel.frame _, fun h => by cases h⟩

set_option maxRecDepth 100000 in
theorem lifted (os : Os) (started : os.Started) (H : Type) (enc : TypeId × Value → H) (F : Stop.Interp) :
    ReturnsInHanded {} Try.checked os 4 .any ((Rows.OpenSpec.upto Rows.packBackSpec).pre6 enc Try.prog Try.f4 Rows.packBackUptoRow.domain false) (((Rows.OpenSpec.upto Rows.packBackSpec).at F).post enc Try.prog Try.f4 false true false false) := by
  refine returnsInHanded_of_cond (C := Try.checked) (s := Rows.OpenSpec.upto Rows.packBackSpec) (k := Rows.uptoSmall) rfl own started (by kernel_rfl) Try.func4
    (OpenSpec.witness (enc := enc) (C := Try.checked) (s := Rows.OpenSpec.upto Rows.packBackSpec) (k := Rows.uptoSmall) rfl false ⟨#[], #[.slice none 0 0], []⟩ 8 (by kernel_rfl) (by kernel_rfl) (by kernel_rfl)
      (x := ([.nil], [], [])) (by kernel_rfl) rfl (by kernel_rfl)) ?_
  intro W base args ds gs before hval hW _ hk _
  exact contract H enc W base args ds gs before hval hW hk

theorem over : Rows.packBackUptoRow.holds Try.pinned (Rows.OpenSpec.upto Rows.packBackSpec) :=
  OpenClaim.holds_of_cond 4 Try.f4 rfl rfl rfl rfl rfl rfl rfl ⟨rfl, rfl, rfl, rfl, rfl⟩ rfl rfl rfl rfl rfl (by kernel_rfl) Try.func4 (by kernel_rfl)
    (of_decide_eq_true (by kernel_rfl)) (by unfold Func.isWrapper; first | (rw [if_pos (by decide +kernel)]; kernel_rfl) | (rw [if_neg (by decide +kernel)]; exact ⟨rfl, rfl⟩))
    (fun os started H enc _ F => lifted os started H enc F)

/-- THE STATEMENT, in its second form. -/
theorem proved : Rows.PackBackUptoSaid :=
  over
#print axioms proved
end Go.Proofs.Ytpleafcjacbkkaa.packBack
