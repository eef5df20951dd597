/- Append of any runs to any list of one's own, nil too. Condition: at most 2^43 runs in all. -/
import Derived.Test.YtaoojiacdkabbaaNorm
namespace Go.Proofs.Ytaoojiacdkabbaa.Ru
open Go.ChangeShapes Go.WideShapes Go.ChangeAt Go.RowKit Go.Shelf
set_option linter.unusedVariables false

theorem own_form {w : World} {B n size : Nat} {e : TypeId} {v : Value} {xs : List Value} (h : w.ownsRow B e size v n xs) : ∃ A c, v = .slice A n c := by
  rcases h.2 with ⟨rfl, rfl⟩ | ⟨g, cap, _, rfl, _⟩
  · exact ⟨none, 0, rfl⟩
  · exact ⟨_, cap, rfl⟩
theorem run_any (w : World) (B k : Nat) (v : Value) (xs : List Run) (A : Option Addr) (m : List Run) (n c : Nat) (ho : w.ownsRow B 31 2 v k (rv xs)) (hA : A = none → n = 0 ∧ c = 0) (hb : Lies w w.heap.size A (rv m)) (hl : m.length = n)
    (hn : k + n ≤ 8796093022208) (hB : B ≤ w.heap.size) :
    ∃ A' c' w', (Builtin.append_ #[22, 22] 22 #[v, .slice A n c]).run Try.prog w = .ok (.slice A' (k + n) c') w' ∧
      w'.ownsRow B 31 2 (.slice A' (k + n) c') (k + n) (rv (xs ++ m)) ∧ w.grownBy w' v.ownBlock := by
  obtain ⟨i0, hi0, hz0, hz1, hz2⟩ := info_parts run_info
  cases A with
  | none =>
    obtain ⟨rfl, rfl⟩ := hA rfl
    obtain rfl := List.eq_nil_of_length_eq_zero hl
    obtain ⟨A', c', rfl⟩ := own_form ho
    exact ⟨A', c', w, run_append_owned_none (P := Try.prog) (w := w) B 22 22 31 i0 2 Try.underlying22 hi0 _ k (rv xs) ho, by rw [List.append_nil]; exact ho, turn_refl _ _⟩
  | some ad =>
    have hc : ∀ j u, (rv m)[j]? = some u → w.cell? (ad.add j) = some u := by
      intro j u hu
      have hjl : j < (rv m).length := (List.getElem?_eq_some_iff.1 hu).1
      obtain ⟨ad', e, hadb, hc⟩ := hb (by omega)
      obtain rfl := Option.some.inj e
      exact hc j u hu
    obtain ⟨v', w', hr, h2, h3, hat, h5⟩ := run_append_own_at (P := Try.prog) w B 22 22 31 i0 (.agg #[.int .u64 0, .int .u64 0]) 2 16 Try.underlying22 hi0 hz0 hz1 hz2 rfl (by decide) v k (rv xs) ho ad n c (rv m) (by rw [rv_length, hl]) hc (rv_one m) (by simp only [maxLen]; omega) (by omega) hB
    obtain ⟨A', c', rfl⟩ := own_form h2
    exact ⟨A', c', w', hr, by rw [rv_append]; exact h2, h3⟩
theorem wpList_any {ops : Array Oper} {rest : List Oper} {o : Oper} {a : Act} {Q : Exit → Act → World → Prop} (hgd : o.guard = none) (s x : Operand) (ho : o.op = .call { callee := .builtin .append, args := #[s, x], argTypes := #[22, 22] }) (hty : o.type = 22)
    (w : World) (B k : Nat) (v : Value) (xs : List Run) (A : Option Addr) (m : List Run) (n c : Nat) (hs : a.eval s = v) (hx : a.eval x = .slice A n c) (hw : w.ownsRow B 31 2 v k (rv xs)) (hA : A = none → n = 0 ∧ c = 0) (hb : Lies w w.heap.size A (rv m)) (hl : m.length = n)
    (hn : k + n ≤ 8796093022208) (hB : B ≤ w.heap.size)
    (hK : ∀ A' c' w', w'.ownsRow B 31 2 (.slice A' (k + n) c') (k + n) (rv (xs ++ m)) → w.grownBy w' v.ownBlock → wpList Try.prog ops Q rest (a.put o.dst (.slice A' (k + n) c')) w') : wpList Try.prog ops Q (o :: rest) a w := by
  refine wpList_plain hgd fun K hQ => ?_
  obtain ⟨A', c', w', hr, h2, h3⟩ := run_any w B k v xs A m n c hw hA hb hl hn hB
  rw [← hty] at hr
  unfold Oper.wp execOp
  simp only [ho, resolve, invoke, builtin, Sem.run_bind, Sem.run_pure, Result.andThen_ok, List.map_toArray, List.map_cons, List.map_nil, hs, hx]
  rw [hty] at hr ⊢
  rw [hr]
  exact hQ _ _ (hK _ _ _ h2 h3)
/-- a list of one's own has grown: what lay, lies. -/
theorem any_grown {w wr w2 : World} {v : Value} {m : Nat} {xs : List Value} (ho : wr.ownsRow w.heap.size 31 2 v m xs) (hb : Below w.heap.size w wr) (hg : wr.grownBy w2 v.ownBlock) : Below w.heap.size w w2 :=
  hb.grown hg hb.size (fun k hk => (ho.lt k hk).1)
/-- a new block that is one run. -/
theorem lies_one (V : World) (r : Run) : Lies (V.alloc (.cells #[.int .u64 (r.1 : Int), .int .u64 (r.2 : Int)] 31)) (V.alloc (.cells #[.int .u64 (r.1 : Int), .int .u64 (r.2 : Int)] 31)).heap.size (some ⟨V.heap.size, 0, none⟩) (rv [r]) :=
  fun _ => ⟨_, rfl, by simp, pair_at V r⟩
end Go.Proofs.Ytaoojiacdkabbaa.Ru
