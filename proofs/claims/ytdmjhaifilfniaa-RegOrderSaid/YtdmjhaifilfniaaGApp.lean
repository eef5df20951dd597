/- An append of a value to a list of values of one's own. -/
import Derived.Test.YtdmjhaifilfniaaGSide
namespace Go.Proofs.Ytdmjhaifilfniaa.Rg
open Go.ChangeShapes Go.WideShapes Go.ChangeAt Go.RowKit
set_option linter.unusedVariables false

theorem val_info : (Try.prog.info? 29).map (fun i => (i.zero, i.size, i.bytes)) = some (some (.agg #[.int .u16 0, .int .u64 0, .string ⟨#[]⟩]), 3, 32) := by kernel_rfl
theorem wpList_val {ops : Array Oper} {rest : List Oper} {o : Oper} {a : Act} {Q : Exit → Act → World → Prop} (hgd : o.guard = none) (s x : Operand) (ho : o.op = .call { callee := .builtin .append, args := #[s, x], argTypes := #[22, 22] }) (hty : o.type = 22)
    (w : World) (B k : Nat) (v : Value) (xs : List Vl) (ad : Addr) (m : List Vl) (n c : Nat) (hs : a.eval s = v) (hx : a.eval x = .slice (some ad) n c) (hw : w.ownsRow B 29 3 v k (vv xs)) (hc : ∀ j u, (vv m)[j]? = some u → w.cell? (ad.add j) = some u) (hl : m.length = n)
    (hn : k + n ≤ 4398046511104) (hB : B ≤ w.heap.size)
    (hK : ∀ A' c' w', w'.ownsRow B 29 3 (.slice A' (k + n) c') (k + n) (vv (xs ++ m)) → w.grownBy w' v.ownBlock → wpList Try.prog ops Q rest (a.put o.dst (.slice A' (k + n) c')) w') : wpList Try.prog ops Q (o :: rest) a w := by
  refine wpList_plain hgd fun K hQ => ?_
  obtain ⟨i0, hi0, hz0, hz1, hz2⟩ := info_parts val_info
  obtain ⟨v', w', hr, h2, h3, hat, h5⟩ := run_append_own_at (P := Try.prog) w B 22 22 29 i0 (.agg #[.int .u16 0, .int .u64 0, .string ⟨#[]⟩]) 3 32 Try.underlying22 hi0 hz0 hz1 hz2 rfl (by decide) v k (vv xs) hw ad n c (vv m) (by rw [vv_length, hl]) hc (vv_one m) (by simp only [maxLen]; omega) (by omega) hB
  obtain ⟨A', c', rfl⟩ := Dt.own_form h2
  rw [← vv_append] at h2
  rw [← hty] at hr
  unfold Oper.wp execOp
  simp only [ho, resolve, invoke, builtin, Sem.run_bind, Sem.run_pure, Result.andThen_ok, List.map_toArray, List.map_cons, List.map_nil, hs, hx]
  rw [hty] at hr ⊢
  rw [hr]
  exact hQ _ _ (hK _ _ _ h2 h3)
theorem val_cells (V : World) (x : Vl) : ∀ j u, (vv [x])[j]? = some u → (V.alloc (vbox x)).cell? ((⟨V.heap.size, 0, none⟩ : Addr).add j) = some u := fun j u hu => by
  rw [Dt.zero_add, World.cell?_alloc_new]
  have e : vv [x] = [.int .u16 (x.1.1 : Int), .int .u64 (x.1.2 : Int), .string x.2] := rfl
  rw [e] at hu
  simpa using hu
theorem val_grown {w wr w2 : World} {v : Value} {m : Nat} {xs : List Value} (ho : wr.ownsRow w.heap.size 29 3 v m xs) (hb : Below w.heap.size w wr) (hg : wr.grownBy w2 v.ownBlock) : Below w.heap.size w w2 :=
  hb.grown hg hb.size (fun k hk => (ho.lt k hk).1)
theorem own_vals {w : World} {B n c : Nat} {A : Option Addr} {l : List Vl} (h : w.ownsRow B 29 3 (.slice A n c) n (vv l)) (hl : l.length = n) (hf : ∀ x ∈ l, FitV x) (hw : n ≤ 4398046511104) : ValsAt w w.heap.size A l n c := by
  obtain ⟨h1, h2, h3⟩ := Dt.own_len h
  exact ⟨hl, h3, h1, h2, hw, hf, Dt.lies_any (by decide) h⟩
end Go.Proofs.Ytdmjhaifilfniaa.Rg
