/- Lists of events of one's own (append), and what the document's Put of layer event comes to. Condition: at most 3 * 2^39 events in all. -/
import Derived.Test.YtbaiiidkffafmaaEGood
import Derived.Test.YtbaiiidkffafmaaDApp
namespace Go.Proofs.Ytbaiiidkffafmaa.Ev
open Go.ChangeShapes Go.WideShapes Go.ChangeAt Go.RowKit
set_option linter.unusedVariables false

theorem evt_info : (Try.prog.info? 28).map (fun i => (i.zero, i.size, i.bytes)) = some (some (.agg #[.int .u16 0, .int .u64 0, .int .u8 0, .int .u64 0, .int .u8 0, .string ⟨#[]⟩, .slice none 0 0]), 7, 80) := by kernel_rfl
/-- a new block that is one event. -/
theorem lies_evt (V : World) (q : EV) : Dt.Lies (V.alloc q.box) (V.alloc q.box).heap.size (some ⟨V.heap.size, 0, none⟩) (ev [q]) := fun _ => by
  refine ⟨_, rfl, by rw [alloc_size]; exact Nat.lt_succ_self _, fun j u hu => ?_⟩
  rw [Dt.zero_add, World.cell?_alloc_new]
  have e : ev [q] = q.cells := by simp [ev]
  rw [e] at hu
  simpa using hu
theorem run_evt (w : World) (B k : Nat) (v : Value) (xs : List EV) (A : Option Addr) (m : List EV) (n c : Nat) (ho : w.ownsRow B 28 7 v k (ev xs)) (hA : A = none → n = 0 ∧ c = 0) (hb : Dt.Lies w w.heap.size A (ev m)) (hl : m.length = n)
    (hn : k + n ≤ 1649267441664) (hB : B ≤ w.heap.size) :
    ∃ A' c' w', (Builtin.append_ #[30, 30] 30 #[v, .slice A n c]).run Try.prog w = .ok (.slice A' (k + n) c') w' ∧
      w'.ownsRow B 28 7 (.slice A' (k + n) c') (k + n) (ev (xs ++ m)) ∧ w.grownBy w' v.ownBlock := by
  obtain ⟨i0, hi0, hz0, hz1, hz2⟩ := info_parts evt_info
  cases A with
  | none =>
    obtain ⟨rfl, rfl⟩ := hA rfl
    obtain rfl := List.eq_nil_of_length_eq_zero hl
    obtain ⟨A', c', rfl⟩ := Dt.own_form ho
    exact ⟨A', c', w, run_append_owned_none (P := Try.prog) (w := w) B 30 30 28 i0 7 Try.underlying30 hi0 _ k (ev xs) ho, by rw [List.append_nil]; exact ho, Dt.turn_refl _ _⟩
  | some ad =>
    have hc : ∀ j u, (ev m)[j]? = some u → w.cell? (ad.add j) = some u := by
      intro j u hu
      have hjl : j < (ev m).length := (List.getElem?_eq_some_iff.1 hu).1
      obtain ⟨ad', e, hadb, hc⟩ := hb (by omega)
      obtain rfl := Option.some.inj e
      exact hc j u hu
    obtain ⟨v', w', hr, h2, h3, hat, h5⟩ := run_append_own_at (P := Try.prog) w B 30 30 28 i0 (.agg #[.int .u16 0, .int .u64 0, .int .u8 0, .int .u64 0, .int .u8 0, .string ⟨#[]⟩, .slice none 0 0]) 7 80 Try.underlying30 hi0 hz0 hz1 hz2 rfl (by decide) v k (ev xs) ho ad n c (ev m) (by rw [ev_length, hl]) hc (ev_one m) (by simp only [maxLen]; omega) (by omega) hB
    obtain ⟨A', c', rfl⟩ := Dt.own_form h2
    exact ⟨A', c', w', hr, by rw [ev_append]; exact h2, h3⟩
theorem wpList_evt {ops : Array Oper} {rest : List Oper} {o : Oper} {a : Act} {Q : Exit → Act → World → Prop} (hgd : o.guard = none) (s x : Operand) (ho : o.op = .call { callee := .builtin .append, args := #[s, x], argTypes := #[30, 30] }) (hty : o.type = 30)
    (w : World) (B k : Nat) (v : Value) (xs : List EV) (A : Option Addr) (m : List EV) (n c : Nat) (hs : a.eval s = v) (hx : a.eval x = .slice A n c) (hw : w.ownsRow B 28 7 v k (ev xs)) (hA : A = none → n = 0 ∧ c = 0) (hb : Dt.Lies w w.heap.size A (ev m)) (hl : m.length = n)
    (hn : k + n ≤ 1649267441664) (hB : B ≤ w.heap.size)
    (hK : ∀ A' c' w', w'.ownsRow B 28 7 (.slice A' (k + n) c') (k + n) (ev (xs ++ m)) → w.grownBy w' v.ownBlock → wpList Try.prog ops Q rest (a.put o.dst (.slice A' (k + n) c')) w') : wpList Try.prog ops Q (o :: rest) a w := by
  refine wpList_plain hgd fun K hQ => ?_
  obtain ⟨A', c', w', hr, h2, h3⟩ := run_evt w B k v xs A m n c hw hA hb hl hn hB
  rw [← hty] at hr
  unfold Oper.wp execOp
  simp only [ho, resolve, invoke, builtin, Sem.run_bind, Sem.run_pure, Result.andThen_ok, List.map_toArray, List.map_cons, List.map_nil, hs, hx]
  rw [hty] at hr ⊢
  rw [hr]
  exact hQ _ _ (hK _ _ _ h2 h3)
/-- a list of one's own has grown: what lay, lies. -/
theorem evt_grown {w wr w2 : World} {v : Value} {m : Nat} {xs : List Value} (ho : wr.ownsRow w.heap.size 28 7 v m xs) (hb : Below w.heap.size w wr) (hg : wr.grownBy w2 v.ownBlock) : Below w.heap.size w w2 :=
  hb.grown hg hb.size (fun k hk => (ho.lt k hk).1)
theorem bel_alloc {w W : World} (o : Obj) (h : Below w.heap.size w W) : Below w.heap.size w (W.alloc o) := h.alloc h.size o

/-- a list of events comes out. -/
def EvPost (w : World) (l : List Evt) (e : Ending) (w' : World) : Prop := ∃ A n c, e = .returned (.slice A n c) ∧ EventsAt w' w'.heap.size A l n c ∧ Below w.heap.size w w'
/-- one event more: has the new one been put, and the list so far. -/
def stepE (e : Evt) (s : Bool × List Evt) (x : Evt) : Bool × List Evt := if Dt.aheadD e.dot x.dot = true ∧ s.1 = false then (true, s.2 ++ [e, x]) else (s.1, s.2 ++ [x])
def stE (l : List Evt) (e : Evt) (k : Nat) : Bool × List Evt := (l.take k).foldl (stepE e) (false, [])
/-- an event more, in its place, but that one with its dot is there. -/
noncomputable def putE (l : List Evt) (e : Evt) : List Evt := if ∃ x ∈ l, x.dot = e.dot then l else if (stE l e l.length).1 = true then (stE l e l.length).2 else (stE l e l.length).2 ++ [e]
theorem st_next {l : List Evt} {e x : Evt} {k : Nat} (h : l[k]? = some x) : stE l e (k + 1) = stepE e (stE l e k) x := by
  unfold stE
  rw [List.take_add_one, h, List.foldl_append]
  rfl
theorem st_long (l : List Evt) (e : Evt) (k : Nat) : (stE l e k).2.length ≤ k + (if (stE l e k).1 = true then 1 else 0) := by
  have h : ∀ (m : List Evt) (s : Bool × List Evt), (m.foldl (stepE e) s).2.length + (if s.1 = true then 1 else 0) ≤ s.2.length + m.length + (if (m.foldl (stepE e) s).1 = true then 1 else 0) := by
    intro m
    induction m with
    | nil => intro s; exact Nat.le_refl _
    | cons x m ih =>
      intro s
      have h1 := ih (stepE e s x)
      rw [List.foldl_cons]
      unfold stepE at h1 ⊢
      obtain ⟨b, t⟩ := s
      by_cases hc : Dt.aheadD e.dot x.dot = true ∧ b = false
      · rw [if_pos hc] at h1 ⊢
        obtain ⟨_, rfl⟩ := hc
        simp only [List.length_append, List.length_cons, List.length_nil] at h1 ⊢
        simp only [reduceIte, Bool.false_eq_true] at h1 ⊢
        omega
      · rw [if_neg hc] at h1 ⊢
        simp only [List.length_append, List.length_cons, List.length_nil] at h1 ⊢
        omega
  have h2 := h (l.take k) (false, [])
  have h3 : (l.take k).length ≤ k := List.length_take_le _ _
  unfold stE
  simp only [List.length_nil, Bool.false_eq_true, if_false, Nat.add_zero, Nat.zero_add] at h2
  omega
theorem put_there {l : List Evt} {e x : Evt} {k : Nat} (h : l[k]? = some x) (hd : x.dot = e.dot) : putE l e = l := by
  unfold putE
  rw [if_pos ⟨x, List.mem_of_getElem? h, hd⟩]
/-- no event so far has the dot. -/
def NoDot (l : List Evt) (e : Evt) (k : Nat) : Prop := ∀ j x, j < k → l[j]? = some x → x.dot ≠ e.dot
theorem nodot_next {l : List Evt} {e x : Evt} {k : Nat} (h : NoDot l e k) (hx : l[k]? = some x) (hd : x.dot ≠ e.dot) : NoDot l e (k + 1) := fun j y hj hy => by
  rcases Nat.lt_succ_iff_lt_or_eq.1 hj with h2 | rfl
  · exact h j y h2 hy
  · rw [hx] at hy; cases hy; exact hd
theorem put_done {l : List Evt} {e : Evt} {n : Nat} (hn : l.length = n) (h : NoDot l e n) : putE l e = if (stE l e n).1 = true then (stE l e n).2 else (stE l e n).2 ++ [e] := by
  unfold putE
  rw [if_neg (fun ⟨x, hx, hd⟩ => by obtain ⟨j, hj, rfl⟩ := List.getElem_of_mem hx; exact h j _ (by omega) (List.getElem?_eq_getElem hj) hd), hn]
theorem match_snoc {w : World} {B : Nat} {ps : List EV} {l : List Evt} {p : EV} {x : Evt} (h : Match w B ps l) (hp : EventIs w B p x) : Match w B (ps ++ [p]) (l ++ [x]) := h.snoc hp
/-- what a round of Put knows. -/
def PRel (w w1 : World) (n : Nat) (l : List Evt) (x : Evt) (v b i : Value) (wr : World) : Prop :=
  ∃ k m A c ps, k ≤ n ∧ i = .int .i64 ((k : Nat) : Int) ∧ b = .bool (stE l x k).1 ∧ v = .slice A m c ∧ ps.length = m ∧ Match w w.heap.size ps (stE l x k).2 ∧ wr.ownsRow w1.heap.size 28 7 (.slice A m c) m (ev ps) ∧ NoDot l x k ∧ Below w1.heap.size w1 wr
theorem own_events {w w1 wr : World} {A : Option Addr} {m c : Nat} {ps : List EV} {l : List Evt} (hb : Below w.heap.size w wr) (hm : Match w w.heap.size ps l) (hl : ps.length = m) (hw : m ≤ 2199023255552) (ho : wr.ownsRow w1.heap.size 28 7 (.slice A m c) m (ev ps)) : EventsAt wr wr.heap.size A l m c := by
  obtain ⟨h1, h2, h3⟩ := Dt.own_len ho
  exact ⟨by rw [← hm.1]; exact hl, h3, h1, h2, hw, ps, Dt.lies_any (by decide) ho, (hm.below hb).more hb.size⟩
end Go.Proofs.Ytbaiiidkffafmaa.Ev
