/- Words and contracts that the proofs of this seat stand on, part 3 of 14. -/
import Derived.Test.YtblgbbpbhcaodaaMgA
import Derived.Test.YtblgbbpbhcaodaaMgB
import Derived.Deep.DeepCutAuto
import Derived.Laws.BitsAllLaws
import Derived.WalkSmall

/- Lists of dots of one's own: append of any dots to any list of one's own, nil too. Condition: at most 2^43 dots in all. -/
namespace Go.Proofs.Ytblgbbpbhcaodaa.Dt
open Go.ChangeShapes Go.WideShapes Go.ChangeAt Go.RowKit
set_option linter.unusedVariables false

theorem own_less {w : World} {B B' n size : Nat} {e : TypeId} {v : Value} {xs : List Value} (h : w.ownsRow B' e size v n xs) (hB : B ≤ B') : w.ownsRow B e size v n xs := by
  refine ⟨h.1, ?_⟩
  rcases h.2 with hz | ⟨g, cap, cur, e, hg, hr⟩
  · exact .inl hz
  · exact .inr ⟨g, cap, cur, e, Nat.le_trans hB hg, hr⟩
theorem own_kept {w V : World} {B n size : Nat} {e : TypeId} {v : Value} {xs : List Value} (h : w.ownsRow B e size v n xs) (hb : Below w.heap.size w V) : V.ownsRow B e size v n xs := by
  refine ⟨h.1, ?_⟩
  rcases h.2 with hz | ⟨g, cap, cur, e, hg, hh, hr⟩
  · exact .inl hz
  · have hlt : g < w.heap.size := by
      rcases Nat.lt_or_ge g w.heap.size with h1 | h1
      · exact h1
      · rw [Array.getElem?_eq_none h1] at hh; cases hh
    exact .inr ⟨g, cap, cur, e, hg, (hb.block g hlt).trans hh, hr⟩
theorem own_len {w : World} {B n size : Nat} {e : TypeId} {A : Option Addr} {c : Nat} {xs : List Value} (h : w.ownsRow B e size (.slice A n c) n xs) : n ≤ c ∧ c ≤ 9223372036854775807 ∧ (A = none → n = 0 ∧ c = 0) := by
  rcases h.2 with ⟨h, hz⟩ | ⟨_, _, _, h, _, _, h1, h2, _⟩
  · cases h; exact ⟨by omega, by omega, fun _ => ⟨rfl, rfl⟩⟩
  · cases h; exact ⟨h1, h2, fun e => by cases e⟩
theorem own_form {w : World} {B n size : Nat} {e : TypeId} {v : Value} {xs : List Value} (h : w.ownsRow B e size v n xs) : ∃ A c, v = .slice A n c := by
  rcases h.2 with ⟨rfl, rfl⟩ | ⟨g, cap, _, rfl, _⟩
  · exact ⟨none, 0, rfl⟩
  · exact ⟨_, cap, rfl⟩
theorem lies_any {w : World} {B n c size : Nat} {e : TypeId} {A : Option Addr} {vs : List Value} (hs : 0 < size) (h : w.ownsRow B e size (.slice A n c) n vs) : Lies w w.heap.size A vs := by
  rcases Nat.eq_zero_or_pos n with h0 | h0
  · have h1 := h.1
    rw [h0, Nat.zero_mul] at h1
    rw [List.eq_nil_of_length_eq_zero h1]
    exact Lies.none_ _ _ _
  · obtain ⟨g, cap, e1, _⟩ := own_shape (w := w) h (.inl h0)
    cases e1
    exact lies_own h
theorem dots_own {w : World} {B n c : Nat} {A : Option Addr} {m : List Dot} (h : w.ownsRow B 37 2 (.slice A n c) n (dv m)) (hf : Fit m) : Dots w w.heap.size A m := ⟨hf, lies_any (by decide) h⟩
theorem dot_at (W : World) (r : Dot) : ∀ (j : Nat) (u : Value), (dv [r])[j]? = some u → (W.alloc (.cells #[.int .u16 (r.1 : Int), .int .u64 (r.2 : Int)] 37)).cell? ((⟨W.heap.size, 0, none⟩ : Addr).add j) = some u := by
  intro j u hu
  rw [zero_add, World.cell?_alloc_new]
  have e : dv [r] = [.int .u16 (r.1 : Int), .int .u64 (r.2 : Int)] := rfl
  rw [e] at hu
  simpa using hu
theorem run_any (w : World) (B k : Nat) (v : Value) (xs : List Dot) (A : Option Addr) (m : List Dot) (n c : Nat) (ho : w.ownsRow B 37 2 v k (dv xs)) (hA : A = none → n = 0 ∧ c = 0) (hb : Lies w w.heap.size A (dv m)) (hl : m.length = n)
    (hn : k + n ≤ 8796093022208) (hB : B ≤ w.heap.size) :
    ∃ A' c' w', (Builtin.append_ #[38, 38] 38 #[v, .slice A n c]).run Try.prog w = .ok (.slice A' (k + n) c') w' ∧
      w'.ownsRow B 37 2 (.slice A' (k + n) c') (k + n) (dv (xs ++ m)) ∧ w.grownBy w' v.ownBlock := by
  obtain ⟨i0, hi0, hz0, hz1, hz2⟩ := info_parts dot_info
  cases A with
  | none =>
    obtain ⟨rfl, rfl⟩ := hA rfl
    obtain rfl := List.eq_nil_of_length_eq_zero hl
    obtain ⟨A', c', rfl⟩ := own_form ho
    exact ⟨A', c', w, run_append_owned_none (P := Try.prog) (w := w) B 38 38 37 i0 2 Try.underlying38 hi0 _ k (dv xs) ho, by rw [List.append_nil]; exact ho, turn_refl _ _⟩
  | some ad =>
    have hc : ∀ j u, (dv m)[j]? = some u → w.cell? (ad.add j) = some u := by
      intro j u hu
      have hjl : j < (dv m).length := (List.getElem?_eq_some_iff.1 hu).1
      obtain ⟨ad', e, hadb, hc⟩ := hb (by omega)
      obtain rfl := Option.some.inj e
      exact hc j u hu
    obtain ⟨v', w', hr, h2, h3, hat, h5⟩ := run_append_own_at (P := Try.prog) w B 38 38 37 i0 (.agg #[.int .u16 0, .int .u64 0]) 2 16 Try.underlying38 hi0 hz0 hz1 hz2 rfl (by decide) v k (dv xs) ho ad n c (dv m) (by rw [dv_length, hl]) hc (dv_one m) (by simp only [maxLen]; omega) (by omega) hB
    obtain ⟨A', c', rfl⟩ := own_form h2
    exact ⟨A', c', w', hr, by rw [dv_append]; exact h2, h3⟩
theorem wpList_any {ops : Array Oper} {rest : List Oper} {o : Oper} {a : Act} {Q : Exit → Act → World → Prop} (hgd : o.guard = none) (s x : Operand) (ho : o.op = .call { callee := .builtin .append, args := #[s, x], argTypes := #[38, 38] }) (hty : o.type = 38)
    (w : World) (B k : Nat) (v : Value) (xs : List Dot) (A : Option Addr) (m : List Dot) (n c : Nat) (hs : a.eval s = v) (hx : a.eval x = .slice A n c) (hw : w.ownsRow B 37 2 v k (dv xs)) (hA : A = none → n = 0 ∧ c = 0) (hb : Lies w w.heap.size A (dv m)) (hl : m.length = n)
    (hn : k + n ≤ 8796093022208) (hB : B ≤ w.heap.size)
    (hK : ∀ A' c' w', w'.ownsRow B 37 2 (.slice A' (k + n) c') (k + n) (dv (xs ++ m)) → w.grownBy w' v.ownBlock → wpList Try.prog ops Q rest (a.put o.dst (.slice A' (k + n) c')) w') : wpList Try.prog ops Q (o :: rest) a w := by
  refine wpList_plain hgd fun K hQ => ?_
  obtain ⟨A', c', w', hr, h2, h3⟩ := run_any w B k v xs A m n c hw hA hb hl hn hB
  rw [← hty] at hr
  unfold Oper.wp execOp
  simp only [ho, resolve, invoke, builtin, Sem.run_bind, Sem.run_pure, Result.andThen_ok, List.map_toArray, List.map_cons, List.map_nil, hs, hx]
  rw [hty] at hr ⊢
  rw [hr]
  exact hQ _ _ (hK _ _ _ h2 h3)
/-- a list of one's own has grown: what lay, lies. -/
theorem any_grown {w wr w2 : World} {v : Value} {m : Nat} {xs : List Value} (ho : wr.ownsRow w.heap.size 37 2 v m xs) (hb : Below w.heap.size w wr) (hg : wr.grownBy w2 v.ownBlock) : Below w.heap.size w w2 :=
  hb.grown hg hb.size (fun k hk => (ho.lt k hk).1)
/-- a new block that is one dot. -/
theorem lies_one (V : World) (r : Dot) : Lies (V.alloc (.cells #[.int .u16 (r.1 : Int), .int .u64 (r.2 : Int)] 37)) (V.alloc (.cells #[.int .u16 (r.1 : Int), .int .u64 (r.2 : Int)] 37)).heap.size (some ⟨V.heap.size, 0, none⟩) (dv [r]) :=
  fun _ => ⟨_, rfl, by simp, dot_at V r⟩

/-- a list of dots comes out. -/
def DotPost (w : World) (m : List Dot) (e : Ending) (w' : World) : Prop := ∃ A n c, e = .returned (.slice A n c) ∧ m.length = n ∧ w'.ownsRow w.heap.size 37 2 (.slice A n c) n (dv m) ∧ Below w.heap.size w w'
theorem post_dots {w w' : World} {m : List Dot} {e : Ending} (h : DotPost w m e w') (hf : Fit m) : ∃ A n c, e = .returned (.slice A n c) ∧ m.length = n ∧ (A = none → n = 0 ∧ c = 0) ∧ n ≤ c ∧ c ≤ 9223372036854775807 ∧ Dots w' w'.heap.size A m ∧ w'.ownsRow w.heap.size 37 2 (.slice A n c) n (dv m) ∧ Below w.heap.size w w' := by
  obtain ⟨A, n, c, rfl, hn, ho, hb⟩ := h
  obtain ⟨h1, h2, h3⟩ := own_len ho
  exact ⟨A, n, c, rfl, hn, h3, h1, h2, dots_own ho hf, ho, hb⟩

/-- a dot more, in its place. -/
def putD (l : List Dot) (d : Dot) : List Dot := l.filter (fun x => aheadD x d) ++ [d] ++ l.filter (fun x => aheadD d x)
def sortD (l : List Dot) : List Dot := l.foldl putD []
theorem ahead_iff (a b : Dot) : aheadD a b = true ↔ a.1 < b.1 ∨ (a.1 = b.1 ∧ a.2 < b.2) := decide_eq_true_iff
theorem cmp_neg (x d : Dot) : decide (cmpD x d < 0) = aheadD x d := by
  cases h : aheadD x d with
  | true => exact decide_eq_true (by rw [cmp_less h]; omega)
  | false => exact decide_eq_false (by have := cmp_sign x d h; omega)
theorem cmp_pos (x d : Dot) : decide (0 < cmpD x d) = aheadD d x := by
  cases h : aheadD d x with
  | true => exact decide_eq_true (by rw [cmp_more h]; omega)
  | false =>
    apply decide_eq_false
    unfold cmpD
    split
    · omega
    · rename_i hne
      have h2 : aheadD x d = true := by
        rw [ahead_iff]
        have h3 : ¬ (d.1 < x.1 ∨ (d.1 = x.1 ∧ d.2 < x.2)) := fun h' => by rw [(ahead_iff d x).2 h'] at h; exact absurd h (by simp)
        have h4 : ¬ (x.1 = d.1 ∧ x.2 = d.2) := fun h' => hne (Prod.ext h'.1 h'.2)
        omega
      rw [if_pos h2]; omega
theorem filter_next (f : Dot → Bool) {l : List Dot} {k : Nat} {x : Dot} (h : l[k]? = some x) : (l.take (k + 1)).filter f = (l.take k).filter f ++ (if f x = true then [x] else []) := by
  rw [take_next h, List.filter_append]
  by_cases hf : f x = true
  · simp [hf]
  · simp [hf]
theorem fit_put {l : List Dot} {d : Dot} (h : Fit l) (hd : d.1 < 65536 ∧ d.2 < 18446744073709551616) : Fit (putD l d) := by
  intro r hr
  unfold putD at hr
  simp only [List.mem_append, List.mem_filter, List.mem_singleton] at hr
  rcases hr with (hr | rfl) | hr
  · exact h r hr.1
  · exact hd
  · exact h r hr.1
theorem put_length (l : List Dot) (d : Dot) : (putD l d).length ≤ l.length + 1 := by
  have h : ∀ m : List Dot, (m.filter (fun x => aheadD x d)).length + (m.filter (fun x => aheadD d x)).length ≤ m.length := by
    intro m
    induction m with
    | nil => simp
    | cons x m ih =>
      have hx : ¬ (aheadD x d = true ∧ aheadD d x = true) := by
        rintro ⟨h1, h2⟩
        rw [ahead_iff] at h1 h2
        omega
      by_cases h1 : aheadD x d = true
      · have h2 : ¬ aheadD d x = true := fun h => hx ⟨h1, h⟩
        simp [h1, h2]; omega
      · by_cases h2 : aheadD d x = true
        · simp [h1, h2]; omega
        · simp [h1, h2]; omega
  have := h l
  unfold putD
  simp only [List.length_append, List.length_singleton]
  omega
end Go.Proofs.Ytblgbbpbhcaodaa.Dt

/- Lists of events of one's own (append), and what the document's Put of layer event comes to. Condition: at most 3 * 2^39 events in all. -/
namespace Go.Proofs.Ytblgbbpbhcaodaa.Ev
open Go.ChangeShapes Go.WideShapes Go.ChangeAt Go.RowKit
set_option linter.unusedVariables false
set_option maxRecDepth 4000

theorem evt_info : (Try.prog.info? 40).map (fun i => (i.zero, i.size, i.bytes)) = some (some (.agg #[.int .u16 0, .int .u64 0, .int .u8 0, .int .u64 0, .int .u8 0, .string ⟨#[]⟩, .slice none 0 0]), 7, 80) := by kernel_rfl
/-- a new block that is one event. -/
theorem lies_evt (V : World) (q : EV) : Dt.Lies (V.alloc q.box) (V.alloc q.box).heap.size (some ⟨V.heap.size, 0, none⟩) (ev [q]) := fun _ => by
  refine ⟨_, rfl, by rw [alloc_size]; exact Nat.lt_succ_self _, fun j u hu => ?_⟩
  rw [Dt.zero_add, World.cell?_alloc_new]
  have e : ev [q] = q.cells := by simp [ev]
  rw [e] at hu
  simpa using hu
theorem run_evt (w : World) (B k : Nat) (v : Value) (xs : List EV) (A : Option Addr) (m : List EV) (n c : Nat) (ho : w.ownsRow B 40 7 v k (ev xs)) (hA : A = none → n = 0 ∧ c = 0) (hb : Dt.Lies w w.heap.size A (ev m)) (hl : m.length = n)
    (hn : k + n ≤ 1649267441664) (hB : B ≤ w.heap.size) :
    ∃ A' c' w', (Builtin.append_ #[22, 22] 22 #[v, .slice A n c]).run Try.prog w = .ok (.slice A' (k + n) c') w' ∧
      w'.ownsRow B 40 7 (.slice A' (k + n) c') (k + n) (ev (xs ++ m)) ∧ w.grownBy w' v.ownBlock := by
  obtain ⟨i0, hi0, hz0, hz1, hz2⟩ := info_parts evt_info
  cases A with
  | none =>
    obtain ⟨rfl, rfl⟩ := hA rfl
    obtain rfl := List.eq_nil_of_length_eq_zero hl
    obtain ⟨A', c', rfl⟩ := Dt.own_form ho
    exact ⟨A', c', w, run_append_owned_none (P := Try.prog) (w := w) B 22 22 40 i0 7 Try.underlying22 hi0 _ k (ev xs) ho, by rw [List.append_nil]; exact ho, Dt.turn_refl _ _⟩
  | some ad =>
    have hc : ∀ j u, (ev m)[j]? = some u → w.cell? (ad.add j) = some u := by
      intro j u hu
      have hjl : j < (ev m).length := (List.getElem?_eq_some_iff.1 hu).1
      obtain ⟨ad', e, hadb, hc⟩ := hb (by omega)
      obtain rfl := Option.some.inj e
      exact hc j u hu
    obtain ⟨v', w', hr, h2, h3, hat, h5⟩ := run_append_own_at (P := Try.prog) w B 22 22 40 i0 (.agg #[.int .u16 0, .int .u64 0, .int .u8 0, .int .u64 0, .int .u8 0, .string ⟨#[]⟩, .slice none 0 0]) 7 80 Try.underlying22 hi0 hz0 hz1 hz2 rfl (by decide) v k (ev xs) ho ad n c (ev m) (by rw [ev_length, hl]) hc (ev_one m) (by simp only [maxLen]; omega) (by omega) hB
    obtain ⟨A', c', rfl⟩ := Dt.own_form h2
    exact ⟨A', c', w', hr, by rw [ev_append]; exact h2, h3⟩
theorem wpList_evt {ops : Array Oper} {rest : List Oper} {o : Oper} {a : Act} {Q : Exit → Act → World → Prop} (hgd : o.guard = none) (s x : Operand) (ho : o.op = .call { callee := .builtin .append, args := #[s, x], argTypes := #[22, 22] }) (hty : o.type = 22)
    (w : World) (B k : Nat) (v : Value) (xs : List EV) (A : Option Addr) (m : List EV) (n c : Nat) (hs : a.eval s = v) (hx : a.eval x = .slice A n c) (hw : w.ownsRow B 40 7 v k (ev xs)) (hA : A = none → n = 0 ∧ c = 0) (hb : Dt.Lies w w.heap.size A (ev m)) (hl : m.length = n)
    (hn : k + n ≤ 1649267441664) (hB : B ≤ w.heap.size)
    (hK : ∀ A' c' w', w'.ownsRow B 40 7 (.slice A' (k + n) c') (k + n) (ev (xs ++ m)) → w.grownBy w' v.ownBlock → wpList Try.prog ops Q rest (a.put o.dst (.slice A' (k + n) c')) w') : wpList Try.prog ops Q (o :: rest) a w := by
  refine wpList_plain hgd fun K hQ => ?_
  obtain ⟨A', c', w', hr, h2, h3⟩ := run_evt w B k v xs A m n c hw hA hb hl hn hB
  rw [← hty] at hr
  unfold Oper.wp execOp
  simp only [ho, resolve, invoke, builtin, Sem.run_bind, Sem.run_pure, Result.andThen_ok, List.map_toArray, List.map_cons, List.map_nil, hs, hx]
  rw [hty] at hr ⊢
  rw [hr]
  exact hQ _ _ (hK _ _ _ h2 h3)
/-- a list of one's own has grown: what lay, lies. -/
theorem evt_grown {w wr w2 : World} {v : Value} {m : Nat} {xs : List Value} (ho : wr.ownsRow w.heap.size 40 7 v m xs) (hb : Below w.heap.size w wr) (hg : wr.grownBy w2 v.ownBlock) : Below w.heap.size w w2 :=
  hb.grown hg hb.size (fun k hk => (ho.lt k hk).1)
theorem bel_alloc {w W : World} (o : Obj) (h : Below w.heap.size w W) : Below w.heap.size w (W.alloc o) := h.alloc h.size o

/-- a list of events comes out. -/
def EvPost (w : World) (l : List Evt) (e : Ending) (w' : World) : Prop := ∃ A n c, e = .returned (.slice A n c) ∧ EventsAt w' w'.heap.size A l n c ∧ Below w.heap.size w w'
/-- one event more: has the new one been put, and the list so far. -/
def stepE (e : Evt) (s : Bool × List Evt) (x : Evt) : Bool × List Evt := if Dt.aheadD e.dot x.dot = true ∧ s.1 = false then (true, s.2 ++ [e, x]) else (s.1, s.2 ++ [x])
def stE (l : List Evt) (e : Evt) (k : Nat) : Bool × List Evt := (l.take k).foldl (stepE e) (false, [])
/-- an event more, in its place, but that one with its dot is there. -/
noncomputable def putE (l : List Evt) (e : Evt) : List Evt := if ∃ x ∈ l, x.dot = e.dot then l else if (stE l e l.length).1 = true then (stE l e l.length).2 else (stE l e l.length).2 ++ [e]
theorem st_next {l : List Evt} {e x : Evt} {k : Nat} (h : l[k]? = some x) : stE l e (k + 1) = stepE e (stE l e k) x := by
  unfold stE
  rw [List.take_add_one, h, List.foldl_append]
  rfl
theorem st_long (l : List Evt) (e : Evt) (k : Nat) : (stE l e k).2.length ≤ k + (if (stE l e k).1 = true then 1 else 0) := by
  have h : ∀ (m : List Evt) (s : Bool × List Evt), (m.foldl (stepE e) s).2.length + (if s.1 = true then 1 else 0) ≤ s.2.length + m.length + (if (m.foldl (stepE e) s).1 = true then 1 else 0) := by
    intro m
    induction m with
    | nil => intro s; exact Nat.le_refl _
    | cons x m ih =>
      intro s
      have h1 := ih (stepE e s x)
      rw [List.foldl_cons]
      unfold stepE at h1 ⊢
      obtain ⟨b, t⟩ := s
      by_cases hc : Dt.aheadD e.dot x.dot = true ∧ b = false
      · rw [if_pos hc] at h1 ⊢
        obtain ⟨_, rfl⟩ := hc
        simp only [List.length_append, List.length_cons, List.length_nil] at h1 ⊢
        simp only [reduceIte, Bool.false_eq_true] at h1 ⊢
        omega
      · rw [if_neg hc] at h1 ⊢
        simp only [List.length_append, List.length_cons, List.length_nil] at h1 ⊢
        omega
  have h2 := h (l.take k) (false, [])
  have h3 : (l.take k).length ≤ k := List.length_take_le _ _
  unfold stE
  simp only [List.length_nil, Bool.false_eq_true, if_false, Nat.add_zero, Nat.zero_add] at h2
  omega
theorem put_there {l : List Evt} {e x : Evt} {k : Nat} (h : l[k]? = some x) (hd : x.dot = e.dot) : putE l e = l := by
  unfold putE
  rw [if_pos ⟨x, List.mem_of_getElem? h, hd⟩]
/-- no event so far has the dot. -/
def NoDot (l : List Evt) (e : Evt) (k : Nat) : Prop := ∀ j x, j < k → l[j]? = some x → x.dot ≠ e.dot
theorem nodot_next {l : List Evt} {e x : Evt} {k : Nat} (h : NoDot l e k) (hx : l[k]? = some x) (hd : x.dot ≠ e.dot) : NoDot l e (k + 1) := fun j y hj hy => by
  rcases Nat.lt_succ_iff_lt_or_eq.1 hj with h2 | rfl
  · exact h j y h2 hy
  · rw [hx] at hy; cases hy; exact hd
theorem put_done {l : List Evt} {e : Evt} {n : Nat} (hn : l.length = n) (h : NoDot l e n) : putE l e = if (stE l e n).1 = true then (stE l e n).2 else (stE l e n).2 ++ [e] := by
  unfold putE
  rw [if_neg (fun ⟨x, hx, hd⟩ => by obtain ⟨j, hj, rfl⟩ := List.getElem_of_mem hx; exact h j _ (by omega) (List.getElem?_eq_getElem hj) hd), hn]
theorem match_snoc {w : World} {B : Nat} {ps : List EV} {l : List Evt} {p : EV} {x : Evt} (h : Match w B ps l) (hp : EventIs w B p x) : Match w B (ps ++ [p]) (l ++ [x]) := h.snoc hp
/-- what a round of Put knows. -/
def PRel (w w1 : World) (n : Nat) (l : List Evt) (x : Evt) (v b i : Value) (wr : World) : Prop :=
  ∃ k m A c ps, k ≤ n ∧ i = .int .i64 ((k : Nat) : Int) ∧ b = .bool (stE l x k).1 ∧ v = .slice A m c ∧ ps.length = m ∧ Match w w.heap.size ps (stE l x k).2 ∧ wr.ownsRow w1.heap.size 40 7 (.slice A m c) m (ev ps) ∧ NoDot l x k ∧ Below w1.heap.size w1 wr
theorem own_events {w w1 wr : World} {A : Option Addr} {m c : Nat} {ps : List EV} {l : List Evt} (hb : Below w.heap.size w wr) (hm : Match w w.heap.size ps l) (hl : ps.length = m) (hw : m ≤ 2199023255552) (ho : wr.ownsRow w1.heap.size 40 7 (.slice A m c) m (ev ps)) : EventsAt wr wr.heap.size A l m c := by
  obtain ⟨h1, h2, h3⟩ := Dt.own_len ho
  exact ⟨by rw [← hm.1]; exact hl, h3, h1, h2, hw, ps, Dt.lies_any (by decide) ho, (hm.below hb).more hb.size⟩
end Go.Proofs.Ytblgbbpbhcaodaa.Ev

/- The contract of the document's Put of layer event. For every list of at most 2^40 events. -/
namespace Go.Proofs.Ytblgbbpbhcaodaa.Ev
open Go.ChangeShapes Go.WideShapes Go.ChangeAt Go.RowKit
set_option linter.unusedVariables false
set_option maxRecDepth 4000

theorem bel_drew {w W : World} (h : Below w.heap.size w W) : Below w.heap.size w W.drew := h.drew
theorem cells_later {w V : World} {a : Addr} {p : EV} (h : CellsAt w a p) (hb : Below w.heap.size w V) : CellsAt V a p := h.kept hb
theorem cmp_zero {a b : Dt.Dot} (h : ¬ a = b) : (Dt.cmpD a b == 0) = false := by
  rw [beq_eq_false_iff_ne]
  unfold Dt.cmpD
  rw [if_neg h]
  split <;> omega
theorem is_dot {w : World} {B : Nat} {p : EV} {x : Evt} (h : EventIs w B p x) : x.dot = (p.dev, p.num) := by rw [h.dev, h.num]
theorem p_rel {w w1 wr : World} {n k m c : Nat} {A : Option Addr} {l : List Evt} {x y : Evt} {ps : List EV} {b : Bool} {o : List Evt} (hk : k < n) (hy : l[k]? = some y) (hs : stepE x (stE l x k) y = (b, o)) (hm : ps.length = m) (hma : Match w w.heap.size ps o) (ho : wr.ownsRow w1.heap.size 40 7 (.slice A m c) m (ev ps)) (hn : NoDot l x k) (hd : y.dot ≠ x.dot) (hb : Below w1.heap.size w1 wr) :
    PRel w w1 n l x (.slice A m c) (.bool b) (.int .i64 ((k : Int) + 1)) wr := by
  have h := st_next (e := x) hy
  rw [hs] at h
  exact ⟨k + 1, m, A, c, ps, hk, by go_num, by rw [h], rfl, hm, by rw [h]; exact hma, ho, nodot_next hn hy hd, hb⟩

set_option maxHeartbeats 8000000 in
theorem rput_any (w : World) (A0 : Option Addr) (l : List Evt) (n c0 : Nat) (p : EV) (x : Evt) (hl : EventsAt w w.heap.size A0 l n c0) (hp : EventIs w w.heap.size p x) (h40 : n ≤ 1099511627776) :
    Calls Try.prog 16 #[.slice A0 n c0, p.val] w (EvPost w (putE l x)) := by
  have HL := Lib.hid hl
  have HP := Lib.hid hp
  have hpd := Lib.hid (is_dot hp)
  clear hl hp
  simp only [EV.val]
  have HB1 := Lib.hid (below_new w p.box)
  have hbx := (box_new w p _ (Below.refl _ _)).all
  simp only [EV.box] at HB1 hbx
  go_enter Try.func16, Try.ntmps16
  go_wp2_with fail
  generalize hw1 : w.alloc (.cells #[.int .u16 (p.dev : Int), .int .u64 (p.num : Int), .int .u8 (p.kind : Int), .int .u64 (p.cid : Int), .int .u8 (p.fld : Int), .string p.txt, .slice p.adr p.len p.cap] 40) = w1 at *
  clear hw1
  have HD : Hid (∀ V, Below w1.heap.size w1 V → V.cell? ⟨w.heap.size, 0, none⟩ = some (.int .u16 (p.dev : Int)) ∧ V.cell? ⟨w.heap.size, 1, none⟩ = some (.int .u64 (p.num : Int)) ∧ V.cell? ⟨w.heap.size, 2, none⟩ = some (.int .u8 (p.kind : Int)) ∧ V.cell? ⟨w.heap.size, 3, none⟩ = some (.int .u64 (p.cid : Int)) ∧ V.cell? ⟨w.heap.size, 4, none⟩ = some (.int .u8 (p.fld : Int)) ∧ V.cell? ⟨w.heap.size, 5, none⟩ = some (.string p.txt) ∧ V.cell? ⟨w.heap.size, 6, none⟩ = some (.slice p.adr p.len p.cap)) := Lib.hid (fun V hV =>
    ⟨stays hV hbx.1, stays hV hbx.2.1, stays hV hbx.2.2.1, stays hV hbx.2.2.2.1, stays hV hbx.2.2.2.2.1, stays hV hbx.2.2.2.2.2.1, stays hV hbx.2.2.2.2.2.2⟩)
  clear hbx
  go_loopw [5, 6, 7] (fun v b i wr => PRel w w1 n l x v b i wr) (fun _ _ i _ => n - (intOf i).toNat)
  case atStart => exact ⟨0, 0, none, 0, [], Nat.zero_le _, rfl, rfl, rfl, rfl, Match.nil_ _ _, World.ownsRow_nil _ _ _ _, fun j y hj => absurd hj (Nat.not_lt_zero _), Below.refl _ _⟩
  case round =>
    obtain ⟨k, m, A, c, ps, hk, rfl, rfl, rfl, hm, hma, ho, hnd, hw⟩ := hrel
    have hmk : m ≤ k + 1 := by
      have h1 := st_long l x k
      rw [← hm, hma.1]
      split at h1 <;> omega
    have HM := Lib.hid hm
    have HMA := Lib.hid hma
    have HO := Lib.hid ho
    have HND := Lib.hid hnd
    have HW := Lib.hid hw
    clear hm hma ho hnd hw
    by_cases hlt : k < n
    · obtain ⟨ad, q, y, rfl, hB, hly, hq, cq⟩ := HL.out.at_ hlt
      have HQ : Hid (∀ V, Below w1.heap.size w1 V → CellsAt V (ad.add (k * 7)) q) := Lib.hid (fun V hV => cells_later cq (HB1.out.trans (hV.mono HB1.out.size)))
      have hqd := Lib.hid (is_dot hq)
      have HQI := Lib.hid hq
      have HLY := Lib.hid hly
      clear hly hq cq
      have HC : Hid (∀ V, Below wr.heap.size wr V → (V.cell? (ad.add (k * 7)) = some (.int .u16 (q.dev : Int)) ∧ V.cell? ⟨(ad.add (k * 7)).block, (ad.add (k * 7)).off + 1, none⟩ = some (.int .u64 (q.num : Int))) ∧ V.cell? ⟨w.heap.size, 0, none⟩ = some (.int .u16 (p.dev : Int)) ∧ V.cell? ⟨w.heap.size, 1, none⟩ = some (.int .u64 (p.num : Int))) := Lib.hid (fun V hV => by
        have hb := HW.out.trans (hV.mono HW.out.size)
        have h1 := HQ.out V hb
        have h2 := HD.out V hb
        exact ⟨⟨h1.c0, h1.c1⟩, h2.1, h2.2.1⟩)
      obtain ⟨⟨d1, d2⟩, d3, d4⟩ := HC.out wr (Below.refl _ _)
      go_wp2_with fail
      go_region_held3 (fun V => (V.cell? (ad.add (k * 7)) = some (.int .u16 (q.dev : Int)) ∧ V.cell? ⟨(ad.add (k * 7)).block, (ad.add (k * 7)).off + 1, none⟩ = some (.int .u64 (q.num : Int))) ∧ V.cell? ⟨w.heap.size, 0, none⟩ = some (.int .u16 (p.dev : Int)) ∧ V.cell? ⟨w.heap.size, 1, none⟩ = some (.int .u64 (p.num : Int))) (first | exact ⟨⟨d1, d2⟩, d3, d4⟩ | assumption | exact HC.out _ (by (repeat (first | exact Below.refl _ _ | assumption | apply bel_drew)))) (first
        | (go_at_call 39; (with_reducible refine (Dt.rcmp_later wr _ (q.dev, q.num) (p.dev, p.num) ?_).mono ?_); (repeat (first | exact Below.refl _ _ | assumption | apply bel_drew)); rintro e V ⟨rfl, bv⟩; have hcV := HC.out V bv))
      all_goals
        have HV : Hid (Below w1.heap.size w1 V) := HW.out.trans (bv.mono HW.out.size)
        have HOV := Lib.hid (Dt.own_kept HO.out bv)
        have HWV := Lib.hid (HB1.out.trans (HV.out.mono HB1.out.size))
        clear bv d1 d2 d3 d4 hcV HC
        by_cases hdot : (q.dev, q.num) = (p.dev, p.num)
        · have hz : Dt.cmpD (q.dev, q.num) (p.dev, p.num) = 0 := by rw [hdot]; exact Dt.cmp_same _
          rw [hz]
          have HR := Lib.hid (put_there (e := x) HLY.out (by rw [hqd.out, hpd.out, hdot]))
          clear hdot hz
          go_wp2
          go_ret
          rw [HR.out]
          exact ⟨some ad, n, c0, rfl, (HL.out.below HWV.out).more HWV.out.size, HWV.out⟩
        · have hz := cmp_zero hdot
          have hz2 := Dt.cmp_pos (q.dev, q.num) (p.dev, p.num)
          have hyx : y.dot ≠ x.dot := by rw [hqd.out, hpd.out]; exact hdot
          generalize Dt.cmpD (q.dev, q.num) (p.dev, p.num) = z at hz hz2 ⊢
          obtain ⟨e0, e1, e2, e3, e4, e5, e6⟩ := HQ.out V HV.out
          clear hdot
          cases ha : Dt.aheadD (p.dev, p.num) (q.dev, q.num) with
          | false =>
            rw [ha] at hz2
            have HS0 : Hid (stepE x (stE l x k) y = ((stE l x k).1, (stE l x k).2 ++ [y])) := Lib.hid (by unfold stepE; rw [hqd.out, hpd.out, ha, if_neg (by simp)])
            clear ha
            generalize (stE l x k).1 = b at *
            have HS := HS0
            have HLO : Hid (m + 1 ≤ 1649267441664) := Lib.hid (by omega)
            have HWA : Hid (Below w1.heap.size w1 (V.alloc q.box)) := Lib.hid (bel_alloc _ HV.out)
            go_wp2_with (at_builtin; refine wpList_evt rfl (.tmp 36) (.tmp 41) rfl rfl _ w1.heap.size m (.slice A m c) ps (some ⟨V.heap.size, 0, none⟩) [q] 1 1 rfl rfl (HOV.out.alloc _) (fun h => by cases h) (lies_evt V q) rfl HLO.out HWA.out.size ?_; intro A3 c3 V3 ho3 hg3; have HR := Lib.hid (p_rel hlt HLY.out HS.out (by rw [List.length_append, HM.out]; rfl) (HMA.out.snoc HQI.out) ho3 HND.out hyx (evt_grown (HOV.out.alloc _) HWA.out hg3)); clear ho3 hg3)
            go_roundw
            case rel => exact HR.out
            case measure => simp [intOf]; omega
          | true =>
            rw [ha] at hz2
            cases hb : (stE l x k).1 with
            | true =>
              have HS : Hid (stepE x (stE l x k) y = (true, (stE l x k).2 ++ [y])) := Lib.hid (by unfold stepE; rw [hb, if_neg (by simp)])
              clear ha
              have HLO : Hid (m + 1 ≤ 1649267441664) := Lib.hid (by omega)
              have HWA : Hid (Below w1.heap.size w1 (V.alloc q.box)) := Lib.hid (bel_alloc _ HV.out)
              go_wp2_with (at_builtin; refine wpList_evt rfl (.tmp 36) (.tmp 41) rfl rfl _ w1.heap.size m (.slice A m c) ps (some ⟨V.heap.size, 0, none⟩) [q] 1 1 rfl rfl (HOV.out.alloc _) (fun h => by cases h) (lies_evt V q) rfl HLO.out HWA.out.size ?_; intro A3 c3 V3 ho3 hg3; have HR := Lib.hid (p_rel hlt HLY.out HS.out (by rw [List.length_append, HM.out]; rfl) (HMA.out.snoc HQI.out) ho3 HND.out hyx (evt_grown (HOV.out.alloc _) HWA.out hg3)); clear ho3 hg3)
              go_roundw
              case rel => exact HR.out
              case measure => simp [intOf]; omega
            | false =>
              have HS : Hid (stepE x (stE l x k) y = (true, (stE l x k).2 ++ [x] ++ [y])) := Lib.hid (by unfold stepE; rw [hb, hqd.out, hpd.out, ha, if_pos ⟨rfl, rfl⟩, List.append_assoc]; rfl)
              clear ha
              have HLO : Hid (m + 1 ≤ 1649267441664) := Lib.hid (by omega)
              have HWA : Hid (Below w1.heap.size w1 (V.alloc p.box)) := Lib.hid (bel_alloc _ HV.out)
              obtain ⟨p0, p1, p2, p3, p4, p5, p6⟩ := HD.out V HV.out
              go_upto_region 12 with (at_builtin; refine wpList_evt rfl (.tmp 32) (.tmp 34) rfl rfl _ w1.heap.size m (.slice A m c) ps (some ⟨V.heap.size, 0, none⟩) [p] 1 1 rfl rfl (HOV.out.alloc _) (fun h => by cases h) (lies_evt V p) rfl HLO.out HWA.out.size ?_; intro A3 c3 V3 ho3 hg3; have HO2 := Lib.hid ho3; have HW2 := Lib.hid (evt_grown (HOV.out.alloc _) HWA.out hg3); clear ho3 hg3)
              clear p0 p1 p2 p3 p4 p5 p6 e0 e1 e2 e3 e4 e5 e6
              obtain ⟨e0, e1, e2, e3, e4, e5, e6⟩ := HQ.out V3 HW2.out
              have HLO2 : Hid (m + 1 + 1 ≤ 1649267441664) := Lib.hid (by omega)
              have HWA2 : Hid (Below w1.heap.size w1 (V3.alloc q.box)) := Lib.hid (bel_alloc _ HW2.out)
              go_wp2_with (at_builtin; refine wpList_evt rfl (.tmp 36) (.tmp 41) rfl rfl _ w1.heap.size (m + 1) (.slice A3 (m + 1) c3) (ps ++ [p]) (some ⟨V3.heap.size, 0, none⟩) [q] 1 1 rfl rfl (HO2.out.alloc _) (fun h => by cases h) (lies_evt V3 q) rfl HLO2.out HWA2.out.size ?_; intro A4 c4 V4 ho3 hg3; have HR := Lib.hid (p_rel hlt HLY.out HS.out (by rw [List.length_append, List.length_append, HM.out]; rfl) ((HMA.out.snoc HP.out).snoc HQI.out) ho3 HND.out hyx (evt_grown (HO2.out.alloc _) HWA2.out hg3)); clear ho3 hg3)
              go_roundw
              case rel => exact HR.out
              case measure => simp [intOf]; omega
    · obtain rfl : k = n := by omega
      have HR := Lib.hid (put_done HL.out.len HND.out)
      have HWE := Lib.hid (HB1.out.trans (HW.out.mono HB1.out.size))
      cases hb : (stE l x k).1 with
      | true =>
        have HE : Hid (putE l x = (stE l x k).2) := Lib.hid (by rw [HR.out, hb, if_pos rfl])
        go_wp2
        go_ret
        rw [HE.out]
        exact ⟨A, m, c, rfl, own_events HWE.out HMA.out HM.out (by omega) HO.out, HWE.out⟩
      | false =>
        have HE : Hid (putE l x = (stE l x k).2 ++ [x]) := Lib.hid (by rw [HR.out, hb, if_neg (by simp)])
        have HLO : Hid (m + 1 ≤ 1649267441664) := Lib.hid (by omega)
        have HWA : Hid (Below w1.heap.size w1 (wr.alloc p.box)) := Lib.hid (bel_alloc _ HW.out)
        obtain ⟨p0, p1, p2, p3, p4, p5, p6⟩ := HD.out wr HW.out
        go_wp2_with (at_builtin; refine wpList_evt rfl (.tmp 45) (.tmp 47) rfl rfl _ w1.heap.size m (.slice A m c) ps (some ⟨wr.heap.size, 0, none⟩) [p] 1 1 rfl rfl (HO.out.alloc _) (fun h => by cases h) (lies_evt wr p) rfl HLO.out HWA.out.size ?_; intro A3 c3 V3 ho3 hg3; have HO2 := Lib.hid ho3; have HW2 := Lib.hid (evt_grown (HO.out.alloc _) HWA.out hg3); clear ho3 hg3)
        go_ret
        rw [HE.out]
        have HWE3 := HB1.out.trans (HW2.out.mono HB1.out.size)
        exact ⟨A3, m + 1, c3, rfl, own_events HWE3 (HMA.out.snoc HP.out) (by rw [List.length_append, HM.out]; rfl) (by omega) HO2.out, HWE3⟩
end Go.Proofs.Ytblgbbpbhcaodaa.Ev

/- The contracts of the program's functions of layer dot on single dots: Good, ahead, Cmp, ifGood, Unpack; and of shift's Split. For every dot and number of their types. -/
namespace Go.Proofs.Ytblgbbpbhcaodaa.Dt
open Go.ChangeShapes Go.WideShapes Go.ChangeAt Go.RowKit
set_option linter.unusedVariables false

theorem below_new2 (w : World) (o1 o2 : Obj) : Below w.heap.size w ((w.alloc o1).alloc o2) := (below_new w o1).alloc (below_new w o1).size o2
/-- a dot of its types. -/
def FitD (d : Dot) : Prop := d.1 < 65536 ∧ d.2 < 18446744073709551616
theorem pgood_any (w : World) (a n : Nat) :
    Calls Try.prog 53 #[.agg #[.int .u16 (a : Int), .int .u64 (n : Int)]] w fun e w' => e = .returned (.bool (mayD (a, n))) ∧ Below w.heap.size w w' := by
  have HB : Hid (Below w.heap.size w (w.alloc (.cells #[.int .u16 (a : Int), .int .u64 (n : Int)] 37))) := below_new w _
  by_cases c1 : 1 ≤ a
  · have d1 : ((a : Int) != 0) = true := by rw [bne_iff_ne]; omega
    by_cases c2 : 1 ≤ n
    · have d2 : ((n : Int) != 0) = true := by rw [bne_iff_ne]; omega
      have hd : mayD (a, n) = decide ((n : Int) ≤ 281474976710655) := decide_eq_decide.2 ⟨fun h => by have := h.2.2; simp at this; omega, fun h => ⟨c1, c2, by simp; omega⟩⟩
      rw [hd]
      clear hd
      go_enter Try.func53, Try.ntmps53
      go_wp2
      go_ret
      exact ⟨rfl, HB.out⟩
    · have hd : mayD (a, n) = false := decide_eq_false (fun h => c2 h.2.1)
      have d2 : ((n : Int) != 0) = false := by rw [bne_eq_false_iff_eq]; omega
      rw [hd]
      clear hd
      go_enter Try.func53, Try.ntmps53
      go_wp2
      go_ret
      exact ⟨rfl, HB.out⟩
  · have hd : mayD (a, n) = false := decide_eq_false (fun h => c1 h.1)
    have d1 : ((a : Int) != 0) = false := by rw [bne_eq_false_iff_eq]; omega
    rw [hd]
    clear hd
    go_enter Try.func53, Try.ntmps53
    go_wp2
    go_ret
    exact ⟨rfl, HB.out⟩
/-- the world with two dots more. -/
def two (w : World) (a b : Dot) : World := (w.alloc (.cells #[.int .u16 (a.1 : Int), .int .u64 (a.2 : Int)] 37)).alloc (.cells #[.int .u16 (b.1 : Int), .int .u64 (b.2 : Int)] 37)
theorem pahead_two (w : World) (a b : Dot) :
    Calls Try.prog 59 #[.agg #[.int .u16 (a.1 : Int), .int .u64 (a.2 : Int)], .agg #[.int .u16 (b.1 : Int), .int .u64 (b.2 : Int)]] w fun e w' => e = .returned (.bool (aheadD a b)) ∧ w' = two w a b := by
  obtain ⟨a1, a2⟩ := a
  obtain ⟨b1, b2⟩ := b
  by_cases h1 : a1 = b1
  · subst h1
    have hd : aheadD (a1, a2) (a1, b2) = decide (a2 < b2) := decide_eq_decide.2 ⟨fun h => by simp at h; omega, fun h => .inr ⟨rfl, by simp; omega⟩⟩
    rw [hd]
    clear hd
    go_enter Try.func59, Try.ntmps59
    go_wp2
    go_ret
    exact ⟨rfl, rfl⟩
  · have e1 : ((a1 : Int) != (b1 : Int)) = true := by rw [bne_iff_ne]; omega
    have hd : aheadD (a1, a2) (b1, b2) = decide (a1 < b1) := decide_eq_decide.2 ⟨fun h => by simp at h; omega, fun h => .inl (by simp; omega)⟩
    rw [hd]
    clear hd
    go_enter Try.func59, Try.ntmps59
    go_wp2
    go_ret
    exact ⟨rfl, rfl⟩
theorem pahead_any (w : World) (a b : Dot) :
    Calls Try.prog 59 #[.agg #[.int .u16 (a.1 : Int), .int .u64 (a.2 : Int)], .agg #[.int .u16 (b.1 : Int), .int .u64 (b.2 : Int)]] w fun e w' => e = .returned (.bool (aheadD a b)) ∧ Below w.heap.size w w' :=
  (pahead_two w a b).mono fun _ _ ⟨h1, h2⟩ => ⟨h1, by rw [h2]; exact below_new2 w _ _⟩
/-- what Cmp leaves: the two dots, laid once or twice. -/
def Left (w : World) (a b : Dot) (w' : World) : Prop := w' = two w a b ∨ w' = two (two w a b) a b
theorem pcmp_left (w : World) (a b : Dot) :
    Calls Try.prog 43 #[.agg #[.int .u16 (a.1 : Int), .int .u64 (a.2 : Int)], .agg #[.int .u16 (b.1 : Int), .int .u64 (b.2 : Int)]] w fun e w' => e = .returned (.int .i64 (cmpD a b)) ∧ Left w a b w' := by
  have CA := fun W => pahead_two W a b
  obtain ⟨a1, a2⟩ := a
  obtain ⟨b1, b2⟩ := b
  by_cases h : a1 = b1 ∧ a2 = b2
  · obtain ⟨rfl, rfl⟩ := h
    clear CA
    rw [cmp_same]
    go_enter Try.func43, Try.ntmps43
    go_wp2
    go_ret
    exact ⟨rfl, .inl rfl⟩
  · have hc : cmpD (a1, a2) (b1, b2) = if aheadD (a1, a2) (b1, b2) = true then -1 else 1 := if_neg (fun e => h (by cases e; exact ⟨rfl, rfl⟩))
    rw [hc]
    clear hc
    have hne : ((a1 : Int) == (b1 : Int)) = false ∨ (a1 = b1 ∧ ((a2 : Int) == (b2 : Int)) = false) := by
      by_cases e : a1 = b1
      · refine .inr ⟨by omega, ?_⟩; rw [beq_eq_false_iff_ne]; omega
      · refine .inl ?_; rw [beq_eq_false_iff_ne]; omega
    clear h
    rcases hne with q | ⟨rfl, q⟩
    all_goals
      generalize aheadD _ _ = ah at CA ⊢
      cases ah
      all_goals
        go_enter Try.func43, Try.ntmps43
        go_wp2_with fail
        refine (CA _).mono ?_
        rintro e w1 ⟨rfl, rfl⟩
        go_wp2
        go_ret
        exact ⟨rfl, .inr rfl⟩
theorem pcmp_any (w : World) (a b : Dot) :
    Calls Try.prog 43 #[.agg #[.int .u16 (a.1 : Int), .int .u64 (a.2 : Int)], .agg #[.int .u16 (b.1 : Int), .int .u64 (b.2 : Int)]] w fun e w' => e = .returned (.int .i64 (cmpD a b)) ∧ Below w.heap.size w w' :=
  (pcmp_left w a b).mono fun _ _ ⟨h1, h2⟩ => ⟨h1, by
    have h3 : Below w.heap.size w (two w a b) := below_new2 w _ _
    rcases h2 with rfl | rfl
    · exact h3
    · exact h3.trans (Below.mono (below_new2 (two w a b) _ _) h3.size)⟩
theorem wraps_u64 (n : Int) (h₀ : 0 ≤ n) (h₁ : n < 2 ^ 64) : IntKind.u64.wrap n = n := by rw [IntKind.wrap_u64]; omega
theorem low_any (v : Int) (w : World) (h0 : 0 ≤ v) (h1 : v < 18446744073709551616) :
    Calls Try.prog 81 #[.int .u64 v] w fun e w' => e = .returned (.int .u64 (v % 281474976710656)) ∧ w' = w := by
  go_enter Try.func81, Try.ntmps81
  go_wp2
  go_ret
  exact ⟨ret_int (by rw [IntKind.wrap_u64]; omega), rfl⟩
theorem ssplit_any (v : Int) (w : World) (h0 : 0 ≤ v) (h1 : v < 18446744073709551616) :
    Calls Try.prog 67 #[.int .u64 v] w fun e w' => e = .returned (.tuple #[.int .u16 (v / 281474976710656), .int .u64 (v % 281474976710656)]) ∧ w' = w := by
  go_enter Try.func67, Try.ntmps67
  go_wp2_with (go_at_call 81; refine (low_any _ _ (by omega) (by omega)).mono ?_; rintro e w' ⟨rfl, rfl⟩)
  go_ret2
  exact ⟨rfl, rfl⟩
/-- a dot that may be, or none. -/
def keepD (d : Dot) : Dot × Bool := if mayD d = true then (d, true) else ((0, 0), false)
/-- a new block for a dot that comes out: in every later world it may be written. -/
theorem new_cells (w : World) : ∀ V, Below (w.alloc (.cells #[.int .u16 0, .int .u64 0] 37)).heap.size (w.alloc (.cells #[.int .u16 0, .int .u64 0] 37)) V → (V.cell? ⟨w.heap.size, 0, none⟩ = some (.int .u16 0) ∧ V.cell? ⟨w.heap.size, 1, none⟩ = some (.int .u64 0)) ∧ V.frozen? ⟨w.heap.size, 0, none⟩ = false ∧ V.frozen? ⟨w.heap.size, 1, none⟩ = false := by
  intro V hV
  have hc1 : (w.alloc (.cells #[.int .u16 0, .int .u64 0] 37)).cell? ⟨w.heap.size, 0, none⟩ = some (.int .u16 0) := by simp [go_sem]
  have hc2 : (w.alloc (.cells #[.int .u16 0, .int .u64 0] 37)).cell? ⟨w.heap.size, 1, none⟩ = some (.int .u64 0) := by simp [go_sem]
  exact ⟨⟨(hV.cell (World.block_lt_of_cell? _ _ hc1)).trans hc1, (hV.cell (World.block_lt_of_cell? _ _ hc2)).trans hc2⟩, (hV.frozen (World.block_lt_of_cell? _ _ hc1)).trans (World.frozen?_alloc_new _ _ _ _), (hV.frozen (World.block_lt_of_cell? _ _ hc2)).trans (World.frozen?_alloc_new _ _ _ _)⟩
theorem pif_any (w : World) (d : Dot) :
    Calls Try.prog 68 #[.agg #[.int .u16 (d.1 : Int), .int .u64 (d.2 : Int)]] w fun e w' => e = .returned (.tuple #[.agg #[.int .u16 ((keepD d).1.1 : Int), .int .u64 ((keepD d).1.2 : Int)], .bool (keepD d).2]) ∧ Below w.heap.size w w' := by
  obtain ⟨a, n⟩ := d
  have CG := fun W => pgood_any W a n
  have HB : Hid (Below w.heap.size w ((w.alloc (.cells #[.int .u16 (a : Int), .int .u64 (n : Int)] 37)).alloc (.cells #[.int .u16 0, .int .u64 0] 37))) := below_new2 w _ _
  have hd0 : ∀ V, Below ((w.alloc (.cells #[.int .u16 (a : Int), .int .u64 (n : Int)] 37)).alloc (.cells #[.int .u16 0, .int .u64 0] 37)).heap.size ((w.alloc (.cells #[.int .u16 (a : Int), .int .u64 (n : Int)] 37)).alloc (.cells #[.int .u16 0, .int .u64 0] 37)) V → V.cell? ⟨w.heap.size, 0, none⟩ = some (.int .u16 (a : Int)) ∧ V.cell? ⟨w.heap.size, 1, none⟩ = some (.int .u64 (n : Int)) := fun V hV => by
    have hc1 : ((w.alloc (.cells #[.int .u16 (a : Int), .int .u64 (n : Int)] 37)).alloc (.cells #[.int .u16 0, .int .u64 0] 37)).cell? ⟨w.heap.size, 0, none⟩ = some (.int .u16 (a : Int)) := by simp [go_sem]
    have hc2 : ((w.alloc (.cells #[.int .u16 (a : Int), .int .u64 (n : Int)] 37)).alloc (.cells #[.int .u16 0, .int .u64 0] 37)).cell? ⟨w.heap.size, 1, none⟩ = some (.int .u64 (n : Int)) := by simp [go_sem]
    exact ⟨(hV.cell (World.block_lt_of_cell? _ _ hc1)).trans hc1, (hV.cell (World.block_lt_of_cell? _ _ hc2)).trans hc2⟩
  have HC := Lib.hid hd0
  have HN := Lib.hid (new_cells (w.alloc (.cells #[.int .u16 (a : Int), .int .u64 (n : Int)] 37)))
  have hs : (w.alloc (.cells #[.int .u16 (a : Int), .int .u64 (n : Int)] 37)).heap.size = w.heap.size + 1 := by simp
  rw [hs] at HN
  clear hd0 hs
  unfold keepD
  cases hm : mayD (a, n) with
  | true =>
    rw [hm] at CG
    rw [if_pos rfl]
    clear hm
    go_enter Try.func68, Try.ntmps68
    go_wp2_with fail
    refine (CG _).mono ?_
    rintro e w1 ⟨rfl, hb1⟩
    obtain ⟨x1, x2⟩ := HC.out _ hb1
    obtain ⟨⟨y1, y2⟩, z1, z2⟩ := HN.out _ hb1
    have HB1 : Hid (Below w.heap.size w w1) := HB.out.trans (hb1.mono HB.out.size)
    clear hb1 CG HC HN
    go_wp2
    refine bodyPost_ret (v := .tuple #[.agg #[.int .u16 (a : Int), .int .u64 (n : Int)], .bool true]) ?_ rfl ?_
    · simp [results, Try.f68, go_sem, y1, y2]
    · exact ⟨rfl, (HB1.out.setCell (by simp) _).setCell (by simp) _⟩
  | false =>
    rw [hm] at CG
    rw [if_neg (by simp)]
    clear hm
    go_enter Try.func68, Try.ntmps68
    go_wp2_with fail
    refine (CG _).mono ?_
    rintro e w1 ⟨rfl, hb1⟩
    obtain ⟨⟨y1, y2⟩, z1, z2⟩ := HN.out _ hb1
    have HB1 : Hid (Below w.heap.size w w1) := HB.out.trans (hb1.mono HB.out.size)
    clear hb1 CG HC HN
    go_wp2
    refine bodyPost_ret (v := .tuple #[.agg #[.int .u16 0, .int .u64 0], .bool false]) ?_ rfl ?_
    · simp [results, Try.f68, go_sem, y1, y2]
    · exact ⟨rfl, (HB1.out.setCell (by simp) _).setCell (by simp) _⟩
theorem punpack_any (w : World) (v : Nat) (h1 : v < 18446744073709551616) :
    Calls Try.prog 52 #[.int .u64 (v : Int)] w fun e w' => e = .returned (.tuple #[.agg #[.int .u16 ((unpackD v).1.1 : Int), .int .u64 ((unpackD v).1.2 : Int)], .bool (unpackD v).2]) ∧ Below w.heap.size w w' := by
  have hk : unpackD v = keepD (splitD v) := rfl
  rw [hk]
  have CS := fun W => ssplit_any (v : Int) W (by omega) (by omega)
  have e1 : (v : Int) / 281474976710656 = ((splitD v).1 : Int) := by unfold splitD; simp only; omega
  have e2 : (v : Int) % 281474976710656 = ((splitD v).2 : Int) := by unfold splitD; simp only; omega
  have CI := fun W => pif_any W (splitD v)
  rw [e1, e2] at CS
  clear hk e1 e2 h1
  generalize keepD (splitD v) = u at CI ⊢
  generalize ((splitD v).1 : Int) = x at CS CI
  generalize ((splitD v).2 : Int) = y at CS CI
  go_enter Try.func52, Try.ntmps52
  go_wp2_with fail
  refine (CS _).mono ?_
  rintro e w1 ⟨rfl, rfl⟩
  go_wp2_with fail
  refine (CI _).mono ?_
  rintro e w2 ⟨rfl, hb2⟩
  have HB2 : Hid (Below w.heap.size w w2) := (below_new w _).trans (hb2.mono (below_new w _).size)
  obtain ⟨⟨y1, y2⟩, z1, z2⟩ := new_cells w _ hb2
  clear hb2
  go_wp2
  refine bodyPost_ret (v := .tuple #[.agg #[.int .u16 (u.1.1 : Int), .int .u64 (u.1.2 : Int)], .bool u.2]) ?_ rfl ?_
  · simp [results, Try.f52, go_sem, y1, y2]
  · exact ⟨rfl, (HB2.out.setCell (by simp) _).setCell (by simp) _⟩
end Go.Proofs.Ytblgbbpbhcaodaa.Dt

/- The contracts of the program's Same and Has of layer dot. For every list. -/
namespace Go.Proofs.Ytblgbbpbhcaodaa.Dt
open Go.ChangeShapes Go.WideShapes Go.ChangeAt Go.RowKit
set_option linter.unusedVariables false

end Go.Proofs.Ytblgbbpbhcaodaa.Dt

/- The contract of the program's Rising of layer dot. For every list. -/
namespace Go.Proofs.Ytblgbbpbhcaodaa.Dt
open Go.ChangeShapes Go.WideShapes Go.ChangeAt Go.RowKit
set_option linter.unusedVariables false

theorem pahead_later (w W : World) (a b : Dot) (hW : Below w.heap.size w W) :
    Calls Try.prog 59 #[.agg #[.int .u16 (a.1 : Int), .int .u64 (a.2 : Int)], .agg #[.int .u16 (b.1 : Int), .int .u64 (b.2 : Int)]] W fun e V => e = .returned (.bool (aheadD a b)) ∧ Below w.heap.size w V :=
  (pahead_any W a b).mono fun _ _ ⟨h1, h2⟩ => ⟨h1, hW.trans (h2.mono hW.size)⟩
theorem one_dot' (w : World) (d : Dot) : ∀ V, Below (w.alloc (.cells #[.int .u16 (d.1 : Int), .int .u64 (d.2 : Int)] 37)).heap.size (w.alloc (.cells #[.int .u16 (d.1 : Int), .int .u64 (d.2 : Int)] 37)) V → V.cell? ⟨w.heap.size, 0, none⟩ = some (.int .u16 (d.1 : Int)) ∧ V.cell? ⟨w.heap.size, 1, none⟩ = some (.int .u64 (d.2 : Int)) := by
  intro V hV
  have hc1 : (w.alloc (.cells #[.int .u16 (d.1 : Int), .int .u64 (d.2 : Int)] 37)).cell? ⟨w.heap.size, 0, none⟩ = some (.int .u16 (d.1 : Int)) := by simp [go_sem]
  have hc2 : (w.alloc (.cells #[.int .u16 (d.1 : Int), .int .u64 (d.2 : Int)] 37)).cell? ⟨w.heap.size, 1, none⟩ = some (.int .u64 (d.2 : Int)) := by simp [go_sem]
  exact ⟨(hV.cell (World.block_lt_of_cell? _ _ hc1)).trans hc1, (hV.cell (World.block_lt_of_cell? _ _ hc2)).trans hc2⟩
theorem rise_one (l : List Dot) (k : Nat) (h : k ≤ 1) : riseB (l.take k) = true := by
  rcases l with _ | ⟨a, l⟩
  · simp [riseB]
  · obtain rfl | rfl : k = 0 ∨ k = 1 := by omega
    · rfl
    · simp [riseB]

set_option maxHeartbeats 4000000 in
theorem prising_any (w : World) (A : Option Addr) (l : List Dot) (n c : Nat) (e1 : l.length = n) (h1 : Dots w w.heap.size A l) (h63 : n ≤ 9223372036854775806) :
    Calls Try.prog 71 #[.slice A n c] w fun e w' => e = .returned (.bool (riseB l)) ∧ Below w.heap.size w w' := by
  have H1 := Lib.hid h1
  have E1 := Lib.hid e1
  clear h1 e1
  go_enter Try.func71, Try.ntmps71
  go_wp2
  go_loopw [7] (fun i wr => ∃ j : Nat, i = .int .i64 (j : Int) ∧ j ≤ n ∧ riseB (l.take j) = true ∧ Below w.heap.size w wr) (fun i _ => n - (intOf i).toNat)
  case atStart => exact ⟨0, rfl, Nat.zero_le _, by simp [riseB], Below.refl _ _⟩
  case round =>
    obtain ⟨j, rfl, hj, ht, hw⟩ := hrel
    have HT := Lib.hid ht
    have HW := Lib.hid hw
    clear ht hw
    by_cases hlt : j < n
    · obtain ⟨ad, y, rfl, hB, hly, hy1, hy2, hcy⟩ := H1.out.cells (k := j) (by rw [E1.out]; omega)
      obtain ⟨d1, d2⟩ := hcy wr HW.out
      obtain ⟨y1, y2⟩ := y
      have HX := Lib.hid (one_dot' wr (y1, y2))
      have HB4 : Hid (Below w.heap.size w (wr.alloc (.cells #[.int .u16 (y1 : Int), .int .u64 (y2 : Int)] 37))) := HW.out.trans ((below_new _ _).mono HW.out.size)
      obtain rfl | ⟨i, rfl⟩ : j = 0 ∨ ∃ i, j = i + 1 := by
        rcases j with _ | i
        · exact .inl rfl
        · exact .inr ⟨i, rfl⟩
      · have e0 : ad.add (0 * 2) = ad := by unfold Addr.add; simp
        rw [e0] at d1 d2
        clear hcy e0 hy1 hy2 HX
        have hr := Lib.hid (rise_one l 1 (Nat.le_refl _))
        go_wp2_with fail
        go_quiet (fail)
        go_wp2
        go_roundw
        case rel => exact ⟨1, by go_num, by omega, hr.out, bel_drewN HB4.out _⟩
        case measure => simp [intOf]; omega
      · obtain ⟨ad', x, e', _, hlx, hx1, hx2, hcx⟩ := H1.out.cells (k := i) (by rw [E1.out]; omega)
        obtain rfl : ad = ad' := Option.some.inj e'
        obtain ⟨x1, x2⟩ := x
        have R2 := riseB_two hlx hly
        rw [HT.out, Bool.true_and] at R2
        have RR := Lib.hid R2
        clear e' R2 hlx hly hx1 hx2 hy1 hy2
        have HC : Hid (∀ V, Below (wr.alloc (.cells #[.int .u16 (y1 : Int), .int .u64 (y2 : Int)] 37)).heap.size (wr.alloc (.cells #[.int .u16 (y1 : Int), .int .u64 (y2 : Int)] 37)) V → (V.cell? (ad.add (i * 2)) = some (.int .u16 (x1 : Int)) ∧ V.cell? ⟨(ad.add (i * 2)).block, (ad.add (i * 2)).off + 1, none⟩ = some (.int .u64 (x2 : Int))) ∧ V.cell? ⟨wr.heap.size, 0, none⟩ = some (.int .u16 (y1 : Int)) ∧ V.cell? ⟨wr.heap.size, 1, none⟩ = some (.int .u64 (y2 : Int))) := fun V hV =>
          ⟨hcx V (HB4.out.trans (hV.mono HB4.out.size)), HX.out V hV⟩
        clear hcx hcy HX
        have s1 : IntKind.i64.wrap ((i : Int) + 1 - 1) = (i : Int) := by rw [IntWalk.i64_in _ (by omega)]; omega
        have s0 : IntKind.i64.wrap (i : Int) = (i : Int) := IntWalk.i64_in _ (by omega)
        have s2 : (0 : Int) < (i : Int) + 1 := by omega
        have s3 : (0 : Int) ≤ (i : Int) := by omega
        have s4 : ((i : Int) + 1).toNat = i + 1 := by omega
        have s5 : (i : Int) < (n : Int) := by omega
        have s6 : (i : Int) + 1 < (n : Int) := by omega
        have s7 : (0 : Int) ≤ (i : Int) + 1 := by omega
        go_wp2_with fail
        generalize wr.alloc (.cells #[.int .u16 (y1 : Int), .int .u64 (y2 : Int)] 37) = W4 at HC HB4 ⊢
        obtain ⟨⟨f1, f2⟩, f3, f4⟩ := HC.out W4 (Below.refl _ _)
        go_region_held3 (fun V => (V.cell? (ad.add (i * 2)) = some (.int .u16 (x1 : Int)) ∧ V.cell? ⟨(ad.add (i * 2)).block, (ad.add (i * 2)).off + 1, none⟩ = some (.int .u64 (x2 : Int))) ∧ V.cell? ⟨wr.heap.size, 0, none⟩ = some (.int .u16 (y1 : Int)) ∧ V.cell? ⟨wr.heap.size, 1, none⟩ = some (.int .u64 (y2 : Int))) (first | exact ⟨⟨f1, f2⟩, f3, f4⟩ | assumption | exact HC.out _ (by (repeat (first | exact Below.refl _ _ | assumption | apply bel_drew)))) (first
          | (go_at_call 59; (with_reducible refine (pahead_later W4 _ (x1, x2) (y1, y2) ?_).mono ?_); (repeat (first | exact Below.refl _ _ | assumption | apply bel_drew)); rintro e V ⟨rfl, bv⟩; have hcV := HC.out V bv))
        all_goals
          have HV : Hid (Below w.heap.size w V) := HB4.out.trans (bv.mono HB4.out.size)
          clear hcV bv f1 f2 f3 f4 s1 s0
          cases ha : aheadD (x1, x2) (y1, y2) with
          | true =>
            rw [ha] at RR
            clear ha s2 s3 s4 s5 s6
            go_wp2
            go_roundw
            case rel => exact ⟨i + 2, by go_num, by omega, RR.out, HV.out⟩
            case measure => simp [intOf]; omega
          | false =>
            rw [ha] at RR
            have hf : Hid (riseB l = false) := Lib.hid (by
              cases hr : riseB l with
              | false => rfl
              | true =>
                have := riseB_part (l.take (i + 2)) (l.drop (i + 2)) (by rw [List.take_append_drop]; exact hr)
                rw [RR.out] at this
                exact absurd this (by simp))
            clear ha s2 s3 s4 s5 s6
            go_wp2
            go_ret
            exact ⟨ret_bool hf.out.symm, HV.out⟩
    · have hf : Hid (riseB l = true) := Lib.hid (by
        have := HT.out
        rw [List.take_of_length_le (by rw [E1.out]; omega)] at this
        exact this)
      go_wp2
      go_ret
      exact ⟨ret_bool hf.out.symm, HW.out⟩
end Go.Proofs.Ytblgbbpbhcaodaa.Dt
