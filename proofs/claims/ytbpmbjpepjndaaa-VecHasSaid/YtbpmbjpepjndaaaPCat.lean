/- The contracts of slices.Grow of no list and slices.Concat of two lists, at dots. Each list has at most 2^43 dots. -/
import Derived.Test.YtbpmbjpepjndaaaPTold
import Derived.Lib.AppendZeros
import Derived.Lib.SliceRun
namespace Go.Proofs.Ytbpmbjpepjndaaa.Dt
open Go.ChangeShapes Go.WideShapes Go.ChangeAt Go.RowKit
set_option linter.unusedVariables false

/-- append of any dots to a list of one's own that has room for them. -/
theorem run_into (w : World) (B k cap : Nat) (A0 : Option Addr) (xs : List Dot) (A : Option Addr) (m : List Dot) (n c : Nat) (ho : w.ownsRow B 27 2 (.slice A0 k cap) k (dv xs)) (hA : A = none → n = 0 ∧ c = 0) (hb : Lies w w.heap.size A (dv m)) (hl : m.length = n)
    (hn : k + n ≤ cap) (hB : B ≤ w.heap.size) (ty : TypeId) :
    ∃ w', (Builtin.append_ #[23, 23] ty #[.slice A0 k cap, .slice A n c]).run Try.prog w = .ok (.slice A0 (k + n) cap) w' ∧
      w'.ownsRow B 27 2 (.slice A0 (k + n) cap) (k + n) (dv (xs ++ m)) ∧ w.grownBy w' (Value.slice A0 k cap).ownBlock := by
  obtain ⟨i0, hi0, hz0, hz1, hz2⟩ := info_parts dot_info
  cases A with
  | none =>
    obtain ⟨rfl, rfl⟩ := hA rfl
    obtain rfl := List.eq_nil_of_length_eq_zero hl
    exact ⟨w, run_append_owned_none (P := Try.prog) (w := w) B 23 ty 27 i0 2 Try.underlying23 hi0 _ k (dv xs) ho, by rw [List.append_nil]; exact ho, turn_refl _ _⟩
  | some ad =>
    have hc : ∀ j u, (dv m)[j]? = some u → w.cell? (ad.add j) = some u := by
      intro j u hu
      have hjl : j < (dv m).length := (List.getElem?_eq_some_iff.1 hu).1
      obtain ⟨ad', e, hadb, hc⟩ := hb (by omega)
      obtain rfl := Option.some.inj e
      exact hc j u hu
    cases A0 with
    | none =>
      obtain ⟨h1, h2, h3⟩ := own_len ho
      obtain ⟨rfl, rfl⟩ := h3 rfl
      obtain rfl : n = 0 := by omega
      obtain ⟨v', w', hr, h2, h3, hat, h5⟩ := run_append_own_at (P := Try.prog) w B 23 ty 27 i0 (.agg #[.int .u16 0, .int .u64 0]) 2 16 Try.underlying23 hi0 hz0 hz1 hz2 rfl (by decide) _ 0 (dv xs) ho ad 0 c (dv m) (by rw [dv_length, hl]) hc (dv_one m) (by simp only [maxLen]; omega) (by omega) hB
      obtain rfl := hat.2 ⟨rfl, rfl⟩
      exact ⟨w', hr, by rw [dv_append]; exact h2, h3⟩
    | some ad0 =>
      rcases ho.2 with ⟨h, _⟩ | ⟨g, cap', cur, h, _⟩
      · cases h
      · cases h
        obtain ⟨w', hr, h2, h3⟩ := run_append_fits (P := Try.prog) w B 23 ty 27 i0 2 Try.underlying23 hi0 hz1 g k cap (dv xs) ho ad n c (dv m) (by rw [dv_length, hl]) hc (dv_one m) hn
        exact ⟨w', hr, by rw [dv_append]; exact h2, h3⟩
theorem wpList_into {ops : Array Oper} {rest : List Oper} {o : Oper} {a : Act} {Q : Exit → Act → World → Prop} (hgd : o.guard = none) (s x : Operand) (ho : o.op = .call { callee := .builtin .append, args := #[s, x], argTypes := #[23, 23] })
    (w : World) (B k cap : Nat) (A0 : Option Addr) (xs : List Dot) (A : Option Addr) (m : List Dot) (n c : Nat) (hs : a.eval s = .slice A0 k cap) (hx : a.eval x = .slice A n c) (hw : w.ownsRow B 27 2 (.slice A0 k cap) k (dv xs)) (hA : A = none → n = 0 ∧ c = 0) (hb : Lies w w.heap.size A (dv m)) (hl : m.length = n)
    (hn : k + n ≤ cap) (hB : B ≤ w.heap.size)
    (hK : ∀ w', w'.ownsRow B 27 2 (.slice A0 (k + n) cap) (k + n) (dv (xs ++ m)) → w.grownBy w' (Value.slice A0 k cap).ownBlock → wpList Try.prog ops Q rest (a.put o.dst (.slice A0 (k + n) cap)) w') : wpList Try.prog ops Q (o :: rest) a w := by
  refine wpList_plain hgd fun K hQ => ?_
  obtain ⟨w', hr, h2, h3⟩ := run_into w B k cap A0 xs A m n c hw hA hb hl hn hB o.type
  unfold Oper.wp execOp
  simp only [ho, resolve, invoke, builtin, Sem.run_bind, Sem.run_pure, Result.andThen_ok, List.map_toArray, List.map_cons, List.map_nil, hs, hx]
  rw [hr]
  exact hQ _ _ (hK _ h2 h3)

/-- slices.Grow of no list: a new one without a dot, and room. -/
theorem pgrow_any (w : World) (n : Nat) (hn : n ≤ 17592186044416) :
    Calls Try.prog 35 #[.slice none 0 0, .int .i64 (n : Int)] w fun e w' => ∃ A0 cap, e = .returned (.slice A0 0 cap) ∧ n ≤ cap ∧ w'.ownsRow w.heap.size 27 2 (.slice A0 0 cap) 0 (dv []) ∧ Below w.heap.size w w' := by
  rcases Nat.eq_zero_or_pos n with rfl | h0
  · go_enter Try.func35, Try.ntmps35
    go_wp2
    go_ret
    exact ⟨none, 0, rfl, Nat.le_refl _, World.ownsRow_nil _ _ _ _, Below.refl _ _⟩
  · obtain ⟨i0, hi0, hz0, hz1, hz2⟩ := info_parts dot_info
    have hr := Lib.run_append_nil_zeros (P := Try.prog) w 23 3 23 27 i0 (.agg #[.int .u16 0, .int .u64 0]) .i64 .i64 Try.underlying23 Try.underlying3 hi0 hz0 n h0 (by omega) (by omega) (by rw [hz2]; omega)
    have hge := grownCap_ge w n 0 27
    have hmx := grownCap_le_maxLen w n 0 27 (by simp only [maxLen]; omega)
    generalize grownCap w n 0 27 = cap at *
    have hsz : (Builtin.zeroCells (Value.agg #[.int .u16 0, .int .u64 0]).cells n ++ Builtin.zeroCells (Value.agg #[.int .u16 0, .int .u64 0]).cells (cap - n)).size = cap * 2 := by
      simp only [Array.size_append, size_zeroCells]
      show n * 2 + (cap - n) * 2 = cap * 2
      omega
    have HO : Hid ((w.drew.alloc (.cells (Builtin.zeroCells (Value.agg #[.int .u16 0, .int .u64 0]).cells n ++ Builtin.zeroCells (Value.agg #[.int .u16 0, .int .u64 0]).cells (cap - n)) 27)).ownsRow w.heap.size 27 2 (.slice (some ⟨w.heap.size, 0, none⟩) 0 cap) 0 (dv [])) :=
      World.ownsRow_made w.drew _ cap (Nat.le_refl _) hmx hsz
    have HB : Hid (Below w.heap.size w (w.drew.alloc (.cells (Builtin.zeroCells (Value.agg #[.int .u16 0, .int .u64 0]).cells n ++ Builtin.zeroCells (Value.agg #[.int .u16 0, .int .u64 0]).cells (cap - n)) 27))) := (Below.refl _ _).drew.alloc (Nat.le_refl _) _
    clear hsz
    generalize Builtin.zeroCells (Value.agg #[.int .u16 0, .int .u64 0]).cells n ++ Builtin.zeroCells (Value.agg #[.int .u16 0, .int .u64 0]).cells (cap - n) = cs at *
    go_enter Try.func35, Try.ntmps35
    go_wp2_with (at_builtin; refine Lib.wpList_append_run _ rfl _ _ _ _ rfl _ _ rfl rfl _ _ hr ?_)
    clear hr
    go_wp2
    go_ret
    exact ⟨some ⟨w.heap.size, 0, none⟩, cap, rfl, hge, HO.out, HB.out⟩
set_option maxHeartbeats 2000000 in
theorem pconcat_two (w : World) (b : Nat) (A1 A2 : Option Addr) (l1 l2 : List Dot) (n1 n2 c1 c2 : Nat) (h1 : VecAt w A1 l1 n1 c1) (h2 : VecAt w A2 l2 n2 c2) (hb : b < w.heap.size)
    (hc1 : w.cell? ⟨b, 0, none⟩ = some (.slice A1 n1 c1)) (hc2 : w.cell? ⟨b, 1, none⟩ = some (.slice A2 n2 c2)) :
    Calls Try.prog 30 #[.slice (some ⟨b, 0, none⟩) 2 2] w (DotPost w (l1 ++ l2)) := by
  have H1 := Lib.hid h1
  have H2 := Lib.hid h2
  have hf1 := h1.few
  have hf2 := h2.few
  have HC := Lib.hid (fun V (hV : Below w.heap.size w V) => And.intro ((hV.cell (p := ⟨b, 0, none⟩) hb).trans hc1) ((hV.cell (p := ⟨b, 1, none⟩) hb).trans hc2))
  have CG := fun W => pgrow_any W (n1 + n2) (by omega)
  simp only [Int.natCast_add] at CG
  clear h1 h2
  go_enter Try.func30, Try.ntmps30
  go_wp2
  refine wp_loop_rounds 3 ?_
  rw [rounds_succ]
  go_wp2
  rw [rounds_succ]
  go_wp2
  rw [rounds_succ]
  go_wp2_with fail
  refine (CG _).mono ?_
  rintro e W1 ⟨A0, cap, rfl, hcap, ho1, hb1⟩
  have HO1 := Lib.hid ho1
  have HB1 := Lib.hid hb1
  obtain ⟨q1, q2⟩ := HC.out W1 HB1.out
  clear ho1 hb1 CG hc1 hc2
  go_wp2
  refine wp_loop_rounds 3 ?_
  rw [rounds_succ]
  go_wp2_with (at_builtin; refine wpList_into rfl (.tmp 31) (.tmp 32) rfl _ w.heap.size 0 cap A0 [] A1 l1 n1 c1 rfl rfl HO1.out H1.out.nil (H1.out.up HB1.out).dots.2 H1.out.len (by omega) HB1.out.size ?_; intro W2 ho2 hg2)
  rw [Nat.zero_add, List.nil_append] at ho2
  have HB2 : Hid (Below w.heap.size w W2) := Lib.hid (any_grown HO1.out HB1.out hg2)
  have HO2 := Lib.hid ho2
  obtain ⟨q3, q4⟩ := HC.out W2 HB2.out
  clear ho2 hg2 q1 q2
  rw [rounds_succ]
  go_wp2_with (at_builtin; refine wpList_into rfl (.tmp 31) (.tmp 32) rfl _ w.heap.size n1 cap A0 l1 A2 l2 n2 c2 rfl rfl HO2.out H2.out.nil (H2.out.up HB2.out).dots.2 H2.out.len hcap HB2.out.size ?_; intro W3 ho3 hg3)
  have HB3 : Hid (Below w.heap.size w W3) := Lib.hid (any_grown HO2.out HB2.out hg3)
  have HO3 := Lib.hid ho3
  clear ho3 hg3 q3 q4
  rw [rounds_succ]
  go_wp2
  go_ret
  exact ⟨A0, n1 + n2, cap, rfl, by rw [List.length_append, H1.out.len, H2.out.len], HO3.out, HB3.out⟩
end Go.Proofs.Ytbpmbjpepjndaaa.Dt
