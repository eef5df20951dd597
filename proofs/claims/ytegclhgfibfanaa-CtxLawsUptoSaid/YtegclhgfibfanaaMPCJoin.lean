/- The contracts of slices.Concat of two contexts, and of the program's Join. Condition: each of at most 2^27 parts, of at most 2^27 runs together. -/
import Derived.Test.YtegclhgfibfanaaKO
import Derived.Lib.AppendZeros
import Derived.Lib.SliceRun
namespace Go.Proofs.Ytegclhgfibfanaa.Cx
open Go.ChangeShapes Go.WideShapes Go.ChangeAt Go.RowKit
set_option linter.unusedVariables false
set_option maxRecDepth 4000

/-- append of any parts to a list of one's own that has room for them. -/
theorem run_intoC (w : World) (B k cap : Nat) (A0 : Option Addr) (xs : List PV) (A : Option Addr) (m : List PV) (n c : Nat) (ho : w.ownsRow B 47 2 (.slice A0 k cap) k (cv xs)) (hA : A = none → n = 0 ∧ c = 0) (hb : Dt.Lies w w.heap.size A (cv m)) (hl : m.length = n)
    (hn : k + n ≤ cap) (hB : B ≤ w.heap.size) (ty : TypeId) :
    ∃ w', (Builtin.append_ #[23, 23] ty #[.slice A0 k cap, .slice A n c]).run Try.prog w = .ok (.slice A0 (k + n) cap) w' ∧
      w'.ownsRow B 47 2 (.slice A0 (k + n) cap) (k + n) (cv (xs ++ m)) ∧ w.grownBy w' (Value.slice A0 k cap).ownBlock := by
  obtain ⟨i0, hi0, hz0, hz1, hz2⟩ := info_parts part_info
  cases A with
  | none =>
    obtain ⟨rfl, rfl⟩ := hA rfl
    obtain rfl := List.eq_nil_of_length_eq_zero hl
    exact ⟨w, run_append_owned_none (P := Try.prog) (w := w) B 23 ty 47 i0 2 Try.underlying23 hi0 _ k (cv xs) ho, by rw [List.append_nil]; exact ho, Dt.turn_refl _ _⟩
  | some ad =>
    have hc : ∀ j u, (cv m)[j]? = some u → w.cell? (ad.add j) = some u := by
      intro j u hu
      have hjl : j < (cv m).length := (List.getElem?_eq_some_iff.1 hu).1
      obtain ⟨ad', e, hadb, hc⟩ := hb (by omega)
      obtain rfl := Option.some.inj e
      exact hc j u hu
    cases A0 with
    | none =>
      obtain ⟨h1, h2, h3⟩ := Dt.own_len ho
      obtain ⟨rfl, rfl⟩ := h3 rfl
      obtain rfl : n = 0 := by omega
      obtain ⟨v', w', hr, h2, h3, hat, h5⟩ := run_append_own_at (P := Try.prog) w B 23 ty 47 i0 (.agg #[.int .u16 0, .slice none 0 0]) 2 32 Try.underlying23 hi0 hz0 hz1 hz2 rfl (by decide) _ 0 (cv xs) ho ad 0 c (cv m) (by rw [cv_length, hl]) hc (cv_one m) (by simp only [maxLen]; omega) (by omega) hB
      obtain rfl := hat.2 ⟨rfl, rfl⟩
      exact ⟨w', hr, by rw [cv_append]; exact h2, h3⟩
    | some ad0 =>
      rcases ho.2 with ⟨h, _⟩ | ⟨g, cap', cur, h, _⟩
      · cases h
      · cases h
        obtain ⟨w', hr, h2, h3⟩ := run_append_fits (P := Try.prog) w B 23 ty 47 i0 2 Try.underlying23 hi0 hz1 g k cap (cv xs) ho ad n c (cv m) (by rw [cv_length, hl]) hc (cv_one m) hn
        exact ⟨w', hr, by rw [cv_append]; exact h2, h3⟩
theorem wpList_intoC {ops : Array Oper} {rest : List Oper} {o : Oper} {a : Act} {Q : Exit → Act → World → Prop} (hgd : o.guard = none) (s x : Operand) (ho : o.op = .call { callee := .builtin .append, args := #[s, x], argTypes := #[23, 23] })
    (w : World) (B k cap : Nat) (A0 : Option Addr) (xs : List PV) (A : Option Addr) (m : List PV) (n c : Nat) (hs : a.eval s = .slice A0 k cap) (hx : a.eval x = .slice A n c) (hw : w.ownsRow B 47 2 (.slice A0 k cap) k (cv xs)) (hA : A = none → n = 0 ∧ c = 0) (hb : Dt.Lies w w.heap.size A (cv m)) (hl : m.length = n)
    (hn : k + n ≤ cap) (hB : B ≤ w.heap.size)
    (hK : ∀ w', w'.ownsRow B 47 2 (.slice A0 (k + n) cap) (k + n) (cv (xs ++ m)) → w.grownBy w' (Value.slice A0 k cap).ownBlock → wpList Try.prog ops Q rest (a.put o.dst (.slice A0 (k + n) cap)) w') : wpList Try.prog ops Q (o :: rest) a w := by
  refine wpList_plain hgd fun K hQ => ?_
  obtain ⟨w', hr, h2, h3⟩ := run_intoC w B k cap A0 xs A m n c hw hA hb hl hn hB o.type
  unfold Oper.wp execOp
  simp only [ho, resolve, invoke, builtin, Sem.run_bind, Sem.run_pure, Result.andThen_ok, List.map_toArray, List.map_cons, List.map_nil, hs, hx]
  rw [hr]
  exact hQ _ _ (hK _ h2 h3)

/-- slices.Grow of no context: a new one without a part, and room. -/
theorem pgrowC_any (w : World) (n : Nat) (hn : n ≤ 4398046511104) :
    Calls Try.prog 35 #[.slice none 0 0, .int .i64 (n : Int)] w fun e w' => ∃ A0 cap, e = .returned (.slice A0 0 cap) ∧ n ≤ cap ∧ w'.ownsRow w.heap.size 47 2 (.slice A0 0 cap) 0 (cv []) ∧ Below w.heap.size w w' := by
  rcases Nat.eq_zero_or_pos n with rfl | h0
  · go_enter Try.func35, Try.ntmps35
    go_wp2
    go_ret
    exact ⟨none, 0, rfl, Nat.le_refl _, World.ownsRow_nil _ _ _ _, Below.refl _ _⟩
  · obtain ⟨i0, hi0, hz0, hz1, hz2⟩ := info_parts part_info
    have hr := Lib.run_append_nil_zeros (P := Try.prog) w 23 3 23 47 i0 (.agg #[.int .u16 0, .slice none 0 0]) .i64 .i64 Try.underlying23 Try.underlying3 hi0 hz0 n h0 (by omega) (by omega) (by rw [hz2]; omega)
    have hge := grownCap_ge w n 0 47
    have hmx := grownCap_le_maxLen w n 0 47 (by simp only [maxLen]; omega)
    generalize grownCap w n 0 47 = cap at *
    have hsz : (Builtin.zeroCells (Value.agg #[.int .u16 0, .slice none 0 0]).cells n ++ Builtin.zeroCells (Value.agg #[.int .u16 0, .slice none 0 0]).cells (cap - n)).size = cap * 2 := by
      simp only [Array.size_append, size_zeroCells]
      show n * 2 + (cap - n) * 2 = cap * 2
      omega
    have HO : Hid ((w.drew.alloc (.cells (Builtin.zeroCells (Value.agg #[.int .u16 0, .slice none 0 0]).cells n ++ Builtin.zeroCells (Value.agg #[.int .u16 0, .slice none 0 0]).cells (cap - n)) 47)).ownsRow w.heap.size 47 2 (.slice (some ⟨w.heap.size, 0, none⟩) 0 cap) 0 (cv [])) :=
      World.ownsRow_made w.drew _ cap (Nat.le_refl _) hmx hsz
    have HB : Hid (Below w.heap.size w (w.drew.alloc (.cells (Builtin.zeroCells (Value.agg #[.int .u16 0, .slice none 0 0]).cells n ++ Builtin.zeroCells (Value.agg #[.int .u16 0, .slice none 0 0]).cells (cap - n)) 47))) := (Below.refl _ _).drew.alloc (Nat.le_refl _) _
    clear hsz
    generalize Builtin.zeroCells (Value.agg #[.int .u16 0, .slice none 0 0]).cells n ++ Builtin.zeroCells (Value.agg #[.int .u16 0, .slice none 0 0]).cells (cap - n) = cs at *
    go_enter Try.func35, Try.ntmps35
    go_wp2_with (at_builtin; refine Lib.wpList_append_run _ rfl _ _ _ _ rfl _ _ rfl rfl _ _ hr ?_)
    clear hr
    go_wp2
    go_ret
    exact ⟨some ⟨w.heap.size, 0, none⟩, cap, rfl, hge, HO.out, HB.out⟩
theorem Match.two {w : World} {ps qs : List PV} {a b : List Part} (h1 : Match w ps a) (h2 : Match w qs b) : Match w (ps ++ qs) (a ++ b) := by
  refine ⟨by rw [List.length_append, List.length_append, h1.1, h2.1], fun k p x hp hx => ?_⟩
  rcases Nat.lt_or_ge k ps.length with hk | hk
  · rw [List.getElem?_append_left hk] at hp
    rw [List.getElem?_append_left (by rw [← h1.1]; exact hk)] at hx
    exact h1.2 k p x hp hx
  · rw [List.getElem?_append_right hk] at hp
    rw [List.getElem?_append_right (by rw [← h1.1]; exact hk), ← h1.1] at hx
    exact h2.2 _ p x hp hx
set_option maxHeartbeats 2000000 in
theorem pconcatC_two (w : World) (b : Nat) (A1 A2 : Option Addr) (l1 l2 : List Part) (n1 n2 c1 c2 : Nat) (h1 : CtxAt w A1 l1 n1 c1) (h2 : CtxAt w A2 l2 n2 c2) (hf1 : n1 ≤ 134217728) (hf2 : n2 ≤ 134217728) (hb : b < w.heap.size)
    (hc1 : w.cell? ⟨b, 0, none⟩ = some (.slice A1 n1 c1)) (hc2 : w.cell? ⟨b, 1, none⟩ = some (.slice A2 n2 c2)) :
    Calls Try.prog 21 #[.slice (some ⟨b, 0, none⟩) 2 2] w (CtxPost w (l1 ++ l2)) := by
  have HN1 := Lib.hid h1.nil
  have HN2 := Lib.hid h2.nil
  have HL1 := Lib.hid h1.len
  have HL2 := Lib.hid h2.len
  obtain ⟨ps, hp1, hp2⟩ := h1.parts
  obtain ⟨qs, hq1, hq2⟩ := h2.parts
  have HP1 := Lib.hid hp1
  have HP2 := Lib.hid hp2
  have HQ1 := Lib.hid hq1
  have HQ2 := Lib.hid hq2
  have hpl : ps.length = n1 := by rw [hp2.1, h1.len]
  have hql : qs.length = n2 := by rw [hq2.1, h2.len]
  have HC := Lib.hid (fun V (hV : Below w.heap.size w V) => And.intro ((hV.cell (p := ⟨b, 0, none⟩) hb).trans hc1) ((hV.cell (p := ⟨b, 1, none⟩) hb).trans hc2))
  have CG := fun W => pgrowC_any W (n1 + n2) (by omega)
  simp only [Int.natCast_add] at CG
  clear h1 h2 hp1 hp2 hq1 hq2
  go_enter Try.func21, Try.ntmps21
  go_wp2
  refine wp_loop_rounds 3 ?_
  rw [rounds_succ]
  go_wp2
  rw [rounds_succ]
  go_wp2
  rw [rounds_succ]
  go_wp2_with fail
  refine (CG _).mono ?_
  rintro e W1 ⟨A0, cap, rfl, hcap, ho1, hb1⟩
  have HO1 := Lib.hid ho1
  have HB1 := Lib.hid hb1
  obtain ⟨q1, q2⟩ := HC.out W1 HB1.out
  clear ho1 hb1 CG hc1 hc2
  go_wp2
  refine wp_loop_rounds 3 ?_
  rw [rounds_succ]
  go_wp2_with (at_builtin; refine wpList_intoC rfl (.tmp 31) (.tmp 32) rfl _ w.heap.size 0 cap A0 [] A1 ps n1 c1 rfl rfl HO1.out HN1.out ((HP1.out.below HB1.out).more HB1.out.size) hpl (by omega) HB1.out.size ?_; intro W2 ho2 hg2)
  rw [Nat.zero_add, List.nil_append] at ho2
  have HB2 : Hid (Below w.heap.size w W2) := Lib.hid (HB1.out.grown hg2 HB1.out.size (fun j hj => (HO1.out.lt j hj).1))
  have HO2 := Lib.hid ho2
  obtain ⟨q3, q4⟩ := HC.out W2 HB2.out
  clear ho2 hg2 q1 q2
  rw [rounds_succ]
  go_wp2_with (at_builtin; refine wpList_intoC rfl (.tmp 31) (.tmp 32) rfl _ w.heap.size n1 cap A0 ps A2 qs n2 c2 rfl rfl HO2.out HN2.out ((HQ1.out.below HB2.out).more HB2.out.size) hql hcap HB2.out.size ?_; intro W3 ho3 hg3)
  have HB3 : Hid (Below w.heap.size w W3) := Lib.hid (HB2.out.grown hg3 HB2.out.size (fun j hj => (HO2.out.lt j hj).1))
  have HO3 := Lib.hid ho3
  clear ho3 hg3 q3 q4
  rw [rounds_succ]
  go_wp2
  go_ret
  exact ⟨A0, n1 + n2, cap, ps ++ qs, rfl, by rw [List.length_append, HL1.out, HL2.out], HO3.out, (HP2.out.up HB3.out).two (HQ2.out.up HB3.out), HB3.out⟩
set_option maxHeartbeats 1000000 in
theorem pjoin_any (w : World) (A1 A2 : Option Addr) (a b : List Part) (n1 n2 c1 c2 : Nat) (h1 : CtxAt w A1 a n1 c1) (h2 : CtxAt w A2 b n2 c2) (ha : Wide 134217728 a) (hb : Wide 134217728 b) :
    Calls Try.prog 5 #[.slice A1 n1 c1, .slice A2 n2 c2] w (CtxPost w (setC a b 0)) := by
  have HB0 : Hid (Below w.heap.size w (w.alloc (.cells #[.slice A1 n1 c1, .slice A2 n2 c2] 23))) := Lib.hid (Dt.below_new _ _)
  have CC := pconcatC_two (w.alloc (.cells #[.slice A1 n1 c1, .slice A2 n2 c2] 23)) w.heap.size A1 A2 a b n1 n2 c1 c2 (h1.up HB0.out) (h2.up HB0.out) (by rw [← h1.len]; exact ha.1) (by rw [← h2.len]; exact hb.1) (by simp) (by simp [go_sem]) (by simp [go_sem])
  have HW : Hid (Wide 268435456 (a ++ b)) := Lib.hid (by
    obtain ⟨q1, q2⟩ := ha
    obtain ⟨q3, q4⟩ := hb
    exact ⟨by rw [List.length_append]; omega, by rw [weight_two]; omega⟩)
  have HE := Lib.hid (norm_two h1.fit h2.fit)
  rw [← HE.out]
  clear h1 h2 ha hb HE
  generalize a ++ b = l at *
  go_enter Try.func5, Try.ntmps5
  go_wp2_with fail
  refine CC.mono ?_
  intro e w1 hp
  obtain ⟨A, n, c, rfl, hA, hb⟩ := post_ctx hp
  have CN := pnorm_any w1 A l n c hA HW.out
  have HB1 : Hid (Below w.heap.size w w1) := Lib.hid (HB0.out.trans (hb.mono HB0.out.size))
  clear hp hA hb CC
  go_wp2_with fail
  refine CN.mono ?_
  intro e w2 hp
  obtain ⟨A5, n5, c5, ps, rfl, h2⟩ := cpost_up HB1.out hp
  have HP := Lib.hid h2
  clear hp h2 CN
  go_wp2
  go_ret
  exact ⟨A5, n5, c5, ps, rfl, HP.out⟩
end Go.Proofs.Ytegclhgfibfanaa.Cx
