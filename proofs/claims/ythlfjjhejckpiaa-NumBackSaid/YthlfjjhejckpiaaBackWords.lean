/- What the walk of the law NumBack rests on: what was written is read; what stands at the front of any bytes; contracts in a later world. -/
import Derived.Test.YthlfjjhejckpiaaCuts
import Derived.Deep.RegionHeld3
import Derived.StillTailTactics
namespace Go.Proofs.Ythlfjjhejckpiaa.Nu
open Go.ChangeShapes Go.WideShapes Go.ChangeAt Go.RowKit
set_option linter.unusedVariables false

theorem below_drew {B : Nat} {a w : World} (h : Below B a w) : Below B a w.drew := h.drew
theorem below_drewN' {B : Nat} {a w : World} {n : Nat} (h : Below B a w) : Below B a (w.drewN n) := h.trans (below_drewN _ _ _)

/-- an operation that its guard passes over. -/
theorem still_skip {P : Program} {ops : Array Oper} {w : World} {Q : Act → Prop} {a : Act} {o : Oper} {rest : List Oper} (hw : Region.wanted o (yielded ops a.tmps) = false) (h : wpStill P ops w Q rest (a.put o.dst undef)) : wpStill P ops w Q (o :: rest) a :=
  wpStill_step fun K hK => by rw [if_neg (by rw [hw]; exact Bool.false_ne_true)]; exact hK _ h

theorem still_value {P : Program} {ops : Array Oper} {w : World} {Q : Act → Prop} {a : Act} {o : Oper} {rest : List Oper} (v : Value) (hw : Region.wanted o (yielded ops a.tmps) = true) (hr : (execOp a.eval o).run P w = .ok (.value v) w) (h : wpStill P ops w Q rest (a.put o.dst v)) : wpStill P ops w Q (o :: rest) a :=
  wpStill_step fun K hK => by
    rw [if_pos hw]
    unfold Oper.still
    rw [hr]
    exact ⟨rfl, hK _ h⟩

/-- what was written is read. -/
theorem what_back {v : Nat} (hv : v < 18446744073709551616) (rest : List Nat) : (enc v ++ rest)[0]? = some (blen v) ∧ What (blen v) ((enc v ++ rest).drop (0 + 1)) 0 v (1 + blen v) 0 := by
  have e : (enc v ++ rest).drop (0 + 1) = dig (blen v) v ++ rest := by unfold enc; simp
  have ht : (dig (blen v) v ++ rest).take (blen v) = dig (blen v) v := by
    have := List.take_left (l₁ := dig (blen v) v) (l₂ := rest)
    rwa [dig_length] at this
  refine ⟨by unfold enc; rfl, ?_⟩
  rw [e]
  have hw : What (blen v) (dig (blen v) v ++ rest) 0 (val ((dig (blen v) v ++ rest).take (blen v))) (0 + 1 + blen v) 0 := by
    refine .ok (decide_eq_true ⟨blen_le v, ?_⟩) (by simp [dig_length])
    cases hb : blen v with
    | zero => exact .inl rfl
    | succ b =>
      refine .inr ?_
      have hd := dig_head hv hb
      simpa [dig] using hd
  rw [ht, val_enc hv, Nat.zero_add] at hw
  exact hw

/-- what stands at the front of any bytes: no number, or one in its only form. -/
theorem rest_reads (A : Option Addr) (l : List Nat) (n c : Nat) (hn : l.length = n) (hnc : n ≤ c) (hc : c ≤ 9223372036854775807) :
    (∃ f : Nat, ¬ f = 0 ∧ ∀ W : World, Bytes W W.heap.size A l → Calls Try.prog 13 #[.slice A n c, .int .i64 0] W (Says W 0 0 f)) ∨
    ∃ y k : Nat, k ≤ n ∧ y < 18446744073709551616 ∧ enc y = l.take k ∧ ∀ W : World, Bytes W W.heap.size A l → Calls Try.prog 13 #[.slice A n c, .int .i64 0] W (Says W y k 0) := by
  rcases Nat.eq_zero_or_pos n with h0 | h0
  · subst h0
    exact .inl ⟨2, by omega, fun W _ => read_end W A 0 c (by omega)⟩
  · cases l with
    | nil => simp at hn; omega
    | cons x r =>
      by_cases hs : Small (x :: r)
      · have key : ∀ y z f, What x r 0 y z f → ∀ W : World, Bytes W W.heap.size A (x :: r) → Calls Try.prog 13 #[.slice A n c, .int .i64 0] W (Says W y z f) := by
          intro y z f hw W hb
          obtain ⟨ad, rfl, _⟩ := hb.2 (by simp)
          exact read_some W ad (x :: r) n c 0 x y z f hn hnc hc hb h0 rfl (by simpa using hw)
        cases hf : form x r with
        | false => exact .inl ⟨4, by omega, key 0 0 4 (.form hf)⟩
        | true =>
          rcases Nat.lt_or_ge r.length x with hl | hl
          · exact .inl ⟨2, by omega, key 0 0 2 (.short hf hl)⟩
          · obtain ⟨h8, hz⟩ := form_true hf
            have hst : Small (r.take x) := small_take (fun z hz => hs z (List.mem_cons_of_mem _ hz)) x
            obtain ⟨e1, e2⟩ := enc_val (n := x) (t := r.take x) h8 (by rw [List.length_take]; omega) hst (fun z hz' => by
              rcases hz with h | h
              · subst h; simp at hz'
              · intro h'; subst h'
                apply h
                rw [List.getElem?_take] at hz'
                split at hz'
                · exact hz'
                · cases hz')
            refine .inr ⟨val (r.take x), 0 + 1 + x, ?_, e2, ?_, key _ _ _ (.ok hf hl)⟩
            · simp at hn; omega
            · rw [e1, show 0 + 1 + x = x + 1 by omega, List.take_succ_cons]
      · exact .inl ⟨2, by omega, fun W hb => absurd hb.1 hs⟩

theorem nil_back (w W : World) (v : Nat) (hv : v < 18446744073709551616) (hb : Below w.heap.size w W) :
    Calls Try.prog 9 #[.slice none 0 0, .int .u64 (v : Int)] W fun e w' => ∃ g cap n, e = .returned (.slice (some ⟨g, 0, none⟩) n cap) ∧ Hid ((enc v).length = n) ∧ Below w.heap.size w w' ∧ Hid (Bytes w' w'.heap.size (some ⟨g, 0, none⟩) (enc v)) := by
  refine (append_nil W v hv).mono ?_
  rintro e w1 ⟨g, cap, n, rfl, hn, hgw, hown, hbel⟩
  exact ⟨g, cap, n, rfl, hn, hb.trans (hbel.mono hb.size), bytes_own hown (enc_small v)⟩
theorem works_later (w W : World) (hb : Below w.heap.size w W) : Calls Try.prog 12 #[] W fun e w' => e = .returned (.bool true) ∧ Below w.heap.size w w' :=
  (works_any W).mono fun _ _ h => ⟨h.1, hb.trans (h.2.mono hb.size)⟩

/-- the two lists one behind the other, own. -/
theorem joined {w : World} {v n : Nat} {l : List Nat} (hn : (enc v).length = n) (hs : Small l) : Small (enc v ++ l) := small_append (enc_small v) hs

end Go.Proofs.Ythlfjjhejckpiaa.Nu
