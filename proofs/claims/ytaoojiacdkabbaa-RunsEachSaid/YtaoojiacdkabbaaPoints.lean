/- The contract of the document's 'points': the numbers at which something may begin, or have ended. Condition: at most 512 runs on either side. -/
import Derived.Test.YtaoojiacdkabbaaPut
namespace Go.Proofs.Ytaoojiacdkabbaa.Ru
open Go.ChangeShapes Go.WideShapes Go.ChangeAt Go.RowKit
set_option linter.unusedVariables false

theorem own_less {w : World} {B B' n size : Nat} {e : TypeId} {v : Value} {xs : List Value} (h : w.ownsRow B' e size v n xs) (hB : B ≤ B') : w.ownsRow B e size v n xs := by
  refine ⟨h.1, ?_⟩
  rcases h.2 with hz | ⟨g, cap, cur, e, hg, hr⟩
  · exact .inl hz
  · exact .inr ⟨g, cap, cur, e, Nat.le_trans hB hg, hr⟩
theorem own_kept {w V : World} {B n size : Nat} {e : TypeId} {v : Value} {xs : List Value} (h : w.ownsRow B e size v n xs) (hb : Below w.heap.size w V) : V.ownsRow B e size v n xs := by
  refine ⟨h.1, ?_⟩
  rcases h.2 with hz | ⟨g, cap, cur, e, hg, hh, hr⟩
  · exact .inl hz
  · have hlt : g < w.heap.size := by
      rcases Nat.lt_or_ge g w.heap.size with h1 | h1
      · exact h1
      · rw [Array.getElem?_eq_none h1] at hh; cases hh
    exact .inr ⟨g, cap, cur, e, hg, (hb.block g hlt).trans hh, hr⟩
theorem lies_any {w : World} {B n c size : Nat} {e : TypeId} {A : Option Addr} {vs : List Value} (hs : 0 < size) (h : w.ownsRow B e size (.slice A n c) n vs) : Lies w w.heap.size A vs := by
  rcases Nat.eq_zero_or_pos n with h0 | h0
  · have h1 := h.1
    rw [h0, Nat.zero_mul] at h1
    rw [List.eq_nil_of_length_eq_zero h1]
    exact Lies.none_ _ _ _
  · obtain ⟨g, cap, e1, _⟩ := own_shape (w := w) h (.inl h0)
    cases e1
    exact lies_own h
theorem fit_putL {l : List Nat} {n : Nat} (h : FitN l) (hn : n < 18446744073709551616) : FitN (putL l n) := by
  have h1 := fitN_put hn h [] false (fun x hx => by cases hx)
  unfold putL
  split
  · exact h1
  · intro x hx
    rcases List.mem_append.1 hx with hx | hx
    · exact h1 x hx
    · obtain rfl := List.mem_singleton.1 hx
      exact hn
theorem own_len {w : World} {B n size : Nat} {e : TypeId} {A : Option Addr} {c : Nat} {xs : List Value} (h : w.ownsRow B e size (.slice A n c) n xs) : n ≤ c ∧ c ≤ 9223372036854775807 ∧ (A = none → n = 0 ∧ c = 0) := by
  rcases h.2 with ⟨h, hz⟩ | ⟨_, _, _, h, _, _, h1, h2, _⟩
  · cases h; exact ⟨by omega, by omega, fun _ => ⟨rfl, rfl⟩⟩
  · cases h; exact ⟨h1, h2, fun e => by cases e⟩

/-- append of any runs to a list of one's own. -/
theorem run_runs (w : World) (B h k cap : Nat) (xs : List Run) (A : Option Addr) (m : List Run) (n c : Nat) (ho : w.ownsRow B 31 2 (.slice (some ⟨h, 0, none⟩) k cap) k (rv xs)) (hA : A = none → n = 0 ∧ c = 0) (hb : Lies w w.heap.size A (rv m)) (hl : m.length = n)
    (hn : k + n ≤ 8796093022208) (hB : B ≤ w.heap.size) :
    ∃ g2 cap2 w', (Builtin.append_ #[22, 22] 22 #[.slice (some ⟨h, 0, none⟩) k cap, .slice A n c]).run Try.prog w = .ok (.slice (some ⟨g2, 0, none⟩) (k + n) cap2) w' ∧
      w'.ownsRow B 31 2 (.slice (some ⟨g2, 0, none⟩) (k + n) cap2) (k + n) (rv (xs ++ m)) ∧ w.grownBy w' (some h) ∧ B ≤ g2 := by
  obtain ⟨i0, hi0, hz0, hz1, hz2⟩ := info_parts run_info
  cases A with
  | none =>
    obtain ⟨rfl, rfl⟩ := hA rfl
    obtain rfl := List.eq_nil_of_length_eq_zero hl
    exact ⟨h, cap, w, run_append_owned_none (P := Try.prog) (w := w) B 22 22 31 i0 2 Try.underlying22 hi0 _ k (rv xs) ho, by rw [List.append_nil]; exact ho, turn_refl _ _, (ho.lt h rfl).1⟩
  | some ad =>
    have hc : ∀ j u, (rv m)[j]? = some u → w.cell? (ad.add j) = some u := by
      intro j u hu
      have hjl : j < (rv m).length := (List.getElem?_eq_some_iff.1 hu).1
      obtain ⟨ad', e, hadb, hc⟩ := hb (by omega)
      obtain rfl := Option.some.inj e
      exact hc j u hu
    obtain ⟨v', w', hr, h2, h3, hat, h5⟩ := run_append_own_at (P := Try.prog) w B 22 22 31 i0 (.agg #[.int .u64 0, .int .u64 0]) 2 16 Try.underlying22 hi0 hz0 hz1 hz2 rfl (by decide) _ k (rv xs) ho ad n c (rv m) (by rw [rv_length, hl]) hc (rv_one m) (by simp only [maxLen]; omega) (by omega) hB
    obtain ⟨g2, cap2, rfl, hg2⟩ := own_shape (w := w) h2 (.inr (fun h => by simp at hat; exact hat h))
    exact ⟨g2, cap2, w', hr, by rw [rv_append]; exact h2, h3, hg2⟩
theorem wpList_runs {ops : Array Oper} {rest : List Oper} {o : Oper} {a : Act} {Q : Exit → Act → World → Prop} (hgd : o.guard = none) (s x : Operand) (ho : o.op = .call { callee := .builtin .append, args := #[s, x], argTypes := #[22, 22] }) (hty : o.type = 22)
    (w : World) (B h k cap : Nat) (xs : List Run) (A : Option Addr) (m : List Run) (n c : Nat) (hs : a.eval s = .slice (some ⟨h, 0, none⟩) k cap) (hx : a.eval x = .slice A n c) (hw : w.ownsRow B 31 2 (.slice (some ⟨h, 0, none⟩) k cap) k (rv xs)) (hA : A = none → n = 0 ∧ c = 0) (hb : Lies w w.heap.size A (rv m)) (hl : m.length = n)
    (hn : k + n ≤ 8796093022208) (hB : B ≤ w.heap.size)
    (hK : ∀ g2 cap2 w', w'.ownsRow B 31 2 (.slice (some ⟨g2, 0, none⟩) (k + n) cap2) (k + n) (rv (xs ++ m)) → w.grownBy w' (some h) → B ≤ g2 → wpList Try.prog ops Q rest (a.put o.dst (.slice (some ⟨g2, 0, none⟩) (k + n) cap2)) w') : wpList Try.prog ops Q (o :: rest) a w := by
  refine wpList_plain hgd fun K hQ => ?_
  obtain ⟨g2, cap2, w', hr, h2, h3, h4⟩ := run_runs w B h k cap xs A m n c hw hA hb hl hn hB
  rw [← hty] at hr
  unfold Oper.wp execOp
  simp only [ho, resolve, invoke, builtin, Sem.run_bind, Sem.run_pure, Result.andThen_ok, List.map_toArray, List.map_cons, List.map_nil, hs, hx]
  rw [hty] at hr ⊢
  rw [hr]
  exact hQ _ _ (hK _ _ _ h2 h3 h4)

/-- the points of some runs. -/
def ptS (o : List Nat) (r : Run) : List Nat := if mayR r = true then putL (putL o r.1) (r.2 + 1) else o
def ptL (l : List Run) : List Nat := l.foldl ptS []
theorem ptL_take {l : List Run} {k : Nat} {r : Run} (h : l[k]? = some r) : ptL (l.take (k + 1)) = ptS (ptL (l.take k)) r := by
  unfold ptL
  rw [List.take_add_one, h]
  simp
theorem ptS_length (o : List Nat) (r : Run) : (ptS o r).length ≤ o.length + 2 := by
  unfold ptS
  split
  · have h1 := putL_length o r.1
    have h2 := putL_length (putL o r.1) (r.2 + 1)
    omega
  · omega
theorem ptL_length (l : List Run) (k : Nat) : (ptL (l.take k)).length ≤ 2 * k := by
  induction k with
  | zero => simp [ptL]
  | succ k ih =>
    rcases h : l[k]? with _ | r
    · rw [List.take_add_one, h]
      simp only [Option.toList_none, List.append_nil]
      omega
    · rw [ptL_take h]
      have := ptS_length (ptL (l.take k)) r
      omega
theorem ptS_fit {o : List Nat} {r : Run} (ho : FitN o) (h1 : r.1 < 18446744073709551616) : FitN (ptS o r) := by
  unfold ptS
  split
  · rename_i hm
    have := of_decide_eq_true hm
    exact fit_putL (fit_putL ho h1) (by omega)
  · exact ho

theorem out_new (w : World) : (w.alloc (.cells #[] 31)).ownsRow w.heap.size 31 2 (.slice (some ⟨w.heap.size, 0, none⟩) 0 0) 0 [] := World.ownsRow_lit w #[] 0 (Nat.le_refl _) (by simp [maxLen]) rfl

def PtRel (w : World) (l : List Run) (len : Nat) (o i : Value) (wr : World) : Prop :=
  ∃ (k m : Nat) (A : Option Addr) (c : Nat), k ≤ len ∧ i = .int .i64 (k : Int) ∧ o = .slice A m c ∧ (ptL (l.take k)).length = m ∧ FitN (ptL (l.take k)) ∧ wr.ownsRow w.heap.size 28 1 (.slice A m c) m (nv (ptL (l.take k))) ∧ Below w.heap.size w wr
theorem pt_rel {w wr : World} {l : List Run} {len k m : Nat} {A : Option Addr} {c : Nat} {o : List Nat} (hk : k < len) (hs : ptL (l.take (k + 1)) = o) (hm : o.length = m) (hf : FitN o) (ho : wr.ownsRow w.heap.size 28 1 (.slice A m c) m (nv o)) (hb : Below w.heap.size w wr) :
    PtRel w l len (.slice A m c) (.int .i64 ((k : Int) + 1)) wr :=
  ⟨k + 1, m, A, c, hk, by go_num, rfl, by rw [hs]; exact hm, by rw [hs]; exact hf, by rw [hs]; exact ho, hb⟩

set_option maxHeartbeats 1000000 in
theorem points_any (w : World) (A1 A2 : Option Addr) (l1 l2 : List Run) (n1 n2 c1 c2 : Nat) (hl1 : l1.length = n1) (hl2 : l2.length = n2) (hA1 : A1 = none → n1 = 0 ∧ c1 = 0) (hA2 : A2 = none → n2 = 0 ∧ c2 = 0) (hb1 : Runs w w.heap.size A1 l1) (hb2 : Runs w w.heap.size A2 l2) (h1 : n1 ≤ 512) (h2 : n2 ≤ 512) :
    Calls Try.prog 51 #[.slice A1 n1 c1, .slice A2 n2 c2] w (NumPost w (ptL (l1 ++ l2))) := by
  have HL1 := Lib.hid hl1
  have HL2 := Lib.hid hl2
  have HA1 := Lib.hid hA1
  have HA2 := Lib.hid hA2
  have HB1 := Lib.hid hb1
  have HB2 := Lib.hid hb2
  have B0 : Hid (Below w.heap.size w (w.alloc (.cells #[] 31))) := below_new w _
  have O0 := Lib.hid (out_new w)
  have K1 : Hid (Lies (w.alloc (.cells #[] 31)) (w.alloc (.cells #[] 31)).heap.size A1 (rv l1)) := (hb1.up B0.out).2
  clear hl1 hl2 hA1 hA2 hb1 hb2
  go_enter Try.func51, Try.ntmps51
  go_wp2_with (first
    | (at_builtin
       refine wpList_runs rfl (.tmp 8) (.tmp 9) rfl rfl _ w.heap.size w.heap.size 0 0 [] A1 l1 n1 c1 rfl rfl O0.out HA1.out K1.out HL1.out (by omega) B0.out.size ?_
       intro g2 cap2 w2 ho hg hB
       rw [Nat.zero_add, List.nil_append] at ho
       have HO2 := Lib.hid ho
       have HW2 : Hid (Below w.heap.size w w2) := B0.out.grown hg B0.out.size (fun k e => by cases e; exact Nat.le_refl _)
       have K2 : Hid (Lies w2 w2.heap.size A2 (rv l2)) := (HB2.out.up HW2.out).2
       clear ho hg)
    | (at_builtin
       refine wpList_runs rfl (.tmp 10) (.tmp 11) rfl rfl _ w.heap.size g2 n1 cap2 l1 A2 l2 n2 c2 rfl rfl HO2.out HA2.out K2.out HL2.out (by omega) HW2.out.size ?_
       intro g3 cap3 w3 ho hg hB3
       have HO3 := Lib.hid ho
       have HW3 : Hid (Below w.heap.size w w3) := HW2.out.grown hg HW2.out.size (fun k e => by cases e; exact hB)
       clear ho hg))
  obtain ⟨l, hl⟩ : ∃ l, l1 ++ l2 = l := ⟨_, rfl⟩
  obtain ⟨len, hlen⟩ : ∃ len, n1 + n2 = len := ⟨_, rfl⟩
  have HL : Hid (l.length = len) := by show _ = _; rw [← hl, ← hlen, List.length_append, HL1.out, HL2.out]
  have HB : Hid (Runs w3 w3.heap.size (some ⟨g3, 0, none⟩) l) := by
    refine ⟨fun r hr => ?_, ?_⟩
    · rw [← hl] at hr
      exact (List.mem_append.1 hr).elim (HB1.out.1 r) (HB2.out.1 r)
    · rw [← hl]; exact lies_own HO3.out
  have hlen4 : len ≤ 1024 := by omega
  have HLL := Lib.hid hl
  rw [hlen]
  clear hl hlen h1 h2 HL1 HL2 HA1 HA2 HB1 HB2 B0 O0 K1 HO2 HW2 K2 HO3
  have HR : Hid (PtRel w3 l len (.slice none 0 0) (.int .i64 0) w3) := ⟨0, 0, none, 0, Nat.zero_le _, rfl, rfl, rfl, (fun x hx => by cases hx), World.ownsRow_nil _ _ _ _, Below.refl _ _⟩
  go_loopw [5, 7] (fun o i wr => PtRel w3 l len o i wr) (fun _ i _ => len - (intOf i).toNat)
  case atStart => exact HR.out
  case round =>
    clear HR
    obtain ⟨k, m, A, c, hk, rfl, rfl, hm, hf, ho, hb⟩ := hrel
    have HO := Lib.hid ho
    have HW := Lib.hid hb
    have HF := Lib.hid hf
    have HM := Lib.hid hm
    have hm2 : m ≤ 2 * k := by rw [← hm]; exact ptL_length l k
    clear ho hb hf hm
    by_cases hlt : k < len
    · obtain ⟨ad, lo, hi, e, hlk, hlo, hhi, hc1, hc2⟩ := HB.out.at_ (k := k) (by rw [HL.out]; exact hlt)
      have PK := Lib.hid hlk
      have HC : Hid (∀ W, Below w3.heap.size w3 W → W.cell? ⟨g3, k * 2, none⟩ = some (.int .u64 (lo : Int)) ∧ W.cell? ⟨g3, k * 2 + 1, none⟩ = some (.int .u64 (hi : Int))) := fun W hW => by
        obtain ⟨ad', lo', hi', e', hlk', _, _, d1, d2⟩ := (HB.out.up hW).at_ (k := k) (by rw [HL.out]; exact hlt)
        cases e'
        rw [hlk] at hlk'
        cases hlk'
        rw [zero_add] at d1 d2
        exact ⟨d1, d2⟩
      obtain ⟨q1, q2⟩ := HC.out wr HW.out
      clear hlk hc1 hc2 e
      go_wp2_with fail
      refine (may_any wr lo hi hlo hhi).mono ?_
      rintro e w4 ⟨rfl, hb4⟩
      have HW4 : Hid (Below w3.heap.size w3 w4) := HW.out.trans (hb4.mono HW.out.size)
      have HO4 := Lib.hid (own_kept HO.out hb4)
      obtain ⟨q3, q4⟩ := HC.out w4 HW4.out
      clear hb4 q1 q2
      by_cases c1 : mayR (lo, hi) = true
      · have hm := of_decide_eq_true c1
        have hhi2 : hi ≤ 281474976710655 := hm.2.2
        obtain ⟨o, hoe⟩ : ∃ o, ptL (l.take k) = o := ⟨_, rfl⟩
        have e1 : Hid (ptL (l.take (k + 1)) = putL (putL o lo) (hi + 1)) := by show _ = _; rw [ptL_take PK.out, hoe]; exact if_pos c1
        rw [hoe] at HM HF HO4
        rw [c1]
        clear c1 hm hoe
        go_wp2_with fail
        refine (put_any w4 A o m c lo HM.out ⟨HF.out, lies_any (by decide) HO4.out⟩ (by omega) hlo).mono ?_
        rintro e w5 ⟨A5, m5, c5, rfl, hm5, ho5, hb5⟩
        have hm5' : m5 ≤ m + 1 := by have := putL_length o lo; rw [hm5, HM.out] at this; exact this
        have HF5 := Lib.hid (fit_putL HF.out hlo)
        have HW5 : Hid (Below w3.heap.size w3 w5) := HW4.out.trans (hb5.mono HW4.out.size)
        have HO5 := Lib.hid ho5
        have HM5 := Lib.hid hm5
        obtain ⟨q5, q6⟩ := HC.out w5 HW5.out
        clear ho5 hb5 hm5 q3 q4
        go_wp2_with fail
        rw [show (hi : Int) + 1 = ((hi + 1 : Nat) : Int) by omega]
        refine (put_any w5 A5 (putL o lo) m5 c5 (hi + 1) HM5.out ⟨HF5.out, lies_any (by decide) HO5.out⟩ (by omega) (by omega)).mono ?_
        rintro e w6 ⟨A6, m6, c6, rfl, hm6, ho6, hb6⟩
        have HW6 : Hid (Below w3.heap.size w3 w6) := HW5.out.trans (hb6.mono HW5.out.size)
        have HR := Lib.hid (pt_rel hlt e1.out hm6 (fit_putL HF5.out (by omega)) (own_less ho6 HW5.out.size) HW6.out)
        clear hm6 ho6 hb6
        go_wp2
        go_roundw
        case rel => exact HR.out
        case measure => simp [intOf]; omega
      · have c1' : mayR (lo, hi) = false := by simpa using c1
        have e1 : Hid (ptL (l.take (k + 1)) = ptL (l.take k)) := by show _ = _; rw [ptL_take PK.out]; exact if_neg c1
        have HR := Lib.hid (pt_rel hlt e1.out HM.out HF.out HO4.out HW4.out)
        rw [c1']
        clear c1
        go_wp2
        go_roundw
        case rel => exact HR.out
        case measure => simp [intOf]; omega
    · obtain rfl : k = len := by omega
      have e : Hid (l.take k = l) := List.take_of_length_le (by rw [HL.out]; exact Nat.le_refl _)
      rw [e.out, ← HLL.out] at HO HM
      go_wp2
      go_ret
      exact ⟨A, m, c, rfl, HM.out, own_less HO.out HW3.out.size, HW3.out.trans (HW.out.mono HW3.out.size)⟩
end Go.Proofs.Ytaoojiacdkabbaa.Ru
