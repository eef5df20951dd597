/- The contracts of the document's Flag and Text: a new list of the bytes that came in and the thing's bytes behind them; nothing that was there has changed. Condition: at most 2^46 bytes come out. -/
import Derived.Test.YtpleafcjacbkkaaNil
namespace Go.Proofs.Ytpleafcjacbkkaa.Nu
open Go.ChangeShapes Go.WideShapes Go.ChangeAt Go.RowKit
set_option linter.unusedVariables false

/-- append of any bytes to a new list without one. -/
theorem run_out (w : World) (B h : Nat) (A : Option Addr) (m : List Nat) (n c : Nat) (ho : w.ownsRow B 5 1 (.slice (some ⟨h, 0, none⟩) 0 0) 0 []) (hA : A = none → n = 0 ∧ c = 0) (hb : Bytes w w.heap.size A m) (hl : m.length = n)
    (hn : n ≤ 140737488355328) (hB : B ≤ w.heap.size) :
    ∃ g2 cap2 w', (Builtin.append_ #[22, 22] 22 #[.slice (some ⟨h, 0, none⟩) 0 0, .slice A n c]).run Try.prog w = .ok (.slice (some ⟨g2, 0, none⟩) n cap2) w' ∧
      w'.ownsRow B 5 1 (.slice (some ⟨g2, 0, none⟩) n cap2) n (vals m) ∧ w.grownBy w' (some h) ∧ B ≤ g2 := by
  obtain ⟨i0, hi0, hz0, hz1, hz2⟩ := info_parts byte_info
  cases A with
  | none =>
    obtain ⟨rfl, rfl⟩ := hA rfl
    obtain rfl := List.eq_nil_of_length_eq_zero hl
    exact ⟨h, 0, w, run_append_owned_none (P := Try.prog) (w := w) B 22 22 5 i0 1 Try.underlying22 hi0 _ 0 [] ho, ho, turn_refl _ _, (ho.lt h rfl).1⟩
  | some ad =>
    have hc : ∀ j u, (vals m)[j]? = some u → w.cell? (ad.add j) = some u := by
      intro j u hu
      rw [vals_get] at hu
      obtain ⟨x, hx, rfl⟩ := Option.map_eq_some_iff.1 hu
      have hjl : j < m.length := (List.getElem?_eq_some_iff.1 hx).1
      obtain ⟨ad', e, hadb, hc⟩ := hb.2 (by omega)
      obtain rfl := Option.some.inj e
      exact hc j x hx
    obtain ⟨v', w', hr, h2, h3, hat, h5⟩ := run_append_own_at (P := Try.prog) w B 22 22 5 i0 (.int .u8 0) 1 1 Try.underlying22 hi0 hz0 hz1 hz2 rfl (by decide) _ 0 [] ho ad n c (vals m) (by rw [vals_length, hl, Nat.mul_one]) hc (vals_one m) (by simp only [maxLen]; omega) (by omega) hB
    simp only [Nat.zero_add, List.nil_append] at h2
    obtain ⟨g2, cap2, rfl, hg2⟩ := own_shape (w := w) h2 (.inr (fun h => by simp at hat; exact hat h))
    exact ⟨g2, cap2, w', hr, h2, h3, hg2⟩
theorem wp_out {o : Oper} {a : Act} {K : Act → World → Prop} {Q : Exit → Act → World → Prop} (s x : Operand) (ho : o.op = .call { callee := .builtin .append, args := #[s, x], argTypes := #[22, 22] }) (hty : o.type = 22)
    (w : World) (B h : Nat) (A : Option Addr) (m : List Nat) (n c : Nat) (hs : a.eval s = .slice (some ⟨h, 0, none⟩) 0 0) (hx : a.eval x = .slice A n c) (hw : w.ownsRow B 5 1 (.slice (some ⟨h, 0, none⟩) 0 0) 0 []) (hA : A = none → n = 0 ∧ c = 0) (hb : Bytes w w.heap.size A m) (hl : m.length = n)
    (hn : n ≤ 140737488355328) (hB : B ≤ w.heap.size)
    (hK : ∀ g2 cap2 w', w'.ownsRow B 5 1 (.slice (some ⟨g2, 0, none⟩) n cap2) n (vals m) → w.grownBy w' (some h) → B ≤ g2 → K (a.put o.dst (.slice (some ⟨g2, 0, none⟩) n cap2)) w') : o.wp Try.prog a w K Q := by
  obtain ⟨g2, cap2, w', hr, h2, h3, h4⟩ := run_out w B h A m n c hw hA hb hl hn hB
  rw [← hty] at hr
  unfold Oper.wp execOp
  simp only [ho, resolve, invoke, builtin, Sem.run_bind, Sem.run_pure, Result.andThen_ok, List.map_toArray, List.map_cons, List.map_nil, hs, hx]
  rw [hty] at hr ⊢
  rw [hr]
  exact hK _ _ _ h2 h3 h4
theorem wpList_out {ops : Array Oper} {rest : List Oper} {o : Oper} {a : Act} {Q : Exit → Act → World → Prop} (hgd : o.guard = none) (s x : Operand) (ho : o.op = .call { callee := .builtin .append, args := #[s, x], argTypes := #[22, 22] }) (hty : o.type = 22)
    (w : World) (B h : Nat) (A : Option Addr) (m : List Nat) (n c : Nat) (hs : a.eval s = .slice (some ⟨h, 0, none⟩) 0 0) (hx : a.eval x = .slice A n c) (hw : w.ownsRow B 5 1 (.slice (some ⟨h, 0, none⟩) 0 0) 0 []) (hA : A = none → n = 0 ∧ c = 0) (hb : Bytes w w.heap.size A m) (hl : m.length = n)
    (hn : n ≤ 140737488355328) (hB : B ≤ w.heap.size)
    (hK : ∀ g2 cap2 w', w'.ownsRow B 5 1 (.slice (some ⟨g2, 0, none⟩) n cap2) n (vals m) → w.grownBy w' (some h) → B ≤ g2 → wpList Try.prog ops Q rest (a.put o.dst (.slice (some ⟨g2, 0, none⟩) n cap2)) w') : wpList Try.prog ops Q (o :: rest) a w :=
  wpList_plain hgd fun _ hQ => wp_out s x ho hty w B h A m n c hs hx hw hA hb hl hn hB fun g2 cap2 w' h2 h3 h4 => hQ _ _ (hK g2 cap2 w' h2 h3 h4)
theorem step_out {ops : Array Oper} {o : Oper} {a : Act} {K : Act → World → Prop} {Q : Exit → Act → World → Prop} {E : Prop} (hgd : o.guard = none) (s x : Operand) (ho : o.op = .call { callee := .builtin .append, args := #[s, x], argTypes := #[22, 22] }) (hty : o.type = 22)
    (w : World) (B h : Nat) (A : Option Addr) (m : List Nat) (n c : Nat) (hs : a.eval s = .slice (some ⟨h, 0, none⟩) 0 0) (hx : a.eval x = .slice A n c) (hw : w.ownsRow B 5 1 (.slice (some ⟨h, 0, none⟩) 0 0) 0 []) (hA : A = none → n = 0 ∧ c = 0) (hb : Bytes w w.heap.size A m) (hl : m.length = n)
    (hn : n ≤ 140737488355328) (hB : B ≤ w.heap.size)
    (hK : ∀ g2 cap2 w', w'.ownsRow B 5 1 (.slice (some ⟨g2, 0, none⟩) n cap2) n (vals m) → w.grownBy w' (some h) → B ≤ g2 → K (a.put o.dst (.slice (some ⟨g2, 0, none⟩) n cap2)) w') :
    if Region.wanted o (yielded ops a.tmps) = true then Oper.wp Try.prog o a w K Q else E := by
  have hw' : Region.wanted o (yielded ops a.tmps) = true := by simp [Region.wanted, hgd]
  rw [if_pos hw']
  exact wp_out s x ho hty w B h A m n c hs hx hw hA hb hl hn hB hK

/-- a new list without a byte. -/
theorem out_new (w : World) : (w.alloc (.cells #[] 5)).ownsRow w.heap.size 5 1 (.slice (some ⟨w.heap.size, 0, none⟩) 0 0) 0 [] := World.ownsRow_lit w #[] 0 (Nat.le_refl _) (by simp [maxLen]) rfl
theorem app_done {w w2 : World} {l m : List Nat} {g cap n : Nat} (ho : w2.ownsRow w.heap.size 5 1 (.slice (some ⟨g, 0, none⟩) n cap) n (vals l ++ vals m)) (hl : (l ++ m).length = n) (hb : Below w.heap.size w w2) : AppPost w (l ++ m) (.returned (.slice (some ⟨g, 0, none⟩) n cap)) w2 :=
  ⟨g, cap, n, rfl, hl, (ho.lt g rfl).1, by rw [vals_append]; exact ho, hb⟩

set_option maxHeartbeats 1000000 in
theorem pflag_any (w : World) (A : Option Addr) (l : List Nat) (n c : Nat) (yes : Bool) (hn : l.length = n) (hA : A = none → n = 0 ∧ c = 0) (hb : Bytes w w.heap.size A l) (hl : n ≤ 70368744177664) :
    Calls Try.prog 29 #[.slice A n c, .bool yes] w (AppPost w (l ++ [if yes then 1 else 0])) := by
  obtain ⟨i0, hi0, hz0, hz1, hz2⟩ := info_parts byte_info
  have hB := Lib.hid hb
  have HN := Lib.hid hn
  have HA := Lib.hid hA
  have HO := Lib.hid (out_new w)
  have HB1 : Hid (Bytes (w.alloc (.cells #[] 5)) (w.alloc (.cells #[] 5)).heap.size A l) := hb.up (below_new w _)
  have HW : Hid (Below w.heap.size w (w.alloc (.cells #[] 5))) := below_new w _
  clear hb hn hA
  cases yes with
  | true =>
    go_enter Try.func29, Try.ntmps29
    go_wp2_with (first
      | (at_builtin
         refine wpList_out rfl (.tmp 7) (.tmp 8) rfl rfl _ w.heap.size w.heap.size A l n c rfl rfl HO.out HA.out HB1.out HN.out (by omega) (by simp) ?_
         intro g1 cap1 w1 ho1 hg1 hB1
         have HO1 := Lib.hid ho1
         have HW1 : Hid (Below w.heap.size w w1) := HW.out.grown hg1 (by simp) (fun k e => by cases e; exact Nat.le_refl _)
         clear ho1 hg1)
      | (at_builtin
         refine wpList_append_own _ rfl (.tmp 9) (.tmp 11) 22 rfl w.heap.size 5 i0 (.int .u8 0) 1 1 Try.underlying22 hi0 hz0 hz1 hz2 rfl (by decide) (.slice (some ⟨g1, 0, none⟩) n cap1) n (vals l) rfl (HO1.out.alloc _) ⟨w1.heap.size, 0, none⟩ 1 1 (vals [1]) rfl rfl (cell_one w1 _ 5) (vals_one _) (by simp only [maxLen]; omega) (by omega) (Nat.le_trans HW1.out.size (by simp)) ?_
         intro v2 w2 ho2 hg2 hat2
         obtain ⟨g2, cap2, rfl, hgw2⟩ := own_shape (w := w) ho2 (.inl (by omega))
         have HO2 := Lib.hid ho2
         have HW2 : Hid (Below w.heap.size w w2) := (HW1.out.alloc HW1.out.size _).grown hg2 (Nat.le_trans HW1.out.size (by simp)) (fun k hk => by simp [Value.ownBlock] at hk; omega)
         clear ho2 hg2 hat2))
    go_ret
    exact app_done (m := [1]) HO2.out (by rw [List.length_append, HN.out]; rfl) HW2.out
  | false =>
    go_enter Try.func29, Try.ntmps29
    go_wp2_with (first
      | (at_builtin
         refine wpList_out rfl (.tmp 7) (.tmp 8) rfl rfl _ w.heap.size w.heap.size A l n c rfl rfl HO.out HA.out HB1.out HN.out (by omega) (by simp) ?_
         intro g1 cap1 w1 ho1 hg1 hB1
         have HO1 := Lib.hid ho1
         have HW1 : Hid (Below w.heap.size w w1) := HW.out.grown hg1 (by simp) (fun k e => by cases e; exact Nat.le_refl _)
         clear ho1 hg1)
      | (at_builtin
         refine wpList_append_own _ rfl (.tmp 9) (.tmp 11) 22 rfl w.heap.size 5 i0 (.int .u8 0) 1 1 Try.underlying22 hi0 hz0 hz1 hz2 rfl (by decide) (.slice (some ⟨g1, 0, none⟩) n cap1) n (vals l) rfl (HO1.out.alloc _) ⟨w1.heap.size, 0, none⟩ 1 1 (vals [0]) rfl rfl (cell_one w1 _ 5) (vals_one _) (by simp only [maxLen]; omega) (by omega) (Nat.le_trans HW1.out.size (by simp)) ?_
         intro v2 w2 ho2 hg2 hat2
         obtain ⟨g2, cap2, rfl, hgw2⟩ := own_shape (w := w) ho2 (.inl (by omega))
         have HO2 := Lib.hid ho2
         have HW2 : Hid (Below w.heap.size w w2) := (HW1.out.alloc HW1.out.size _).grown hg2 (Nat.le_trans HW1.out.size (by simp)) (fun k hk => by simp [Value.ownBlock] at hk; omega)
         clear ho2 hg2 hat2))
    go_ret
    exact app_done (m := [0]) HO2.out (by rw [List.length_append, HN.out]; rfl) HW2.out

/-- what holds at each round's head: so many of the text's bytes stand behind. -/
def TextRel (w : World) (l : List Nat) (s : ByteArray) (o i : Value) (wr : World) : Prop :=
  ∃ (k g cap n : Nat), k ≤ s.size ∧ i = .int .i64 (k : Int) ∧ o = .slice (some ⟨g, 0, none⟩) n cap ∧ (l ++ (sb s).take k).length = n ∧ wr.ownsRow w.heap.size 5 1 (.slice (some ⟨g, 0, none⟩) n cap) n (vals (l ++ (sb s).take k)) ∧ Below w.heap.size w wr
theorem sb_get {s : ByteArray} {k : Nat} (h : k < s.size) : (sb s)[k]? = some (s[k]'h).toNat := by
  unfold sb
  rw [List.getElem?_map]
  simp [h]
  rfl
theorem text_rel {w wr : World} {l : List Nat} {s : ByteArray} {k g cap n x : Nat} (hk : k < s.size) (hx : x = (s[k]'hk).toNat) (hn : (l ++ (sb s).take k).length = n) (ho : wr.ownsRow w.heap.size 5 1 (.slice (some ⟨g, 0, none⟩) (n + 1) cap) (n + 1) (vals (l ++ (sb s).take k) ++ vals [x])) (hb : Below w.heap.size w wr) :
    TextRel w l s (.slice (some ⟨g, 0, none⟩) (n + 1) cap) (.int .i64 ((k : Int) + 1)) wr := by
  have e : (sb s).take (k + 1) = (sb s).take k ++ [x] := by rw [hx]; exact take_snoc (sb_get hk)
  refine ⟨k + 1, g, cap, n + 1, hk, rfl, rfl, ?_, ?_, hb⟩
  · rw [e, ← List.append_assoc, List.length_append, hn]; rfl
  · rw [e, ← List.append_assoc, vals_append]; exact ho

set_option maxHeartbeats 1000000 in
theorem ptext_any (w : World) (A : Option Addr) (l : List Nat) (n c : Nat) (s : ByteArray) (hn : l.length = n) (hA : A = none → n = 0 ∧ c = 0) (hb : Bytes w w.heap.size A l) (hl : n + s.size ≤ 70368744177000) :
    Calls Try.prog 31 #[.slice A n c, .string s] w (AppPost w (l ++ (enc s.size ++ sb s))) := by
  obtain ⟨i0, hi0, hz0, hz1, hz2⟩ := info_parts byte_info
  have hB := Lib.hid hb
  have HN := Lib.hid hn
  have HA := Lib.hid hA
  clear hb hn hA
  go_enter Try.func31, Try.ntmps31
  go_wp2_with fail
  refine (rappend_any w A l n c s.size HN.out HA.out hB.out (by omega) (by omega)).mono ?_
  rintro r w1 ⟨g1, cap1, n1, rfl, hn1, hg1, ho1, hb1⟩
  have hn9 : n1 ≤ n + 9 := by have := blen_le s.size; rw [← hn1, List.length_append, enc_length, HN.out]; omega
  have HS : Hid (TextRel w (l ++ enc s.size) s (.slice (some ⟨g1, 0, none⟩) n1 cap1) (.int .i64 0) w1) := ⟨0, g1, cap1, n1, Nat.zero_le _, rfl, rfl, by rw [List.take_zero, List.append_nil]; exact hn1, by rw [List.take_zero, List.append_nil]; exact ho1, hb1⟩
  clear hn1 hg1 ho1 hb1
  go_wp2_with fail
  go_loopw [5, 6] (fun o i wr => TextRel w (l ++ enc s.size) s o i wr) (fun _ i _ => s.size - (intOf i).toNat)
  case atStart => exact HS.out
  case round =>
    clear HS
    obtain ⟨k, g, cap, m, hk, rfl, rfl, hm, ho, hb⟩ := hrel
    have hm2 : m ≤ n + 9 + k := by have := blen_le s.size; rw [← hm, List.length_append, List.length_append, enc_length, HN.out, List.length_take]; omega
    have HO := Lib.hid ho
    have HB := Lib.hid hb
    have HM := Lib.hid hm
    clear ho hb hm
    by_cases hlt : k < s.size
    · obtain ⟨x, hx⟩ : ∃ x, x = (s[k]'hlt).toNat := ⟨_, rfl⟩
      have HX := Lib.hid hx
      clear hx
      go_wp2_with (
        (at_builtin
         refine wpList_append_own _ rfl (.tmp 18) (.tmp 22) 22 rfl w.heap.size 5 i0 (.int .u8 0) 1 1 Try.underlying22 hi0 hz0 hz1 hz2 rfl (by decide) (.slice (some ⟨g, 0, none⟩) m cap) m (vals (l ++ enc s.size ++ List.take k (sb s))) rfl (HO.out.alloc _) ⟨wr.heap.size, 0, none⟩ 1 1 (vals [x]) rfl rfl (by rw [HX.out]; exact cell_one wr _ 5) (vals_one _) (by simp only [maxLen]; omega) (by omega) (Nat.le_trans HB.out.size (by simp)) ?_
         intro v2 w2 ho2 hg2 hat2
         obtain ⟨g2, cap2, rfl, hgw2⟩ := own_shape (w := w) ho2 (.inl (by omega))
         have hgg := (HO.out.lt g rfl).1
         have HW2 : Hid (Below w.heap.size w w2) := (HB.out.alloc HB.out.size _).grown hg2 (Nat.le_trans HB.out.size (by simp)) (fun k hk => by simp [Value.ownBlock] at hk; omega)
         have HR : Hid (TextRel w (l ++ enc s.size) s (.slice (some ⟨g2, 0, none⟩) (m + 1) cap2) (.int .i64 ((k : Int) + 1)) w2) := text_rel hlt HX.out HM.out ho2 HW2.out
         clear ho2 hg2 hat2))
      go_roundw
      case rel => exact HR.out
      case measure => simp [intOf]; omega
    · obtain rfl : k = s.size := by omega
      go_wp2
      go_ret
      have e : (sb s).take s.size = sb s := List.take_of_length_le (by rw [sb_length]; exact Nat.le_refl _)
      have HO1 := HO.out
      have HM1 := HM.out
      rw [e, List.append_assoc] at HO1 HM1
      exact ⟨g, cap, m, rfl, HM1, (HO1.lt g rfl).1, HO1, HB.out⟩
end Go.Proofs.Ytpleafcjacbkkaa.Nu
