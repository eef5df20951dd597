/- Words and contracts that the proofs of this seat stand on, part 37 of 39. -/
import Derived.Test.YtgaegfddobpomaaGreatOrBD
import Derived.Lib.AppendZeros
import Derived.Lib.SliceRun
import Derived.Test.YtgaegfddobpomaaGreatOrN
import Derived.Test.YtgaegfddobpomaaGreatOrBB
import Derived.Test.YtgaegfddobpomaaGreatOrBA
import Derived.Test.YtgaegfddobpomaaGreatOrJ
import Derived.Test.YtgaegfddobpomaaGreatOrBH

namespace Go.Proofs.YtgaegfddobpomaaGreat.Cx
open Go.ChangeShapes Go.WideShapes Go.ChangeAt Go.RowKit
set_option linter.unusedVariables false
set_option maxRecDepth 4000
theorem run_intoC (w : World) (B k cap : Nat) (A0 : Option Addr) (xs : List PV) (A : Option Addr) (m : List PV) (n c : Nat) (ho : w.ownsRow B 71 2 (.slice A0 k cap) k (cv xs)) (hA : A = none → n = 0 ∧ c = 0) (hb : Dt.Lies w w.heap.size A (cv m)) (hl : m.length = n)
   (hn : k + n ≤ cap) (hB : B ≤ w.heap.size) (ty : TypeId) :
   ∃ w', (Builtin.append_ #[28, 28] ty #[.slice A0 k cap, .slice A n c]).run Tryz.prog w = .ok (.slice A0 (k + n) cap) w' ∧
     w'.ownsRow B 71 2 (.slice A0 (k + n) cap) (k + n) (cv (xs ++ m)) ∧ w.grownBy w' (Value.slice A0 k cap).ownBlock := by
 obtain ⟨i0, hi0, hz0, hz1, hz2⟩ := info_parts part_info
 cases A with
 | none =>
   obtain ⟨rfl, rfl⟩ := hA rfl
   obtain rfl := List.eq_nil_of_length_eq_zero hl
   exact ⟨w, run_append_owned_none (P := Tryz.prog) (w := w) B 28 ty 71 i0 2 Tryz.underlying28 hi0 _ k (cv xs) ho, by rw [List.append_nil]; exact ho, Dt.turn_refl _ _⟩
 | some ad =>
   have hc : ∀ j u, (cv m)[j]? = some u → w.cell? (ad.add j) = some u := by
     intro j u hu
     have hjl : j < (cv m).length := (List.getElem?_eq_some_iff.1 hu).1
     obtain ⟨ad', e, hadb, hc⟩ := hb (by omega)
     obtain rfl := Option.some.inj e
     exact hc j u hu
   cases A0 with
   | none =>
     obtain ⟨h1, h2, h3⟩ := Dt.own_len ho
     obtain ⟨rfl, rfl⟩ := h3 rfl
     obtain rfl : n = 0 := by omega
     obtain ⟨v', w', hr, h2, h3, hat, h5⟩ := run_append_own_at (P := Tryz.prog) w B 28 ty 71 i0 (.agg #[.int .u16 0, .slice none 0 0]) 2 32 Tryz.underlying28 hi0 hz0 hz1 hz2 rfl (by decide) _ 0 (cv xs) ho ad 0 c (cv m) (by rw [cv_length, hl]) hc (cv_one m) (by simp only [maxLen]; omega) (by omega) hB
     obtain rfl := hat.2 ⟨rfl, rfl⟩
     exact ⟨w', hr, by rw [cv_append]; exact h2, h3⟩
   | some ad0 =>
     rcases ho.2 with ⟨h, _⟩ | ⟨g, cap', cur, h, _⟩
     · cases h
     · cases h
       obtain ⟨w', hr, h2, h3⟩ := run_append_fits (P := Tryz.prog) w B 28 ty 71 i0 2 Tryz.underlying28 hi0 hz1 g k cap (cv xs) ho ad n c (cv m) (by rw [cv_length, hl]) hc (cv_one m) hn
       exact ⟨w', hr, by rw [cv_append]; exact h2, h3⟩
theorem wpList_intoC {ops : Array Oper} {rest : List Oper} {o : Oper} {a : Act} {Q : Exit → Act → World → Prop} (hgd : o.guard = none) (s x : Operand) (ho : o.op = .call { callee := .builtin .append, args := #[s, x], argTypes := #[28, 28] })
   (w : World) (B k cap : Nat) (A0 : Option Addr) (xs : List PV) (A : Option Addr) (m : List PV) (n c : Nat) (hs : a.eval s = .slice A0 k cap) (hx : a.eval x = .slice A n c) (hw : w.ownsRow B 71 2 (.slice A0 k cap) k (cv xs)) (hA : A = none → n = 0 ∧ c = 0) (hb : Dt.Lies w w.heap.size A (cv m)) (hl : m.length = n)
   (hn : k + n ≤ cap) (hB : B ≤ w.heap.size)
   (hK : ∀ w', w'.ownsRow B 71 2 (.slice A0 (k + n) cap) (k + n) (cv (xs ++ m)) → w.grownBy w' (Value.slice A0 k cap).ownBlock → wpList Tryz.prog ops Q rest (a.put o.dst (.slice A0 (k + n) cap)) w') : wpList Tryz.prog ops Q (o :: rest) a w := by
 refine wpList_plain hgd fun K hQ => ?_
 obtain ⟨w', hr, h2, h3⟩ := run_intoC w B k cap A0 xs A m n c hw hA hb hl hn hB o.type
 unfold Oper.wp execOp
 simp only [ho, resolve, invoke, builtin, Sem.run_bind, Sem.run_pure, Result.andThen_ok, List.map_toArray, List.map_cons, List.map_nil, hs, hx]
 rw [hr]
 exact hQ _ _ (hK _ h2 h3)
theorem pgrowC_any (w : World) (n : Nat) (hn : n ≤ 4398046511104) :
   Calls Tryz.prog 139 #[.slice none 0 0, .int .i64 (n : Int)] w fun e w' => ∃ A0 cap, e = .returned (.slice A0 0 cap) ∧ n ≤ cap ∧ w'.ownsRow w.heap.size 71 2 (.slice A0 0 cap) 0 (cv []) ∧ Below w.heap.size w w' := by
 rcases Nat.eq_zero_or_pos n with rfl | h0
 · go_enter Tryz.func139, Tryz.ntmps139
   go_wp2
   go_ret
   exact ⟨none, 0, rfl, Nat.le_refl _, World.ownsRow_nil _ _ _ _, Below.refl _ _⟩
 · obtain ⟨i0, hi0, hz0, hz1, hz2⟩ := info_parts part_info
   have hr := Lib.run_append_nil_zeros (P := Tryz.prog) w 28 3 28 71 i0 (.agg #[.int .u16 0, .slice none 0 0]) .i64 .i64 Tryz.underlying28 Tryz.underlying3 hi0 hz0 n h0 (by omega) (by omega) (by rw [hz2]; omega)
   have hge := grownCap_ge w n 0 71
   have hmx := grownCap_le_maxLen w n 0 71 (by simp only [maxLen]; omega)
   generalize grownCap w n 0 71 = cap at *
   have hsz : (Builtin.zeroCells (Value.agg #[.int .u16 0, .slice none 0 0]).cells n ++ Builtin.zeroCells (Value.agg #[.int .u16 0, .slice none 0 0]).cells (cap - n)).size = cap * 2 := by
     simp only [Array.size_append, size_zeroCells]
     show n * 2 + (cap - n) * 2 = cap * 2
     omega
   have HO : Hid ((w.drew.alloc (.cells (Builtin.zeroCells (Value.agg #[.int .u16 0, .slice none 0 0]).cells n ++ Builtin.zeroCells (Value.agg #[.int .u16 0, .slice none 0 0]).cells (cap - n)) 71)).ownsRow w.heap.size 71 2 (.slice (some ⟨w.heap.size, 0, none⟩) 0 cap) 0 (cv [])) :=
     World.ownsRow_made w.drew _ cap (Nat.le_refl _) hmx hsz
   have HB : Hid (Below w.heap.size w (w.drew.alloc (.cells (Builtin.zeroCells (Value.agg #[.int .u16 0, .slice none 0 0]).cells n ++ Builtin.zeroCells (Value.agg #[.int .u16 0, .slice none 0 0]).cells (cap - n)) 71))) := (Below.refl _ _).drew.alloc (Nat.le_refl _) _
   clear hsz
   generalize Builtin.zeroCells (Value.agg #[.int .u16 0, .slice none 0 0]).cells n ++ Builtin.zeroCells (Value.agg #[.int .u16 0, .slice none 0 0]).cells (cap - n) = cs at *
   go_enter Tryz.func139, Tryz.ntmps139
   go_wp2_with (at_builtin; refine Lib.wpList_append_run _ rfl _ _ _ _ rfl _ _ rfl rfl _ _ hr ?_)
   clear hr
   go_wp2
   go_ret
   exact ⟨some ⟨w.heap.size, 0, none⟩, cap, rfl, hge, HO.out, HB.out⟩
theorem Match.two {w : World} {ps qs : List PV} {a b : List Part} (h1 : Match w ps a) (h2 : Match w qs b) : Match w (ps ++ qs) (a ++ b) := by
 refine ⟨by rw [List.length_append, List.length_append, h1.1, h2.1], fun k p x hp hx => ?_⟩
 rcases Nat.lt_or_ge k ps.length with hk | hk
 · rw [List.getElem?_append_left hk] at hp
   rw [List.getElem?_append_left (by rw [← h1.1]; exact hk)] at hx
   exact h1.2 k p x hp hx
 · rw [List.getElem?_append_right hk] at hp
   rw [List.getElem?_append_right (by rw [← h1.1]; exact hk), ← h1.1] at hx
   exact h2.2 _ p x hp hx
set_option maxHeartbeats 2000000 in
theorem pconcatC_two (w : World) (b : Nat) (A1 A2 : Option Addr) (l1 l2 : List Part) (n1 n2 c1 c2 : Nat) (h1 : CtxAt w A1 l1 n1 c1) (h2 : CtxAt w A2 l2 n2 c2) (hf1 : n1 ≤ 134217728) (hf2 : n2 ≤ 134217728) (hb : b < w.heap.size)
   (hc1 : w.cell? ⟨b, 0, none⟩ = some (.slice A1 n1 c1)) (hc2 : w.cell? ⟨b, 1, none⟩ = some (.slice A2 n2 c2)) :
   Calls Tryz.prog 98 #[.slice (some ⟨b, 0, none⟩) 2 2] w (CtxPost w (l1 ++ l2)) := by
 have HN1 := Lib.hid h1.nil
 have HN2 := Lib.hid h2.nil
 have HL1 := Lib.hid h1.len
 have HL2 := Lib.hid h2.len
 obtain ⟨ps, hp1, hp2⟩ := h1.parts
 obtain ⟨qs, hq1, hq2⟩ := h2.parts
 have HP1 := Lib.hid hp1
 have HP2 := Lib.hid hp2
 have HQ1 := Lib.hid hq1
 have HQ2 := Lib.hid hq2
 have hpl : ps.length = n1 := by rw [hp2.1, h1.len]
 have hql : qs.length = n2 := by rw [hq2.1, h2.len]
 have HC := Lib.hid (fun V (hV : Below w.heap.size w V) => And.intro ((hV.cell (p := ⟨b, 0, none⟩) hb).trans hc1) ((hV.cell (p := ⟨b, 1, none⟩) hb).trans hc2))
 have CG := fun W => pgrowC_any W (n1 + n2) (by omega)
 simp only [Int.natCast_add] at CG
 clear h1 h2 hp1 hp2 hq1 hq2
 go_enter Tryz.func98, Tryz.ntmps98
 go_wp2
 refine wp_loop_rounds 3 ?_
 rw [rounds_succ]
 go_wp2
 rw [rounds_succ]
 go_wp2
 rw [rounds_succ]
 go_wp2_with fail
 refine (CG _).mono ?_
 rintro e W1 ⟨A0, cap, rfl, hcap, ho1, hb1⟩
 have HO1 := Lib.hid ho1
 have HB1 := Lib.hid hb1
 obtain ⟨q1, q2⟩ := HC.out W1 HB1.out
 clear ho1 hb1 CG hc1 hc2
 go_wp2
 refine wp_loop_rounds 3 ?_
 rw [rounds_succ]
 go_wp2_with (at_builtin; refine wpList_intoC rfl (.tmp 31) (.tmp 32) rfl _ w.heap.size 0 cap A0 [] A1 ps n1 c1 rfl rfl HO1.out HN1.out ((HP1.out.below HB1.out).more HB1.out.size) hpl (by omega) HB1.out.size ?_; intro W2 ho2 hg2)
 rw [Nat.zero_add, List.nil_append] at ho2
 have HB2 : Hid (Below w.heap.size w W2) := Lib.hid (HB1.out.grown hg2 HB1.out.size (fun j hj => (HO1.out.lt j hj).1))
 have HO2 := Lib.hid ho2
 obtain ⟨q3, q4⟩ := HC.out W2 HB2.out
 clear ho2 hg2 q1 q2
 rw [rounds_succ]
 go_wp2_with (at_builtin; refine wpList_intoC rfl (.tmp 31) (.tmp 32) rfl _ w.heap.size n1 cap A0 ps A2 qs n2 c2 rfl rfl HO2.out HN2.out ((HQ1.out.below HB2.out).more HB2.out.size) hql hcap HB2.out.size ?_; intro W3 ho3 hg3)
 have HB3 : Hid (Below w.heap.size w W3) := Lib.hid (HB2.out.grown hg3 HB2.out.size (fun j hj => (HO2.out.lt j hj).1))
 have HO3 := Lib.hid ho3
 clear ho3 hg3 q3 q4
 rw [rounds_succ]
 go_wp2
 go_ret
 exact ⟨A0, n1 + n2, cap, ps ++ qs, rfl, by rw [List.length_append, HL1.out, HL2.out], HO3.out, (HP2.out.up HB3.out).two (HQ2.out.up HB3.out), HB3.out⟩
set_option maxHeartbeats 1000000 in
theorem pjoin_any (w : World) (A1 A2 : Option Addr) (a b : List Part) (n1 n2 c1 c2 : Nat) (h1 : CtxAt w A1 a n1 c1) (h2 : CtxAt w A2 b n2 c2) (ha : Wide 134217728 a) (hb : Wide 134217728 b) :
   Calls Tryz.prog 55 #[.slice A1 n1 c1, .slice A2 n2 c2] w (CtxPost w (setC a b 0)) := by
 have HB0 : Hid (Below w.heap.size w (w.alloc (.cells #[.slice A1 n1 c1, .slice A2 n2 c2] 28))) := Lib.hid (Dt.below_new _ _)
 have CC := pconcatC_two (w.alloc (.cells #[.slice A1 n1 c1, .slice A2 n2 c2] 28)) w.heap.size A1 A2 a b n1 n2 c1 c2 (h1.up HB0.out) (h2.up HB0.out) (by rw [← h1.len]; exact ha.1) (by rw [← h2.len]; exact hb.1) (by simp) (by simp [go_sem]) (by simp [go_sem])
 have HW : Hid (Wide 268435456 (a ++ b)) := Lib.hid (by
   obtain ⟨q1, q2⟩ := ha
   obtain ⟨q3, q4⟩ := hb
   exact ⟨by rw [List.length_append]; omega, by rw [weight_two]; omega⟩)
 have HE := Lib.hid (norm_two h1.fit h2.fit)
 rw [← HE.out]
 clear h1 h2 ha hb HE
 generalize a ++ b = l at *
 go_enter Tryz.func55, Tryz.ntmps55
 go_wp2_with fail
 refine CC.mono ?_
 intro e w1 hp
 obtain ⟨A, n, c, rfl, hA, hb⟩ := post_ctx hp
 have CN := pnorm_any w1 A l n c hA HW.out
 have HB1 : Hid (Below w.heap.size w w1) := Lib.hid (HB0.out.trans (hb.mono HB0.out.size))
 clear hp hA hb CC
 go_wp2_with fail
 refine CN.mono ?_
 intro e w2 hp
 obtain ⟨A5, n5, c5, ps, rfl, h2⟩ := cpost_up HB1.out hp
 have HP := Lib.hid h2
 clear hp h2 CN
 go_wp2
 go_ret
 exact ⟨A5, n5, c5, ps, rfl, HP.out⟩
end Go.Proofs.YtgaegfddobpomaaGreat.Cx

namespace Go.Proofs.YtgaegfddobpomaaGreat.Kl
open Go.ChangeShapes Go.WideShapes Go.ChangeAt Go.RowKit
set_option linter.unusedVariables false
set_option maxRecDepth 4000
def TellsE {α : Type} (fe : α → Ev.EV) (g : Nat) (cb : Array Value) (p : α → Bool) (Z : List α) (w : World) (row : Option Nat) : Prop :=
 ∀ (W : World) (z : α), z ∈ Z → w.grownBy W row → Calls Tryz.prog g (#[(fe z).val] ++ cb) W fun e w' => e = .returned (.bool (p z)) ∧ Below W.heap.size W w'
theorem grown_bel {w W : World} (h : Below w.heap.size w W) (row : Option Nat) : w.grownBy W row := ⟨h.os, h.tape, h.output, h.size, fun k hk _ => h.block k hk⟩
theorem bel_grownN {w W : World} (h : w.grownBy W none) : Below w.heap.size w W := ⟨h.os, h.tape, h.output, h.size, fun k hk => h.block k hk (by simp)⟩
theorem TellsE.less {α : Type} {fe : α → Ev.EV} {g : Nat} {cb : Array Value} {p : α → Bool} {Z : List α} {w : World} {row : Option Nat} (h : TellsE fe g cb p Z w row) : TellsE fe g cb p Z w none := fun W q hq hg => h W q hq (grown_bel (bel_grownN hg) row)
theorem lies_cells {w : World} {B : Nat} {A : Option Addr} {ps : List Ev.EV} (h : Dt.Lies w B A (Ev.ev ps)) {k : Nat} {p : Ev.EV} (hp : ps[k]? = some p) : ∃ ad : Addr, A = some ad ∧ ad.block < B ∧ Ev.CellsAt w (ad.add (k * 7)) p := by
 have hk := (List.getElem?_eq_some_iff.1 hp).1
 obtain ⟨ad, e, hB, hc⟩ := h (by rw [Ev.ev_length]; omega)
 have g := fun j hj => Ev.ev_get hp j hj
 refine ⟨ad, e, hB, ⟨hc _ _ (g 0 (by omega)), ?_, ?_, ?_, ?_, ?_, ?_⟩⟩
 · rw [Ev.add_eq _ _ _ (by omega)]; exact hc _ _ (g 1 (by omega))
 · rw [Ev.add_eq _ _ _ (by omega)]; exact hc _ _ (g 2 (by omega))
 · rw [Ev.add_eq _ _ _ (by omega)]; exact hc _ _ (g 3 (by omega))
 · rw [Ev.add_eq _ _ _ (by omega)]; exact hc _ _ (g 4 (by omega))
 · rw [Ev.add_eq _ _ _ (by omega)]; exact hc _ _ (g 5 (by omega))
 · rw [Ev.add_eq _ _ _ (by omega)]; exact hc _ _ (g 6 (by omega))
def FirstAt {α : Type} (p : α → Bool) (Z : List α) (e : Ending) : Prop :=
 (e = .returned (.int .i64 (-1)) ∧ ∀ z ∈ Z, p z = false) ∨ ∃ (i : Nat) (z : α), Z[i]? = some z ∧ e = .returned (.int .i64 (i : Int)) ∧ p z = true ∧ ∀ z ∈ Z.take i, p z = false
theorem none_next {α : Type} {p : α → Bool} {Z : List α} {k : Nat} {z : α} (h : ∀ z ∈ Z.take k, p z = false) (hz : Z[k]? = some z) (hp : p z = false) : ∀ z ∈ Z.take (k + 1), p z = false := fun r hr => by
 rw [Ev.take_one hz] at hr
 rcases List.mem_append.1 hr with hr | hr
 · exact h r hr
 · rw [List.mem_singleton.1 hr]; exact hp
set_option maxHeartbeats 4000000 in
theorem pindexE {α : Type} (fe : α → Ev.EV) (w : World) (A : Option Addr) (Z : List α) (n c : Nat) (hn : Z.length = n) (hl : Dt.Lies w w.heap.size A (Ev.ev (Z.map fe))) (h62 : n ≤ 8796093022208) (g : Nat) (cb : Array Value) (p : α → Bool)
   (eg : ∀ args w, (callFunc g args).run Tryz.prog w = .ok (.enter g args) w) (hp : TellsE fe g cb p Z w none) :
   Calls Tryz.prog 166 #[.slice A n c, .func (.func g) #[] cb] w fun e w' => FirstAt p Z e ∧ Below w.heap.size w w' := by
 have HL := Lib.hid hl
 have HP := Lib.hid hp
 have HN := Lib.hid hn
 clear hl hp hn
 go_enter Tryz.func166, Tryz.ntmps166
 go_wp2
 go_loopw [5, 8] (fun _ vi wr => ∃ k : Nat, k ≤ n ∧ vi = .int .i64 (k : Int) ∧ (∀ z ∈ Z.take k, p z = false) ∧ Below w.heap.size w wr) (fun _ vi _ => n - (intOf vi).toNat)
 case atStart => exact ⟨0, Nat.zero_le _, rfl, by simp, Below.refl _ _⟩
 case round =>
   obtain ⟨k, hk, rfl, hno, hw⟩ := hrel
   have HNO := Lib.hid hno
   have HW := Lib.hid hw
   clear hno hw
   by_cases hlt : k < n
   · obtain ⟨z, hz⟩ : ∃ z, Z[k]? = some z := ⟨_, List.getElem?_eq_getElem (by rw [HN.out]; exact hlt)⟩
     obtain ⟨ad, rfl, hB, hc⟩ := lies_cells HL.out (show (Z.map fe)[k]? = some (fe z) by rw [List.getElem?_map, hz]; rfl)
     have hcall := HP.out wr z (List.mem_of_getElem? hz) (grown_bel HW.out none)
     obtain ⟨e0, e1, e2, e3, e4, e5, e6⟩ := hc.kept HW.out
     have HQ := Lib.hid hz
     clear hz hc
     simp only [Ev.EV.val] at hcall
     generalize fe z = q at *
     cases hb : p z with
     | true =>
       rw [hb] at hcall
       have HB := Lib.hid hb
       clear hb
       go_wp2_with (go_at_fn g; refine hcall.mono ?_; rintro e w' ⟨rfl, hb'⟩)
       go_ret
       exact ⟨.inr ⟨k, z, HQ.out, rfl, HB.out, HNO.out⟩, HW.out.trans (hb'.mono HW.out.size)⟩
     | false =>
       rw [hb] at hcall
       have HNN := Lib.hid (none_next HNO.out HQ.out hb)
       clear hb
       go_wp2_with (go_at_fn g; refine hcall.mono ?_; rintro e w' ⟨rfl, hb'⟩)
       go_roundw
       case rel => exact ⟨k + 1, by omega, by go_num, HNN.out, HW.out.trans (hb'.mono HW.out.size)⟩
       case measure => simp [intOf]; omega
   · obtain rfl : k = n := by omega
     have HA : Hid (∀ z ∈ Z, p z = false) := Lib.hid (by
       have h := HNO.out
       rwa [List.take_of_length_le (by rw [HN.out]; exact Nat.le_refl _)] at h)
     go_wp2
     go_ret
     exact ⟨.inl ⟨rfl, HA.out⟩, HW.out⟩
/-! DeleteFunc: a row of one's own. -/
instance : Inhabited Ev.EV := ⟨⟨0, 0, 0, 0, 0, ⟨#[]⟩, none, 0, 0⟩⟩
theorem row_cells {w : World} {g0 : Nat} {ps : List Ev.EV} (h : Ev.RowE w g0 ps) : Sort.HoldsK Ev.EV.cells 7 w g0 0 ps.toArray := fun j hj => by
 have hj' : j < ps.length * 7 := by simpa using hj
 have hk : j / 7 < ps.length := by omega
 have hp : ps[j / 7]? = some ps[j / 7] := List.getElem?_eq_getElem hk
 have e : ps.toArray[j / 7]! = ps[j / 7] := by rw [getElem!_pos _ _ (by simpa using hk)]; simp
 have hf := h.free _ _ hp (j % 7) (by omega)
 have hc := h.cell _ _ hp
 have ej : j / 7 * 7 + j % 7 = j := by omega
 rw [ej] at hf
 refine ⟨?_, by rw [Nat.zero_add]; exact hf⟩
 rw [Nat.zero_add, show id (Sort.flatK Ev.EV.cells 7 ps.toArray)[j]! = (Sort.flatK Ev.EV.cells 7 ps.toArray)[j]! from rfl, Sort.get_flatK _ _ _ _ (by simpa using hj'), e]
 have h7 : j % 7 = 0 ∨ j % 7 = 1 ∨ j % 7 = 2 ∨ j % 7 = 3 ∨ j % 7 = 4 ∨ j % 7 = 5 ∨ j % 7 = 6 := by omega
 rcases h7 with h7 | h7 | h7 | h7 | h7 | h7 | h7
 · rw [h7]; have := hc.c0; rwa [show j / 7 * 7 = j by omega] at this
 · rw [h7]; have := hc.c1; rwa [show j / 7 * 7 + 1 = j by omega] at this
 · rw [h7]; have := hc.c2; rwa [show j / 7 * 7 + 2 = j by omega] at this
 · rw [h7]; have := hc.c3; rwa [show j / 7 * 7 + 3 = j by omega] at this
 · rw [h7]; have := hc.c4; rwa [show j / 7 * 7 + 4 = j by omega] at this
 · rw [h7]; have := hc.c5; rwa [show j / 7 * 7 + 5 = j by omega] at this
 · rw [h7]; have := hc.c6; rwa [show j / 7 * 7 + 6 = j by omega] at this
theorem set_grown {w W : World} {g0 : Nat} (h : w.grownBy W (some g0)) (o : Nat) (v : Value) : w.grownBy (W.setCell ⟨g0, o, none⟩ v) (some g0) :=
 ⟨h.os, h.tape, h.output, by rw [World.size_setCell]; exact h.size, fun k hk hne => (Below.heap_setCell W ⟨g0, o, none⟩ v k (fun e => hne (by rw [e]))).trans (h.block k hk hne)⟩
theorem sets_grown {w : World} {g0 : Nat} : ∀ (vs : List Value) (o : Nat) (W : World), w.grownBy W (some g0) → w.grownBy (W.setCells g0 o vs) (some g0)
 | [], _, _, h => h
 | v :: r, o, W, h => by
   rw [World.setCells]
   exact sets_grown r (o + 1) _ (set_grown h o v)
theorem put_grown {w W : World} {g0 : Nat} (h : w.grownBy W (some g0)) (o : Nat) (q : Ev.EV) : w.grownBy (Ev.putAt W g0 o q) (some g0) := sets_grown _ _ _ h
theorem row_lies {w : World} {g0 : Nat} {ps : List Ev.EV} (h : Ev.RowE w g0 ps) : Dt.Lies w w.heap.size (some ⟨g0, 0, none⟩) (Ev.ev ps) := fun h0 => ⟨_, rfl, h.lt, fun j u hu => by
   rw [Dt.zero_add]
   have hj : j < ps.length * 7 := by have := (List.getElem?_eq_some_iff.1 hu).1; rwa [Ev.ev_length] at this
   have hk : j / 7 < ps.length := by omega
   have hp := List.getElem?_eq_getElem hk
   have hcs := h.cell _ _ hp
   have hv := Ev.ev_get hp (j % 7) (by omega)
   rw [show j / 7 * 7 + j % 7 = j by omega, hu] at hv
   have h7 : j % 7 = 0 ∨ j % 7 = 1 ∨ j % 7 = 2 ∨ j % 7 = 3 ∨ j % 7 = 4 ∨ j % 7 = 5 ∨ j % 7 = 6 := by omega
   rcases h7 with e | e | e | e | e | e | e
   · rw [e] at hv; cases hv; have := hcs.c0; rwa [show j / 7 * 7 = j by omega] at this
   · rw [e] at hv; cases hv; have := hcs.c1; rwa [show j / 7 * 7 + 1 = j by omega] at this
   · rw [e] at hv; cases hv; have := hcs.c2; rwa [show j / 7 * 7 + 2 = j by omega] at this
   · rw [e] at hv; cases hv; have := hcs.c3; rwa [show j / 7 * 7 + 3 = j by omega] at this
   · rw [e] at hv; cases hv; have := hcs.c4; rwa [show j / 7 * 7 + 4 = j by omega] at this
   · rw [e] at hv; cases hv; have := hcs.c5; rwa [show j / 7 * 7 + 5 = j by omega] at this
   · rw [e] at hv; cases hv; have := hcs.c6; rwa [show j / 7 * 7 + 6 = j by omega] at this⟩
theorem zero_val (w : World) : (zeroValue 38).run Tryz.prog w = .ok (Value.agg (Ev.EV.cells ⟨0, 0, 0, 0, 0, ⟨#[]⟩, none, 0, 0⟩).toArray) w := Tryz.zeroValue38 w
theorem clear_row {w : World} {g0 : Nat} {ps : List Ev.EV} (h : Ev.RowE w g0 ps) (i : Nat) (hi : i < ps.length) (c : Nat) :
   ∃ W, (∀ ty, (Builtin.clear_ #[29] ty #[.slice (some ⟨g0, i * 7, none⟩) (ps.length - i) c]).run Tryz.prog w = .ok (.tuple #[]) W) ∧ Ev.RowE W g0 (ps.take i) ∧ w.grownBy W (some g0) := by
 have hH := row_cells h
 have R : RowK Ev.EV.cells 7 w g0 0 ps.toArray := ⟨fun _ => rfl, fun x v hv => Ev.ev_one [x] v (by simpa [Ev.ev] using hv), hH, h.lt⟩
 have hcl := fun ty => St.swk_clr (SWK.start hH) R rfl (P := Tryz.prog) (t := 29) (e := 38) Tryz.underlying29 ⟨0, 0, 0, 0, 0, ⟨#[]⟩, none, 0, 0⟩ zero_val i (by simpa using hi) c ty
 simp only [Nat.zero_add, List.size_toArray] at hcl
 refine ⟨_, hcl, ⟨?_, fun k p hp => ?_, fun k p hp j hj => ?_⟩, sets_grown _ _ _ (World.grownBy.refl _ _)⟩
 · rw [Sort.size_setCells]; exact h.lt
 · have hk : k < i := by have := (List.getElem?_eq_some_iff.1 hp).1; simp at this; omega
   rw [List.getElem?_take, if_pos hk] at hp
   have hc := h.cell k p hp
   have e : ∀ j, j < 7 → (w.setCells g0 (i * 7) (Builtin.zeroCells (Ev.EV.cells ⟨0, 0, 0, 0, 0, ⟨#[]⟩, none, 0, 0⟩).toArray (ps.length - i)).toList).cell? ⟨g0, k * 7 + j, none⟩ = w.cell? ⟨g0, k * 7 + j, none⟩ := fun j hj =>
     World.cell?_setCells_out g0 _ (i * 7) w _ (fun _ h2 => by simp only at h2 ⊢; omega)
   exact ⟨(e 0 (by omega)).trans hc.c0, (e 1 (by omega)).trans hc.c1, (e 2 (by omega)).trans hc.c2, (e 3 (by omega)).trans hc.c3, (e 4 (by omega)).trans hc.c4, (e 5 (by omega)).trans hc.c5, (e 6 (by omega)).trans hc.c6⟩
 · have hk : k < i := by have := (List.getElem?_eq_some_iff.1 hp).1; simp at this; omega
   rw [List.getElem?_take, if_pos hk] at hp
   exact (World.frozen?_setCells _ _ _ _ _).trans (h.free k p hp j hj)
theorem kept_next {p : Ev.EV → Bool} {ps ds : List Ev.EV} {i j : Nat} {q : Ev.EV} (hi : ds.take i = (ps.take j).filter (fun q => !p q)) (hil : i < ds.length) (hq : ps[j]? = some q) (hp : p q = false) : (ds.set i q).take (i + 1) = (ps.take (j + 1)).filter (fun q => !p q) := by
 rw [Ev.take_one hq, List.filter_append, ← hi, Ev.take_one (x := q) (by rw [List.getElem?_set, if_pos rfl, if_pos hil]), List.take_set_of_le (Nat.le_refl _)]
 simp [hp]
theorem skipped_next {p : Ev.EV → Bool} {ps ds : List Ev.EV} {i j : Nat} {q : Ev.EV} (hi : ds.take i = (ps.take j).filter (fun q => !p q)) (hq : ps[j]? = some q) (hp : p q = true) : ds.take i = (ps.take (j + 1)).filter (fun q => !p q) := by
 rw [Ev.take_one hq, List.filter_append, ← hi]
 simp [hp]
theorem kept_all {p : Ev.EV → Bool} {ps : List Ev.EV} (h : ∀ q ∈ ps, p q = false) : ps.filter (fun q => !p q) = ps := List.filter_eq_self.2 (fun q hq => by rw [h q hq]; rfl)
def DelTo (p : Ev.EV → Bool) (ps : List Ev.EV) (w : World) (g0 c : Nat) (e : Ending) (w' : World) : Prop :=
 ∃ m, (ps.filter fun q => !p q).length = m ∧ e = .returned (.slice (some ⟨g0, 0, none⟩) m c) ∧ Ev.RowE w' g0 (ps.filter fun q => !p q) ∧ w.grownBy w' (some g0)
set_option maxHeartbeats 8000000 in
theorem pdelF (w : World) (g0 : Nat) (ps : List Ev.EV) (n c : Nat) (hn : ps.length = n) (hr : Ev.RowE w g0 ps) (hcap : n ≤ c) (h62 : n ≤ 8796093022208) (hc63 : c ≤ 9223372036854775807) (g : Nat) (cb : Array Value) (p : Ev.EV → Bool)
   (eg : ∀ args w, (callFunc g args).run Tryz.prog w = .ok (.enter g args) w) (hp : TellsE id g cb p ps w (some g0)) :
   Calls Tryz.prog 138 #[.slice (some ⟨g0, 0, none⟩) n c, .func (.func g) #[] cb] w (DelTo p ps w g0 c) := by
 have CI := pindexE id w (some ⟨g0, 0, none⟩) ps n c hn (by rw [List.map_id]; exact row_lies hr) h62 g cb p eg hp.less
 have HR := Lib.hid hr
 have HP := Lib.hid hp
 have HN := Lib.hid hn
 clear hr hp hn
 go_enter Tryz.func138, Tryz.ntmps138
 go_wp2_with fail
 refine CI.mono ?_
 rintro e w1 ⟨h1, hb1⟩
 have HB1 := Lib.hid hb1
 clear CI hb1
 rcases h1 with ⟨rfl, hno⟩ | ⟨i0, q0, hi0, rfl, hq0, hno⟩
 · have HE := Lib.hid (kept_all hno)
   clear hno
   go_wp2
   go_ret
   exact ⟨n, by rw [HE.out]; exact HN.out, rfl, by rw [HE.out]; exact HR.out.below HB1.out, grown_bel HB1.out _⟩
 · have hin : i0 < n := by have := (List.getElem?_eq_some_iff.1 hi0).1; rw [← HN.out]; exact this
   have HS : Hid (ps.take i0 = (ps.take (i0 + 1)).filter (fun q => !p q)) := Lib.hid (skipped_next (by rw [kept_all hno]) hi0 hq0)
   have hne : ((i0 : Int) == -1) = false := beq_eq_false_iff_ne.2 (by omega)
   clear hno hi0 hq0
   go_wp2
   go_loopw [5, 6] (fun vi vj wr => ∃ (i j : Nat) (ds : List Ev.EV), vi = .int .i64 (i : Int) ∧ vj = .int .i64 (j : Int) ∧ i < j ∧ j ≤ n ∧ ds.length = n ∧ Ev.RowE wr g0 ds ∧ ds.take i = (ps.take j).filter (fun q => !p q) ∧ ds.drop j = ps.drop j ∧ w.grownBy wr (some g0)) (fun _ vj _ => n - (intOf vj).toNat)
   case atStart => exact ⟨i0, i0 + 1, ps, rfl, by go_num, by omega, by omega, HN.out, HR.out.below HB1.out, HS.out, rfl, grown_bel HB1.out _⟩
   case round =>
     obtain ⟨i, j, ds, rfl, rfl, hij, hj, hds, hrow, htk, hdr, hg⟩ := hrel
     have HDS := Lib.hid hds
     have HROW := Lib.hid hrow
     have HTK := Lib.hid htk
     have HDR := Lib.hid hdr
     have HG := Lib.hid hg
     clear hds hrow htk hdr hg
     by_cases hlt : j < n
     · obtain ⟨q, hq⟩ : ∃ q, ps[j]? = some q := ⟨_, List.getElem?_eq_getElem (by rw [HN.out]; exact hlt)⟩
       have hqd : ds[j]? = some q := by
         have h1 : (ds.drop j)[0]? = (ps.drop j)[0]? := by rw [HDR.out]
         simpa [hq] using h1
       have HQ := Lib.hid hq
       have HDN : Hid (ds.drop (j + 1) = ps.drop (j + 1)) := Lib.hid (by rw [← List.drop_drop, ← List.drop_drop, HDR.out])
       obtain ⟨c0, c1, c2, c3, c4, c5, c6⟩ := HROW.out.cell j q hqd
       have HBX := Lib.hid (fun V (hV : Below (wr.heap.size + 1) (wr.alloc q.box) V) => (Ev.box_new wr q V hV).all)
       have HGB : Hid (w.grownBy (wr.alloc q.box) (some g0)) := Lib.hid (HG.out.trans (World.grownBy_alloc _ _ _))
       have HRB : Hid (Ev.RowE (wr.alloc q.box) g0 ds) := Lib.hid (HROW.out.below (Ev.below_new _ _))
       have hcall := HP.out (wr.alloc q.box) q (List.mem_of_getElem? hq) HGB.out
       have hsz : (wr.alloc q.box).heap.size = wr.heap.size + 1 := Ev.alloc_size _ _
       have HSZ := Lib.hid hsz
       obtain ⟨x0, x1, x2, x3, x4, x5, x6⟩ := HBX.out _ (by rw [← hsz]; exact Below.refl _ _)
       clear hq hqd hsz
       simp only [Ev.EV.val, id_eq] at hcall
       cases hb : p q with
       | true =>
         rw [hb] at hcall
         have HNX := Lib.hid (skipped_next HTK.out HQ.out hb)
         clear hb
         go_wp2_with (go_at_fn g; refine hcall.mono ?_; rintro e w' ⟨rfl, hb'⟩)
         go_roundw
         case rel => exact ⟨i, j + 1, ds, rfl, by go_num, by omega, by omega, HDS.out, HRB.out.below hb', HNX.out, HDN.out, HGB.out.trans (grown_bel hb' _)⟩
         case measure => simp [intOf]; omega
       | false =>
         rw [hb] at hcall
         have hil : i < ds.length := by rw [HDS.out]; omega
         have HNX := Lib.hid (kept_next HTK.out hil HQ.out hb)
         have HIL := Lib.hid hil
         have HDN2 : Hid ((ds.set i q).drop (j + 1) = ps.drop (j + 1)) := Lib.hid (by rw [List.drop_set_of_lt (by omega)]; exact HDN.out)
         have HOLD := Lib.hid (fun (V : World) (hV : Below (wr.alloc q.box).heap.size (wr.alloc q.box) V) => HRB.out.below hV)
         clear hb hil
         go_wp2_with (go_at_fn g; refine hcall.mono ?_; rintro e w' ⟨rfl, hb'⟩
                      have hrw := HOLD.out _ hb'
                      have HPUT := Lib.hid (hrw.put HIL.out q)
                      have HGP := Lib.hid (put_grown (HGB.out.trans (grown_bel hb' _)) (i * 7) q)
                      have hd := hrw.cell i _ (List.getElem?_eq_getElem HIL.out)
                      have hf := hrw.free i _ (List.getElem?_eq_getElem HIL.out)
                      have f0 := hf 0 (by omega)
                      have f1 := hf 1 (by omega)
                      have f2 := hf 2 (by omega)
                      have f3 := hf 3 (by omega)
                      have f4 := hf 4 (by omega)
                      have f5 := hf 5 (by omega)
                      have f6 := hf 6 (by omega)
                      simp only [Nat.add_zero] at f0
                      obtain ⟨d0, d1, d2, d3, d4, d5, d6⟩ := hd
                      simp only at d0 d1 d2 d3 d4 d5 d6
                      obtain ⟨y0, y1, y2, y3, y4, y5, y6⟩ := HBX.out w' (by rw [← HSZ.out]; exact hb')
                      rw [Ev.putAt_eq] at HPUT HGP
                      clear hf hrw c0 c1 c2 c3 c4 c5 c6 x0 x1 x2 x3 x4 x5 x6)
         go_roundw
         case rel => exact ⟨i + 1, j + 1, ds.set i q, by go_num, by go_num, by omega, by omega, by rw [List.length_set]; exact HDS.out, HPUT.out, HNX.out, HDN2.out, HGP.out⟩
         case measure => simp [intOf]; omega
     · obtain rfl : j = n := by omega
       have hid : i < ds.length := by rw [HDS.out]; exact hij
       obtain ⟨W, hcl, hrW, hgW⟩ := clear_row HROW.out i hid (c - i)
       rw [HDS.out] at hcl
       have HTA : Hid (ds.take i = ps.filter (fun q => !p q)) := Lib.hid (by
         have h := HTK.out
         rwa [List.take_of_length_le (l := ps) (by rw [HN.out]; exact Nat.le_refl _)] at h)
       rw [HTA.out] at hrW
       have HRW := Lib.hid hrW
       have HGW := Lib.hid (HG.out.trans hgW)
       have HLN : Hid ((ps.filter (fun q => !p q)).length = i) := Lib.hid (by rw [← HTA.out, List.length_take]; omega)
       have z2 : i < c := by omega
       clear hrW hgW hid
       go_wp2
       go_ret
       exact ⟨i, HLN.out, rfl, HRW.out, HGW.out⟩
theorem pisedit (w : World) (q : Ev.EV) : Calls Tryz.prog 149 #[q.val] w fun e w' => e = .returned (.bool ((q.kind : Int) == 1)) ∧ Below w.heap.size w w' := by
 have hbx := (Ev.box_new w q _ (Below.refl _ _)).all
 have HB := Lib.hid (Ev.below_new w q.box)
 obtain ⟨p1, p2, p3, p4, p5, p6, pA, pn, pc⟩ := q
 simp only [Ev.EV.val, Ev.EV.box] at hbx HB ⊢
 obtain ⟨x0, x1, x2, x3, x4, x5, x6⟩ := hbx
 go_enter Tryz.func149, Tryz.ntmps149
 go_wp2
 go_ret
 exact ⟨rfl, HB.out⟩
set_option maxHeartbeats 4000000 in
theorem pedits (w : World) (A0 : Option Addr) (l : List Ev.Evt) (n c0 cid : Nat) (hl : Ev.EventsAt w w.heap.size A0 l n c0) (h40 : n ≤ 1099511627776) :
   Calls Tryz.prog 136 #[.slice A0 n c0, .int .u64 (cid : Int)] w fun e w' => ∃ (A : Option Addr) (m c : Nat) (ps : List Ev.EV), e = .returned (.slice A m c) ∧ ps.length = m ∧ m ≤ n ∧ Ev.Match w w.heap.size ps (l.filter (delB cid)) ∧ w'.ownsRow w.heap.size 38 7 (.slice A m c) m (Ev.ev ps) ∧ Below w.heap.size w w' := by
 have HL := Lib.hid hl
 clear hl
 go_enter Tryz.func136, Tryz.ntmps136
 go_wp2_with fail
 go_loopw [5, 10] (fun v i wr => SRel w n l (delB cid) v i wr) (fun _ i _ => n - (intOf i).toNat)
 case atStart => exact s_start _ _ _ _
 case round =>
   obtain ⟨k, m, A, c, ps, hk, rfl, rfl, hm, hma, ho, hw⟩ := hrel
   have hmk := s_long hm hma
   have HM := Lib.hid hm
   have HMA := Lib.hid hma
   have HO := Lib.hid ho
   have HW := Lib.hid hw
   clear hm hma ho hw
   by_cases hlt : k < n
   · obtain ⟨ad, q, y, rfl, hB, hly, hq, cq⟩ := HL.out.at_ hlt
     have HLY := Lib.hid hly
     have HQ := Lib.hid hq
     have HF : Hid (delB cid y = (((q.kind : Int) == 1) && ((q.cid : Int) == (cid : Int)))) := Lib.hid (by rw [eq_one, eq_u8, HQ.out.kind, HQ.out.cid]; rfl)
     obtain ⟨e0, e1, e2, e3, e4, e5, e6⟩ := cq.kept HW.out
     have HWB : Hid (Below w.heap.size w (wr.alloc q.box)) := Lib.hid (Ev.bel_alloc _ HW.out)
     have HOB := Lib.hid (HO.out.alloc q.box)
     have HBX := Lib.hid (fun V (hV : Below (wr.alloc q.box).heap.size (wr.alloc q.box) V) => (Ev.box_new wr q V (by rw [Ev.alloc_size] at hV; exact hV)).all)
     have CI := pisedit (wr.alloc q.box) q
     clear hly hq cq HO HW
     obtain ⟨x0, x1, x2, x3, x4, x5, x6⟩ := HBX.out _ (Below.refl _ _)
     simp only [Ev.EV.val, Ev.EV.box] at CI HWB HOB HBX x0 x1 x2 x3 x4 x5 x6
     cases h1 : ((q.kind : Int) == 1) with
     | false =>
       rw [h1] at CI HF
       rw [Bool.false_and] at HF
       go_wp2_with fail
       refine CI.mono ?_
       rintro e V ⟨rfl, hbV⟩
       have HV := Lib.hid (HWB.out.trans (hbV.mono HWB.out.size))
       have HOV := Lib.hid (Dt.own_kept HOB.out hbV)
       have HR := Lib.hid (s_skip (f := delB cid) hlt HLY.out HF.out HM.out HMA.out HOV.out HV.out)
       clear e0 e1 e2 e3 e4 e5 e6 x0 x1 x2 x3 x4 x5 x6 CI hbV
       go_wp2
       go_roundw
       case rel => exact HR.out
       case measure => simp [intOf]; omega
     | true =>
       rw [h1] at CI HF
       rw [Bool.true_and] at HF
       cases h2 : ((q.cid : Int) == (cid : Int)) with
       | false =>
         rw [h2] at HF
         go_wp2_with fail
         refine CI.mono ?_
         rintro e V ⟨rfl, hbV⟩
         have HV := Lib.hid (HWB.out.trans (hbV.mono HWB.out.size))
         have HOV := Lib.hid (Dt.own_kept HOB.out hbV)
         have HR := Lib.hid (s_skip (f := delB cid) hlt HLY.out HF.out HM.out HMA.out HOV.out HV.out)
         clear e0 e1 e2 e3 e4 e5 e6 x0 x1 x2 x3 x4 x5 x6 CI
         obtain ⟨x0, x1, x2, x3, x4, x5, x6⟩ := HBX.out V hbV
         clear hbV
         go_wp2
         go_roundw
         case rel => exact HR.out
         case measure => simp [intOf]; omega
       | true =>
         rw [h2] at HF
         go_wp2_with fail
         refine CI.mono ?_
         rintro e V ⟨rfl, hbV⟩
         have HV := Lib.hid (HWB.out.trans (hbV.mono HWB.out.size))
         have HOV := Lib.hid (Dt.own_kept HOB.out hbV)
         clear e0 e1 e2 e3 e4 e5 e6 x0 x1 x2 x3 x4 x5 x6 CI
         obtain ⟨x0, x1, x2, x3, x4, x5, x6⟩ := HBX.out V hbV
         have HLO : Hid (m + 1 ≤ 1649267441664) := Lib.hid (by omega)
         have HWA : Hid (Below w.heap.size w (V.alloc q.box)) := Lib.hid (Ev.bel_alloc _ HV.out)
         clear hbV
         go_wp2_with (at_builtin; refine Ev.wpList_evt rfl (.tmp 22) (.tmp 24) rfl rfl _ w.heap.size m (.slice A m c) ps (some ⟨V.heap.size, 0, none⟩) [q] 1 1 rfl rfl (HOV.out.alloc _) (fun h => by cases h) (Ev.lies_evt V q) rfl HLO.out HWA.out.size ?_; intro A3 c3 V3 ho3 hg3; have HR := Lib.hid (s_take hlt HLY.out HF.out HQ.out HM.out HMA.out ho3 (Ev.evt_grown (HOV.out.alloc _) HWA.out hg3)); clear ho3 hg3)
         go_roundw
         case rel => exact HR.out
         case measure => simp [intOf]; omega
   · obtain rfl : k = n := by omega
     have htk : l.take k = l := List.take_of_length_le (by rw [HL.out.len]; exact Nat.le_refl _)
     rw [htk] at HMA
     go_wp2
     go_ret
     exact ⟨A, m, c, ps, rfl, HM.out, hmk, HMA.out, HO.out, HW.out⟩
theorem tells_edit {w : World} {b f : Nat} {row : Option Nat} (hc : w.cell? ⟨b, 0, none⟩ = some (.int .u8 (f : Int))) (hne : some b ≠ row) (ps : List Ev.EV) :
   TellsE id 137 #[.pointer (some ⟨b, 0, none⟩)] (fun q => (q.fld : Int) != (f : Int)) ps w row := by
 intro W q _ hg
 have hb0 := Ev.below_new W q.box
 have hbx := (Ev.box_new W q _ (Below.refl _ _)).all
 have hp := Ev.stays hb0 (hg.cell hc hne)
 have HB := Lib.hid hb0
 clear hb0 hc hne hg
 obtain ⟨p1, p2, p3, p4, p5, p6, pA, pn, pc⟩ := q
 simp only [Ev.EV.val, Ev.EV.box, id_eq] at hbx hp HB ⊢
 obtain ⟨x0, x1, x2, x3, x4, x5, x6⟩ := hbx
 show Calls Tryz.prog 137 #[.agg #[.int .u16 (p1 : Int), .int .u64 (p2 : Int), .int .u8 (p3 : Int), .int .u64 (p4 : Int), .int .u8 (p5 : Int), .string p6, .slice pA pn pc], .pointer (some ⟨b, 0, none⟩)] W _
 go_enter Tryz.func137, Tryz.ntmps137
 go_wp2
 go_ret
 exact ⟨rfl, HB.out⟩
end Go.Proofs.YtgaegfddobpomaaGreat.Kl
