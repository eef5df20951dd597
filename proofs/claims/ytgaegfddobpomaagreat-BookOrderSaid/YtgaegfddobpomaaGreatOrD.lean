/- Words and contracts that the proofs of this seat stand on, part 4 of 39. -/
import Derived.Test.YtgaegfddobpomaaGreatOrC
import Derived.Deep.DeepCutAuto

namespace Go.Proofs.YtgaegfddobpomaaGreat.Ev
open Go.ChangeShapes Go.WideShapes Go.ChangeAt Go.RowKit
set_option linter.unusedVariables false
set_option maxRecDepth 4000
theorem evt_info : (Tryz.prog.info? 38).map (fun i => (i.zero, i.size, i.bytes)) = some (some (.agg #[.int .u16 0, .int .u64 0, .int .u8 0, .int .u64 0, .int .u8 0, .string ⟨#[]⟩, .slice none 0 0]), 7, 80) := by kernel_rfl
theorem lies_evt (V : World) (q : EV) : Dt.Lies (V.alloc q.box) (V.alloc q.box).heap.size (some ⟨V.heap.size, 0, none⟩) (ev [q]) := fun _ => by
 refine ⟨_, rfl, by rw [alloc_size]; exact Nat.lt_succ_self _, fun j u hu => ?_⟩
 rw [Dt.zero_add, World.cell?_alloc_new]
 have e : ev [q] = q.cells := by simp [ev]
 rw [e] at hu
 simpa using hu
theorem run_evt (w : World) (B k : Nat) (v : Value) (xs : List EV) (A : Option Addr) (m : List EV) (n c : Nat) (ho : w.ownsRow B 38 7 v k (ev xs)) (hA : A = none → n = 0 ∧ c = 0) (hb : Dt.Lies w w.heap.size A (ev m)) (hl : m.length = n)
   (hn : k + n ≤ 1649267441664) (hB : B ≤ w.heap.size) :
   ∃ A' c' w', (Builtin.append_ #[29, 29] 29 #[v, .slice A n c]).run Tryz.prog w = .ok (.slice A' (k + n) c') w' ∧
     w'.ownsRow B 38 7 (.slice A' (k + n) c') (k + n) (ev (xs ++ m)) ∧ w.grownBy w' v.ownBlock := by
 obtain ⟨i0, hi0, hz0, hz1, hz2⟩ := info_parts evt_info
 cases A with
 | none =>
   obtain ⟨rfl, rfl⟩ := hA rfl
   obtain rfl := List.eq_nil_of_length_eq_zero hl
   obtain ⟨A', c', rfl⟩ := Dt.own_form ho
   exact ⟨A', c', w, run_append_owned_none (P := Tryz.prog) (w := w) B 29 29 38 i0 7 Tryz.underlying29 hi0 _ k (ev xs) ho, by rw [List.append_nil]; exact ho, Dt.turn_refl _ _⟩
 | some ad =>
   have hc : ∀ j u, (ev m)[j]? = some u → w.cell? (ad.add j) = some u := by
     intro j u hu
     have hjl : j < (ev m).length := (List.getElem?_eq_some_iff.1 hu).1
     obtain ⟨ad', e, hadb, hc⟩ := hb (by omega)
     obtain rfl := Option.some.inj e
     exact hc j u hu
   obtain ⟨v', w', hr, h2, h3, hat, h5⟩ := run_append_own_at (P := Tryz.prog) w B 29 29 38 i0 (.agg #[.int .u16 0, .int .u64 0, .int .u8 0, .int .u64 0, .int .u8 0, .string ⟨#[]⟩, .slice none 0 0]) 7 80 Tryz.underlying29 hi0 hz0 hz1 hz2 rfl (by decide) v k (ev xs) ho ad n c (ev m) (by rw [ev_length, hl]) hc (ev_one m) (by simp only [maxLen]; omega) (by omega) hB
   obtain ⟨A', c', rfl⟩ := Dt.own_form h2
   exact ⟨A', c', w', hr, by rw [ev_append]; exact h2, h3⟩
theorem wpList_evt {ops : Array Oper} {rest : List Oper} {o : Oper} {a : Act} {Q : Exit → Act → World → Prop} (hgd : o.guard = none) (s x : Operand) (ho : o.op = .call { callee := .builtin .append, args := #[s, x], argTypes := #[29, 29] }) (hty : o.type = 29)
   (w : World) (B k : Nat) (v : Value) (xs : List EV) (A : Option Addr) (m : List EV) (n c : Nat) (hs : a.eval s = v) (hx : a.eval x = .slice A n c) (hw : w.ownsRow B 38 7 v k (ev xs)) (hA : A = none → n = 0 ∧ c = 0) (hb : Dt.Lies w w.heap.size A (ev m)) (hl : m.length = n)
   (hn : k + n ≤ 1649267441664) (hB : B ≤ w.heap.size)
   (hK : ∀ A' c' w', w'.ownsRow B 38 7 (.slice A' (k + n) c') (k + n) (ev (xs ++ m)) → w.grownBy w' v.ownBlock → wpList Tryz.prog ops Q rest (a.put o.dst (.slice A' (k + n) c')) w') : wpList Tryz.prog ops Q (o :: rest) a w := by
 refine wpList_plain hgd fun K hQ => ?_
 obtain ⟨A', c', w', hr, h2, h3⟩ := run_evt w B k v xs A m n c hw hA hb hl hn hB
 rw [← hty] at hr
 unfold Oper.wp execOp
 simp only [ho, resolve, invoke, builtin, Sem.run_bind, Sem.run_pure, Result.andThen_ok, List.map_toArray, List.map_cons, List.map_nil, hs, hx]
 rw [hty] at hr ⊢
 rw [hr]
 exact hQ _ _ (hK _ _ _ h2 h3)
theorem evt_grown {w wr w2 : World} {v : Value} {m : Nat} {xs : List Value} (ho : wr.ownsRow w.heap.size 38 7 v m xs) (hb : Below w.heap.size w wr) (hg : wr.grownBy w2 v.ownBlock) : Below w.heap.size w w2 :=
 hb.grown hg hb.size (fun k hk => (ho.lt k hk).1)
theorem bel_alloc {w W : World} (o : Obj) (h : Below w.heap.size w W) : Below w.heap.size w (W.alloc o) := h.alloc h.size o
def EvPost (w : World) (l : List Evt) (e : Ending) (w' : World) : Prop := ∃ A n c, e = .returned (.slice A n c) ∧ EventsAt w' w'.heap.size A l n c ∧ Below w.heap.size w w'
def stepE (e : Evt) (s : Bool × List Evt) (x : Evt) : Bool × List Evt := if Dt.aheadD e.dot x.dot = true ∧ s.1 = false then (true, s.2 ++ [e, x]) else (s.1, s.2 ++ [x])
def stE (l : List Evt) (e : Evt) (k : Nat) : Bool × List Evt := (l.take k).foldl (stepE e) (false, [])
noncomputable def putE (l : List Evt) (e : Evt) : List Evt := if ∃ x ∈ l, x.dot = e.dot then l else if (stE l e l.length).1 = true then (stE l e l.length).2 else (stE l e l.length).2 ++ [e]
theorem st_next {l : List Evt} {e x : Evt} {k : Nat} (h : l[k]? = some x) : stE l e (k + 1) = stepE e (stE l e k) x := by
 unfold stE
 rw [List.take_add_one, h, List.foldl_append]
 rfl
theorem st_long (l : List Evt) (e : Evt) (k : Nat) : (stE l e k).2.length ≤ k + (if (stE l e k).1 = true then 1 else 0) := by
 have h : ∀ (m : List Evt) (s : Bool × List Evt), (m.foldl (stepE e) s).2.length + (if s.1 = true then 1 else 0) ≤ s.2.length + m.length + (if (m.foldl (stepE e) s).1 = true then 1 else 0) := by
   intro m
   induction m with
   | nil => intro s; exact Nat.le_refl _
   | cons x m ih =>
     intro s
     have h1 := ih (stepE e s x)
     rw [List.foldl_cons]
     unfold stepE at h1 ⊢
     obtain ⟨b, t⟩ := s
     by_cases hc : Dt.aheadD e.dot x.dot = true ∧ b = false
     · rw [if_pos hc] at h1 ⊢
       obtain ⟨_, rfl⟩ := hc
       simp only [List.length_append, List.length_cons, List.length_nil] at h1 ⊢
       simp only [reduceIte, Bool.false_eq_true] at h1 ⊢
       omega
     · rw [if_neg hc] at h1 ⊢
       simp only [List.length_append, List.length_cons, List.length_nil] at h1 ⊢
       omega
 have h2 := h (l.take k) (false, [])
 have h3 : (l.take k).length ≤ k := List.length_take_le _ _
 unfold stE
 simp only [List.length_nil, Bool.false_eq_true, if_false, Nat.add_zero, Nat.zero_add] at h2
 omega
theorem put_there {l : List Evt} {e x : Evt} {k : Nat} (h : l[k]? = some x) (hd : x.dot = e.dot) : putE l e = l := by
 unfold putE
 rw [if_pos ⟨x, List.mem_of_getElem? h, hd⟩]
def NoDot (l : List Evt) (e : Evt) (k : Nat) : Prop := ∀ j x, j < k → l[j]? = some x → x.dot ≠ e.dot
theorem nodot_next {l : List Evt} {e x : Evt} {k : Nat} (h : NoDot l e k) (hx : l[k]? = some x) (hd : x.dot ≠ e.dot) : NoDot l e (k + 1) := fun j y hj hy => by
 rcases Nat.lt_succ_iff_lt_or_eq.1 hj with h2 | rfl
 · exact h j y h2 hy
 · rw [hx] at hy; cases hy; exact hd
theorem put_done {l : List Evt} {e : Evt} {n : Nat} (hn : l.length = n) (h : NoDot l e n) : putE l e = if (stE l e n).1 = true then (stE l e n).2 else (stE l e n).2 ++ [e] := by
 unfold putE
 rw [if_neg (fun ⟨x, hx, hd⟩ => by obtain ⟨j, hj, rfl⟩ := List.getElem_of_mem hx; exact h j _ (by omega) (List.getElem?_eq_getElem hj) hd), hn]
def PRel (w w1 : World) (n : Nat) (l : List Evt) (x : Evt) (v b i : Value) (wr : World) : Prop :=
 ∃ k m A c ps, k ≤ n ∧ i = .int .i64 ((k : Nat) : Int) ∧ b = .bool (stE l x k).1 ∧ v = .slice A m c ∧ ps.length = m ∧ Match w w.heap.size ps (stE l x k).2 ∧ wr.ownsRow w1.heap.size 38 7 (.slice A m c) m (ev ps) ∧ NoDot l x k ∧ Below w1.heap.size w1 wr
theorem own_events {w w1 wr : World} {A : Option Addr} {m c : Nat} {ps : List EV} {l : List Evt} (hb : Below w.heap.size w wr) (hm : Match w w.heap.size ps l) (hl : ps.length = m) (hw : m ≤ 2199023255552) (ho : wr.ownsRow w1.heap.size 38 7 (.slice A m c) m (ev ps)) : EventsAt wr wr.heap.size A l m c := by
 obtain ⟨h1, h2, h3⟩ := Dt.own_len ho
 exact ⟨by rw [← hm.1]; exact hl, h3, h1, h2, hw, ps, Dt.lies_any (by decide) ho, (hm.below hb).more hb.size⟩
theorem bel_drew {w W : World} (h : Below w.heap.size w W) : Below w.heap.size w W.drew := h.drew
theorem cells_later {w V : World} {a : Addr} {p : EV} (h : CellsAt w a p) (hb : Below w.heap.size w V) : CellsAt V a p := h.kept hb
theorem cmp_zero {a b : Dt.Dot} (h : ¬ a = b) : (Dt.cmpD a b == 0) = false := by
 rw [beq_eq_false_iff_ne]
 unfold Dt.cmpD
 rw [if_neg h]
 split <;> omega
theorem is_dot {w : World} {B : Nat} {p : EV} {x : Evt} (h : EventIs w B p x) : x.dot = (p.dev, p.num) := by rw [h.dev, h.num]
end Go.Proofs.YtgaegfddobpomaaGreat.Ev

namespace Go.Proofs.YtgaegfddobpomaaGreat.Dt
open Go.ChangeShapes Go.WideShapes Go.ChangeAt Go.RowKit
set_option linter.unusedVariables false
theorem bel_alloc {w W : World} (o : Obj) (h : Below w.heap.size w W) : Below w.heap.size w (W.alloc o) := h.alloc h.size o
def PRel (w1 : World) (n : Nat) (f : Nat → List Dot) (v i : Value) (wr : World) : Prop :=
 ∃ k m A c, k ≤ n ∧ i = .int .i64 ((k : Nat) : Int) ∧ v = .slice A m c ∧ (f k).length = m ∧ wr.ownsRow w1.heap.size 35 2 (.slice A m c) m (dv (f k)) ∧ Below w1.heap.size w1 wr
theorem p_rel {w1 wr : World} {n k m c : Nat} {A : Option Addr} {f : Nat → List Dot} {o : List Dot} (hk : k < n) (hs : f (k + 1) = o) (hm : o.length = m) (ho : wr.ownsRow w1.heap.size 35 2 (.slice A m c) m (dv o)) (hb : Below w1.heap.size w1 wr) : PRel w1 n f (.slice A m c) (.int .i64 ((k : Int) + 1)) wr :=
 ⟨k + 1, m, A, c, hk, by go_num, rfl, by rw [hs]; exact hm, by rw [hs]; exact ho, hb⟩
set_option maxHeartbeats 8000000 in
theorem rput_any (w : World) (A0 : Option Addr) (l : List Dot) (n c0 : Nat) (d : Dot) (hl : l.length = n) (hb : Dots w w.heap.size A0 l) (h42 : n ≤ 4398046511104) :
   Calls Tryz.prog 78 #[.slice A0 n c0, .agg #[.int .u16 (d.1 : Int), .int .u64 (d.2 : Int)]] w (DotPost w (putD l d)) := by
 have HL := Lib.hid hl
 have HB1 : Hid (Below w.heap.size w (w.alloc (.cells #[.int .u16 (d.1 : Int), .int .u64 (d.2 : Int)] 35))) := below_new w _
 have hd0 : (w.alloc (.cells #[.int .u16 (d.1 : Int), .int .u64 (d.2 : Int)] 35)).cell? ⟨w.heap.size, 0, none⟩ = some (.int .u16 (d.1 : Int)) := by rw [World.cell?_alloc_mark]; rfl
 have hd1 : (w.alloc (.cells #[.int .u16 (d.1 : Int), .int .u64 (d.2 : Int)] 35)).cell? ⟨w.heap.size, 1, none⟩ = some (.int .u64 (d.2 : Int)) := by rw [World.cell?_alloc_mark]; rfl
 have H1 := Lib.hid (hb.up (below_new w (.cells #[.int .u16 (d.1 : Int), .int .u64 (d.2 : Int)] 35)))
 clear hb hl
 go_enter Tryz.func78, Tryz.ntmps78
 go_wp2_with fail
 generalize hw1 : w.alloc (.cells #[.int .u16 (d.1 : Int), .int .u64 (d.2 : Int)] 35) = w1 at *
 clear hw1
 have HD : Hid (∀ V, Below w1.heap.size w1 V → V.cell? ⟨w.heap.size, 0, none⟩ = some (.int .u16 (d.1 : Int)) ∧ V.cell? ⟨w.heap.size, 1, none⟩ = some (.int .u64 (d.2 : Int))) := fun V hV => ⟨(hV.cell (World.block_lt_of_cell? w1 _ hd0)).trans hd0, (hV.cell (World.block_lt_of_cell? w1 _ hd1)).trans hd1⟩
 clear hd0 hd1
 obtain ⟨f, hf⟩ : ∃ f : Nat → List Dot, f = fun k => (l.take k).filter (fun x => aheadD x d) := ⟨_, rfl⟩
 have HF : Hid (∀ k, (f k).length ≤ k) := Lib.hid (fun k => by rw [hf]; exact Nat.le_trans (List.length_filter_le _ _) (List.length_take_le _ _))
 have HFE : Hid (∀ k, f k = (l.take k).filter (fun x => aheadD x d)) := Lib.hid (fun k => by rw [hf])
 clear hf
 go_loopw [5, 6] (fun v i wr => PRel w1 n f v i wr) (fun _ i _ => n - (intOf i).toNat)
 case atStart => exact ⟨0, 0, none, 0, Nat.zero_le _, rfl, rfl, by rw [HFE.out]; rfl, by rw [HFE.out]; exact World.ownsRow_nil _ _ _ _, Below.refl _ _⟩
 case round =>
   obtain ⟨k, m, A, c, hk, rfl, rfl, hm, ho, hw⟩ := hrel
   have hmk : m ≤ k := by rw [← hm]; exact HF.out k
   have HM := Lib.hid hm
   have HO := Lib.hid ho
   have HW := Lib.hid hw
   clear hm ho hw
   by_cases hlt : k < n
   · obtain ⟨ad, x, rfl, hB, hlx, hx1, hx2, hcx⟩ := H1.out.cells (k := k) (by rw [HL.out]; exact hlt)
     have HN := Lib.hid (filter_next (fun x => aheadD x d) hlx)
     clear hlx
     have HC : Hid (∀ V, Below wr.heap.size wr V → (V.cell? (ad.add (k * 2)) = some (.int .u16 (x.1 : Int)) ∧ V.cell? ⟨(ad.add (k * 2)).block, (ad.add (k * 2)).off + 1, none⟩ = some (.int .u64 (x.2 : Int))) ∧ V.cell? ⟨w.heap.size, 0, none⟩ = some (.int .u16 (d.1 : Int)) ∧ V.cell? ⟨w.heap.size, 1, none⟩ = some (.int .u64 (d.2 : Int))) := fun V hV =>
       ⟨hcx V (HW.out.trans (hV.mono HW.out.size)), HD.out V (HW.out.trans (hV.mono HW.out.size))⟩
     clear hcx
     obtain ⟨⟨d1, d2⟩, d3, d4⟩ := HC.out wr (Below.refl _ _)
     go_wp2_with fail
     go_region_held3 (fun V => (V.cell? (ad.add (k * 2)) = some (.int .u16 (x.1 : Int)) ∧ V.cell? ⟨(ad.add (k * 2)).block, (ad.add (k * 2)).off + 1, none⟩ = some (.int .u64 (x.2 : Int))) ∧ V.cell? ⟨w.heap.size, 0, none⟩ = some (.int .u16 (d.1 : Int)) ∧ V.cell? ⟨w.heap.size, 1, none⟩ = some (.int .u64 (d.2 : Int))) (first | exact ⟨⟨d1, d2⟩, d3, d4⟩ | assumption | exact HC.out _ (by (repeat (first | exact Below.refl _ _ | assumption | apply bel_drew)))) (first
       | (go_at_call 70; (with_reducible refine (rcmp_later wr _ x d ?_).mono ?_); (repeat (first | exact Below.refl _ _ | assumption | apply bel_drew)); rintro e V ⟨rfl, bv⟩; have hcV := HC.out V bv))
     all_goals
       have HV : Hid (Below w1.heap.size w1 V) := HW.out.trans (bv.mono HW.out.size)
       have HOV := Lib.hid (own_kept HO.out bv)
       obtain ⟨⟨v1, v2⟩, _⟩ := hcV
       clear bv d1 d2 d3 d4
       rw [cmp_neg]
       cases ha : aheadD x d with
       | true =>
         rw [ha] at HN
         have HLO : Hid (m + 1 ≤ 8796093022208) := Lib.hid (by omega)
         have HWA : Hid (Below w1.heap.size w1 (V.alloc (.cells #[.int .u16 (x.1 : Int), .int .u64 (x.2 : Int)] 35))) := bel_alloc _ HV.out
         have HS : Hid (f (k + 1) = f k ++ [x]) := Lib.hid (by rw [HFE.out, HFE.out]; exact HN.out.trans (by rw [if_pos rfl]))
         clear ha
         go_wp2_with (at_builtin; refine wpList_any rfl (.tmp 21) (.tmp 26) rfl rfl _ w1.heap.size m (.slice A m c) (f k) (some ⟨V.heap.size, 0, none⟩) [x] 1 1 rfl rfl (HOV.out.alloc _) (fun h => by cases h) (lies_one V x) rfl HLO.out HWA.out.size ?_; intro A3 c3 V3 ho3 hg3; have HR := Lib.hid (p_rel hlt HS.out (by rw [List.length_append, HM.out]; rfl) ho3 (any_grown (HOV.out.alloc _) HWA.out hg3)); clear ho3 hg3)
         go_roundw
         case rel => exact HR.out
         case measure => simp [intOf]; omega
       | false =>
         rw [ha] at HN
         have HS : Hid (f (k + 1) = f k) := Lib.hid (by rw [HFE.out, HFE.out]; exact HN.out.trans (by rw [if_neg (by simp), List.append_nil]))
         have HR := Lib.hid (p_rel hlt HS.out HM.out HOV.out HV.out)
         clear ha v1 v2
         go_wp2
         go_roundw
         case rel => exact HR.out
         case measure => simp [intOf]; omega
   · obtain rfl : n = k := by omega
     have HE : Hid (f n = l.filter (fun x => aheadD x d)) := Lib.hid (by rw [HFE.out, List.take_of_length_le (by rw [HL.out]; exact Nat.le_refl _)])
     obtain ⟨d3, d4⟩ := HD.out wr HW.out
     have HLO : Hid (m + 1 ≤ 8796093022208) := Lib.hid (by omega)
     have HWA : Hid (Below w1.heap.size w1 (wr.alloc (.cells #[.int .u16 (d.1 : Int), .int .u64 (d.2 : Int)] 35))) := bel_alloc _ HW.out
     go_wp2_with (at_builtin; refine wpList_any rfl (.tmp 28) (.tmp 30) rfl rfl _ w1.heap.size m (.slice A m c) (f n) (some ⟨wr.heap.size, 0, none⟩) [d] 1 1 rfl rfl (HO.out.alloc _) (fun h => by cases h) (lies_one wr d) rfl HLO.out HWA.out.size ?_; intro A3 c3 V3 ho3 hg3; have HO3 := Lib.hid ho3; have HW3 := Lib.hid (any_grown (HO.out.alloc _) HWA.out hg3); clear ho3 hg3)
     obtain ⟨g, hg⟩ : ∃ g : Nat → List Dot, g = fun j => l.filter (fun x => aheadD x d) ++ [d] ++ (l.take j).filter (fun x => aheadD d x) := ⟨_, rfl⟩
     have HGE : Hid (∀ j, g j = l.filter (fun x => aheadD x d) ++ [d] ++ (l.take j).filter (fun x => aheadD d x)) := Lib.hid (fun j => by rw [hg])
     have HG : Hid (∀ j, (g j).length ≤ n + 1) := Lib.hid (fun j => by
       have h1 := put_length l d
       have h2 : ((l.take j).filter (fun x => aheadD d x)).length ≤ (l.filter (fun x => aheadD d x)).length := ((List.take_sublist j l).filter _).length_le
       rw [HL.out] at h1
       rw [HGE.out]
       unfold putD at h1
       simp only [List.length_append] at h1 ⊢
       omega)
     clear hg d3 d4 HLO
     have HS0 : Hid (g 0 = f n ++ [d]) := Lib.hid (by rw [HGE.out, HE.out]; simp)
     have HM0 : Hid ((f n ++ [d]).length = m + 1) := Lib.hid (by rw [List.length_append, HM.out]; rfl)
     clear hmk HF HFE HM HO HW HWA HE hlt hk
     generalize f n = fk at HS0 HM0 HO3
     go_loopw [5, 7] (fun v i wr => PRel w1 n g v i wr) (fun _ i _ => n - (intOf i).toNat)
     case atStart => exact ⟨0, m + 1, A3, c3, Nat.zero_le _, rfl, rfl, by rw [HS0.out]; exact HM0.out, by rw [HS0.out]; exact HO3.out, HW3.out⟩
     case round =>
       clear HS0 HM0 HO3 HW3
       obtain ⟨k, m, A, c, hk, rfl, rfl, hm, ho, hw⟩ := hrel
       have hmk : m ≤ n + 1 := by rw [← hm]; exact HG.out k
       have HM := Lib.hid hm
       have HO := Lib.hid ho
       have HW := Lib.hid hw
       clear hm ho hw
       by_cases hlt : k < n
       · obtain ⟨ad, x, rfl, hB, hlx, hx1, hx2, hcx⟩ := H1.out.cells (k := k) (by rw [HL.out]; exact hlt)
         have HN := Lib.hid (filter_next (fun x => aheadD d x) hlx)
         clear hlx
         have HC : Hid (∀ V, Below wr.heap.size wr V → (V.cell? (ad.add (k * 2)) = some (.int .u16 (x.1 : Int)) ∧ V.cell? ⟨(ad.add (k * 2)).block, (ad.add (k * 2)).off + 1, none⟩ = some (.int .u64 (x.2 : Int))) ∧ V.cell? ⟨w.heap.size, 0, none⟩ = some (.int .u16 (d.1 : Int)) ∧ V.cell? ⟨w.heap.size, 1, none⟩ = some (.int .u64 (d.2 : Int))) := fun V hV =>
           ⟨hcx V (HW.out.trans (hV.mono HW.out.size)), HD.out V (HW.out.trans (hV.mono HW.out.size))⟩
         clear hcx
         obtain ⟨⟨d1, d2⟩, d3, d4⟩ := HC.out wr (Below.refl _ _)
         go_wp2_with fail
         go_region_held3 (fun V => (V.cell? (ad.add (k * 2)) = some (.int .u16 (x.1 : Int)) ∧ V.cell? ⟨(ad.add (k * 2)).block, (ad.add (k * 2)).off + 1, none⟩ = some (.int .u64 (x.2 : Int))) ∧ V.cell? ⟨w.heap.size, 0, none⟩ = some (.int .u16 (d.1 : Int)) ∧ V.cell? ⟨w.heap.size, 1, none⟩ = some (.int .u64 (d.2 : Int))) (first | exact ⟨⟨d1, d2⟩, d3, d4⟩ | assumption | exact HC.out _ (by (repeat (first | exact Below.refl _ _ | assumption | apply bel_drew)))) (first
           | (go_at_call 70; (with_reducible refine (rcmp_later wr _ x d ?_).mono ?_); (repeat (first | exact Below.refl _ _ | assumption | apply bel_drew)); rintro e V ⟨rfl, bv⟩; have hcV := HC.out V bv))
         all_goals
           have HV : Hid (Below w1.heap.size w1 V) := HW.out.trans (bv.mono HW.out.size)
           have HOV := Lib.hid (own_kept HO.out bv)
           obtain ⟨⟨v1, v2⟩, _⟩ := hcV
           clear bv d1 d2 d3 d4
           rw [cmp_pos]
           cases ha : aheadD d x with
           | true =>
             rw [ha] at HN
             have HLO : Hid (m + 1 ≤ 8796093022208) := Lib.hid (by omega)
             have HWA : Hid (Below w1.heap.size w1 (V.alloc (.cells #[.int .u16 (x.1 : Int), .int .u64 (x.2 : Int)] 35))) := bel_alloc _ HV.out
             have HS : Hid (g (k + 1) = g k ++ [x]) := Lib.hid (by rw [HGE.out, HGE.out, List.append_assoc _ _ [x]]; exact congrArg _ (HN.out.trans (by rw [if_pos rfl])))
             clear ha
             go_wp2_with (at_builtin; refine wpList_any rfl (.tmp 45) (.tmp 50) rfl rfl _ w1.heap.size m (.slice A m c) (g k) (some ⟨V.heap.size, 0, none⟩) [x] 1 1 rfl rfl (HOV.out.alloc _) (fun h => by cases h) (lies_one V x) rfl HLO.out HWA.out.size ?_; intro A3 c3 V3 ho3 hg3; have HR := Lib.hid (p_rel hlt HS.out (by rw [List.length_append, HM.out]; rfl) ho3 (any_grown (HOV.out.alloc _) HWA.out hg3)); clear ho3 hg3)
             go_roundw
             case rel => exact HR.out
             case measure => simp [intOf]; omega
           | false =>
             rw [ha] at HN
             have HS : Hid (g (k + 1) = g k) := Lib.hid (by rw [HGE.out, HGE.out]; exact congrArg _ (HN.out.trans (by rw [if_neg (by simp), List.append_nil])))
             have HR := Lib.hid (p_rel hlt HS.out HM.out HOV.out HV.out)
             clear ha v1 v2
             go_wp2
             go_roundw
             case rel => exact HR.out
             case measure => simp [intOf]; omega
       · obtain rfl : n = k := by omega
         have HE2 : Hid (g n = putD l d) := Lib.hid (by rw [HGE.out, List.take_of_length_le (by rw [HL.out]; exact Nat.le_refl _)]; rfl)
         have HWE : Hid (Below w.heap.size w wr) := HB1.out.trans (HW.out.mono HB1.out.size)
         rw [HE2.out] at HM HO
         go_wp2
         go_ret
         exact ⟨A, m, c, rfl, HM.out, own_less HO.out HB1.out.size, HWE.out⟩
end Go.Proofs.YtgaegfddobpomaaGreat.Dt

namespace Go.Proofs.YtgaegfddobpomaaGreat.Ev
open Go.ChangeShapes Go.WideShapes Go.ChangeAt Go.RowKit
set_option linter.unusedVariables false
set_option maxRecDepth 4000
noncomputable def sortE (l : List Evt) : List Evt := l.foldl putE []
theorem take_one {α : Type} {l : List α} {k : Nat} {x : α} (h : l[k]? = some x) : l.take (k + 1) = l.take k ++ [x] := by rw [List.take_add_one, h]; rfl
theorem sort_next {l : List Evt} {k : Nat} {x : Evt} (h : l[k]? = some x) : sortE (l.take (k + 1)) = putE (sortE (l.take k)) x := by
 unfold sortE
 rw [take_one h, List.foldl_append]; rfl
theorem put_long (l : List Evt) (e : Evt) : (putE l e).length ≤ l.length + 1 := by
 unfold putE
 have h := st_long l e l.length
 split
 · omega
 · split
   · rename_i h1
     rw [if_pos h1] at h
     exact h
   · rename_i h1
     rw [if_neg h1] at h
     rw [List.length_append]
     simp only [List.length_cons, List.length_nil]
     omega
theorem sort_long (l : List Evt) (k : Nat) : (sortE (l.take k)).length ≤ k := by
 induction k with
 | zero => exact Nat.le_refl _
 | succ k ih =>
   rcases Nat.lt_or_ge k l.length with h | h
   · rw [sort_next (List.getElem?_eq_getElem h)]
     have := put_long (sortE (l.take k)) l[k]
     omega
   · rw [List.take_of_length_le (by omega), ← List.take_of_length_le h]
     omega
def dotsOne (m : List Dt.Dot) (x : Evt) : List Dt.Dot := x.kills.foldl Dt.putD (Dt.putD m x.dot)
def dotsE (l : List Evt) : List Dt.Dot := l.foldl dotsOne []
def dotsTo (l : List Evt) (k : Nat) : List Dt.Dot := (l.take k).foldl dotsOne []
def killsTo (m : List Dt.Dot) (x : Evt) (j : Nat) : List Dt.Dot := (x.kills.take j).foldl Dt.putD (Dt.putD m x.dot)
theorem kills_next {m : List Dt.Dot} {x : Evt} {j : Nat} {d : Dt.Dot} (h : x.kills[j]? = some d) : killsTo m x (j + 1) = Dt.putD (killsTo m x j) d := by
 unfold killsTo
 rw [take_one h, List.foldl_append]; rfl
theorem kills_all {m : List Dt.Dot} {x : Evt} {n : Nat} (hn : x.kills.length = n) : killsTo m x n = dotsOne m x := by
 unfold killsTo dotsOne
 rw [List.take_of_length_le (by rw [hn]; exact Nat.le_refl _)]
theorem ahead_iff (a b : Dt.Dot) : Dt.aheadD a b = true ↔ a.1 < b.1 ∨ (a.1 = b.1 ∧ a.2 < b.2) := decide_eq_true_iff
theorem ahead_trans {a b c : Dt.Dot} (h1 : Dt.aheadD a b = true) (h2 : Dt.aheadD b c = true) : Dt.aheadD a c = true := by
 rw [ahead_iff] at *
 omega
theorem ahead_total {a b : Dt.Dot} (h : ¬ Dt.aheadD a b = true) (hn : b ≠ a) : Dt.aheadD b a = true := by
 rw [ahead_iff] at *
 have h3 : ¬ (b.1 = a.1 ∧ b.2 = a.2) := fun h => hn (Prod.ext h.1 h.2)
 omega
theorem ahead_not {a b : Dt.Dot} (h : Dt.aheadD a b = true) : ¬ Dt.aheadD b a = true := by
 rw [ahead_iff] at *
 omega
theorem ahead_ne {a b : Dt.Dot} (h : Dt.aheadD a b = true) : a ≠ b := by
 rw [ahead_iff] at h
 intro e
 subst e
 omega
theorem take_all {α : Type} (f : α → Bool) (l : List α) (h : ∀ x ∈ l, f x = true) : l.takeWhile f = l := by
 induction l with
 | nil => rfl
 | cons x l ih => rw [List.takeWhile_cons, h x (List.mem_cons_self ..), if_pos rfl, ih (fun y hy => h y (List.mem_cons_of_mem _ hy))]
theorem drop_all {α : Type} (f : α → Bool) (l : List α) (h : ∀ x ∈ l, f x = true) : l.dropWhile f = [] := by
 induction l with
 | nil => rfl
 | cons x l ih => rw [List.dropWhile_cons, h x (List.mem_cons_self ..), if_pos rfl, ih (fun y hy => h y (List.mem_cons_of_mem _ hy))]
def aft (e : Evt) (x : Evt) : Bool := Dt.aheadD e.dot x.dot
def nft (e : Evt) (x : Evt) : Bool := !aft e x
theorem step_true (e x : Evt) (acc : List Evt) : stepE e (true, acc) x = (true, acc ++ [x]) := by
 unfold stepE
 rw [if_neg (fun h => by cases h.2)]
theorem fold_true (e : Evt) (m acc : List Evt) : m.foldl (stepE e) (true, acc) = (true, acc ++ m) := by
 induction m generalizing acc with
 | nil => simp
 | cons x m ih => rw [List.foldl_cons, step_true, ih, List.append_assoc]; rfl
theorem fold_false (e : Evt) (m acc : List Evt) : m.foldl (stepE e) (false, acc) = if m.any (aft e) = true then (true, acc ++ (m.takeWhile (nft e) ++ e :: m.dropWhile (nft e))) else (false, acc ++ m) := by
 induction m generalizing acc with
 | nil => simp
 | cons x m ih =>
   rw [List.foldl_cons]
   cases hx : aft e x with
   | true =>
     have h1 : stepE e (false, acc) x = (true, acc ++ [e, x]) := by unfold stepE; rw [if_pos ⟨hx, rfl⟩]
     have h2 : nft e x = false := by unfold nft; rw [hx]; rfl
     rw [h1, fold_true, if_pos (by simp [hx])]
     simp [h2]
   | false =>
     have h1 : stepE e (false, acc) x = (false, acc ++ [x]) := by unfold stepE; rw [if_neg (fun h => by have := h.1; unfold aft at hx; rw [hx] at this; cases this)]
     have h2 : nft e x = true := by unfold nft; rw [hx]; rfl
     rw [h1, ih]
     by_cases hm : m.any (aft e) = true
     · rw [if_pos hm, if_pos (by simp [hm, hx])]
       simp [h2]
     · rw [if_neg hm, if_neg (by simp only [List.any_cons, hx, Bool.false_or]; exact hm)]
       simp
theorem put_new {l : List Evt} {e : Evt} (h : ∀ x ∈ l, x.dot ≠ e.dot) : putE l e = l.takeWhile (nft e) ++ e :: l.dropWhile (nft e) := by
 have h1 : stE l e l.length = if l.any (aft e) = true then (true, [] ++ (l.takeWhile (nft e) ++ e :: l.dropWhile (nft e))) else (false, [] ++ l) := by
   unfold stE
   rw [List.take_of_length_le (Nat.le_refl _), fold_false]
 unfold putE
 rw [if_neg (fun ⟨x, hx, hd⟩ => h x hx hd), h1]
 by_cases ha : l.any (aft e) = true
 · rw [if_pos ha, if_pos rfl]; rfl
 · rw [if_neg ha, if_neg (by simp)]
   have h2 : ∀ x ∈ l, nft e x = true := fun x hx => by
     unfold nft
     cases hf : aft e x with
     | false => rfl
     | true => exact absurd (List.any_eq_true.2 ⟨x, hx, hf⟩) ha
   have h3 := take_all (nft e) l h2
   have h4 := drop_all (nft e) l h2
   rw [h3, h4]; rfl
def OrdE (l : List Evt) : Prop := l.Pairwise fun a b => Dt.aheadD a.dot b.dot = true
theorem put_ord {l : List Evt} (e : Evt) (h : OrdE l) : OrdE (putE l e) := by
 by_cases hd : ∃ x ∈ l, x.dot = e.dot
 · unfold putE
   rw [if_pos hd]
   exact h
 · have hn : ∀ x ∈ l, x.dot ≠ e.dot := fun x hx hxd => hd ⟨x, hx, hxd⟩
   rw [put_new hn]
   have hl := List.takeWhile_append_dropWhile (p := nft e) (l := l)
   have h2 : OrdE (l.takeWhile (nft e) ++ l.dropWhile (nft e)) := by rw [hl]; exact h
   unfold OrdE at h2 ⊢
   rw [List.pairwise_append] at h2 ⊢
   obtain ⟨p1, p2, p3⟩ := h2
   have hb : ∀ b ∈ l.dropWhile (nft e), Dt.aheadD e.dot b.dot = true := by
     intro b hb
     cases hdw : l.dropWhile (nft e) with
     | nil => rw [hdw] at hb; cases hb
     | cons b0 r =>
       have h0 : nft e b0 = false := by
         have := List.head_dropWhile_not (nft e) (l := l) (by rw [hdw]; simp)
         simpa [hdw] using this
       have h1 : Dt.aheadD e.dot b0.dot = true := by unfold nft aft at h0; simpa using h0
       rw [hdw] at hb p2
       rcases List.mem_cons.1 hb with rfl | hb
       · exact h1
       · exact ahead_trans h1 ((List.pairwise_cons.1 p2).1 b hb)
   have ha : ∀ a ∈ l.takeWhile (nft e), Dt.aheadD a.dot e.dot = true := by
     intro a ha
     have h0 : nft e a = true := (List.all_eq_true.1 List.all_takeWhile) a ha
     have h1 : ¬ Dt.aheadD e.dot a.dot = true := by unfold nft aft at h0; simpa using h0
     exact ahead_total h1 (hn a ((List.takeWhile_sublist _).mem ha))
   refine ⟨p1, List.pairwise_cons.2 ⟨hb, p2⟩, fun a ha2 b hb2 => ?_⟩
   rcases List.mem_cons.1 hb2 with rfl | hb2
   · exact ha a ha2
   · exact p3 a ha2 b hb2
theorem sort_ord (l : List Evt) : OrdE (sortE l) := by
 have h : ∀ (m acc : List Evt), OrdE acc → OrdE (m.foldl putE acc) := by
   intro m
   induction m with
   | nil => intro acc h; exact h
   | cons x m ih => intro acc h; exact ih _ (put_ord x h)
 exact h l [] List.Pairwise.nil
theorem put_mem {l : List Evt} {e : Evt} (x : Evt) : x ∈ putE l e ↔ x ∈ l ∨ ((∀ y ∈ l, y.dot ≠ e.dot) ∧ x = e) := by
 by_cases hd : ∃ y ∈ l, y.dot = e.dot
 · obtain ⟨y, hy, hye⟩ := hd
   have h1 : putE l e = l := by unfold putE; rw [if_pos ⟨y, hy, hye⟩]
   rw [h1]
   exact ⟨.inl, fun h => h.resolve_right (fun h2 => h2.1 y hy hye)⟩
 · have hn : ∀ y ∈ l, y.dot ≠ e.dot := fun y hy h => hd ⟨y, hy, h⟩
   rw [put_new hn, List.mem_append, List.mem_cons]
   have hl := List.takeWhile_append_dropWhile (p := nft e) (l := l)
   constructor
   · rintro (h | h | h)
     · exact .inl (by rw [← hl]; exact List.mem_append_left _ h)
     · exact .inr ⟨hn, h⟩
     · exact .inl (by rw [← hl]; exact List.mem_append_right _ h)
   · rintro (h | ⟨_, h⟩)
     · rw [← hl, List.mem_append] at h
       rcases h with h | h
       · exact .inl h
       · exact .inr (.inr h)
     · exact .inr (.inl h)
theorem dot_there (l : List Evt) (k : Nat) : ∀ (i : Nat) (y : Evt), i < k → l[i]? = some y → ∃ z ∈ sortE (l.take k), z.dot = y.dot := by
 induction k with
 | zero => intro i y hi; omega
 | succ k ih =>
   intro i y hi hy
   rcases Nat.lt_or_ge k l.length with hk | hk
   · have hx := List.getElem?_eq_getElem hk
     rw [sort_next hx]
     rcases Nat.lt_succ_iff_lt_or_eq.1 hi with h | rfl
     · obtain ⟨z, hz, hd⟩ := ih i y h hy
       exact ⟨z, (put_mem z).2 (.inl hz), hd⟩
     · rw [hx] at hy
       cases hy
       by_cases hd : ∃ z ∈ sortE (l.take i), z.dot = l[i].dot
       · obtain ⟨z, hz, hzd⟩ := hd
         exact ⟨z, (put_mem z).2 (.inl hz), hzd⟩
       · exact ⟨l[i], (put_mem _).2 (.inr ⟨fun z hz h => hd ⟨z, hz, h⟩, rfl⟩), rfl⟩
   · have h1 : i < k := by have := (List.getElem?_eq_some_iff.1 hy).1; omega
     have e : l.take (k + 1) = l.take k := by rw [List.take_of_length_le (by omega), List.take_of_length_le hk]
     rw [e]
     exact ih i y h1 hy
def FirstE (l : List Evt) (x : Evt) : Prop := ∃ j : Nat, l[j]? = some x ∧ ∀ (i : Nat) (y : Evt), i < j → l[i]? = some y → y.dot ≠ x.dot
theorem sort_first (l : List Evt) (k : Nat) (x : Evt) : x ∈ sortE (l.take k) ↔ ∃ j : Nat, j < k ∧ l[j]? = some x ∧ ∀ (i : Nat) (y : Evt), i < j → l[i]? = some y → y.dot ≠ x.dot := by
 induction k with
 | zero => exact ⟨fun h => (by cases h), fun ⟨j, hj, _⟩ => by omega⟩
 | succ k ih =>
   rcases Nat.lt_or_ge k l.length with hk | hk
   · have hx := List.getElem?_eq_getElem hk
     rw [sort_next hx, put_mem, ih]
     constructor
     · rintro (⟨j, hj, h1, h2⟩ | ⟨h1, rfl⟩)
       · exact ⟨j, by omega, h1, h2⟩
       · refine ⟨k, Nat.lt_succ_self k, hx, fun i y hi hy hd => ?_⟩
         obtain ⟨z, hz, hzd⟩ := dot_there l k i y hi hy
         exact h1 z hz (hzd.trans hd)
     · rintro ⟨j, hj, h1, h2⟩
       rcases Nat.lt_succ_iff_lt_or_eq.1 hj with h | rfl
       · exact .inl ⟨j, h, h1, h2⟩
       · rw [hx] at h1
         cases h1
         refine .inr ⟨fun y hy hd => ?_, rfl⟩
         have hy2 : ∃ i : Nat, i < j ∧ l[i]? = some y := by
           have hm : ∀ (m : Nat) (y : Evt), y ∈ sortE (l.take m) → ∃ i : Nat, i < m ∧ l[i]? = some y := by
             intro m
             induction m with
             | zero => intro y h; cases h
             | succ m ihm =>
               intro y h
               rcases Nat.lt_or_ge m l.length with hm | hm
               · rw [sort_next (List.getElem?_eq_getElem hm), put_mem] at h
                 rcases h with h | ⟨_, rfl⟩
                 · obtain ⟨i, hi, h3⟩ := ihm y h
                   exact ⟨i, by omega, h3⟩
                 · exact ⟨m, Nat.lt_succ_self m, List.getElem?_eq_getElem hm⟩
               · have e : l.take (m + 1) = l.take m := by rw [List.take_of_length_le (by omega), List.take_of_length_le hm]
                 rw [e] at h
                 obtain ⟨i, hi, h3⟩ := ihm y h
                 exact ⟨i, by omega, h3⟩
           exact hm j y hy
         obtain ⟨i, hi, h3⟩ := hy2
         exact h2 i y hi h3 hd
   · have e : l.take (k + 1) = l.take k := by rw [List.take_of_length_le (by omega), List.take_of_length_le hk]
     rw [e, ih]
     exact ⟨fun ⟨j, hj, h⟩ => ⟨j, by omega, h⟩, fun ⟨j, hj, h1, h2⟩ => ⟨j, by have := (List.getElem?_eq_some_iff.1 h1).1; omega, h1, h2⟩⟩
theorem sort_mem (l : List Evt) (x : Evt) : x ∈ sortE l ↔ FirstE l x := by
 have h := sort_first l l.length x
 rw [List.take_of_length_le (Nat.le_refl _)] at h
 rw [h]
 exact ⟨fun ⟨j, _, h1, h2⟩ => ⟨j, h1, h2⟩, fun ⟨j, h1, h2⟩ => ⟨j, (List.getElem?_eq_some_iff.1 h1).1, h1, h2⟩⟩
theorem ord_uniq {l m : List Evt} (hl : OrdE l) (hm : OrdE m) (h : ∀ x, x ∈ l ↔ x ∈ m) : l = m := by
 induction l generalizing m with
 | nil =>
   cases m with
   | nil => rfl
   | cons y m => exact absurd ((h y).2 (List.mem_cons_self ..)) (by simp)
 | cons x l ih =>
   cases m with
   | nil => exact absurd ((h x).1 (List.mem_cons_self ..)) (by simp)
   | cons y m =>
     obtain ⟨a1, a2⟩ := List.pairwise_cons.1 hl
     obtain ⟨b1, b2⟩ := List.pairwise_cons.1 hm
     have hxy : x = y := by
       rcases List.mem_cons.1 ((h x).1 (List.mem_cons_self ..)) with e | e
       · exact e
       · rcases List.mem_cons.1 ((h y).2 (List.mem_cons_self ..)) with e2 | e2
         · exact e2.symm
         · exact absurd (b1 x e) (ahead_not (a1 y e2))
     subst hxy
     rw [ih a2 b2 (fun z => ?_)]
     constructor
     · intro hz
       rcases List.mem_cons.1 ((h z).1 (List.mem_cons_of_mem _ hz)) with e | e
       · subst e
         exact absurd rfl (ahead_ne (a1 z hz))
       · exact e
     · intro hz
       rcases List.mem_cons.1 ((h z).2 (List.mem_cons_of_mem _ hz)) with e | e
       · subst e
         exact absurd rfl (ahead_ne (b1 z hz))
       · exact e
theorem sort_uniq {l m : List Evt} (hm : OrdE m) (h : ∀ x, x ∈ m ↔ FirstE l x) : m = sortE l := ord_uniq hm (sort_ord l) (fun x => by rw [h, sort_mem])
end Go.Proofs.YtgaegfddobpomaaGreat.Ev
