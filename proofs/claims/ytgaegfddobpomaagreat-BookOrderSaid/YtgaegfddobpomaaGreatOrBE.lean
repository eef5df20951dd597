/- Words and contracts that the proofs of this seat stand on, part 31 of 39. -/
import Derived.Test.YtgaegfddobpomaaGreatOrBD
import Derived.Test.YtgaegfddobpomaaGreatOrBC
import Derived.Deep.SlicePairs

namespace Go.Proofs.YtgaegfddobpomaaGreat.Cx
open Go.ChangeShapes Go.WideShapes Go.ChangeAt Go.RowKit Go.Maps
set_option linter.unusedVariables false
set_option maxRecDepth 4000
theorem add_fit {a : List Part} {l : List Dot} (ha : FitC a) (hl : Dt.Fit l) (k d : Nat) : Ru.Fit (addF (rawC a) (l.take k) d) := by
 have : ∀ (l : List Dot), Dt.Fit l → ∀ f : Nat → List Run, (∀ d, Ru.Fit (f d)) → ∀ d, Ru.Fit (addF f l d) := fun l => by
   unfold addF
   induction l with
   | nil => intro _ f hf d; exact hf d
   | cons x l ih =>
     intro hl f hf d
     rw [List.foldl_cons]
     refine ih (fun y hy => hl y (List.mem_cons_of_mem _ hy)) _ (fun e => ?_) d
     unfold stepA
     split
     · show Ru.Fit (if e = x.1 then f x.1 ++ [(x.2, x.2)] else f e)
       split
       · intro r hr
         rcases List.mem_append.1 hr with hr | hr
         · exact hf _ r hr
         · obtain rfl := List.mem_singleton.1 hr
           have := (hl x (List.mem_cons_self ..)).2
           exact ⟨this, this⟩
       · exact hf e
     · exact hf e
 exact this _ (fun x hx => hl x (List.mem_of_mem_take hx)) _ (fun e => raw_fit ha e (fun r hr => by cases hr)) d
set_option maxHeartbeats 8000000 in
theorem padd_any (w : World) (A1 A2 : Option Addr) (a : List Part) (l : List Dot) (n1 n2 c1 c2 : Nat) (h1 : CtxAt w A1 a n1 c1) (h2 : DotsAt w A2 l n2 c2) (ha : Wide 268435456 a) (hn2 : n2 ≤ 268435456) :
   Calls Tryz.prog 47 #[.slice A1 n1 c1, .slice A2 n2 c2] w (CtxPost w (setC a (ofC l) 0)) := by
 have CB := pbydev_any w A1 a n1 c1 h1 ha
 have HD := Lib.hid h2.dots
 have HDL := Lib.hid h2.len
 have HT : Hid (Tells (fun d => Ru.nrm (addF (rawC a) l d))) := Lib.hid (tells_add h1.fit h2.fit)
 have HE : Hid (listC (fun d => Ru.nrm (addF (rawC a) l d)) = setC a (ofC l) 0) := Lib.hid (by rw [add_fin h1.fit h2.fit]; rfl)
 have HL : Hid (∀ k d, (addF (rawC a) (l.take k) d).length ≤ 268435456 + k) := Lib.hid (fun k d => by
   have q1 := add_len l (rawC a) k d
   have q2 := raw_short ha d
   omega)
 have HF := Lib.hid (add_fit h1.fit h2.fit)
 have hn1 : n1 ≤ 268435456 := by rw [← h1.len]; exact ha.1
 rw [← HE.out]
 clear h1 h2 ha HE
 go_enter Tryz.func47, Tryz.ntmps47
 go_wp2_with fail
 refine CB.mono ?_
 rintro e w0 ⟨rfl, hM, hb⟩
 have HM0 := Lib.hid hM
 have HB0 := Lib.hid hb
 clear CB hM hb
 go_wp2_with fail
 go_loopw [12] (fun i wr => ∃ k : Nat, k ≤ n2 ∧ i = .int .i64 (k : Int) ∧ MapO wr (w.heap.size + 1) w.heap.size (n1 + k) (addF (rawC a) (l.take k)) ∧ Below w.heap.size w wr) (fun i _ => n2 - (intOf i).toNat)
 case atStart => exact ⟨0, Nat.zero_le _, rfl, HM0.out, HB0.out⟩
 case round =>
   obtain ⟨k, hk, rfl, hmk, hg⟩ := hrel
   have HMK := Lib.hid hmk
   have HW := Lib.hid hg
   have hsz := hmk.lt
   clear hmk hg
   by_cases hlt : k < n2
   · obtain ⟨ad, x, rfl, hB, hlx, hx1, hx2, hcx⟩ := HD.out.cells (k := k) (by rw [HDL.out]; exact hlt)
     have HN := Lib.hid (add_next (f := rawC a) hlx)
     clear hlx
     obtain ⟨x1, x2⟩ := x
     dsimp only at hx1 hx2 hcx
     obtain ⟨d1, d2⟩ := hcx wr HW.out
     have CG := fun W => Dt.pgood_x W (x1, x2)
     have BX : Hid (Below wr.heap.size wr ((wr.alloc (.cells #[.int .u16 (x1 : Int), .int .u64 (x2 : Int)] 35)).alloc (.cells #[.int .u16 (x1 : Int), .int .u64 (x2 : Int)] 35))) := Lib.hid (bel_alloc _ (Dt.below_new _ _))
     have HXB := Lib.hid (Dt.box_at wr (x1, x2))
     clear hcx
     cases hmx : Dt.mayD (x1, x2) with
     | false =>
       have HS := Lib.hid (stepA_not (f := addF (rawC a) (l.take k)) hmx)
       rw [hmx] at CG
       clear hmx
       go_wp2_with fail
       refine (CG _).mono ?_
       rintro e w1 ⟨rfl, rfl⟩
       have HM2 := Lib.hid (((HMK.out.up BX.out).more (Nat.le_succ _)).turn (by rw [← HS.out, ← HN.out]))
       have HW2 := Lib.hid (HW.out.trans (BX.out.mono HW.out.size))
       clear d1 d2
       go_wp2
       go_roundw
       case rel => exact ⟨k + 1, by omega, by go_num, HM2.out, HW2.out⟩
       case measure => simp [intOf]; omega
     | true =>
       have HS : Hid ((fun e => if e = x1 then addF (rawC a) (l.take k) x1 ++ [(x2, x2)] else addF (rawC a) (l.take k) e) = addF (rawC a) (l.take (k + 1))) := Lib.hid (by rw [HN.out, ← stepA_put hmx])
       have HFN := Lib.hid (HF.out (k + 1) x1)
       have HEN : Hid (addF (rawC a) (l.take (k + 1)) x1 = addF (rawC a) (l.take k) x1 ++ [(x2, x2)]) := Lib.hid (by rw [← HS.out]; exact if_pos rfl)
       rw [HEN.out] at HFN
       rw [hmx] at CG
       clear hmx
       go_wp2_with fail
       refine (CG _).mono ?_
       rintro e w1 ⟨rfl, rfl⟩
       have hb2 : ((wr.alloc (.cells #[.int .u16 (x1 : Int), .int .u64 (x2 : Int)] 35)).alloc (.cells #[.int .u16 (x1 : Int), .int .u64 (x2 : Int)] 35)).heap.size = wr.heap.size + 2 := by simp
       have HBX : Hid (Below (wr.alloc (.cells #[.int .u16 (x1 : Int), .int .u64 (x2 : Int)] 35)).heap.size (wr.alloc (.cells #[.int .u16 (x1 : Int), .int .u64 (x2 : Int)] 35)) ((wr.alloc (.cells #[.int .u16 (x1 : Int), .int .u64 (x2 : Int)] 35)).alloc (.cells #[.int .u16 (x1 : Int), .int .u64 (x2 : Int)] 35))) := Lib.hid (Dt.below_new _ _)
       generalize hwb : (wr.alloc (.cells #[.int .u16 (x1 : Int), .int .u64 (x2 : Int)] 35)).alloc (.cells #[.int .u16 (x1 : Int), .int .u64 (x2 : Int)] 35) = wb at *
       have HXC : Hid (∀ V, Below wb.heap.size wb V → V.cell? ⟨wr.heap.size, 0, none⟩ = some (.int .u16 (x1 : Int)) ∧ V.cell? ⟨wr.heap.size, 1, none⟩ = some (.int .u64 (x2 : Int))) := Lib.hid (fun V hV => HXB.out V (HBX.out.trans (hV.mono HBX.out.size)))
       obtain ⟨d3, d4⟩ := HXC.out wb (Below.refl _ _)
       obtain ⟨A2', k2, c2', hA2, hk2, hlook, hstore⟩ := (HMK.out.up BX.out).look hx1
       obtain ⟨o1, ho1⟩ : ∃ o : Obj, o = .cells #[.int .u64 (x2 : Int), .int .u64 (x2 : Int)] 68 := ⟨_, rfl⟩
       have r1 := hlook wb (Ru.turn_refl _ _)
       have r2 := hlook wb.drew (bel_grown ((Below.refl _ _).drew) _)
       have r3 := hlook (wb.alloc o1) (bel_grown (Dt.below_new _ _) _)
       have r4 := hlook (wb.alloc o1).drew (bel_grown ((Dt.below_new _ _).drew) _)
       have BD : Hid (Below wb.heap.size wb (wb.alloc o1).drew) := Lib.hid ((Dt.below_new _ _).drew)
       have HO2 := Lib.hid (Dt.own_kept hA2 BD.out)
       have hk2' : k2 ≤ 536870912 := by rw [← hk2]; have := HL.out k x1; omega
       have HRL : Hid (RunsAt (wb.alloc o1) (some ⟨wr.heap.size + 2, 0, none⟩) [(x2, x2)] 1 1) := Lib.hid (by rw [ho1]; exact run_lit wb _ x2 x2 hb2.symm hx2 hx2)
       have HBL : Hid (Ru.Lies (wb.alloc o1).drew (wb.alloc o1).drew.heap.size (some ⟨wr.heap.size + 2, 0, none⟩) (Ru.rv [(x2, x2)])) := Lib.hid ((HRL.out.up ((Below.refl _ _).drew)).runs.2)
       have HOL := Lib.hid (fun j hj => (hA2.lt j hj))
       have HST := Lib.hid hstore
       have HWB := Lib.hid (HW.out.trans (BX.out.mono HW.out.size))
       have HW1 := Lib.hid (HWB.out.trans (BD.out.mono HWB.out.size))
       have hBsz : w.heap.size + 1 ≤ (wb.alloc o1).drew.heap.size := by have := BD.out.size; omega
       have HGD : Hid (wb.grownBy (wb.alloc o1).drew (Value.slice A2' k2 c2').ownBlock) := Lib.hid (bel_grown BD.out _)
       have HSZ : Hid (wb.heap.size ≤ (wb.alloc o1).drew.heap.size) := Lib.hid BD.out.size
       have HKC : Hid (∀ w5 : World, World.grownBy (wb.alloc o1).drew w5 (Value.slice A2' k2 c2').ownBlock → w5.cell? ⟨wr.heap.size, 0, none⟩ = some (.int .u16 (x1 : Int)) ∧ w5.cell? ⟨wr.heap.size, 1, none⟩ = some (.int .u64 (x2 : Int))) := Lib.hid (fun w5 hg5 => by
         have hne : some wr.heap.size ≠ (Value.slice A2' k2 c2').ownBlock := fun e => by
           obtain ⟨A9, k9, c9, hA9, _, hl9, _⟩ := HMK.out.look hx1
           have e9 := hl9 wb (bel_grown BX.out _)
           rw [r1] at e9
           have e8 : Value.slice A2' k2 c2' = Value.slice A9 k9 c9 := by injection e9
           rw [e8] at e
           have := (hA9.lt wr.heap.size e.symm).2
           omega
         have hl2 : wr.heap.size < (wb.alloc o1).drew.heap.size := by have := BD.out.size; omega
         obtain ⟨q1, q2⟩ := HXC.out _ BD.out
         exact ⟨(hg5.cell_far _ hl2 hne).trans q1, (hg5.cell_far _ hl2 hne).trans q2⟩)
       have HK6 : Hid (∀ w5 w6 : World, World.grownBy (wb.alloc o1).drew w5 (Value.slice A2' k2 c2').ownBlock → w5.grownBy w6 (some w.heap.size) → w6.cell? ⟨wr.heap.size, 0, none⟩ = some (.int .u16 (x1 : Int)) ∧ w6.cell? ⟨wr.heap.size, 1, none⟩ = some (.int .u64 (x2 : Int))) := Lib.hid (fun w5 w6 hg5 hg6 => by
         obtain ⟨q1, q2⟩ := HKC.out w5 hg5
         have hl2 : wr.heap.size < w5.heap.size := by have := hg5.size; have := BD.out.size; omega
         have hne : some wr.heap.size ≠ some w.heap.size := fun e => by injection e with e; omega
         exact ⟨(hg6.cell_far _ hl2 hne).trans q1, (hg6.cell_far _ hl2 hne).trans q2⟩)
       clear HN hA2 hlook hstore HMK BX BD HBX HXB hk2 HEN HRL HWB hwb
       subst ho1
       go_wp2_with fail
       go_region_held3 (fun V => V.cell? ⟨wr.heap.size, 0, none⟩ = some (.int .u16 (x1 : Int)) ∧ V.cell? ⟨wr.heap.size, 1, none⟩ = some (.int .u64 (x2 : Int))) (first | exact ⟨d3, d4⟩ | assumption | exact HXC.out _ (by (repeat (first | exact Below.refl _ _ | assumption | apply bel_drew | apply bel_alloc)))) (first
         | (refine step_app rfl (.tmp 24) (.tmp 30) rfl rfl (w.heap.size + 1) k2 (.slice A2' k2 c2') (addF (rawC a) (l.take k) x1) (some ⟨wr.heap.size + 2, 0, none⟩) [(x2, x2)] 1 1 rfl rfl HO2.out (fun h => by cases h) HBL.out rfl (by omega) hBsz ?_; intro A5 c5 w5 ho5 hg5 hl5; have hcV := HKC.out w5 hg5; obtain ⟨w6, hrun, hM6, hg6⟩ := HST.out w5 A5 (k2 + 1) c5 _ (HGD.out.trans hg5) ho5 HFN.out (hl5.imp (fun h => h) (fun h j hj => by rw [h] at hj; injection hj with hj; rw [← hj]; exact HSZ.out)) (by omega); have hcV6 := HK6.out w5 w6 hg5 hg6))
       all_goals
         have HR : Hid (MapO w6 (w.heap.size + 1) w.heap.size (n1 + (k + 1)) (addF (rawC a) (l.take (k + 1)))) := Lib.hid (hM6.turn HS.out)
         have HW6 : Hid (Below w.heap.size w w6) := Lib.hid ((HW1.out.grown hg5 HW1.out.size (fun j hj => by have := (HOL.out j hj).1; omega)).grown hg6 (Nat.le_trans HW1.out.size hg5.size) (fun j hj => by cases hj; exact Nat.le_refl _))
         clear hM6 hg6 hrun hg5 hl5 ho5 hcV hcV6 r1 r2 r3 r4 HO2 HBL HOL HST HW1 HKC HK6 HS HFN d1 d2 d3 d4 HXC HGD HSZ
         go_wp2
         go_roundw
         case rel => exact ⟨k + 1, hlt, by go_num, HR.out, HW6.out⟩
         case measure => simp [intOf]; omega
   · obtain rfl : k = n2 := by omega
     have e : Hid (l.take k = l) := Lib.hid (List.take_of_length_le (by rw [HDL.out]; exact Nat.le_refl _))
     have HL2 := Lib.hid (HL.out k)
     rw [e.out] at HMK HL2
     have CI := pinord_any psorts wr _ _ _ _ HMK.out.mapS HT.out (fun d => by have := HL2.out d; omega) (by omega)
     go_wp2_with fail
     refine CI.mono ?_
     intro e w2 hp
     obtain ⟨A5, n5, c5, ps, rfl, h2⟩ := cpost_up HW.out hp
     have HP := Lib.hid h2
     clear hp h2 CI
     go_wp2
     go_ret
     exact ⟨A5, n5, c5, ps, rfl, HP.out⟩
set_option maxHeartbeats 1000000 in
theorem pof_any (w : World) (A2 : Option Addr) (l : List Dot) (n2 c2 : Nat) (h2 : DotsAt w A2 l n2 c2) (hn2 : n2 ≤ 268435456) :
   Calls Tryz.prog 68 #[.slice A2 n2 c2] w (CtxPost w (ofC l)) := by
 have CA := padd_any w none A2 [] l 0 n2 0 c2 (CtxAt.none_ w) h2 ⟨Nat.zero_le _, Nat.zero_le _⟩ hn2
 have e : setC [] (ofC l) 0 = ofC l := by rw [join_turn, norm_set]; exact (ord_of h2.fit).norm
 rw [e] at CA
 clear h2 e
 go_enter Tryz.func68, Tryz.ntmps68
 go_wp2_with fail
 refine CA.mono ?_
 intro e w2 hp
 obtain ⟨A5, n5, c5, ps, rfl, h2⟩ := hp
 have HP := Lib.hid h2
 clear h2 CA
 go_wp2
 go_ret
 exact ⟨A5, n5, c5, ps, rfl, HP.out⟩
end Go.Proofs.YtgaegfddobpomaaGreat.Cx

namespace Go.Proofs.YtgaegfddobpomaaGreat.Ru
open Go.ChangeShapes Go.WideShapes Go.ChangeAt Go.RowKit Go.Shelf
set_option linter.unusedVariables false
set_option maxRecDepth 4000
theorem own_form {w : World} {B n size : Nat} {e : TypeId} {v : Value} {xs : List Value} (h : w.ownsRow B e size v n xs) : ∃ A c, v = .slice A n c := by
 rcases h.2 with ⟨rfl, rfl⟩ | ⟨g, cap, _, rfl, _⟩
 · exact ⟨none, 0, rfl⟩
 · exact ⟨_, cap, rfl⟩
theorem run_any (w : World) (B k : Nat) (v : Value) (xs : List Run) (A : Option Addr) (m : List Run) (n c : Nat) (ho : w.ownsRow B 68 2 v k (rv xs)) (hA : A = none → n = 0 ∧ c = 0) (hb : Lies w w.heap.size A (rv m)) (hl : m.length = n)
   (hn : k + n ≤ 8796093022208) (hB : B ≤ w.heap.size) :
   ∃ A' c' w', (Builtin.append_ #[69, 69] 69 #[v, .slice A n c]).run Tryz.prog w = .ok (.slice A' (k + n) c') w' ∧
     w'.ownsRow B 68 2 (.slice A' (k + n) c') (k + n) (rv (xs ++ m)) ∧ w.grownBy w' v.ownBlock := by
 obtain ⟨i0, hi0, hz0, hz1, hz2⟩ := info_parts run_info
 cases A with
 | none =>
   obtain ⟨rfl, rfl⟩ := hA rfl
   obtain rfl := List.eq_nil_of_length_eq_zero hl
   obtain ⟨A', c', rfl⟩ := own_form ho
   exact ⟨A', c', w, run_append_owned_none (P := Tryz.prog) (w := w) B 69 69 68 i0 2 Tryz.underlying69 hi0 _ k (rv xs) ho, by rw [List.append_nil]; exact ho, turn_refl _ _⟩
 | some ad =>
   have hc : ∀ j u, (rv m)[j]? = some u → w.cell? (ad.add j) = some u := by
     intro j u hu
     have hjl : j < (rv m).length := (List.getElem?_eq_some_iff.1 hu).1
     obtain ⟨ad', e, hadb, hc⟩ := hb (by omega)
     obtain rfl := Option.some.inj e
     exact hc j u hu
   obtain ⟨v', w', hr, h2, h3, hat, h5⟩ := run_append_own_at (P := Tryz.prog) w B 69 69 68 i0 (.agg #[.int .u64 0, .int .u64 0]) 2 16 Tryz.underlying69 hi0 hz0 hz1 hz2 rfl (by decide) v k (rv xs) ho ad n c (rv m) (by rw [rv_length, hl]) hc (rv_one m) (by simp only [maxLen]; omega) (by omega) hB
   obtain ⟨A', c', rfl⟩ := own_form h2
   exact ⟨A', c', w', hr, by rw [rv_append]; exact h2, h3⟩
theorem wpList_any {ops : Array Oper} {rest : List Oper} {o : Oper} {a : Act} {Q : Exit → Act → World → Prop} (hgd : o.guard = none) (s x : Operand) (ho : o.op = .call { callee := .builtin .append, args := #[s, x], argTypes := #[69, 69] }) (hty : o.type = 69)
   (w : World) (B k : Nat) (v : Value) (xs : List Run) (A : Option Addr) (m : List Run) (n c : Nat) (hs : a.eval s = v) (hx : a.eval x = .slice A n c) (hw : w.ownsRow B 68 2 v k (rv xs)) (hA : A = none → n = 0 ∧ c = 0) (hb : Lies w w.heap.size A (rv m)) (hl : m.length = n)
   (hn : k + n ≤ 8796093022208) (hB : B ≤ w.heap.size)
   (hK : ∀ A' c' w', w'.ownsRow B 68 2 (.slice A' (k + n) c') (k + n) (rv (xs ++ m)) → w.grownBy w' v.ownBlock → wpList Tryz.prog ops Q rest (a.put o.dst (.slice A' (k + n) c')) w') : wpList Tryz.prog ops Q (o :: rest) a w := by
 refine wpList_plain hgd fun K hQ => ?_
 obtain ⟨A', c', w', hr, h2, h3⟩ := run_any w B k v xs A m n c hw hA hb hl hn hB
 rw [← hty] at hr
 unfold Oper.wp execOp
 simp only [ho, resolve, invoke, builtin, Sem.run_bind, Sem.run_pure, Result.andThen_ok, List.map_toArray, List.map_cons, List.map_nil, hs, hx]
 rw [hty] at hr ⊢
 rw [hr]
 exact hQ _ _ (hK _ _ _ h2 h3)
theorem any_grown {w wr w2 : World} {v : Value} {m : Nat} {xs : List Value} (ho : wr.ownsRow w.heap.size 68 2 v m xs) (hb : Below w.heap.size w wr) (hg : wr.grownBy w2 v.ownBlock) : Below w.heap.size w w2 :=
 hb.grown hg hb.size (fun k hk => (ho.lt k hk).1)
theorem lies_one (V : World) (r : Run) : Lies (V.alloc (.cells #[.int .u64 (r.1 : Int), .int .u64 (r.2 : Int)] 68)) (V.alloc (.cells #[.int .u64 (r.1 : Int), .int .u64 (r.2 : Int)] 68)).heap.size (some ⟨V.heap.size, 0, none⟩) (rv [r]) :=
 fun _ => ⟨_, rfl, by simp, pair_at V r⟩
theorem com_length : ∀ (N : Nat) (a b : List Run), a.length + b.length ≤ N → (com a b).length ≤ a.length + b.length
 | N, [], b, _ => by rw [com_nil]; simp
 | N, x :: a, [], _ => by rw [com_nil']; simp
 | 0, x :: a, y :: b, h => by simp at h
 | N + 1, x :: a, y :: b, h => by
   simp only [List.length_cons] at h
   rw [com_cons, List.length_append]
   have h1 : (if mayR (both x y) = true then [both x y] else []).length ≤ 1 := by split <;> simp
   have h2 : (if x.2 < y.2 then com a (y :: b) else com (x :: a) b).length ≤ a.length + b.length + 1 := by
     split
     · have := com_length N a (y :: b) (by simp only [List.length_cons]; omega)
       simp only [List.length_cons] at this
       omega
     · have := com_length N (x :: a) b (by simp only [List.length_cons]; omega)
       simp only [List.length_cons] at this
       omega
   simp only [List.length_cons]
   omega
theorem Runs.head {w : World} {B : Nat} {A : Option Addr} {r : Run} {l : List Run} (h : Runs w B A (r :: l)) :
   ∃ ad : Addr, A = some ad ∧ ad.block < B ∧ w.cell? ad = some (.int .u64 (r.1 : Int)) ∧ w.cell? ⟨ad.block, ad.off + 1, none⟩ = some (.int .u64 (r.2 : Int)) ∧ Runs w B (some (ad.add 2)) l := by
 obtain ⟨ad, e, hB, hc⟩ := h.2 (by rw [rv_length]; simp)
 refine ⟨ad, e, hB, ?_, hc 1 _ rfl, fun s hs => h.1 s (by simp [hs]), fun hl => ⟨_, rfl, by rw [block_add]; exact hB, fun j u hu => ?_⟩⟩
 · have := hc 0 _ rfl
   rwa [show ad.add 0 = ad from by unfold Addr.add; simp] at this
 · rw [add_add]
   refine hc (2 + j) u ?_
   rw [show rv (r :: l) = [.int .u64 (r.1 : Int), .int .u64 (r.2 : Int)] ++ rv l from rfl, List.getElem?_append_right (by simp)]
   simpa using hu
theorem bel_alloc {w W : World} (o : Obj) (h : Below w.heap.size w W) : Below w.heap.size w (W.alloc o) := h.alloc h.size o
def lenV : Value → Nat
 | .slice _ n _ => n
 | _ => 0
structure CRel (w : World) (l1 l2 : List Run) (A1 A2 A : Option Addr) (m1 m2 m c1 c2 c : Nat) (a b o : List Run) (wr : World) : Prop where
 ha : a.length = m1
 hb : b.length = m2
 ho : o.length = m
 ra : Runs w w.heap.size A1 a
 rb : Runs w w.heap.size A2 b
 h1 : m1 ≤ c1 ∧ c1 ≤ 9223372036854775807
 h2 : m2 ≤ c2 ∧ c2 ≤ 9223372036854775807
 hr : wr.ownsRow w.heap.size 68 2 (.slice A m c) m (rv o)
 bel : Below w.heap.size w wr
 hs : o ++ com a b = com l1 l2
theorem runs_tail {w : World} {B : Nat} {ad : Addr} {l : List Run} {z c : Nat} (h : Runs w B (some (ad.add 2)) l) (hl : l.length = z) (hz : z + 1 ≤ c) : Runs w B (if c = 1 then some ad else some ⟨ad.block, ad.off + 2, none⟩) l := by
 split
 · rename_i hc
   rw [List.eq_nil_of_length_eq_zero (l := l) (by omega)]
   exact Runs.none_ _ _ _
 · have e : ad.add 2 = ⟨ad.block, ad.off + 2, none⟩ := by unfold Addr.add; simp
   rw [← e]; exact h
theorem com_left {w : World} {l1 l2 : List Run} {ad1 : Addr} {A2 A A3 : Option Addr} {z1 m2 m c1 c2 c c3 mt : Nat} {x y : Run} {a b o t : List Run} {wr V : World}
   (h : CRel w l1 l2 (some ad1) A2 A (z1 + 1) m2 m c1 c2 c (x :: a) (y :: b) o wr) (hlt : x.2 < y.2) (ra : Runs w w.heap.size (some (ad1.add 2)) a) (ht : (if mayR (both x y) = true then [both x y] else []) = t) (hm : m + t.length = mt)
   (hr : V.ownsRow w.heap.size 68 2 (.slice A3 mt c3) mt (rv (o ++ t))) (bel : Below w.heap.size w V) : CRel w l1 l2 (if c1 = 1 then some ad1 else some ⟨ad1.block, ad1.off + 2, none⟩) A2 A3 z1 m2 mt (c1 - 1) c2 c3 a (y :: b) (o ++ t) V := by
 have hl : a.length = z1 := by have := h.ha; simpa using this
 have hk := h.h1
 refine ⟨hl, h.hb, by rw [List.length_append, h.ho, hm], runs_tail ra hl hk.1, h.rb, by omega, h.h2, hr, bel, ?_⟩
 have hs := h.hs
 rw [com_cons, ht, if_pos hlt] at hs
 rw [List.append_assoc]; exact hs
theorem com_right {w : World} {l1 l2 : List Run} {ad2 : Addr} {A1 A A3 : Option Addr} {z2 m1 m c1 c2 c c3 mt : Nat} {x y : Run} {a b o t : List Run} {wr V : World}
   (h : CRel w l1 l2 A1 (some ad2) A m1 (z2 + 1) m c1 c2 c (x :: a) (y :: b) o wr) (hlt : ¬ x.2 < y.2) (rb : Runs w w.heap.size (some (ad2.add 2)) b) (ht : (if mayR (both x y) = true then [both x y] else []) = t) (hm : m + t.length = mt)
   (hr : V.ownsRow w.heap.size 68 2 (.slice A3 mt c3) mt (rv (o ++ t))) (bel : Below w.heap.size w V) : CRel w l1 l2 A1 (if c2 = 1 then some ad2 else some ⟨ad2.block, ad2.off + 2, none⟩) A3 m1 z2 mt c1 (c2 - 1) c3 (x :: a) b (o ++ t) V := by
 have hl : b.length = z2 := by have := h.hb; simpa using this
 have hk := h.h2
 refine ⟨h.ha, hl, by rw [List.length_append, h.ho, hm], h.ra, runs_tail rb hl hk.1, h.h1, by omega, hr, bel, ?_⟩
 have hs := h.hs
 rw [com_cons, ht, if_neg hlt] at hs
 rw [List.append_assoc]; exact hs
theorem crel_drewN {w V : World} {l1 l2 a b o : List Run} {A1 A2 A : Option Addr} {m1 m2 m c1 c2 c : Nat} (h : CRel w l1 l2 A1 A2 A m1 m2 m c1 c2 c a b o V) (k : Nat) : CRel w l1 l2 A1 A2 A m1 m2 m c1 c2 c a b o (V.drewN k) :=
 ⟨h.ha, h.hb, h.ho, h.ra, h.rb, h.h1, h.h2, h.hr, h.bel.trans ⟨rfl, rfl, rfl, Nat.le_refl _, fun _ _ => rfl⟩, h.hs⟩
set_option maxHeartbeats 4000000 in
theorem common_any (w : World) (A1 A2 : Option Addr) (l1 l2 : List Run) (n1 n2 c1 c2 : Nat) (hl1 : l1.length = n1) (hl2 : l2.length = n2) (hb1 : Runs w w.heap.size A1 l1) (hb2 : Runs w w.heap.size A2 l2) (h1 : n1 ≤ 4398046511104) (h2 : n2 ≤ 4398046511104)
   (k1 : n1 ≤ c1 ∧ c1 ≤ 9223372036854775807) (k2 : n2 ≤ c2 ∧ c2 ≤ 9223372036854775807) :
   Calls Tryz.prog 171 #[.slice A1 n1 c1, .slice A2 n2 c2] w (RunPost w (com l1 l2)) := by
 obtain ⟨i0, hi0, hz0, hz1, hz2⟩ := info_parts run_info
 have HN : Hid ((com l1 l2).length ≤ 8796093022208) := Nat.le_trans (com_length _ l1 l2 (Nat.le_refl _)) (by omega)
 have HS : Hid (CRel w l1 l2 A1 A2 none n1 n2 0 c1 c2 0 l1 l2 [] w) := ⟨hl1, hl2, rfl, hb1, hb2, k1, k2, World.ownsRow_nil _ _ _ _, Below.refl _ _, rfl⟩
 clear hl1 hl2 hb1 hb2 k1 k2
 go_enter Tryz.func171, Tryz.ntmps171
 go_wp2
 go_loopw [0, 1, 5] (fun va vb vo wr => ∃ (A1 A2 A : Option Addr) (m1 m2 m c1 c2 c : Nat) (a b o : List Run), va = .slice A1 m1 c1 ∧ vb = .slice A2 m2 c2 ∧ vo = .slice A m c ∧ CRel w l1 l2 A1 A2 A m1 m2 m c1 c2 c a b o wr) (fun va vb _ _ => lenV va + lenV vb)
 case atStart => exact ⟨A1, A2, none, n1, n2, 0, c1, c2, 0, l1, l2, [], rfl, rfl, rfl, HS.out⟩
 case round =>
   clear HS A1 A2 n1 n2 c1 c2 h1 h2
   obtain ⟨A1, A2, A, m1, m2, m, c1, c2, c, a, b, o, rfl, rfl, rfl, hR⟩ := hrel
   have HR := Lib.hid hR
   have q1 := hR.h1
   have q2 := hR.h2
   clear hR
   rcases a with _ | ⟨x, a⟩
   · obtain rfl : m1 = 0 := HR.out.ha.symm
     have he : Hid (o = com l1 l2) := by have := HR.out.hs; rwa [com_nil, List.append_nil] at this
     go_wp2
     go_ret
     exact ⟨A, m, c, rfl, by rw [← he.out]; exact HR.out.ho, by rw [← he.out]; exact HR.out.hr, HR.out.bel⟩
   · rcases b with _ | ⟨y, b⟩
     · obtain rfl : m2 = 0 := HR.out.hb.symm
       obtain ⟨z1, rfl⟩ : ∃ z, m1 = z + 1 := ⟨a.length, HR.out.ha.symm⟩
       have he : Hid (o = com l1 l2) := by have := HR.out.hs; rwa [com_nil', List.append_nil] at this
       have hp : (0 : Int) < ((z1 : Nat) : Int) + 1 := by omega
       go_wp2
       go_ret
       exact ⟨A, m, c, rfl, by rw [← he.out]; exact HR.out.ho, by rw [← he.out]; exact HR.out.hr, HR.out.bel⟩
     · obtain ⟨z1, rfl⟩ : ∃ z, m1 = z + 1 := ⟨a.length, HR.out.ha.symm⟩
       obtain ⟨z2, rfl⟩ : ∃ z, m2 = z + 1 := ⟨b.length, HR.out.hb.symm⟩
       obtain ⟨ad1, rfl, hB1, d1, d2, ra'⟩ := HR.out.ra.head
       obtain ⟨ad2, rfl, hB2, e1, e2, rb'⟩ := HR.out.rb.head
       have RA := Lib.hid ra'
       have RB := Lib.hid rb'
       have hx := HR.out.ra.1 x (by simp)
       have hy := HR.out.rb.1 y (by simp)
       have HC : Hid (∀ V, Below w.heap.size w V → (V.cell? ad1 = some (.int .u64 (x.1 : Int)) ∧ V.cell? ⟨ad1.block, ad1.off + 1, none⟩ = some (.int .u64 (x.2 : Int))) ∧ V.cell? ad2 = some (.int .u64 (y.1 : Int)) ∧ V.cell? ⟨ad2.block, ad2.off + 1, none⟩ = some (.int .u64 (y.2 : Int))) := fun V hV =>
         ⟨⟨(hV.cell hB1).trans d1, (hV.cell (p := ⟨ad1.block, ad1.off + 1, none⟩) hB1).trans d2⟩, (hV.cell hB2).trans e1, (hV.cell (p := ⟨ad2.block, ad2.off + 1, none⟩) hB2).trans e2⟩
       clear d1 d2 e1 e2 ra' rb'
       obtain ⟨⟨d1, d2⟩, e1, e2⟩ := HC.out wr HR.out.bel
       have hp1 : (0 : Int) < ((z1 : Nat) : Int) + 1 := by omega
       have hp2 : (0 : Int) < ((z2 : Nat) : Int) + 1 := by omega
       go_wp2_with fail
       obtain ⟨p, hpp⟩ : ∃ p, both x y = p := ⟨_, rfl⟩
       have M1 : max (x.1 : Int) (y.1 : Int) = (p.1 : Int) := by rw [← hpp]; show max (x.1 : Int) (y.1 : Int) = ((max x.1 y.1 : Nat) : Int); omega
       have M2 : min (x.2 : Int) (y.2 : Int) = (p.2 : Int) := by rw [← hpp]; show min (x.2 : Int) (y.2 : Int) = ((min x.2 y.2 : Nat) : Int); omega
       have PP := Lib.hid hpp
       clear hpp
       go_region_held3 (fun V => (V.cell? ad1 = some (.int .u64 (x.1 : Int)) ∧ V.cell? ⟨ad1.block, ad1.off + 1, none⟩ = some (.int .u64 (x.2 : Int))) ∧ V.cell? ad2 = some (.int .u64 (y.1 : Int)) ∧ V.cell? ⟨ad2.block, ad2.off + 1, none⟩ = some (.int .u64 (y.2 : Int))) (first | exact ⟨⟨d1, d2⟩, e1, e2⟩ | exact HC.out _ (by (repeat (first | exact HR.out.bel | apply bel_alloc | apply bel_drew)))) (fail)
       all_goals
         have P0 : Hid (Pair (wr.alloc (.cells #[.int .u64 (p.1 : Int), .int .u64 (p.2 : Int)] 68)).drew wr.heap.size p) := Pair.new wr p
         have HW1 : Hid (Below w.heap.size w (wr.alloc (.cells #[.int .u64 (p.1 : Int), .int .u64 (p.2 : Int)] 68)).drew) := (HR.out.bel.alloc HR.out.bel.size _).drew
         have HO1 : Hid ((wr.alloc (.cells #[.int .u64 (p.1 : Int), .int .u64 (p.2 : Int)] 68)).drew.ownsRow w.heap.size 68 2 (.slice A m c) m (rv o)) := HR.out.hr.alloc _
         clear d1 d2 e1 e2 M1 M2
         generalize (wr.alloc (.cells #[.int .u64 (p.1 : Int), .int .u64 (p.2 : Int)] 68)).drew = W1 at P0 HW1 HO1 ⊢
         have f1 := P0.out.cell1
         have f2 := P0.out.cell2
         go_wp2_with fail
         refine (tells_any W1 p.1 p.2).mono ?_
         rintro e V ⟨rfl, hb2⟩
         have L2 := Lib.hid hb2
         have PV := Lib.hid (P0.out.below hb2)
         clear f1 f2
         have HWV : Hid (Below w.heap.size w V) := HW1.out.trans (L2.out.mono HW1.out.size)
         have HOV := Lib.hid (own_kept HO1.out L2.out)
         clear hb2 L2 HW1 HO1 P0
         by_cases hm : mayR (p.1, p.2) = true
         · rw [hm]
           have p1 := PV.out.cell1
           have p2 := PV.out.cell2
           have HLO : Hid (m + 1 ≤ 8796093022208) := by
             have h := HR.out.hs
             have h2 := HN.out
             rw [← h, com_cons, PP.out, if_pos hm, List.length_append, List.length_append, HR.out.ho] at h2
             simp only [List.length_singleton] at h2
             show m + 1 ≤ _
             omega
           have HWA : Hid (Below w.heap.size w (V.alloc (.cells #[.int .u64 (p.1 : Int), .int .u64 (p.2 : Int)] 68))) := HWV.out.alloc HWV.out.size _
           go_wp2_with (at_builtin; refine wpList_any rfl (.tmp 36) (.tmp 38) rfl rfl _ w.heap.size m (.slice A m c) o (some ⟨V.heap.size, 0, none⟩) [p] 1 1 rfl rfl (HOV.out.alloc _) (fun h => by cases h) (lies_one V p) rfl HLO.out HWA.out.size ?_; intro A3 c3 V3 ho3 hg3; have HW3 := Lib.hid (any_grown (HOV.out.alloc _) HWA.out hg3); have HO3 := Lib.hid ho3; clear ho3 hg3)
           obtain ⟨⟨d1, d2⟩, e1, e2⟩ := HC.out V3 HW3.out
           have ht : Hid ((if mayR (both x y) = true then [both x y] else []) = [p]) := by show _ = _; rw [PP.out, if_pos hm]
           clear hm p1 p2 HWA HLO HOV HWV PV
           by_cases hlt : x.2 < y.2
           · have hld : decide ((x.2 : Int) < (y.2 : Int)) = true := decide_eq_true (by omega)
             have HR2 := Lib.hid (com_left HR.out hlt RA.out ht.out rfl HO3.out HW3.out)
             go_quiet (fail)
             go_wp2
             exact ⟨⟨_, _, _, _, _, _, _, _, _, _, _, _, rfl, rfl, rfl, crel_drewN HR2.out _⟩, by simp [lenV]⟩
           · have hld : decide ((x.2 : Int) < (y.2 : Int)) = false := decide_eq_false (by omega)
             have HR2 := Lib.hid (com_right HR.out hlt RB.out ht.out rfl HO3.out HW3.out)
             go_wp2_with fail
             go_quiet (fail)
             go_wp2
             exact ⟨⟨_, _, _, _, _, _, _, _, _, _, _, _, rfl, rfl, rfl, crel_drewN HR2.out _⟩, by simp [lenV]⟩
         · have hm' : mayR (p.1, p.2) = false := by simpa using hm
           rw [hm']
           obtain ⟨⟨d1, d2⟩, e1, e2⟩ := HC.out V HWV.out
           have ht : Hid ((if mayR (both x y) = true then [both x y] else []) = []) := by show _ = _; rw [PP.out, if_neg hm]
           have HOV2 : Hid (V.ownsRow w.heap.size 68 2 (.slice A m c) m (rv (o ++ []))) := by rw [List.append_nil]; exact HOV.out
           clear hm HOV PV
           by_cases hlt : x.2 < y.2
           · have hld : decide ((x.2 : Int) < (y.2 : Int)) = true := decide_eq_true (by omega)
             have HR2 := Lib.hid (com_left HR.out hlt RA.out ht.out rfl HOV2.out HWV.out)
             go_wp2_with fail
             go_quiet (fail)
             go_wp2
             exact ⟨⟨_, _, _, _, _, _, _, _, _, _, _, _, rfl, rfl, rfl, crel_drewN HR2.out _⟩, by simp [lenV]⟩
           · have hld : decide ((x.2 : Int) < (y.2 : Int)) = false := decide_eq_false (by omega)
             have HR2 := Lib.hid (com_right HR.out hlt RB.out ht.out rfl HOV2.out HWV.out)
             go_wp2_with fail
             go_quiet (fail)
             go_wp2
             exact ⟨⟨_, _, _, _, _, _, _, _, _, _, _, _, rfl, rfl, rfl, crel_drewN HR2.out _⟩, by simp [lenV]⟩
end Go.Proofs.YtgaegfddobpomaaGreat.Ru
