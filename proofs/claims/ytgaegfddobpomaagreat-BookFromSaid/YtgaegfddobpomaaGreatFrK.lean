/- Words and contracts that the proofs of this seat stand on, part 11 of 28. -/
import Derived.Test.YtgaegfddobpomaaGreatFrI
import Derived.Test.YtgaegfddobpomaaGreatFrC
import Derived.Test.YtgaegfddobpomaaGreatFrJ

namespace Go.Proofs.YtgaegfddobpomaaGreat.Bk
open Go.ChangeShapes Go.WideShapes Go.ChangeAt Go.RowKit Go.Proofs.YtgaegfddobpomaaGreat.Kl
set_option linter.unusedVariables false
set_option maxRecDepth 4000
theorem tk1 {P : Program} {md : Region.Mode} {ops : Array Oper} {Q : Exit → Go.Act → World → Prop} {S : World → Prop} {fuel : Nat} {listed : Array Bool} {a : Go.Act} {w : World} {v : Value} (i : Nat) (oi : Oper) (hy : ∀ w, S w → (execOp a.eval oi).run P w = .ok (.value v) w)
   (h : wpAnyH P md ops Q S fuel (listed.setIfInBounds i true) (a.put oi.dst v) w)
   (hi : ops[i]? = some oi := by exact rfl) (hs : Region.noSelect ops = true := by kernel_rfl) (hf : Region.free md ops listed i = true := by kernel_rfl) (hr : (Region.ready md ops listed).contains i = true := by kernel_rfl)
   (hQ : ∀ c a w, Q (.panic c) (a.put oi.dst v) w → Q (.panic c) a w := by exact fun _ _ _ h => h) (hg : Region.wanted oi (yielded ops a.tmps) = true := by rfl) (hS : S w := by assumption) : wpAnyH P md ops Q S (fuel + 1) listed a w :=
 wpAnyH_take hi hs hf hr hQ (.inl ⟨hg, hy⟩) hS h
theorem tk0 {P : Program} {md : Region.Mode} {ops : Array Oper} {Q : Exit → Go.Act → World → Prop} {S : World → Prop} {fuel : Nat} {listed : Array Bool} {a : Go.Act} {w : World} (i : Nat) (oi : Oper) (h : wpAnyH P md ops Q S fuel (listed.setIfInBounds i true) (a.put oi.dst undef) w)
   (hi : ops[i]? = some oi := by exact rfl) (hs : Region.noSelect ops = true := by kernel_rfl) (hf : Region.free md ops listed i = true := by kernel_rfl) (hr : (Region.ready md ops listed).contains i = true := by kernel_rfl)
   (hQ : ∀ c a w, Q (.panic c) (a.put oi.dst undef) w → Q (.panic c) a w := by exact fun _ _ _ h => h) (hy : YieldsIf P ops S oi undef a := by exact Or.inr ⟨by rfl, rfl⟩) (hS : S w := by assumption) : wpAnyH P md ops Q S (fuel + 1) listed a w :=
 wpAnyH_take hi hs hf hr hQ hy hS h
noncomputable def okB (l : List Ev.Evt) (k : Nat) : Bool := match l[k]? with
 | none => true
 | some x => Ev.goodE x && (match k with | 0 => true | j + 1 => (match l[j]? with | none => true | some y => !decide (Dt.cmpD y.dot x.dot ≥ 0))) && !(decide (x.kind = 1) && deadB l x.dot)
noncomputable def fromB (c : List Cx.Part) (l : List Ev.Evt) : Bool := (List.range l.length).all (okB l) && (Cx.goodC c && decide (((Ev.dotsE l).filter (fun d => !Cx.hasC c d)) = []))
theorem from_bad {c : List Cx.Part} {l : List Ev.Evt} {k : Nat} (hk : k < l.length) (h : okB l k = false) : fromB c l = false := by
 unfold fromB
 rw [show (List.range l.length).all (okB l) = false from List.all_eq_false.2 ⟨k, List.mem_range.2 hk, by rw [h]; simp⟩]; rfl
theorem dots_few {l : List Ev.Evt} (h : ∀ x ∈ l, x.kills.length ≤ 1024) : (Ev.dotsE l).length ≤ l.length * 1025 := by
 have h1 := Ev.dots_long h l.length
 unfold Ev.dotsTo at h1
 rw [List.take_of_length_le (Nat.le_refl _)] at h1
 exact h1
theorem sort_none {l : List Dt.Dot} : Dt.sortD l = [] ↔ l = [] := by
 constructor
 · intro h
   match l, h with
   | [], _ => rfl
   | x :: l, h =>
     have h1 := (Dt.sort_mem (x :: l) x).2 List.mem_cons_self
     rw [h] at h1
     cases h1
 · rintro rfl; rfl
theorem from_ok {c : List Cx.Part} {l : List Ev.Evt} (h : ∀ k, k < l.length → okB l k = true) : fromB c l = (Cx.goodC c && decide (((Ev.dotsE l).filter (fun d => !Cx.hasC c d)) = [])) := by
 unfold fromB
 rw [show (List.range l.length).all (okB l) = true from List.all_eq_true.2 (fun k hk => h k (List.mem_range.1 hk)), Bool.true_and]
theorem ok_first {l : List Ev.Evt} {x : Ev.Evt} (h : l[0]? = some x) : okB l 0 = (Ev.goodE x && !(decide (x.kind = 1) && deadB l x.dot)) := by
 simp only [okB, h, Bool.and_true]
theorem ok_next {l : List Ev.Evt} {j : Nat} {x y : Ev.Evt} (h : l[j + 1]? = some x) (hy : l[j]? = some y) : okB l (j + 1) = (Ev.goodE x && !decide (Dt.cmpD y.dot x.dot ≥ 0) && !(decide (x.kind = 1) && deadB l x.dot)) := by
 simp only [okB, h, hy]
set_option maxHeartbeats 16000000 in
theorem rfrom_any (w : World) (A1 A2 : Option Addr) (c : List Cx.Part) (l : List Ev.Evt) (n1 c1 n2 c2 : Nat) (hc : Cx.CtxAt w A1 c n1 c1) (hl : Ev.EventsAt w w.heap.size A2 l n2 c2) (hs : Cx.Small c) (hn : n2 ≤ 1024) (hk : ∀ x ∈ l, x.kills.length ≤ 1024) :
   Calls Tryz.prog 28 #[.slice A1 n1 c1, .slice A2 n2 c2] w fun e w' => e = .returned (.bool (fromB c l)) ∧ Below w.heap.size w w' := by
 have HC := Lib.hid hc
 have HL := Lib.hid hl
 have HS := Lib.hid hs
 have HKL := Lib.hid hk
 clear hc hl hs hk
 go_enter Tryz.func28, Tryz.ntmps28
 go_wp2
 go_loopw [5] (fun i wr => ∃ k : Nat, k ≤ n2 ∧ i = .int .i64 (k : Int) ∧ (∀ j, j < k → okB l j = true) ∧ Below w.heap.size w wr) (fun i _ => n2 - (intOf i).toNat)
 case atStart => exact ⟨0, Nat.zero_le _, rfl, fun j hj => absurd hj (Nat.not_lt_zero _), Below.refl _ _⟩
 case round =>
   obtain ⟨k, hkn, rfl, ht, hw⟩ := hrel
   have HT := Lib.hid ht
   have HW := Lib.hid hw
   clear ht hw
   by_cases hlt : k < n2
   · obtain ⟨ad, q, y, rfl, hB, hly, hq, cq⟩ := (HL.out.up HW.out).at_ hlt
     have hdot := Ev.is_dot hq
     have HQ := Lib.hid hq
     have HCQ := Lib.hid cq
     have HXC : Hid (∀ V, Below wr.heap.size wr V → V.cell? (ad.add (k * 7)) = some (.int .u16 (q.dev : Int)) ∧ V.cell? ⟨(ad.add (k * 7)).block, (ad.add (k * 7)).off + 1, none⟩ = some (.int .u64 (q.num : Int)) ∧ V.cell? ⟨(ad.add (k * 7)).block, (ad.add (k * 7)).off + 2, none⟩ = some (.int .u8 (q.kind : Int)) ∧ V.cell? ⟨(ad.add (k * 7)).block, (ad.add (k * 7)).off + 3, none⟩ = some (.int .u64 (q.cid : Int)) ∧ V.cell? ⟨(ad.add (k * 7)).block, (ad.add (k * 7)).off + 4, none⟩ = some (.int .u8 (q.fld : Int)) ∧ V.cell? ⟨(ad.add (k * 7)).block, (ad.add (k * 7)).off + 5, none⟩ = some (.string q.txt) ∧ V.cell? ⟨(ad.add (k * 7)).block, (ad.add (k * 7)).off + 6, none⟩ = some (.slice q.adr q.len q.cap)) := Lib.hid (fun V hV => by
       have h := cq.kept hV
       exact ⟨h.c0, h.c1, h.c2, h.c3, h.c4, h.c5, h.c6⟩)
     have CG := fun W (hW : Below wr.heap.size wr W) => (Ev.rgood_any W q y (HQ.out.up hW)).mono (fun r V (h : r = .returned (.bool (Ev.goodE y)) ∧ Below W.heap.size W V) => (⟨h.1, hW.trans (h.2.mono hW.size)⟩ : r = .returned (.bool (Ev.goodE y)) ∧ Below wr.heap.size wr V))
     have CD := fun W (hW : Below wr.heap.size wr W) => (rdead_any W (some ad) l n2 c2 (q.dev, q.num) ((HL.out.up HW.out).up hW)).mono (fun r V (h : r = .returned (.bool (deadB l (q.dev, q.num))) ∧ Below W.heap.size W V) => (⟨h.1, hW.trans (h.2.mono hW.size)⟩ : r = .returned (.bool (deadB l (q.dev, q.num))) ∧ Below wr.heap.size wr V))
     simp only [Ev.EV.val] at CG
     have hdd : deadB l (q.dev, q.num) = deadB l y.dot := by rw [hdot]
     simp only [hdd] at CD
     have hkind := hq.kind
     clear hq cq
     cases hg : Ev.goodE y with
     | false =>
       simp only [hg] at CG
       have HOK : Hid (okB l k = false) := Lib.hid (by unfold okB; rw [hly]; simp only [hg, Bool.false_and])
       clear CD hg hly hdot hkind
       go_wp2_with fail
       refine wp_region_noPanic ?_
       refine wp_region_held_drew (S := fun V => V.cell? (ad.add (k * 7)) = some (.int .u16 (q.dev : Int)) ∧ V.cell? ⟨(ad.add (k * 7)).block, (ad.add (k * 7)).off + 1, none⟩ = some (.int .u64 (q.num : Int)) ∧ V.cell? ⟨(ad.add (k * 7)).block, (ad.add (k * 7)).off + 2, none⟩ = some (.int .u8 (q.kind : Int)) ∧ V.cell? ⟨(ad.add (k * 7)).block, (ad.add (k * 7)).off + 3, none⟩ = some (.int .u64 (q.cid : Int)) ∧ V.cell? ⟨(ad.add (k * 7)).block, (ad.add (k * 7)).off + 4, none⟩ = some (.int .u8 (q.fld : Int)) ∧ V.cell? ⟨(ad.add (k * 7)).block, (ad.add (k * 7)).off + 5, none⟩ = some (.string q.txt) ∧ V.cell? ⟨(ad.add (k * 7)).block, (ad.add (k * 7)).off + 6, none⟩ = some (.slice q.adr q.len q.cap)) (by kernel_rfl) (HXC.out _ (Ev.bel_drew (Below.refl _ _))) (fun hHeld => ?_)
       refine tk1 0 ⟨some 12, .move (.tmp 1), 29, "ref.go:108", #[], none⟩ (by intro w hSw; (try dsimp only at hSw); go_simp <;> (with_reducible rfl)) ?_
       try simp only [Act.put, List.setIfInBounds_toArray, List.set_cons_zero, List.set_cons_succ]
       refine tk1 1 ⟨some 13, .move (.tmp 5), 3, "ref.go:108", #[], none⟩ (by intro w hSw; (try dsimp only at hSw); go_simp <;> (with_reducible rfl)) ?_
       try simp only [Act.put, List.setIfInBounds_toArray, List.set_cons_zero, List.set_cons_succ]
       refine tk1 2 ⟨some 14, .indexAddr 29 (.tmp 12) (.tmp 13), 0, "ref.go:108", #[⟨0, .data⟩, ⟨1, .data⟩], none⟩ (by intro w hSw; (try dsimp only at hSw); go_simp <;> (with_reducible rfl)) ?_
       try simp only [Act.put, List.setIfInBounds_toArray, List.set_cons_zero, List.set_cons_succ]
       refine tk1 3 ⟨some 15, .load 38 (.tmp 14), 38, "ref.go:108", #[⟨2, .data⟩], none⟩ (by intro w hSw; (try dsimp only at hSw); go_simp <;> (with_reducible rfl)) ?_
       try simp only [Act.put, List.setIfInBounds_toArray, List.set_cons_zero, List.set_cons_succ]
       refine wpAnyH_ready (rs := [4]) (by kernel_rfl) (by simp) ?_
       refine AllReadyH.cons (o := ⟨some 16, .call ⟨.value (.func 39), #[.tmp 15], #[38]⟩, 4, "ref.go:108", #[⟨3, .data⟩], none⟩) rfl (fun K hK => ?_) AllReadyH.nil
       go_simp
       go_at_call 39; (with_reducible refine (CG _ ?_).mono ?_); (focus (repeat (first | exact Below.refl _ _ | assumption | apply Ev.bel_drew | apply Ev.bel_alloc))); rintro r V ⟨rfl, bv⟩; have hcV := HXC.out V bv
       refine hK.out _ _ (by assumption) (fun hH => ?_)
       clear hHeld hK K
       have hHeld := hH
       clear hH
       try simp only [Act.put, List.setIfInBounds_toArray, List.set_cons_zero, List.set_cons_succ]
       refine tk1 5 ⟨some 17, .unOp .not 4 (.tmp 16), 4, "ref.go:108", #[⟨4, .data⟩], none⟩ (by intro w hSw; (try dsimp only at hSw); go_simp <;> (with_reducible rfl)) ?_
       try simp only [Act.put, List.setIfInBounds_toArray, List.set_cons_zero, List.set_cons_succ]
       refine tk1 6 ⟨some 18, .move (.tmp 17), 4, "ref.go:108", #[⟨5, .data⟩, ⟨4, .chain⟩], none⟩ (by intro w hSw; (try dsimp only at hSw); go_simp <;> (with_reducible rfl)) ?_
       try simp only [Act.put, List.setIfInBounds_toArray, List.set_cons_zero, List.set_cons_succ]
       refine tk0 7 ⟨some 19, .move (.tmp 5), 3, "ref.go:108", #[⟨6, .guard⟩], some (6, false)⟩ ?_
       try simp only [Act.put, List.setIfInBounds_toArray, List.set_cons_zero, List.set_cons_succ]
       refine tk0 8 ⟨some 20, .binOp .gtr 3 (.tmp 19) (.const (.int .i64 0)) 3, 4, "ref.go:108", #[⟨7, .data⟩, ⟨6, .guard⟩], some (6, false)⟩ ?_
       try simp only [Act.put, List.setIfInBounds_toArray, List.set_cons_zero, List.set_cons_succ]
       refine tk0 9 ⟨some 21, .move (.tmp 20), 4, "ref.go:108", #[⟨8, .data⟩, ⟨6, .chain⟩, ⟨6, .guard⟩], some (6, false)⟩ ?_
       try simp only [Act.put, List.setIfInBounds_toArray, List.set_cons_zero, List.set_cons_succ]
       refine tk0 10 ⟨some 22, .move (.tmp 1), 29, "ref.go:108", #[⟨9, .guard⟩], some (9, true)⟩ ?_
       try simp only [Act.put, List.setIfInBounds_toArray, List.set_cons_zero, List.set_cons_succ]
       refine tk0 11 ⟨some 23, .move (.tmp 5), 3, "ref.go:108", #[⟨9, .guard⟩], some (9, true)⟩ ?_
       try simp only [Act.put, List.setIfInBounds_toArray, List.set_cons_zero, List.set_cons_succ]
       refine tk0 12 ⟨some 24, .binOp .sub 3 (.tmp 23) (.const (.int .i64 1)) 3, 3, "ref.go:108", #[⟨11, .data⟩, ⟨9, .guard⟩], some (9, true)⟩ ?_
       try simp only [Act.put, List.setIfInBounds_toArray, List.set_cons_zero, List.set_cons_succ]
       refine tk0 13 ⟨some 25, .indexAddr 29 (.tmp 22) (.tmp 24), 0, "ref.go:108", #[⟨10, .data⟩, ⟨12, .data⟩, ⟨9, .guard⟩], some (9, true)⟩ ?_
       try simp only [Act.put, List.setIfInBounds_toArray, List.set_cons_zero, List.set_cons_succ]
       refine tk0 14 ⟨some 26, .fieldAddr 38 (.tmp 25) 0, 0, "ref.go:108", #[⟨13, .data⟩, ⟨9, .guard⟩], some (9, true)⟩ ?_
       try simp only [Act.put, List.setIfInBounds_toArray, List.set_cons_zero, List.set_cons_succ]
       refine tk0 15 ⟨some 27, .load 35 (.tmp 26), 35, "ref.go:108", #[⟨14, .data⟩, ⟨9, .guard⟩], some (9, true)⟩ ?_
       try simp only [Act.put, List.setIfInBounds_toArray, List.set_cons_zero, List.set_cons_succ]
       refine tk0 16 ⟨some 28, .move (.tmp 1), 29, "ref.go:108", #[⟨9, .guard⟩], some (9, true)⟩ ?_
       try simp only [Act.put, List.setIfInBounds_toArray, List.set_cons_zero, List.set_cons_succ]
       refine tk0 17 ⟨some 29, .move (.tmp 5), 3, "ref.go:108", #[⟨9, .guard⟩], some (9, true)⟩ ?_
       try simp only [Act.put, List.setIfInBounds_toArray, List.set_cons_zero, List.set_cons_succ]
       refine tk0 18 ⟨some 30, .indexAddr 29 (.tmp 28) (.tmp 29), 0, "ref.go:108", #[⟨16, .data⟩, ⟨17, .data⟩, ⟨9, .guard⟩], some (9, true)⟩ ?_
       try simp only [Act.put, List.setIfInBounds_toArray, List.set_cons_zero, List.set_cons_succ]
       refine tk0 19 ⟨some 31, .fieldAddr 38 (.tmp 30) 0, 0, "ref.go:108", #[⟨18, .data⟩, ⟨9, .guard⟩], some (9, true)⟩ ?_
       try simp only [Act.put, List.setIfInBounds_toArray, List.set_cons_zero, List.set_cons_succ]
       refine tk0 20 ⟨some 32, .load 35 (.tmp 31), 35, "ref.go:108", #[⟨19, .data⟩, ⟨9, .guard⟩], some (9, true)⟩ ?_
       try simp only [Act.put, List.setIfInBounds_toArray, List.set_cons_zero, List.set_cons_succ]
       refine wpAnyH_ready (rs := [21]) (by kernel_rfl) (by simp) ?_
       refine AllReadyH.cons (o := ⟨some 33, .call ⟨.value (.func 70), #[.tmp 27, .tmp 32], #[35, 35]⟩, 3, "ref.go:108", #[⟨15, .data⟩, ⟨20, .data⟩, ⟨9, .chain⟩, ⟨9, .guard⟩], some (9, true)⟩) rfl (fun K hK => ?_) AllReadyH.nil
       go_simp
       refine hK.out _ _ (by assumption) (fun hH => ?_)
       clear hHeld hK K
       have hHeld := hH
       clear hH
       try simp only [Act.put, List.setIfInBounds_toArray, List.set_cons_zero, List.set_cons_succ]
       refine tk0 22 ⟨some 34, .binOp .geq 3 (.tmp 33) (.const (.int .i64 0)) 3, 4, "ref.go:108", #[⟨21, .data⟩, ⟨9, .guard⟩], some (9, true)⟩ ?_
       try simp only [Act.put, List.setIfInBounds_toArray, List.set_cons_zero, List.set_cons_succ]
       refine tk0 23 ⟨some 35, .pick (.tmp 21) (.tmp 34) (.const (.bool false)), 4, "ref.go:108", #[⟨9, .data⟩, ⟨22, .data⟩, ⟨6, .guard⟩], some (6, false)⟩ ?_
       try simp only [Act.put, List.setIfInBounds_toArray, List.set_cons_zero, List.set_cons_succ]
       refine tk1 24 ⟨some 36, .pick (.tmp 18) (.const (.bool true)) (.tmp 35), 4, "ref.go:108", #[⟨6, .data⟩, ⟨23, .data⟩], none⟩ (by intro w hSw; (try dsimp only at hSw); go_simp <;> (with_reducible rfl)) ?_
       try simp only [Act.put, List.setIfInBounds_toArray, List.set_cons_zero, List.set_cons_succ]
       refine tk1 25 ⟨some 37, .move (.tmp 36), 4, "ref.go:108", #[⟨24, .data⟩, ⟨21, .chain⟩], none⟩ (by intro w hSw; (try dsimp only at hSw); go_simp <;> (with_reducible rfl)) ?_
       try simp only [Act.put, List.setIfInBounds_toArray, List.set_cons_zero, List.set_cons_succ]
       refine tk0 26 ⟨some 38, .move (.tmp 1), 29, "ref.go:108", #[⟨25, .guard⟩], some (25, false)⟩ ?_
       try simp only [Act.put, List.setIfInBounds_toArray, List.set_cons_zero, List.set_cons_succ]
       refine tk0 27 ⟨some 39, .move (.tmp 5), 3, "ref.go:108", #[⟨25, .guard⟩], some (25, false)⟩ ?_
       try simp only [Act.put, List.setIfInBounds_toArray, List.set_cons_zero, List.set_cons_succ]
       refine tk0 28 ⟨some 40, .indexAddr 29 (.tmp 38) (.tmp 39), 0, "ref.go:108", #[⟨26, .data⟩, ⟨27, .data⟩, ⟨25, .guard⟩], some (25, false)⟩ ?_
       try simp only [Act.put, List.setIfInBounds_toArray, List.set_cons_zero, List.set_cons_succ]
       refine tk0 29 ⟨some 41, .fieldAddr 38 (.tmp 40) 1, 0, "ref.go:108", #[⟨28, .data⟩, ⟨25, .guard⟩], some (25, false)⟩ ?_
       try simp only [Act.put, List.setIfInBounds_toArray, List.set_cons_zero, List.set_cons_succ]
       refine tk0 30 ⟨some 42, .load 5 (.tmp 41), 5, "ref.go:108", #[⟨29, .data⟩, ⟨25, .guard⟩], some (25, false)⟩ ?_
       try simp only [Act.put, List.setIfInBounds_toArray, List.set_cons_zero, List.set_cons_succ]
       refine tk0 31 ⟨some 43, .binOp .eql 5 (.tmp 42) (.const (.int .u8 1)) 5, 4, "ref.go:108", #[⟨30, .data⟩, ⟨25, .guard⟩], some (25, false)⟩ ?_
       try simp only [Act.put, List.setIfInBounds_toArray, List.set_cons_zero, List.set_cons_succ]
       refine tk0 32 ⟨some 44, .move (.tmp 43), 4, "ref.go:108", #[⟨31, .data⟩, ⟨25, .chain⟩, ⟨25, .guard⟩], some (25, false)⟩ ?_
       try simp only [Act.put, List.setIfInBounds_toArray, List.set_cons_zero, List.set_cons_succ]
       refine tk0 33 ⟨some 45, .move (.tmp 1), 29, "ref.go:108", #[⟨32, .guard⟩], some (32, true)⟩ ?_
       try simp only [Act.put, List.setIfInBounds_toArray, List.set_cons_zero, List.set_cons_succ]
       refine tk0 34 ⟨some 46, .move (.tmp 1), 29, "ref.go:108", #[⟨32, .guard⟩], some (32, true)⟩ ?_
       try simp only [Act.put, List.setIfInBounds_toArray, List.set_cons_zero, List.set_cons_succ]
       refine tk0 35 ⟨some 47, .move (.tmp 5), 3, "ref.go:108", #[⟨32, .guard⟩], some (32, true)⟩ ?_
       try simp only [Act.put, List.setIfInBounds_toArray, List.set_cons_zero, List.set_cons_succ]
       refine tk0 36 ⟨some 48, .indexAddr 29 (.tmp 46) (.tmp 47), 0, "ref.go:108", #[⟨34, .data⟩, ⟨35, .data⟩, ⟨32, .guard⟩], some (32, true)⟩ ?_
       try simp only [Act.put, List.setIfInBounds_toArray, List.set_cons_zero, List.set_cons_succ]
       refine tk0 37 ⟨some 49, .fieldAddr 38 (.tmp 48) 0, 0, "ref.go:108", #[⟨36, .data⟩, ⟨32, .guard⟩], some (32, true)⟩ ?_
       try simp only [Act.put, List.setIfInBounds_toArray, List.set_cons_zero, List.set_cons_succ]
       refine tk0 38 ⟨some 50, .load 35 (.tmp 49), 35, "ref.go:108", #[⟨37, .data⟩, ⟨32, .guard⟩], some (32, true)⟩ ?_
       try simp only [Act.put, List.setIfInBounds_toArray, List.set_cons_zero, List.set_cons_succ]
       refine wpAnyH_ready (rs := [39]) (by kernel_rfl) (by simp) ?_
       refine AllReadyH.cons (o := ⟨some 51, .call ⟨.value (.func 71), #[.tmp 45, .tmp 50], #[29, 35]⟩, 4, "ref.go:108", #[⟨33, .data⟩, ⟨38, .data⟩, ⟨32, .chain⟩, ⟨32, .guard⟩], some (32, true)⟩) rfl (fun K hK => ?_) AllReadyH.nil
       go_simp
       refine hK.out _ _ (by assumption) (fun hH => ?_)
       clear hHeld hK K
       have hHeld := hH
       clear hH
       try simp only [Act.put, List.setIfInBounds_toArray, List.set_cons_zero, List.set_cons_succ]
       refine tk0 40 ⟨some 52, .pick (.tmp 44) (.tmp 51) (.const (.bool false)), 4, "ref.go:108", #[⟨32, .data⟩, ⟨39, .data⟩, ⟨25, .guard⟩], some (25, false)⟩ ?_
       try simp only [Act.put, List.setIfInBounds_toArray, List.set_cons_zero, List.set_cons_succ]
       refine tk1 41 ⟨some 53, .pick (.tmp 37) (.const (.bool true)) (.tmp 52), 4, "ref.go:108", #[⟨25, .data⟩, ⟨40, .data⟩], none⟩ (by intro w hSw; (try dsimp only at hSw); go_simp <;> (with_reducible rfl)) ?_
       try simp only [Act.put, List.setIfInBounds_toArray, List.set_cons_zero, List.set_cons_succ]
       refine wpAnyH_done (by kernel_rfl) ?_ _
       refine NoPanic.normal ?_
       have HF : Hid (fromB c l = false) := Lib.hid (from_bad (by rw [HL.out.len]; exact hlt) (HOK.out))
       have HV := Lib.hid (HW.out.trans (bv.mono HW.out.size))
       go_wp2
       go_ret
       exact ⟨Ev.ret_bool HF.out.symm, HV.out⟩
     | true =>
       simp only [hg] at CG
       by_cases hk0 : k = 0
       · have HK0 := Lib.hid hk0
         have g0 : decide (0 < k) = false := decide_eq_false (by omega)
         have HOE : Hid (okB l k = (true && !(decide (y.kind = 1) && deadB l y.dot))) := Lib.hid (by subst hk0; rw [ok_first hly, hg])
         clear hg hk0
         cases hkd : decide (y.kind = 1) with
         | false =>
           have kq : ((q.kind : Int) == 1) = false := by rw [eq_one, hkind, hkd]
           have HOK : Hid (okB l (k) = true) := Lib.hid (by rw [HOE.out, hkd, Bool.false_and, Bool.not_false, Bool.and_true])
           clear CD hly hdot hkind hkd
           go_wp2_with fail
           refine wp_region_noPanic ?_
           refine wp_region_held_drew (S := fun V => V.cell? (ad.add (k * 7)) = some (.int .u16 (q.dev : Int)) ∧ V.cell? ⟨(ad.add (k * 7)).block, (ad.add (k * 7)).off + 1, none⟩ = some (.int .u64 (q.num : Int)) ∧ V.cell? ⟨(ad.add (k * 7)).block, (ad.add (k * 7)).off + 2, none⟩ = some (.int .u8 (q.kind : Int)) ∧ V.cell? ⟨(ad.add (k * 7)).block, (ad.add (k * 7)).off + 3, none⟩ = some (.int .u64 (q.cid : Int)) ∧ V.cell? ⟨(ad.add (k * 7)).block, (ad.add (k * 7)).off + 4, none⟩ = some (.int .u8 (q.fld : Int)) ∧ V.cell? ⟨(ad.add (k * 7)).block, (ad.add (k * 7)).off + 5, none⟩ = some (.string q.txt) ∧ V.cell? ⟨(ad.add (k * 7)).block, (ad.add (k * 7)).off + 6, none⟩ = some (.slice q.adr q.len q.cap)) (by kernel_rfl) (HXC.out _ (Ev.bel_drew (Below.refl _ _))) (fun hHeld => ?_)
           refine tk1 0 ⟨some 12, .move (.tmp 1), 29, "ref.go:108", #[], none⟩ (by intro w hSw; (try dsimp only at hSw); go_simp <;> (with_reducible rfl)) ?_
           try simp only [Act.put, List.setIfInBounds_toArray, List.set_cons_zero, List.set_cons_succ]
           refine tk1 1 ⟨some 13, .move (.tmp 5), 3, "ref.go:108", #[], none⟩ (by intro w hSw; (try dsimp only at hSw); go_simp <;> (with_reducible rfl)) ?_
           try simp only [Act.put, List.setIfInBounds_toArray, List.set_cons_zero, List.set_cons_succ]
           refine tk1 2 ⟨some 14, .indexAddr 29 (.tmp 12) (.tmp 13), 0, "ref.go:108", #[⟨0, .data⟩, ⟨1, .data⟩], none⟩ (by intro w hSw; (try dsimp only at hSw); go_simp <;> (with_reducible rfl)) ?_
           try simp only [Act.put, List.setIfInBounds_toArray, List.set_cons_zero, List.set_cons_succ]
           refine tk1 3 ⟨some 15, .load 38 (.tmp 14), 38, "ref.go:108", #[⟨2, .data⟩], none⟩ (by intro w hSw; (try dsimp only at hSw); go_simp <;> (with_reducible rfl)) ?_
           try simp only [Act.put, List.setIfInBounds_toArray, List.set_cons_zero, List.set_cons_succ]
           refine wpAnyH_ready (rs := [4]) (by kernel_rfl) (by simp) ?_
           refine AllReadyH.cons (o := ⟨some 16, .call ⟨.value (.func 39), #[.tmp 15], #[38]⟩, 4, "ref.go:108", #[⟨3, .data⟩], none⟩) rfl (fun K hK => ?_) AllReadyH.nil
           go_simp
           go_at_call 39; (with_reducible refine (CG _ ?_).mono ?_); (focus (repeat (first | exact Below.refl _ _ | assumption | apply Ev.bel_drew | apply Ev.bel_alloc))); rintro r V ⟨rfl, bv⟩; have hcV := HXC.out V bv
           refine hK.out _ _ (by assumption) (fun hH => ?_)
           clear hHeld hK K
           have hHeld := hH
           clear hH
           try simp only [Act.put, List.setIfInBounds_toArray, List.set_cons_zero, List.set_cons_succ]
           refine tk1 5 ⟨some 17, .unOp .not 4 (.tmp 16), 4, "ref.go:108", #[⟨4, .data⟩], none⟩ (by intro w hSw; (try dsimp only at hSw); go_simp <;> (with_reducible rfl)) ?_
           try simp only [Act.put, List.setIfInBounds_toArray, List.set_cons_zero, List.set_cons_succ]
           refine tk1 6 ⟨some 18, .move (.tmp 17), 4, "ref.go:108", #[⟨5, .data⟩, ⟨4, .chain⟩], none⟩ (by intro w hSw; (try dsimp only at hSw); go_simp <;> (with_reducible rfl)) ?_
           try simp only [Act.put, List.setIfInBounds_toArray, List.set_cons_zero, List.set_cons_succ]
           refine tk1 7 ⟨some 19, .move (.tmp 5), 3, "ref.go:108", #[⟨6, .guard⟩], some (6, false)⟩ (by intro w hSw; (try dsimp only at hSw); go_simp <;> (with_reducible rfl)) ?_
           try simp only [Act.put, List.setIfInBounds_toArray, List.set_cons_zero, List.set_cons_succ]
           refine tk1 8 ⟨some 20, .binOp .gtr 3 (.tmp 19) (.const (.int .i64 0)) 3, 4, "ref.go:108", #[⟨7, .data⟩, ⟨6, .guard⟩], some (6, false)⟩ (by intro w hSw; (try dsimp only at hSw); go_simp <;> (with_reducible rfl)) ?_
           try simp only [Act.put, List.setIfInBounds_toArray, List.set_cons_zero, List.set_cons_succ]
           refine tk1 9 ⟨some 21, .move (.tmp 20), 4, "ref.go:108", #[⟨8, .data⟩, ⟨6, .chain⟩, ⟨6, .guard⟩], some (6, false)⟩ (by intro w hSw; (try dsimp only at hSw); go_simp <;> (with_reducible rfl)) ?_
           try simp only [Act.put, List.setIfInBounds_toArray, List.set_cons_zero, List.set_cons_succ]
           refine tk0 10 ⟨some 22, .move (.tmp 1), 29, "ref.go:108", #[⟨9, .guard⟩], some (9, true)⟩ ?_
           try simp only [Act.put, List.setIfInBounds_toArray, List.set_cons_zero, List.set_cons_succ]
           refine tk0 11 ⟨some 23, .move (.tmp 5), 3, "ref.go:108", #[⟨9, .guard⟩], some (9, true)⟩ ?_
           try simp only [Act.put, List.setIfInBounds_toArray, List.set_cons_zero, List.set_cons_succ]
           refine tk0 12 ⟨some 24, .binOp .sub 3 (.tmp 23) (.const (.int .i64 1)) 3, 3, "ref.go:108", #[⟨11, .data⟩, ⟨9, .guard⟩], some (9, true)⟩ ?_
           try simp only [Act.put, List.setIfInBounds_toArray, List.set_cons_zero, List.set_cons_succ]
           refine tk0 13 ⟨some 25, .indexAddr 29 (.tmp 22) (.tmp 24), 0, "ref.go:108", #[⟨10, .data⟩, ⟨12, .data⟩, ⟨9, .guard⟩], some (9, true)⟩ ?_
           try simp only [Act.put, List.setIfInBounds_toArray, List.set_cons_zero, List.set_cons_succ]
           refine tk0 14 ⟨some 26, .fieldAddr 38 (.tmp 25) 0, 0, "ref.go:108", #[⟨13, .data⟩, ⟨9, .guard⟩], some (9, true)⟩ ?_
           try simp only [Act.put, List.setIfInBounds_toArray, List.set_cons_zero, List.set_cons_succ]
           refine tk0 15 ⟨some 27, .load 35 (.tmp 26), 35, "ref.go:108", #[⟨14, .data⟩, ⟨9, .guard⟩], some (9, true)⟩ ?_
           try simp only [Act.put, List.setIfInBounds_toArray, List.set_cons_zero, List.set_cons_succ]
           refine tk0 16 ⟨some 28, .move (.tmp 1), 29, "ref.go:108", #[⟨9, .guard⟩], some (9, true)⟩ ?_
           try simp only [Act.put, List.setIfInBounds_toArray, List.set_cons_zero, List.set_cons_succ]
           refine tk0 17 ⟨some 29, .move (.tmp 5), 3, "ref.go:108", #[⟨9, .guard⟩], some (9, true)⟩ ?_
           try simp only [Act.put, List.setIfInBounds_toArray, List.set_cons_zero, List.set_cons_succ]
           refine tk0 18 ⟨some 30, .indexAddr 29 (.tmp 28) (.tmp 29), 0, "ref.go:108", #[⟨16, .data⟩, ⟨17, .data⟩, ⟨9, .guard⟩], some (9, true)⟩ ?_
           try simp only [Act.put, List.setIfInBounds_toArray, List.set_cons_zero, List.set_cons_succ]
           refine tk0 19 ⟨some 31, .fieldAddr 38 (.tmp 30) 0, 0, "ref.go:108", #[⟨18, .data⟩, ⟨9, .guard⟩], some (9, true)⟩ ?_
           try simp only [Act.put, List.setIfInBounds_toArray, List.set_cons_zero, List.set_cons_succ]
           refine tk0 20 ⟨some 32, .load 35 (.tmp 31), 35, "ref.go:108", #[⟨19, .data⟩, ⟨9, .guard⟩], some (9, true)⟩ ?_
           try simp only [Act.put, List.setIfInBounds_toArray, List.set_cons_zero, List.set_cons_succ]
           refine wpAnyH_ready (rs := [21]) (by kernel_rfl) (by simp) ?_
           refine AllReadyH.cons (o := ⟨some 33, .call ⟨.value (.func 70), #[.tmp 27, .tmp 32], #[35, 35]⟩, 3, "ref.go:108", #[⟨15, .data⟩, ⟨20, .data⟩, ⟨9, .chain⟩, ⟨9, .guard⟩], some (9, true)⟩) rfl (fun K hK => ?_) AllReadyH.nil
           go_simp
           refine hK.out _ _ (by assumption) (fun hH => ?_)
           clear hHeld hK K
           have hHeld := hH
           clear hH
           try simp only [Act.put, List.setIfInBounds_toArray, List.set_cons_zero, List.set_cons_succ]
           refine tk0 22 ⟨some 34, .binOp .geq 3 (.tmp 33) (.const (.int .i64 0)) 3, 4, "ref.go:108", #[⟨21, .data⟩, ⟨9, .guard⟩], some (9, true)⟩ ?_
           try simp only [Act.put, List.setIfInBounds_toArray, List.set_cons_zero, List.set_cons_succ]
           refine tk1 23 ⟨some 35, .pick (.tmp 21) (.tmp 34) (.const (.bool false)), 4, "ref.go:108", #[⟨9, .data⟩, ⟨22, .data⟩, ⟨6, .guard⟩], some (6, false)⟩ (by intro w hSw; (try dsimp only at hSw); go_simp <;> (with_reducible rfl)) ?_
           try simp only [Act.put, List.setIfInBounds_toArray, List.set_cons_zero, List.set_cons_succ]
           refine tk1 24 ⟨some 36, .pick (.tmp 18) (.const (.bool true)) (.tmp 35), 4, "ref.go:108", #[⟨6, .data⟩, ⟨23, .data⟩], none⟩ (by intro w hSw; (try dsimp only at hSw); go_simp <;> (with_reducible rfl)) ?_
           try simp only [Act.put, List.setIfInBounds_toArray, List.set_cons_zero, List.set_cons_succ]
           refine tk1 25 ⟨some 37, .move (.tmp 36), 4, "ref.go:108", #[⟨24, .data⟩, ⟨21, .chain⟩], none⟩ (by intro w hSw; (try dsimp only at hSw); go_simp <;> (with_reducible rfl)) ?_
           try simp only [Act.put, List.setIfInBounds_toArray, List.set_cons_zero, List.set_cons_succ]
           refine tk1 26 ⟨some 38, .move (.tmp 1), 29, "ref.go:108", #[⟨25, .guard⟩], some (25, false)⟩ (by intro w hSw; (try dsimp only at hSw); go_simp <;> (with_reducible rfl)) ?_
           try simp only [Act.put, List.setIfInBounds_toArray, List.set_cons_zero, List.set_cons_succ]
           refine tk1 27 ⟨some 39, .move (.tmp 5), 3, "ref.go:108", #[⟨25, .guard⟩], some (25, false)⟩ (by intro w hSw; (try dsimp only at hSw); go_simp <;> (with_reducible rfl)) ?_
           try simp only [Act.put, List.setIfInBounds_toArray, List.set_cons_zero, List.set_cons_succ]
           refine tk1 28 ⟨some 40, .indexAddr 29 (.tmp 38) (.tmp 39), 0, "ref.go:108", #[⟨26, .data⟩, ⟨27, .data⟩, ⟨25, .guard⟩], some (25, false)⟩ (by intro w hSw; (try dsimp only at hSw); go_simp <;> (with_reducible rfl)) ?_
           try simp only [Act.put, List.setIfInBounds_toArray, List.set_cons_zero, List.set_cons_succ]
           refine tk1 29 ⟨some 41, .fieldAddr 38 (.tmp 40) 1, 0, "ref.go:108", #[⟨28, .data⟩, ⟨25, .guard⟩], some (25, false)⟩ (by intro w hSw; (try dsimp only at hSw); go_simp <;> (with_reducible rfl)) ?_
           try simp only [Act.put, List.setIfInBounds_toArray, List.set_cons_zero, List.set_cons_succ]
           refine tk1 30 ⟨some 42, .load 5 (.tmp 41), 5, "ref.go:108", #[⟨29, .data⟩, ⟨25, .guard⟩], some (25, false)⟩ (by intro w hSw; (try dsimp only at hSw); go_simp <;> (with_reducible rfl)) ?_
           try simp only [Act.put, List.setIfInBounds_toArray, List.set_cons_zero, List.set_cons_succ]
           refine tk1 31 ⟨some 43, .binOp .eql 5 (.tmp 42) (.const (.int .u8 1)) 5, 4, "ref.go:108", #[⟨30, .data⟩, ⟨25, .guard⟩], some (25, false)⟩ (by intro w hSw; (try dsimp only at hSw); go_simp <;> (with_reducible rfl)) ?_
           try simp only [Act.put, List.setIfInBounds_toArray, List.set_cons_zero, List.set_cons_succ]
           refine tk1 32 ⟨some 44, .move (.tmp 43), 4, "ref.go:108", #[⟨31, .data⟩, ⟨25, .chain⟩, ⟨25, .guard⟩], some (25, false)⟩ (by intro w hSw; (try dsimp only at hSw); go_simp <;> (with_reducible rfl)) ?_
           try simp only [Act.put, List.setIfInBounds_toArray, List.set_cons_zero, List.set_cons_succ]
           refine tk0 33 ⟨some 45, .move (.tmp 1), 29, "ref.go:108", #[⟨32, .guard⟩], some (32, true)⟩ ?_
           try simp only [Act.put, List.setIfInBounds_toArray, List.set_cons_zero, List.set_cons_succ]
           refine tk0 34 ⟨some 46, .move (.tmp 1), 29, "ref.go:108", #[⟨32, .guard⟩], some (32, true)⟩ ?_
           try simp only [Act.put, List.setIfInBounds_toArray, List.set_cons_zero, List.set_cons_succ]
           refine tk0 35 ⟨some 47, .move (.tmp 5), 3, "ref.go:108", #[⟨32, .guard⟩], some (32, true)⟩ ?_
           try simp only [Act.put, List.setIfInBounds_toArray, List.set_cons_zero, List.set_cons_succ]
           refine tk0 36 ⟨some 48, .indexAddr 29 (.tmp 46) (.tmp 47), 0, "ref.go:108", #[⟨34, .data⟩, ⟨35, .data⟩, ⟨32, .guard⟩], some (32, true)⟩ ?_
           try simp only [Act.put, List.setIfInBounds_toArray, List.set_cons_zero, List.set_cons_succ]
           refine tk0 37 ⟨some 49, .fieldAddr 38 (.tmp 48) 0, 0, "ref.go:108", #[⟨36, .data⟩, ⟨32, .guard⟩], some (32, true)⟩ ?_
           try simp only [Act.put, List.setIfInBounds_toArray, List.set_cons_zero, List.set_cons_succ]
           refine tk0 38 ⟨some 50, .load 35 (.tmp 49), 35, "ref.go:108", #[⟨37, .data⟩, ⟨32, .guard⟩], some (32, true)⟩ ?_
           try simp only [Act.put, List.setIfInBounds_toArray, List.set_cons_zero, List.set_cons_succ]
           refine wpAnyH_ready (rs := [39]) (by kernel_rfl) (by simp) ?_
           refine AllReadyH.cons (o := ⟨some 51, .call ⟨.value (.func 71), #[.tmp 45, .tmp 50], #[29, 35]⟩, 4, "ref.go:108", #[⟨33, .data⟩, ⟨38, .data⟩, ⟨32, .chain⟩, ⟨32, .guard⟩], some (32, true)⟩) rfl (fun K hK => ?_) AllReadyH.nil
           go_simp
           refine hK.out _ _ (by assumption) (fun hH => ?_)
           clear hHeld hK K
           have hHeld := hH
           clear hH
           try simp only [Act.put, List.setIfInBounds_toArray, List.set_cons_zero, List.set_cons_succ]
           refine tk1 40 ⟨some 52, .pick (.tmp 44) (.tmp 51) (.const (.bool false)), 4, "ref.go:108", #[⟨32, .data⟩, ⟨39, .data⟩, ⟨25, .guard⟩], some (25, false)⟩ (by intro w hSw; (try dsimp only at hSw); go_simp <;> (with_reducible rfl)) ?_
           try simp only [Act.put, List.setIfInBounds_toArray, List.set_cons_zero, List.set_cons_succ]
           refine tk1 41 ⟨some 53, .pick (.tmp 37) (.const (.bool true)) (.tmp 52), 4, "ref.go:108", #[⟨25, .data⟩, ⟨40, .data⟩], none⟩ (by intro w hSw; (try dsimp only at hSw); go_simp <;> (with_reducible rfl)) ?_
           try simp only [Act.put, List.setIfInBounds_toArray, List.set_cons_zero, List.set_cons_succ]
           refine wpAnyH_done (by kernel_rfl) ?_ _
           refine NoPanic.normal ?_
           have HT2 : Hid (∀ i, i < k + 1 → okB l i = true) := Lib.hid (fun i hi => (Nat.lt_or_ge i (k)).elim (fun h => HT.out i h) (fun h => by obtain rfl : i = k := (by omega); exact (HOK.out)))
           have HV := Lib.hid (HW.out.trans (bv.mono HW.out.size))
           go_wp2
           go_roundw
           case rel => exact ⟨k + 1, by omega, by go_num, HT2.out, HV.out⟩
           case measure => simp [intOf]; omega
         | true =>
           have kq : ((q.kind : Int) == 1) = true := by rw [eq_one, hkind, hkd]
           have HOD : Hid (okB l (k) = !deadB l y.dot) := Lib.hid (by rw [HOE.out, hkd, Bool.true_and, Bool.true_and])
           obtain ⟨b, hb⟩ : ∃ b, deadB l y.dot = b := ⟨_, rfl⟩
           simp only [hb] at CD
           rw [hb] at HOD
           clear hly hdot hkind hkd hb
           go_wp2_with fail
           refine wp_region_noPanic ?_
           refine wp_region_held_drew (S := fun V => V.cell? (ad.add (k * 7)) = some (.int .u16 (q.dev : Int)) ∧ V.cell? ⟨(ad.add (k * 7)).block, (ad.add (k * 7)).off + 1, none⟩ = some (.int .u64 (q.num : Int)) ∧ V.cell? ⟨(ad.add (k * 7)).block, (ad.add (k * 7)).off + 2, none⟩ = some (.int .u8 (q.kind : Int)) ∧ V.cell? ⟨(ad.add (k * 7)).block, (ad.add (k * 7)).off + 3, none⟩ = some (.int .u64 (q.cid : Int)) ∧ V.cell? ⟨(ad.add (k * 7)).block, (ad.add (k * 7)).off + 4, none⟩ = some (.int .u8 (q.fld : Int)) ∧ V.cell? ⟨(ad.add (k * 7)).block, (ad.add (k * 7)).off + 5, none⟩ = some (.string q.txt) ∧ V.cell? ⟨(ad.add (k * 7)).block, (ad.add (k * 7)).off + 6, none⟩ = some (.slice q.adr q.len q.cap)) (by kernel_rfl) (HXC.out _ (Ev.bel_drew (Below.refl _ _))) (fun hHeld => ?_)
           refine tk1 0 ⟨some 12, .move (.tmp 1), 29, "ref.go:108", #[], none⟩ (by intro w hSw; (try dsimp only at hSw); go_simp <;> (with_reducible rfl)) ?_
           try simp only [Act.put, List.setIfInBounds_toArray, List.set_cons_zero, List.set_cons_succ]
           refine tk1 1 ⟨some 13, .move (.tmp 5), 3, "ref.go:108", #[], none⟩ (by intro w hSw; (try dsimp only at hSw); go_simp <;> (with_reducible rfl)) ?_
           try simp only [Act.put, List.setIfInBounds_toArray, List.set_cons_zero, List.set_cons_succ]
           refine tk1 2 ⟨some 14, .indexAddr 29 (.tmp 12) (.tmp 13), 0, "ref.go:108", #[⟨0, .data⟩, ⟨1, .data⟩], none⟩ (by intro w hSw; (try dsimp only at hSw); go_simp <;> (with_reducible rfl)) ?_
           try simp only [Act.put, List.setIfInBounds_toArray, List.set_cons_zero, List.set_cons_succ]
           refine tk1 3 ⟨some 15, .load 38 (.tmp 14), 38, "ref.go:108", #[⟨2, .data⟩], none⟩ (by intro w hSw; (try dsimp only at hSw); go_simp <;> (with_reducible rfl)) ?_
           try simp only [Act.put, List.setIfInBounds_toArray, List.set_cons_zero, List.set_cons_succ]
           refine wpAnyH_ready (rs := [4]) (by kernel_rfl) (by simp) ?_
           refine AllReadyH.cons (o := ⟨some 16, .call ⟨.value (.func 39), #[.tmp 15], #[38]⟩, 4, "ref.go:108", #[⟨3, .data⟩], none⟩) rfl (fun K hK => ?_) AllReadyH.nil
           go_simp
           go_at_call 39; (with_reducible refine (CG _ ?_).mono ?_); (focus (repeat (first | exact Below.refl _ _ | assumption | apply Ev.bel_drew | apply Ev.bel_alloc))); rintro r V ⟨rfl, bv⟩; have hcV := HXC.out V bv
           refine hK.out _ _ (by assumption) (fun hH => ?_)
           clear hHeld hK K
           have hHeld := hH
           clear hH
           try simp only [Act.put, List.setIfInBounds_toArray, List.set_cons_zero, List.set_cons_succ]
           refine tk1 5 ⟨some 17, .unOp .not 4 (.tmp 16), 4, "ref.go:108", #[⟨4, .data⟩], none⟩ (by intro w hSw; (try dsimp only at hSw); go_simp <;> (with_reducible rfl)) ?_
           try simp only [Act.put, List.setIfInBounds_toArray, List.set_cons_zero, List.set_cons_succ]
           refine tk1 6 ⟨some 18, .move (.tmp 17), 4, "ref.go:108", #[⟨5, .data⟩, ⟨4, .chain⟩], none⟩ (by intro w hSw; (try dsimp only at hSw); go_simp <;> (with_reducible rfl)) ?_
           try simp only [Act.put, List.setIfInBounds_toArray, List.set_cons_zero, List.set_cons_succ]
           refine tk1 7 ⟨some 19, .move (.tmp 5), 3, "ref.go:108", #[⟨6, .guard⟩], some (6, false)⟩ (by intro w hSw; (try dsimp only at hSw); go_simp <;> (with_reducible rfl)) ?_
           try simp only [Act.put, List.setIfInBounds_toArray, List.set_cons_zero, List.set_cons_succ]
           refine tk1 8 ⟨some 20, .binOp .gtr 3 (.tmp 19) (.const (.int .i64 0)) 3, 4, "ref.go:108", #[⟨7, .data⟩, ⟨6, .guard⟩], some (6, false)⟩ (by intro w hSw; (try dsimp only at hSw); go_simp <;> (with_reducible rfl)) ?_
           try simp only [Act.put, List.setIfInBounds_toArray, List.set_cons_zero, List.set_cons_succ]
           refine tk1 9 ⟨some 21, .move (.tmp 20), 4, "ref.go:108", #[⟨8, .data⟩, ⟨6, .chain⟩, ⟨6, .guard⟩], some (6, false)⟩ (by intro w hSw; (try dsimp only at hSw); go_simp <;> (with_reducible rfl)) ?_
           try simp only [Act.put, List.setIfInBounds_toArray, List.set_cons_zero, List.set_cons_succ]
           refine tk0 10 ⟨some 22, .move (.tmp 1), 29, "ref.go:108", #[⟨9, .guard⟩], some (9, true)⟩ ?_
           try simp only [Act.put, List.setIfInBounds_toArray, List.set_cons_zero, List.set_cons_succ]
           refine tk0 11 ⟨some 23, .move (.tmp 5), 3, "ref.go:108", #[⟨9, .guard⟩], some (9, true)⟩ ?_
           try simp only [Act.put, List.setIfInBounds_toArray, List.set_cons_zero, List.set_cons_succ]
           refine tk0 12 ⟨some 24, .binOp .sub 3 (.tmp 23) (.const (.int .i64 1)) 3, 3, "ref.go:108", #[⟨11, .data⟩, ⟨9, .guard⟩], some (9, true)⟩ ?_
           try simp only [Act.put, List.setIfInBounds_toArray, List.set_cons_zero, List.set_cons_succ]
           refine tk0 13 ⟨some 25, .indexAddr 29 (.tmp 22) (.tmp 24), 0, "ref.go:108", #[⟨10, .data⟩, ⟨12, .data⟩, ⟨9, .guard⟩], some (9, true)⟩ ?_
           try simp only [Act.put, List.setIfInBounds_toArray, List.set_cons_zero, List.set_cons_succ]
           refine tk0 14 ⟨some 26, .fieldAddr 38 (.tmp 25) 0, 0, "ref.go:108", #[⟨13, .data⟩, ⟨9, .guard⟩], some (9, true)⟩ ?_
           try simp only [Act.put, List.setIfInBounds_toArray, List.set_cons_zero, List.set_cons_succ]
           refine tk0 15 ⟨some 27, .load 35 (.tmp 26), 35, "ref.go:108", #[⟨14, .data⟩, ⟨9, .guard⟩], some (9, true)⟩ ?_
           try simp only [Act.put, List.setIfInBounds_toArray, List.set_cons_zero, List.set_cons_succ]
           refine tk0 16 ⟨some 28, .move (.tmp 1), 29, "ref.go:108", #[⟨9, .guard⟩], some (9, true)⟩ ?_
           try simp only [Act.put, List.setIfInBounds_toArray, List.set_cons_zero, List.set_cons_succ]
           refine tk0 17 ⟨some 29, .move (.tmp 5), 3, "ref.go:108", #[⟨9, .guard⟩], some (9, true)⟩ ?_
           try simp only [Act.put, List.setIfInBounds_toArray, List.set_cons_zero, List.set_cons_succ]
           refine tk0 18 ⟨some 30, .indexAddr 29 (.tmp 28) (.tmp 29), 0, "ref.go:108", #[⟨16, .data⟩, ⟨17, .data⟩, ⟨9, .guard⟩], some (9, true)⟩ ?_
           try simp only [Act.put, List.setIfInBounds_toArray, List.set_cons_zero, List.set_cons_succ]
           refine tk0 19 ⟨some 31, .fieldAddr 38 (.tmp 30) 0, 0, "ref.go:108", #[⟨18, .data⟩, ⟨9, .guard⟩], some (9, true)⟩ ?_
           try simp only [Act.put, List.setIfInBounds_toArray, List.set_cons_zero, List.set_cons_succ]
           refine tk0 20 ⟨some 32, .load 35 (.tmp 31), 35, "ref.go:108", #[⟨19, .data⟩, ⟨9, .guard⟩], some (9, true)⟩ ?_
           try simp only [Act.put, List.setIfInBounds_toArray, List.set_cons_zero, List.set_cons_succ]
           refine wpAnyH_ready (rs := [21]) (by kernel_rfl) (by simp) ?_
           refine AllReadyH.cons (o := ⟨some 33, .call ⟨.value (.func 70), #[.tmp 27, .tmp 32], #[35, 35]⟩, 3, "ref.go:108", #[⟨15, .data⟩, ⟨20, .data⟩, ⟨9, .chain⟩, ⟨9, .guard⟩], some (9, true)⟩) rfl (fun K hK => ?_) AllReadyH.nil
           go_simp
           refine hK.out _ _ (by assumption) (fun hH => ?_)
           clear hHeld hK K
           have hHeld := hH
           clear hH
           try simp only [Act.put, List.setIfInBounds_toArray, List.set_cons_zero, List.set_cons_succ]
           refine tk0 22 ⟨some 34, .binOp .geq 3 (.tmp 33) (.const (.int .i64 0)) 3, 4, "ref.go:108", #[⟨21, .data⟩, ⟨9, .guard⟩], some (9, true)⟩ ?_
           try simp only [Act.put, List.setIfInBounds_toArray, List.set_cons_zero, List.set_cons_succ]
           refine tk1 23 ⟨some 35, .pick (.tmp 21) (.tmp 34) (.const (.bool false)), 4, "ref.go:108", #[⟨9, .data⟩, ⟨22, .data⟩, ⟨6, .guard⟩], some (6, false)⟩ (by intro w hSw; (try dsimp only at hSw); go_simp <;> (with_reducible rfl)) ?_
           try simp only [Act.put, List.setIfInBounds_toArray, List.set_cons_zero, List.set_cons_succ]
           refine tk1 24 ⟨some 36, .pick (.tmp 18) (.const (.bool true)) (.tmp 35), 4, "ref.go:108", #[⟨6, .data⟩, ⟨23, .data⟩], none⟩ (by intro w hSw; (try dsimp only at hSw); go_simp <;> (with_reducible rfl)) ?_
           try simp only [Act.put, List.setIfInBounds_toArray, List.set_cons_zero, List.set_cons_succ]
           refine tk1 25 ⟨some 37, .move (.tmp 36), 4, "ref.go:108", #[⟨24, .data⟩, ⟨21, .chain⟩], none⟩ (by intro w hSw; (try dsimp only at hSw); go_simp <;> (with_reducible rfl)) ?_
           try simp only [Act.put, List.setIfInBounds_toArray, List.set_cons_zero, List.set_cons_succ]
           refine tk1 26 ⟨some 38, .move (.tmp 1), 29, "ref.go:108", #[⟨25, .guard⟩], some (25, false)⟩ (by intro w hSw; (try dsimp only at hSw); go_simp <;> (with_reducible rfl)) ?_
           try simp only [Act.put, List.setIfInBounds_toArray, List.set_cons_zero, List.set_cons_succ]
           refine tk1 27 ⟨some 39, .move (.tmp 5), 3, "ref.go:108", #[⟨25, .guard⟩], some (25, false)⟩ (by intro w hSw; (try dsimp only at hSw); go_simp <;> (with_reducible rfl)) ?_
           try simp only [Act.put, List.setIfInBounds_toArray, List.set_cons_zero, List.set_cons_succ]
           refine tk1 28 ⟨some 40, .indexAddr 29 (.tmp 38) (.tmp 39), 0, "ref.go:108", #[⟨26, .data⟩, ⟨27, .data⟩, ⟨25, .guard⟩], some (25, false)⟩ (by intro w hSw; (try dsimp only at hSw); go_simp <;> (with_reducible rfl)) ?_
           try simp only [Act.put, List.setIfInBounds_toArray, List.set_cons_zero, List.set_cons_succ]
           refine tk1 29 ⟨some 41, .fieldAddr 38 (.tmp 40) 1, 0, "ref.go:108", #[⟨28, .data⟩, ⟨25, .guard⟩], some (25, false)⟩ (by intro w hSw; (try dsimp only at hSw); go_simp <;> (with_reducible rfl)) ?_
           try simp only [Act.put, List.setIfInBounds_toArray, List.set_cons_zero, List.set_cons_succ]
           refine tk1 30 ⟨some 42, .load 5 (.tmp 41), 5, "ref.go:108", #[⟨29, .data⟩, ⟨25, .guard⟩], some (25, false)⟩ (by intro w hSw; (try dsimp only at hSw); go_simp <;> (with_reducible rfl)) ?_
           try simp only [Act.put, List.setIfInBounds_toArray, List.set_cons_zero, List.set_cons_succ]
           refine tk1 31 ⟨some 43, .binOp .eql 5 (.tmp 42) (.const (.int .u8 1)) 5, 4, "ref.go:108", #[⟨30, .data⟩, ⟨25, .guard⟩], some (25, false)⟩ (by intro w hSw; (try dsimp only at hSw); go_simp <;> (with_reducible rfl)) ?_
           try simp only [Act.put, List.setIfInBounds_toArray, List.set_cons_zero, List.set_cons_succ]
           refine tk1 32 ⟨some 44, .move (.tmp 43), 4, "ref.go:108", #[⟨31, .data⟩, ⟨25, .chain⟩, ⟨25, .guard⟩], some (25, false)⟩ (by intro w hSw; (try dsimp only at hSw); go_simp <;> (with_reducible rfl)) ?_
           try simp only [Act.put, List.setIfInBounds_toArray, List.set_cons_zero, List.set_cons_succ]
           refine tk1 33 ⟨some 45, .move (.tmp 1), 29, "ref.go:108", #[⟨32, .guard⟩], some (32, true)⟩ (by intro w hSw; (try dsimp only at hSw); go_simp <;> (with_reducible rfl)) ?_
           try simp only [Act.put, List.setIfInBounds_toArray, List.set_cons_zero, List.set_cons_succ]
           refine tk1 34 ⟨some 46, .move (.tmp 1), 29, "ref.go:108", #[⟨32, .guard⟩], some (32, true)⟩ (by intro w hSw; (try dsimp only at hSw); go_simp <;> (with_reducible rfl)) ?_
           try simp only [Act.put, List.setIfInBounds_toArray, List.set_cons_zero, List.set_cons_succ]
           refine tk1 35 ⟨some 47, .move (.tmp 5), 3, "ref.go:108", #[⟨32, .guard⟩], some (32, true)⟩ (by intro w hSw; (try dsimp only at hSw); go_simp <;> (with_reducible rfl)) ?_
           try simp only [Act.put, List.setIfInBounds_toArray, List.set_cons_zero, List.set_cons_succ]
           refine tk1 36 ⟨some 48, .indexAddr 29 (.tmp 46) (.tmp 47), 0, "ref.go:108", #[⟨34, .data⟩, ⟨35, .data⟩, ⟨32, .guard⟩], some (32, true)⟩ (by intro w hSw; (try dsimp only at hSw); go_simp <;> (with_reducible rfl)) ?_
           try simp only [Act.put, List.setIfInBounds_toArray, List.set_cons_zero, List.set_cons_succ]
           refine tk1 37 ⟨some 49, .fieldAddr 38 (.tmp 48) 0, 0, "ref.go:108", #[⟨36, .data⟩, ⟨32, .guard⟩], some (32, true)⟩ (by intro w hSw; (try dsimp only at hSw); go_simp <;> (with_reducible rfl)) ?_
           try simp only [Act.put, List.setIfInBounds_toArray, List.set_cons_zero, List.set_cons_succ]
           refine tk1 38 ⟨some 50, .load 35 (.tmp 49), 35, "ref.go:108", #[⟨37, .data⟩, ⟨32, .guard⟩], some (32, true)⟩ (by intro w hSw; (try dsimp only at hSw); go_simp <;> (with_reducible rfl)) ?_
           try simp only [Act.put, List.setIfInBounds_toArray, List.set_cons_zero, List.set_cons_succ]
           refine wpAnyH_ready (rs := [39]) (by kernel_rfl) (by simp) ?_
           refine AllReadyH.cons (o := ⟨some 51, .call ⟨.value (.func 71), #[.tmp 45, .tmp 50], #[29, 35]⟩, 4, "ref.go:108", #[⟨33, .data⟩, ⟨38, .data⟩, ⟨32, .chain⟩, ⟨32, .guard⟩], some (32, true)⟩) rfl (fun K hK => ?_) AllReadyH.nil
           go_simp
           go_at_call 71; (with_reducible refine (CD _ bv).mono ?_); rintro r V3 ⟨rfl, bv3⟩; have hcV3 := HXC.out V3 bv3
           refine hK.out _ _ (by assumption) (fun hH => ?_)
           clear hHeld hK K
           have hHeld := hH
           clear hH
           try simp only [Act.put, List.setIfInBounds_toArray, List.set_cons_zero, List.set_cons_succ]
           refine tk1 40 ⟨some 52, .pick (.tmp 44) (.tmp 51) (.const (.bool false)), 4, "ref.go:108", #[⟨32, .data⟩, ⟨39, .data⟩, ⟨25, .guard⟩], some (25, false)⟩ (by intro w hSw; (try dsimp only at hSw); go_simp <;> (with_reducible rfl)) ?_
           try simp only [Act.put, List.setIfInBounds_toArray, List.set_cons_zero, List.set_cons_succ]
           refine tk1 41 ⟨some 53, .pick (.tmp 37) (.const (.bool true)) (.tmp 52), 4, "ref.go:108", #[⟨25, .data⟩, ⟨40, .data⟩], none⟩ (by intro w hSw; (try dsimp only at hSw); go_simp <;> (with_reducible rfl)) ?_
           try simp only [Act.put, List.setIfInBounds_toArray, List.set_cons_zero, List.set_cons_succ]
           refine wpAnyH_done (by kernel_rfl) ?_ _
           refine NoPanic.normal ?_
           cases b with
           | true =>
             have HF : Hid (fromB c l = false) := Lib.hid (from_bad (by rw [HL.out.len]; exact hlt) (HOD.out))
             have HV := Lib.hid (HW.out.trans (bv3.mono HW.out.size))
             go_wp2
             go_ret
             exact ⟨Ev.ret_bool HF.out.symm, HV.out⟩
           | false =>
             have HT2 : Hid (∀ i, i < k + 1 → okB l i = true) := Lib.hid (fun i hi => (Nat.lt_or_ge i (k)).elim (fun h => HT.out i h) (fun h => by obtain rfl : i = k := (by omega); exact (HOD.out)))
             have HV := Lib.hid (HW.out.trans (bv3.mono HW.out.size))
             go_wp2
             go_roundw
             case rel => exact ⟨k + 1, by omega, by go_num, HT2.out, HV.out⟩
             case measure => simp [intOf]; omega
       · obtain ⟨j, rfl⟩ : ∃ j, k = j + 1 := ⟨k - 1, by omega⟩
         obtain ⟨ad2, p, x, hae, hB2, hlx, hp, cp⟩ := (HL.out.up HW.out).at_ (show j < n2 by omega)
         obtain rfl := Option.some.inj hae
         have HOE : Hid (okB l (j + 1) = (!decide (Dt.cmpD x.dot y.dot ≥ 0) && !(decide (y.kind = 1) && deadB l y.dot))) := Lib.hid (by rw [ok_next hly hlx, hg, Bool.true_and])
         have hdp := Ev.is_dot hp
         have CC := fun W (hW : Below wr.heap.size wr W) => Dt.rcmp_later wr W (p.dev, p.num) (q.dev, q.num) hW
         have hcm : Dt.cmpD (p.dev, p.num) (q.dev, q.num) = Dt.cmpD x.dot y.dot := by rw [hdot, hdp]
         simp only [hcm] at CC
         have HXB := HXC
         clear HXC
         have HXC : Hid (∀ V, Below wr.heap.size wr V → V.cell? (ad.add ((j + 1) * 7)) = some (.int .u16 (q.dev : Int)) ∧ V.cell? ⟨(ad.add ((j + 1) * 7)).block, (ad.add ((j + 1) * 7)).off + 1, none⟩ = some (.int .u64 (q.num : Int)) ∧ V.cell? ⟨(ad.add ((j + 1) * 7)).block, (ad.add ((j + 1) * 7)).off + 2, none⟩ = some (.int .u8 (q.kind : Int)) ∧ V.cell? ⟨(ad.add ((j + 1) * 7)).block, (ad.add ((j + 1) * 7)).off + 3, none⟩ = some (.int .u64 (q.cid : Int)) ∧ V.cell? ⟨(ad.add ((j + 1) * 7)).block, (ad.add ((j + 1) * 7)).off + 4, none⟩ = some (.int .u8 (q.fld : Int)) ∧ V.cell? ⟨(ad.add ((j + 1) * 7)).block, (ad.add ((j + 1) * 7)).off + 5, none⟩ = some (.string q.txt) ∧ V.cell? ⟨(ad.add ((j + 1) * 7)).block, (ad.add ((j + 1) * 7)).off + 6, none⟩ = some (.slice q.adr q.len q.cap) ∧ V.cell? (ad.add (j * 7)) = some (.int .u16 (p.dev : Int)) ∧ V.cell? ⟨(ad.add (j * 7)).block, (ad.add (j * 7)).off + 1, none⟩ = some (.int .u64 (p.num : Int))) := Lib.hid (fun V hV => by
           have h := HCQ.out.kept hV
           have h2 := cp.kept hV
           exact ⟨h.c0, h.c1, h.c2, h.c3, h.c4, h.c5, h.c6, h2.c0, h2.c1⟩)
         have g0 : decide ((0 : Int) < (j : Int) + 1) = true := decide_eq_true (by omega)
         have s1 : IntKind.i64.wrap ((j : Int) + 1 - 1) = (j : Int) := by rw [IntWalk.i64_in _ (by omega)]; omega
         have s0 : IntKind.i64.wrap (j : Int) = (j : Int) := IntWalk.i64_in _ (by omega)
         have s2 : (0 : Int) ≤ (j : Int) + 1 := by omega
         have s3 : (0 : Int) ≤ (j : Int) := by omega
         have s4 : ((j : Int) + 1).toNat = j + 1 := by omega
         have s5 : (j : Int) < (n2 : Int) := by omega
         have s6 : (j : Int) + 1 < (n2 : Int) := by omega
         clear hg hlx hp cp hdp hcm HXB HCQ hk0
         cases hz : decide (0 ≤ Dt.cmpD x.dot y.dot) with
         | true =>
           have HOK : Hid (okB l (j + 1) = false) := Lib.hid (by rw [HOE.out, show decide (Dt.cmpD x.dot y.dot ≥ 0) = true from hz]; rfl)
           clear CD hly hdot hkind
           go_wp2_with fail
           refine wp_region_noPanic ?_
           refine wp_region_held_drew (S := fun V => V.cell? (ad.add ((j + 1) * 7)) = some (.int .u16 (q.dev : Int)) ∧ V.cell? ⟨(ad.add ((j + 1) * 7)).block, (ad.add ((j + 1) * 7)).off + 1, none⟩ = some (.int .u64 (q.num : Int)) ∧ V.cell? ⟨(ad.add ((j + 1) * 7)).block, (ad.add ((j + 1) * 7)).off + 2, none⟩ = some (.int .u8 (q.kind : Int)) ∧ V.cell? ⟨(ad.add ((j + 1) * 7)).block, (ad.add ((j + 1) * 7)).off + 3, none⟩ = some (.int .u64 (q.cid : Int)) ∧ V.cell? ⟨(ad.add ((j + 1) * 7)).block, (ad.add ((j + 1) * 7)).off + 4, none⟩ = some (.int .u8 (q.fld : Int)) ∧ V.cell? ⟨(ad.add ((j + 1) * 7)).block, (ad.add ((j + 1) * 7)).off + 5, none⟩ = some (.string q.txt) ∧ V.cell? ⟨(ad.add ((j + 1) * 7)).block, (ad.add ((j + 1) * 7)).off + 6, none⟩ = some (.slice q.adr q.len q.cap) ∧ V.cell? (ad.add (j * 7)) = some (.int .u16 (p.dev : Int)) ∧ V.cell? ⟨(ad.add (j * 7)).block, (ad.add (j * 7)).off + 1, none⟩ = some (.int .u64 (p.num : Int))) (by kernel_rfl) (HXC.out _ (Ev.bel_drew (Below.refl _ _))) (fun hHeld => ?_)
           refine tk1 0 ⟨some 12, .move (.tmp 1), 29, "ref.go:108", #[], none⟩ (by intro w hSw; (try dsimp only at hSw); go_simp <;> (with_reducible rfl)) ?_
           try simp only [Act.put, List.setIfInBounds_toArray, List.set_cons_zero, List.set_cons_succ]
           refine tk1 1 ⟨some 13, .move (.tmp 5), 3, "ref.go:108", #[], none⟩ (by intro w hSw; (try dsimp only at hSw); go_simp <;> (with_reducible rfl)) ?_
           try simp only [Act.put, List.setIfInBounds_toArray, List.set_cons_zero, List.set_cons_succ]
           refine tk1 2 ⟨some 14, .indexAddr 29 (.tmp 12) (.tmp 13), 0, "ref.go:108", #[⟨0, .data⟩, ⟨1, .data⟩], none⟩ (by intro w hSw; (try dsimp only at hSw); go_simp <;> (with_reducible rfl)) ?_
           try simp only [Act.put, List.setIfInBounds_toArray, List.set_cons_zero, List.set_cons_succ]
           refine tk1 3 ⟨some 15, .load 38 (.tmp 14), 38, "ref.go:108", #[⟨2, .data⟩], none⟩ (by intro w hSw; (try dsimp only at hSw); go_simp <;> (with_reducible rfl)) ?_
           try simp only [Act.put, List.setIfInBounds_toArray, List.set_cons_zero, List.set_cons_succ]
           refine wpAnyH_ready (rs := [4]) (by kernel_rfl) (by simp) ?_
           refine AllReadyH.cons (o := ⟨some 16, .call ⟨.value (.func 39), #[.tmp 15], #[38]⟩, 4, "ref.go:108", #[⟨3, .data⟩], none⟩) rfl (fun K hK => ?_) AllReadyH.nil
           go_simp
           go_at_call 39; (with_reducible refine (CG _ ?_).mono ?_); (focus (repeat (first | exact Below.refl _ _ | assumption | apply Ev.bel_drew | apply Ev.bel_alloc))); rintro r V ⟨rfl, bv⟩; have hcV := HXC.out V bv
           refine hK.out _ _ (by assumption) (fun hH => ?_)
           clear hHeld hK K
           have hHeld := hH
           clear hH
           try simp only [Act.put, List.setIfInBounds_toArray, List.set_cons_zero, List.set_cons_succ]
           refine tk1 5 ⟨some 17, .unOp .not 4 (.tmp 16), 4, "ref.go:108", #[⟨4, .data⟩], none⟩ (by intro w hSw; (try dsimp only at hSw); go_simp <;> (with_reducible rfl)) ?_
           try simp only [Act.put, List.setIfInBounds_toArray, List.set_cons_zero, List.set_cons_succ]
           refine tk1 6 ⟨some 18, .move (.tmp 17), 4, "ref.go:108", #[⟨5, .data⟩, ⟨4, .chain⟩], none⟩ (by intro w hSw; (try dsimp only at hSw); go_simp <;> (with_reducible rfl)) ?_
           try simp only [Act.put, List.setIfInBounds_toArray, List.set_cons_zero, List.set_cons_succ]
           refine tk1 7 ⟨some 19, .move (.tmp 5), 3, "ref.go:108", #[⟨6, .guard⟩], some (6, false)⟩ (by intro w hSw; (try dsimp only at hSw); go_simp <;> (with_reducible rfl)) ?_
           try simp only [Act.put, List.setIfInBounds_toArray, List.set_cons_zero, List.set_cons_succ]
           refine tk1 8 ⟨some 20, .binOp .gtr 3 (.tmp 19) (.const (.int .i64 0)) 3, 4, "ref.go:108", #[⟨7, .data⟩, ⟨6, .guard⟩], some (6, false)⟩ (by intro w hSw; (try dsimp only at hSw); go_simp <;> (with_reducible rfl)) ?_
           try simp only [Act.put, List.setIfInBounds_toArray, List.set_cons_zero, List.set_cons_succ]
           refine tk1 9 ⟨some 21, .move (.tmp 20), 4, "ref.go:108", #[⟨8, .data⟩, ⟨6, .chain⟩, ⟨6, .guard⟩], some (6, false)⟩ (by intro w hSw; (try dsimp only at hSw); go_simp <;> (with_reducible rfl)) ?_
           try simp only [Act.put, List.setIfInBounds_toArray, List.set_cons_zero, List.set_cons_succ]
           refine tk1 10 ⟨some 22, .move (.tmp 1), 29, "ref.go:108", #[⟨9, .guard⟩], some (9, true)⟩ (by intro w hSw; (try dsimp only at hSw); go_simp <;> (with_reducible rfl)) ?_
           try simp only [Act.put, List.setIfInBounds_toArray, List.set_cons_zero, List.set_cons_succ]
           refine tk1 11 ⟨some 23, .move (.tmp 5), 3, "ref.go:108", #[⟨9, .guard⟩], some (9, true)⟩ (by intro w hSw; (try dsimp only at hSw); go_simp <;> (with_reducible rfl)) ?_
           try simp only [Act.put, List.setIfInBounds_toArray, List.set_cons_zero, List.set_cons_succ]
           refine tk1 12 ⟨some 24, .binOp .sub 3 (.tmp 23) (.const (.int .i64 1)) 3, 3, "ref.go:108", #[⟨11, .data⟩, ⟨9, .guard⟩], some (9, true)⟩ (by intro w hSw; (try dsimp only at hSw); go_simp <;> (with_reducible rfl)) ?_
           try simp only [Act.put, List.setIfInBounds_toArray, List.set_cons_zero, List.set_cons_succ]
           refine tk1 13 ⟨some 25, .indexAddr 29 (.tmp 22) (.tmp 24), 0, "ref.go:108", #[⟨10, .data⟩, ⟨12, .data⟩, ⟨9, .guard⟩], some (9, true)⟩ (by intro w hSw; (try dsimp only at hSw); go_simp <;> (with_reducible rfl)) ?_
           try simp only [Act.put, List.setIfInBounds_toArray, List.set_cons_zero, List.set_cons_succ]
           refine tk1 14 ⟨some 26, .fieldAddr 38 (.tmp 25) 0, 0, "ref.go:108", #[⟨13, .data⟩, ⟨9, .guard⟩], some (9, true)⟩ (by intro w hSw; (try dsimp only at hSw); go_simp <;> (with_reducible rfl)) ?_
           try simp only [Act.put, List.setIfInBounds_toArray, List.set_cons_zero, List.set_cons_succ]
           refine tk1 15 ⟨some 27, .load 35 (.tmp 26), 35, "ref.go:108", #[⟨14, .data⟩, ⟨9, .guard⟩], some (9, true)⟩ (by intro w hSw; (try dsimp only at hSw); go_simp <;> (with_reducible rfl)) ?_
           try simp only [Act.put, List.setIfInBounds_toArray, List.set_cons_zero, List.set_cons_succ]
           refine tk1 16 ⟨some 28, .move (.tmp 1), 29, "ref.go:108", #[⟨9, .guard⟩], some (9, true)⟩ (by intro w hSw; (try dsimp only at hSw); go_simp <;> (with_reducible rfl)) ?_
           try simp only [Act.put, List.setIfInBounds_toArray, List.set_cons_zero, List.set_cons_succ]
           refine tk1 17 ⟨some 29, .move (.tmp 5), 3, "ref.go:108", #[⟨9, .guard⟩], some (9, true)⟩ (by intro w hSw; (try dsimp only at hSw); go_simp <;> (with_reducible rfl)) ?_
           try simp only [Act.put, List.setIfInBounds_toArray, List.set_cons_zero, List.set_cons_succ]
           refine tk1 18 ⟨some 30, .indexAddr 29 (.tmp 28) (.tmp 29), 0, "ref.go:108", #[⟨16, .data⟩, ⟨17, .data⟩, ⟨9, .guard⟩], some (9, true)⟩ (by intro w hSw; (try dsimp only at hSw); go_simp <;> (with_reducible rfl)) ?_
           try simp only [Act.put, List.setIfInBounds_toArray, List.set_cons_zero, List.set_cons_succ]
           refine tk1 19 ⟨some 31, .fieldAddr 38 (.tmp 30) 0, 0, "ref.go:108", #[⟨18, .data⟩, ⟨9, .guard⟩], some (9, true)⟩ (by intro w hSw; (try dsimp only at hSw); go_simp <;> (with_reducible rfl)) ?_
           try simp only [Act.put, List.setIfInBounds_toArray, List.set_cons_zero, List.set_cons_succ]
           refine tk1 20 ⟨some 32, .load 35 (.tmp 31), 35, "ref.go:108", #[⟨19, .data⟩, ⟨9, .guard⟩], some (9, true)⟩ (by intro w hSw; (try dsimp only at hSw); go_simp <;> (with_reducible rfl)) ?_
           try simp only [Act.put, List.setIfInBounds_toArray, List.set_cons_zero, List.set_cons_succ]
           refine wpAnyH_ready (rs := [21]) (by kernel_rfl) (by simp) ?_
           refine AllReadyH.cons (o := ⟨some 33, .call ⟨.value (.func 70), #[.tmp 27, .tmp 32], #[35, 35]⟩, 3, "ref.go:108", #[⟨15, .data⟩, ⟨20, .data⟩, ⟨9, .chain⟩, ⟨9, .guard⟩], some (9, true)⟩) rfl (fun K hK => ?_) AllReadyH.nil
           go_simp
           go_at_call 70; (with_reducible refine (CC _ bv).mono ?_); rintro r V2 ⟨rfl, bv2⟩; have hcV2 := HXC.out V2 bv2
           refine hK.out _ _ (by assumption) (fun hH => ?_)
           clear hHeld hK K
           have hHeld := hH
           clear hH
           try simp only [Act.put, List.setIfInBounds_toArray, List.set_cons_zero, List.set_cons_succ]
           refine tk1 22 ⟨some 34, .binOp .geq 3 (.tmp 33) (.const (.int .i64 0)) 3, 4, "ref.go:108", #[⟨21, .data⟩, ⟨9, .guard⟩], some (9, true)⟩ (by intro w hSw; (try dsimp only at hSw); go_simp <;> (with_reducible rfl)) ?_
           try simp only [Act.put, List.setIfInBounds_toArray, List.set_cons_zero, List.set_cons_succ]
           refine tk1 23 ⟨some 35, .pick (.tmp 21) (.tmp 34) (.const (.bool false)), 4, "ref.go:108", #[⟨9, .data⟩, ⟨22, .data⟩, ⟨6, .guard⟩], some (6, false)⟩ (by intro w hSw; (try dsimp only at hSw); go_simp <;> (with_reducible rfl)) ?_
           try simp only [Act.put, List.setIfInBounds_toArray, List.set_cons_zero, List.set_cons_succ]
           refine tk1 24 ⟨some 36, .pick (.tmp 18) (.const (.bool true)) (.tmp 35), 4, "ref.go:108", #[⟨6, .data⟩, ⟨23, .data⟩], none⟩ (by intro w hSw; (try dsimp only at hSw); go_simp <;> (with_reducible rfl)) ?_
           try simp only [Act.put, List.setIfInBounds_toArray, List.set_cons_zero, List.set_cons_succ]
           refine tk1 25 ⟨some 37, .move (.tmp 36), 4, "ref.go:108", #[⟨24, .data⟩, ⟨21, .chain⟩], none⟩ (by intro w hSw; (try dsimp only at hSw); go_simp <;> (with_reducible rfl)) ?_
           try simp only [Act.put, List.setIfInBounds_toArray, List.set_cons_zero, List.set_cons_succ]
           refine tk0 26 ⟨some 38, .move (.tmp 1), 29, "ref.go:108", #[⟨25, .guard⟩], some (25, false)⟩ ?_
           try simp only [Act.put, List.setIfInBounds_toArray, List.set_cons_zero, List.set_cons_succ]
           refine tk0 27 ⟨some 39, .move (.tmp 5), 3, "ref.go:108", #[⟨25, .guard⟩], some (25, false)⟩ ?_
           try simp only [Act.put, List.setIfInBounds_toArray, List.set_cons_zero, List.set_cons_succ]
           refine tk0 28 ⟨some 40, .indexAddr 29 (.tmp 38) (.tmp 39), 0, "ref.go:108", #[⟨26, .data⟩, ⟨27, .data⟩, ⟨25, .guard⟩], some (25, false)⟩ ?_
           try simp only [Act.put, List.setIfInBounds_toArray, List.set_cons_zero, List.set_cons_succ]
           refine tk0 29 ⟨some 41, .fieldAddr 38 (.tmp 40) 1, 0, "ref.go:108", #[⟨28, .data⟩, ⟨25, .guard⟩], some (25, false)⟩ ?_
           try simp only [Act.put, List.setIfInBounds_toArray, List.set_cons_zero, List.set_cons_succ]
           refine tk0 30 ⟨some 42, .load 5 (.tmp 41), 5, "ref.go:108", #[⟨29, .data⟩, ⟨25, .guard⟩], some (25, false)⟩ ?_
           try simp only [Act.put, List.setIfInBounds_toArray, List.set_cons_zero, List.set_cons_succ]
           refine tk0 31 ⟨some 43, .binOp .eql 5 (.tmp 42) (.const (.int .u8 1)) 5, 4, "ref.go:108", #[⟨30, .data⟩, ⟨25, .guard⟩], some (25, false)⟩ ?_
           try simp only [Act.put, List.setIfInBounds_toArray, List.set_cons_zero, List.set_cons_succ]
           refine tk0 32 ⟨some 44, .move (.tmp 43), 4, "ref.go:108", #[⟨31, .data⟩, ⟨25, .chain⟩, ⟨25, .guard⟩], some (25, false)⟩ ?_
           try simp only [Act.put, List.setIfInBounds_toArray, List.set_cons_zero, List.set_cons_succ]
           refine tk0 33 ⟨some 45, .move (.tmp 1), 29, "ref.go:108", #[⟨32, .guard⟩], some (32, true)⟩ ?_
           try simp only [Act.put, List.setIfInBounds_toArray, List.set_cons_zero, List.set_cons_succ]
           refine tk0 34 ⟨some 46, .move (.tmp 1), 29, "ref.go:108", #[⟨32, .guard⟩], some (32, true)⟩ ?_
           try simp only [Act.put, List.setIfInBounds_toArray, List.set_cons_zero, List.set_cons_succ]
           refine tk0 35 ⟨some 47, .move (.tmp 5), 3, "ref.go:108", #[⟨32, .guard⟩], some (32, true)⟩ ?_
           try simp only [Act.put, List.setIfInBounds_toArray, List.set_cons_zero, List.set_cons_succ]
           refine tk0 36 ⟨some 48, .indexAddr 29 (.tmp 46) (.tmp 47), 0, "ref.go:108", #[⟨34, .data⟩, ⟨35, .data⟩, ⟨32, .guard⟩], some (32, true)⟩ ?_
           try simp only [Act.put, List.setIfInBounds_toArray, List.set_cons_zero, List.set_cons_succ]
           refine tk0 37 ⟨some 49, .fieldAddr 38 (.tmp 48) 0, 0, "ref.go:108", #[⟨36, .data⟩, ⟨32, .guard⟩], some (32, true)⟩ ?_
           try simp only [Act.put, List.setIfInBounds_toArray, List.set_cons_zero, List.set_cons_succ]
           refine tk0 38 ⟨some 50, .load 35 (.tmp 49), 35, "ref.go:108", #[⟨37, .data⟩, ⟨32, .guard⟩], some (32, true)⟩ ?_
           try simp only [Act.put, List.setIfInBounds_toArray, List.set_cons_zero, List.set_cons_succ]
           refine wpAnyH_ready (rs := [39]) (by kernel_rfl) (by simp) ?_
           refine AllReadyH.cons (o := ⟨some 51, .call ⟨.value (.func 71), #[.tmp 45, .tmp 50], #[29, 35]⟩, 4, "ref.go:108", #[⟨33, .data⟩, ⟨38, .data⟩, ⟨32, .chain⟩, ⟨32, .guard⟩], some (32, true)⟩) rfl (fun K hK => ?_) AllReadyH.nil
           go_simp
           refine hK.out _ _ (by assumption) (fun hH => ?_)
           clear hHeld hK K
           have hHeld := hH
           clear hH
           try simp only [Act.put, List.setIfInBounds_toArray, List.set_cons_zero, List.set_cons_succ]
           refine tk0 40 ⟨some 52, .pick (.tmp 44) (.tmp 51) (.const (.bool false)), 4, "ref.go:108", #[⟨32, .data⟩, ⟨39, .data⟩, ⟨25, .guard⟩], some (25, false)⟩ ?_
           try simp only [Act.put, List.setIfInBounds_toArray, List.set_cons_zero, List.set_cons_succ]
           refine tk1 41 ⟨some 53, .pick (.tmp 37) (.const (.bool true)) (.tmp 52), 4, "ref.go:108", #[⟨25, .data⟩, ⟨40, .data⟩], none⟩ (by intro w hSw; (try dsimp only at hSw); go_simp <;> (with_reducible rfl)) ?_
           try simp only [Act.put, List.setIfInBounds_toArray, List.set_cons_zero, List.set_cons_succ]
           refine wpAnyH_done (by kernel_rfl) ?_ _
           refine NoPanic.normal ?_
           have HF : Hid (fromB c l = false) := Lib.hid (from_bad (by rw [HL.out.len]; exact hlt) (HOK.out))
           have HV := Lib.hid (HW.out.trans (bv2.mono HW.out.size))
           go_wp2
           go_ret
           exact ⟨Ev.ret_bool HF.out.symm, HV.out⟩
         | false =>
           have HOE2 := HOE
           clear HOE
           have HOE : Hid (okB l (j + 1) = (true && !(decide (y.kind = 1) && deadB l y.dot))) := Lib.hid (by rw [HOE2.out, show decide (Dt.cmpD x.dot y.dot ≥ 0) = false from hz]; rfl)
           clear HOE2
           cases hkd : decide (y.kind = 1) with
           | false =>
             have kq : ((q.kind : Int) == 1) = false := by rw [eq_one, hkind, hkd]
             have HOK : Hid (okB l ((j + 1)) = true) := Lib.hid (by rw [HOE.out, hkd, Bool.false_and, Bool.not_false, Bool.and_true])
             clear CD hly hdot hkind hkd
             go_wp2_with fail
             refine wp_region_noPanic ?_
             refine wp_region_held_drew (S := fun V => V.cell? (ad.add ((j + 1) * 7)) = some (.int .u16 (q.dev : Int)) ∧ V.cell? ⟨(ad.add ((j + 1) * 7)).block, (ad.add ((j + 1) * 7)).off + 1, none⟩ = some (.int .u64 (q.num : Int)) ∧ V.cell? ⟨(ad.add ((j + 1) * 7)).block, (ad.add ((j + 1) * 7)).off + 2, none⟩ = some (.int .u8 (q.kind : Int)) ∧ V.cell? ⟨(ad.add ((j + 1) * 7)).block, (ad.add ((j + 1) * 7)).off + 3, none⟩ = some (.int .u64 (q.cid : Int)) ∧ V.cell? ⟨(ad.add ((j + 1) * 7)).block, (ad.add ((j + 1) * 7)).off + 4, none⟩ = some (.int .u8 (q.fld : Int)) ∧ V.cell? ⟨(ad.add ((j + 1) * 7)).block, (ad.add ((j + 1) * 7)).off + 5, none⟩ = some (.string q.txt) ∧ V.cell? ⟨(ad.add ((j + 1) * 7)).block, (ad.add ((j + 1) * 7)).off + 6, none⟩ = some (.slice q.adr q.len q.cap) ∧ V.cell? (ad.add (j * 7)) = some (.int .u16 (p.dev : Int)) ∧ V.cell? ⟨(ad.add (j * 7)).block, (ad.add (j * 7)).off + 1, none⟩ = some (.int .u64 (p.num : Int))) (by kernel_rfl) (HXC.out _ (Ev.bel_drew (Below.refl _ _))) (fun hHeld => ?_)
             refine tk1 0 ⟨some 12, .move (.tmp 1), 29, "ref.go:108", #[], none⟩ (by intro w hSw; (try dsimp only at hSw); go_simp <;> (with_reducible rfl)) ?_
             try simp only [Act.put, List.setIfInBounds_toArray, List.set_cons_zero, List.set_cons_succ]
             refine tk1 1 ⟨some 13, .move (.tmp 5), 3, "ref.go:108", #[], none⟩ (by intro w hSw; (try dsimp only at hSw); go_simp <;> (with_reducible rfl)) ?_
             try simp only [Act.put, List.setIfInBounds_toArray, List.set_cons_zero, List.set_cons_succ]
             refine tk1 2 ⟨some 14, .indexAddr 29 (.tmp 12) (.tmp 13), 0, "ref.go:108", #[⟨0, .data⟩, ⟨1, .data⟩], none⟩ (by intro w hSw; (try dsimp only at hSw); go_simp <;> (with_reducible rfl)) ?_
             try simp only [Act.put, List.setIfInBounds_toArray, List.set_cons_zero, List.set_cons_succ]
             refine tk1 3 ⟨some 15, .load 38 (.tmp 14), 38, "ref.go:108", #[⟨2, .data⟩], none⟩ (by intro w hSw; (try dsimp only at hSw); go_simp <;> (with_reducible rfl)) ?_
             try simp only [Act.put, List.setIfInBounds_toArray, List.set_cons_zero, List.set_cons_succ]
             refine wpAnyH_ready (rs := [4]) (by kernel_rfl) (by simp) ?_
             refine AllReadyH.cons (o := ⟨some 16, .call ⟨.value (.func 39), #[.tmp 15], #[38]⟩, 4, "ref.go:108", #[⟨3, .data⟩], none⟩) rfl (fun K hK => ?_) AllReadyH.nil
             go_simp
             go_at_call 39; (with_reducible refine (CG _ ?_).mono ?_); (focus (repeat (first | exact Below.refl _ _ | assumption | apply Ev.bel_drew | apply Ev.bel_alloc))); rintro r V ⟨rfl, bv⟩; have hcV := HXC.out V bv
             refine hK.out _ _ (by assumption) (fun hH => ?_)
             clear hHeld hK K
             have hHeld := hH
             clear hH
             try simp only [Act.put, List.setIfInBounds_toArray, List.set_cons_zero, List.set_cons_succ]
             refine tk1 5 ⟨some 17, .unOp .not 4 (.tmp 16), 4, "ref.go:108", #[⟨4, .data⟩], none⟩ (by intro w hSw; (try dsimp only at hSw); go_simp <;> (with_reducible rfl)) ?_
             try simp only [Act.put, List.setIfInBounds_toArray, List.set_cons_zero, List.set_cons_succ]
             refine tk1 6 ⟨some 18, .move (.tmp 17), 4, "ref.go:108", #[⟨5, .data⟩, ⟨4, .chain⟩], none⟩ (by intro w hSw; (try dsimp only at hSw); go_simp <;> (with_reducible rfl)) ?_
             try simp only [Act.put, List.setIfInBounds_toArray, List.set_cons_zero, List.set_cons_succ]
             refine tk1 7 ⟨some 19, .move (.tmp 5), 3, "ref.go:108", #[⟨6, .guard⟩], some (6, false)⟩ (by intro w hSw; (try dsimp only at hSw); go_simp <;> (with_reducible rfl)) ?_
             try simp only [Act.put, List.setIfInBounds_toArray, List.set_cons_zero, List.set_cons_succ]
             refine tk1 8 ⟨some 20, .binOp .gtr 3 (.tmp 19) (.const (.int .i64 0)) 3, 4, "ref.go:108", #[⟨7, .data⟩, ⟨6, .guard⟩], some (6, false)⟩ (by intro w hSw; (try dsimp only at hSw); go_simp <;> (with_reducible rfl)) ?_
             try simp only [Act.put, List.setIfInBounds_toArray, List.set_cons_zero, List.set_cons_succ]
             refine tk1 9 ⟨some 21, .move (.tmp 20), 4, "ref.go:108", #[⟨8, .data⟩, ⟨6, .chain⟩, ⟨6, .guard⟩], some (6, false)⟩ (by intro w hSw; (try dsimp only at hSw); go_simp <;> (with_reducible rfl)) ?_
             try simp only [Act.put, List.setIfInBounds_toArray, List.set_cons_zero, List.set_cons_succ]
             refine tk1 10 ⟨some 22, .move (.tmp 1), 29, "ref.go:108", #[⟨9, .guard⟩], some (9, true)⟩ (by intro w hSw; (try dsimp only at hSw); go_simp <;> (with_reducible rfl)) ?_
             try simp only [Act.put, List.setIfInBounds_toArray, List.set_cons_zero, List.set_cons_succ]
             refine tk1 11 ⟨some 23, .move (.tmp 5), 3, "ref.go:108", #[⟨9, .guard⟩], some (9, true)⟩ (by intro w hSw; (try dsimp only at hSw); go_simp <;> (with_reducible rfl)) ?_
             try simp only [Act.put, List.setIfInBounds_toArray, List.set_cons_zero, List.set_cons_succ]
             refine tk1 12 ⟨some 24, .binOp .sub 3 (.tmp 23) (.const (.int .i64 1)) 3, 3, "ref.go:108", #[⟨11, .data⟩, ⟨9, .guard⟩], some (9, true)⟩ (by intro w hSw; (try dsimp only at hSw); go_simp <;> (with_reducible rfl)) ?_
             try simp only [Act.put, List.setIfInBounds_toArray, List.set_cons_zero, List.set_cons_succ]
             refine tk1 13 ⟨some 25, .indexAddr 29 (.tmp 22) (.tmp 24), 0, "ref.go:108", #[⟨10, .data⟩, ⟨12, .data⟩, ⟨9, .guard⟩], some (9, true)⟩ (by intro w hSw; (try dsimp only at hSw); go_simp <;> (with_reducible rfl)) ?_
             try simp only [Act.put, List.setIfInBounds_toArray, List.set_cons_zero, List.set_cons_succ]
             refine tk1 14 ⟨some 26, .fieldAddr 38 (.tmp 25) 0, 0, "ref.go:108", #[⟨13, .data⟩, ⟨9, .guard⟩], some (9, true)⟩ (by intro w hSw; (try dsimp only at hSw); go_simp <;> (with_reducible rfl)) ?_
             try simp only [Act.put, List.setIfInBounds_toArray, List.set_cons_zero, List.set_cons_succ]
             refine tk1 15 ⟨some 27, .load 35 (.tmp 26), 35, "ref.go:108", #[⟨14, .data⟩, ⟨9, .guard⟩], some (9, true)⟩ (by intro w hSw; (try dsimp only at hSw); go_simp <;> (with_reducible rfl)) ?_
             try simp only [Act.put, List.setIfInBounds_toArray, List.set_cons_zero, List.set_cons_succ]
             refine tk1 16 ⟨some 28, .move (.tmp 1), 29, "ref.go:108", #[⟨9, .guard⟩], some (9, true)⟩ (by intro w hSw; (try dsimp only at hSw); go_simp <;> (with_reducible rfl)) ?_
             try simp only [Act.put, List.setIfInBounds_toArray, List.set_cons_zero, List.set_cons_succ]
             refine tk1 17 ⟨some 29, .move (.tmp 5), 3, "ref.go:108", #[⟨9, .guard⟩], some (9, true)⟩ (by intro w hSw; (try dsimp only at hSw); go_simp <;> (with_reducible rfl)) ?_
             try simp only [Act.put, List.setIfInBounds_toArray, List.set_cons_zero, List.set_cons_succ]
             refine tk1 18 ⟨some 30, .indexAddr 29 (.tmp 28) (.tmp 29), 0, "ref.go:108", #[⟨16, .data⟩, ⟨17, .data⟩, ⟨9, .guard⟩], some (9, true)⟩ (by intro w hSw; (try dsimp only at hSw); go_simp <;> (with_reducible rfl)) ?_
             try simp only [Act.put, List.setIfInBounds_toArray, List.set_cons_zero, List.set_cons_succ]
             refine tk1 19 ⟨some 31, .fieldAddr 38 (.tmp 30) 0, 0, "ref.go:108", #[⟨18, .data⟩, ⟨9, .guard⟩], some (9, true)⟩ (by intro w hSw; (try dsimp only at hSw); go_simp <;> (with_reducible rfl)) ?_
             try simp only [Act.put, List.setIfInBounds_toArray, List.set_cons_zero, List.set_cons_succ]
             refine tk1 20 ⟨some 32, .load 35 (.tmp 31), 35, "ref.go:108", #[⟨19, .data⟩, ⟨9, .guard⟩], some (9, true)⟩ (by intro w hSw; (try dsimp only at hSw); go_simp <;> (with_reducible rfl)) ?_
             try simp only [Act.put, List.setIfInBounds_toArray, List.set_cons_zero, List.set_cons_succ]
             refine wpAnyH_ready (rs := [21]) (by kernel_rfl) (by simp) ?_
             refine AllReadyH.cons (o := ⟨some 33, .call ⟨.value (.func 70), #[.tmp 27, .tmp 32], #[35, 35]⟩, 3, "ref.go:108", #[⟨15, .data⟩, ⟨20, .data⟩, ⟨9, .chain⟩, ⟨9, .guard⟩], some (9, true)⟩) rfl (fun K hK => ?_) AllReadyH.nil
             go_simp
             go_at_call 70; (with_reducible refine (CC _ bv).mono ?_); rintro r V2 ⟨rfl, bv2⟩; have hcV2 := HXC.out V2 bv2
             refine hK.out _ _ (by assumption) (fun hH => ?_)
             clear hHeld hK K
             have hHeld := hH
             clear hH
             try simp only [Act.put, List.setIfInBounds_toArray, List.set_cons_zero, List.set_cons_succ]
             refine tk1 22 ⟨some 34, .binOp .geq 3 (.tmp 33) (.const (.int .i64 0)) 3, 4, "ref.go:108", #[⟨21, .data⟩, ⟨9, .guard⟩], some (9, true)⟩ (by intro w hSw; (try dsimp only at hSw); go_simp <;> (with_reducible rfl)) ?_
             try simp only [Act.put, List.setIfInBounds_toArray, List.set_cons_zero, List.set_cons_succ]
             refine tk1 23 ⟨some 35, .pick (.tmp 21) (.tmp 34) (.const (.bool false)), 4, "ref.go:108", #[⟨9, .data⟩, ⟨22, .data⟩, ⟨6, .guard⟩], some (6, false)⟩ (by intro w hSw; (try dsimp only at hSw); go_simp <;> (with_reducible rfl)) ?_
             try simp only [Act.put, List.setIfInBounds_toArray, List.set_cons_zero, List.set_cons_succ]
             refine tk1 24 ⟨some 36, .pick (.tmp 18) (.const (.bool true)) (.tmp 35), 4, "ref.go:108", #[⟨6, .data⟩, ⟨23, .data⟩], none⟩ (by intro w hSw; (try dsimp only at hSw); go_simp <;> (with_reducible rfl)) ?_
             try simp only [Act.put, List.setIfInBounds_toArray, List.set_cons_zero, List.set_cons_succ]
             refine tk1 25 ⟨some 37, .move (.tmp 36), 4, "ref.go:108", #[⟨24, .data⟩, ⟨21, .chain⟩], none⟩ (by intro w hSw; (try dsimp only at hSw); go_simp <;> (with_reducible rfl)) ?_
             try simp only [Act.put, List.setIfInBounds_toArray, List.set_cons_zero, List.set_cons_succ]
             refine tk1 26 ⟨some 38, .move (.tmp 1), 29, "ref.go:108", #[⟨25, .guard⟩], some (25, false)⟩ (by intro w hSw; (try dsimp only at hSw); go_simp <;> (with_reducible rfl)) ?_
             try simp only [Act.put, List.setIfInBounds_toArray, List.set_cons_zero, List.set_cons_succ]
             refine tk1 27 ⟨some 39, .move (.tmp 5), 3, "ref.go:108", #[⟨25, .guard⟩], some (25, false)⟩ (by intro w hSw; (try dsimp only at hSw); go_simp <;> (with_reducible rfl)) ?_
             try simp only [Act.put, List.setIfInBounds_toArray, List.set_cons_zero, List.set_cons_succ]
             refine tk1 28 ⟨some 40, .indexAddr 29 (.tmp 38) (.tmp 39), 0, "ref.go:108", #[⟨26, .data⟩, ⟨27, .data⟩, ⟨25, .guard⟩], some (25, false)⟩ (by intro w hSw; (try dsimp only at hSw); go_simp <;> (with_reducible rfl)) ?_
             try simp only [Act.put, List.setIfInBounds_toArray, List.set_cons_zero, List.set_cons_succ]
             refine tk1 29 ⟨some 41, .fieldAddr 38 (.tmp 40) 1, 0, "ref.go:108", #[⟨28, .data⟩, ⟨25, .guard⟩], some (25, false)⟩ (by intro w hSw; (try dsimp only at hSw); go_simp <;> (with_reducible rfl)) ?_
             try simp only [Act.put, List.setIfInBounds_toArray, List.set_cons_zero, List.set_cons_succ]
             refine tk1 30 ⟨some 42, .load 5 (.tmp 41), 5, "ref.go:108", #[⟨29, .data⟩, ⟨25, .guard⟩], some (25, false)⟩ (by intro w hSw; (try dsimp only at hSw); go_simp <;> (with_reducible rfl)) ?_
             try simp only [Act.put, List.setIfInBounds_toArray, List.set_cons_zero, List.set_cons_succ]
             refine tk1 31 ⟨some 43, .binOp .eql 5 (.tmp 42) (.const (.int .u8 1)) 5, 4, "ref.go:108", #[⟨30, .data⟩, ⟨25, .guard⟩], some (25, false)⟩ (by intro w hSw; (try dsimp only at hSw); go_simp <;> (with_reducible rfl)) ?_
             try simp only [Act.put, List.setIfInBounds_toArray, List.set_cons_zero, List.set_cons_succ]
             refine tk1 32 ⟨some 44, .move (.tmp 43), 4, "ref.go:108", #[⟨31, .data⟩, ⟨25, .chain⟩, ⟨25, .guard⟩], some (25, false)⟩ (by intro w hSw; (try dsimp only at hSw); go_simp <;> (with_reducible rfl)) ?_
             try simp only [Act.put, List.setIfInBounds_toArray, List.set_cons_zero, List.set_cons_succ]
             refine tk0 33 ⟨some 45, .move (.tmp 1), 29, "ref.go:108", #[⟨32, .guard⟩], some (32, true)⟩ ?_
             try simp only [Act.put, List.setIfInBounds_toArray, List.set_cons_zero, List.set_cons_succ]
             refine tk0 34 ⟨some 46, .move (.tmp 1), 29, "ref.go:108", #[⟨32, .guard⟩], some (32, true)⟩ ?_
             try simp only [Act.put, List.setIfInBounds_toArray, List.set_cons_zero, List.set_cons_succ]
             refine tk0 35 ⟨some 47, .move (.tmp 5), 3, "ref.go:108", #[⟨32, .guard⟩], some (32, true)⟩ ?_
             try simp only [Act.put, List.setIfInBounds_toArray, List.set_cons_zero, List.set_cons_succ]
             refine tk0 36 ⟨some 48, .indexAddr 29 (.tmp 46) (.tmp 47), 0, "ref.go:108", #[⟨34, .data⟩, ⟨35, .data⟩, ⟨32, .guard⟩], some (32, true)⟩ ?_
             try simp only [Act.put, List.setIfInBounds_toArray, List.set_cons_zero, List.set_cons_succ]
             refine tk0 37 ⟨some 49, .fieldAddr 38 (.tmp 48) 0, 0, "ref.go:108", #[⟨36, .data⟩, ⟨32, .guard⟩], some (32, true)⟩ ?_
             try simp only [Act.put, List.setIfInBounds_toArray, List.set_cons_zero, List.set_cons_succ]
             refine tk0 38 ⟨some 50, .load 35 (.tmp 49), 35, "ref.go:108", #[⟨37, .data⟩, ⟨32, .guard⟩], some (32, true)⟩ ?_
             try simp only [Act.put, List.setIfInBounds_toArray, List.set_cons_zero, List.set_cons_succ]
             refine wpAnyH_ready (rs := [39]) (by kernel_rfl) (by simp) ?_
             refine AllReadyH.cons (o := ⟨some 51, .call ⟨.value (.func 71), #[.tmp 45, .tmp 50], #[29, 35]⟩, 4, "ref.go:108", #[⟨33, .data⟩, ⟨38, .data⟩, ⟨32, .chain⟩, ⟨32, .guard⟩], some (32, true)⟩) rfl (fun K hK => ?_) AllReadyH.nil
             go_simp
             refine hK.out _ _ (by assumption) (fun hH => ?_)
             clear hHeld hK K
             have hHeld := hH
             clear hH
             try simp only [Act.put, List.setIfInBounds_toArray, List.set_cons_zero, List.set_cons_succ]
             refine tk1 40 ⟨some 52, .pick (.tmp 44) (.tmp 51) (.const (.bool false)), 4, "ref.go:108", #[⟨32, .data⟩, ⟨39, .data⟩, ⟨25, .guard⟩], some (25, false)⟩ (by intro w hSw; (try dsimp only at hSw); go_simp <;> (with_reducible rfl)) ?_
             try simp only [Act.put, List.setIfInBounds_toArray, List.set_cons_zero, List.set_cons_succ]
             refine tk1 41 ⟨some 53, .pick (.tmp 37) (.const (.bool true)) (.tmp 52), 4, "ref.go:108", #[⟨25, .data⟩, ⟨40, .data⟩], none⟩ (by intro w hSw; (try dsimp only at hSw); go_simp <;> (with_reducible rfl)) ?_
             try simp only [Act.put, List.setIfInBounds_toArray, List.set_cons_zero, List.set_cons_succ]
             refine wpAnyH_done (by kernel_rfl) ?_ _
             refine NoPanic.normal ?_
             have HT2 : Hid (∀ i, i < (j + 1) + 1 → okB l i = true) := Lib.hid (fun i hi => (Nat.lt_or_ge i ((j + 1))).elim (fun h => HT.out i h) (fun h => by obtain rfl : i = (j + 1) := (by omega); exact (HOK.out)))
             have HV := Lib.hid (HW.out.trans (bv2.mono HW.out.size))
             go_wp2
             go_roundw
             case rel => exact ⟨(j + 1) + 1, by omega, by go_num, HT2.out, HV.out⟩
             case measure => simp [intOf]; omega
           | true =>
             have kq : ((q.kind : Int) == 1) = true := by rw [eq_one, hkind, hkd]
             have HOD : Hid (okB l ((j + 1)) = !deadB l y.dot) := Lib.hid (by rw [HOE.out, hkd, Bool.true_and, Bool.true_and])
             obtain ⟨b, hb⟩ : ∃ b, deadB l y.dot = b := ⟨_, rfl⟩
             simp only [hb] at CD
             rw [hb] at HOD
             clear hly hdot hkind hkd hb
             go_wp2_with fail
             refine wp_region_noPanic ?_
             refine wp_region_held_drew (S := fun V => V.cell? (ad.add ((j + 1) * 7)) = some (.int .u16 (q.dev : Int)) ∧ V.cell? ⟨(ad.add ((j + 1) * 7)).block, (ad.add ((j + 1) * 7)).off + 1, none⟩ = some (.int .u64 (q.num : Int)) ∧ V.cell? ⟨(ad.add ((j + 1) * 7)).block, (ad.add ((j + 1) * 7)).off + 2, none⟩ = some (.int .u8 (q.kind : Int)) ∧ V.cell? ⟨(ad.add ((j + 1) * 7)).block, (ad.add ((j + 1) * 7)).off + 3, none⟩ = some (.int .u64 (q.cid : Int)) ∧ V.cell? ⟨(ad.add ((j + 1) * 7)).block, (ad.add ((j + 1) * 7)).off + 4, none⟩ = some (.int .u8 (q.fld : Int)) ∧ V.cell? ⟨(ad.add ((j + 1) * 7)).block, (ad.add ((j + 1) * 7)).off + 5, none⟩ = some (.string q.txt) ∧ V.cell? ⟨(ad.add ((j + 1) * 7)).block, (ad.add ((j + 1) * 7)).off + 6, none⟩ = some (.slice q.adr q.len q.cap) ∧ V.cell? (ad.add (j * 7)) = some (.int .u16 (p.dev : Int)) ∧ V.cell? ⟨(ad.add (j * 7)).block, (ad.add (j * 7)).off + 1, none⟩ = some (.int .u64 (p.num : Int))) (by kernel_rfl) (HXC.out _ (Ev.bel_drew (Below.refl _ _))) (fun hHeld => ?_)
             refine tk1 0 ⟨some 12, .move (.tmp 1), 29, "ref.go:108", #[], none⟩ (by intro w hSw; (try dsimp only at hSw); go_simp <;> (with_reducible rfl)) ?_
             try simp only [Act.put, List.setIfInBounds_toArray, List.set_cons_zero, List.set_cons_succ]
             refine tk1 1 ⟨some 13, .move (.tmp 5), 3, "ref.go:108", #[], none⟩ (by intro w hSw; (try dsimp only at hSw); go_simp <;> (with_reducible rfl)) ?_
             try simp only [Act.put, List.setIfInBounds_toArray, List.set_cons_zero, List.set_cons_succ]
             refine tk1 2 ⟨some 14, .indexAddr 29 (.tmp 12) (.tmp 13), 0, "ref.go:108", #[⟨0, .data⟩, ⟨1, .data⟩], none⟩ (by intro w hSw; (try dsimp only at hSw); go_simp <;> (with_reducible rfl)) ?_
             try simp only [Act.put, List.setIfInBounds_toArray, List.set_cons_zero, List.set_cons_succ]
             refine tk1 3 ⟨some 15, .load 38 (.tmp 14), 38, "ref.go:108", #[⟨2, .data⟩], none⟩ (by intro w hSw; (try dsimp only at hSw); go_simp <;> (with_reducible rfl)) ?_
             try simp only [Act.put, List.setIfInBounds_toArray, List.set_cons_zero, List.set_cons_succ]
             refine wpAnyH_ready (rs := [4]) (by kernel_rfl) (by simp) ?_
             refine AllReadyH.cons (o := ⟨some 16, .call ⟨.value (.func 39), #[.tmp 15], #[38]⟩, 4, "ref.go:108", #[⟨3, .data⟩], none⟩) rfl (fun K hK => ?_) AllReadyH.nil
             go_simp
             go_at_call 39; (with_reducible refine (CG _ ?_).mono ?_); (focus (repeat (first | exact Below.refl _ _ | assumption | apply Ev.bel_drew | apply Ev.bel_alloc))); rintro r V ⟨rfl, bv⟩; have hcV := HXC.out V bv
             refine hK.out _ _ (by assumption) (fun hH => ?_)
             clear hHeld hK K
             have hHeld := hH
             clear hH
             try simp only [Act.put, List.setIfInBounds_toArray, List.set_cons_zero, List.set_cons_succ]
             refine tk1 5 ⟨some 17, .unOp .not 4 (.tmp 16), 4, "ref.go:108", #[⟨4, .data⟩], none⟩ (by intro w hSw; (try dsimp only at hSw); go_simp <;> (with_reducible rfl)) ?_
             try simp only [Act.put, List.setIfInBounds_toArray, List.set_cons_zero, List.set_cons_succ]
             refine tk1 6 ⟨some 18, .move (.tmp 17), 4, "ref.go:108", #[⟨5, .data⟩, ⟨4, .chain⟩], none⟩ (by intro w hSw; (try dsimp only at hSw); go_simp <;> (with_reducible rfl)) ?_
             try simp only [Act.put, List.setIfInBounds_toArray, List.set_cons_zero, List.set_cons_succ]
             refine tk1 7 ⟨some 19, .move (.tmp 5), 3, "ref.go:108", #[⟨6, .guard⟩], some (6, false)⟩ (by intro w hSw; (try dsimp only at hSw); go_simp <;> (with_reducible rfl)) ?_
             try simp only [Act.put, List.setIfInBounds_toArray, List.set_cons_zero, List.set_cons_succ]
             refine tk1 8 ⟨some 20, .binOp .gtr 3 (.tmp 19) (.const (.int .i64 0)) 3, 4, "ref.go:108", #[⟨7, .data⟩, ⟨6, .guard⟩], some (6, false)⟩ (by intro w hSw; (try dsimp only at hSw); go_simp <;> (with_reducible rfl)) ?_
             try simp only [Act.put, List.setIfInBounds_toArray, List.set_cons_zero, List.set_cons_succ]
             refine tk1 9 ⟨some 21, .move (.tmp 20), 4, "ref.go:108", #[⟨8, .data⟩, ⟨6, .chain⟩, ⟨6, .guard⟩], some (6, false)⟩ (by intro w hSw; (try dsimp only at hSw); go_simp <;> (with_reducible rfl)) ?_
             try simp only [Act.put, List.setIfInBounds_toArray, List.set_cons_zero, List.set_cons_succ]
             refine tk1 10 ⟨some 22, .move (.tmp 1), 29, "ref.go:108", #[⟨9, .guard⟩], some (9, true)⟩ (by intro w hSw; (try dsimp only at hSw); go_simp <;> (with_reducible rfl)) ?_
             try simp only [Act.put, List.setIfInBounds_toArray, List.set_cons_zero, List.set_cons_succ]
             refine tk1 11 ⟨some 23, .move (.tmp 5), 3, "ref.go:108", #[⟨9, .guard⟩], some (9, true)⟩ (by intro w hSw; (try dsimp only at hSw); go_simp <;> (with_reducible rfl)) ?_
             try simp only [Act.put, List.setIfInBounds_toArray, List.set_cons_zero, List.set_cons_succ]
             refine tk1 12 ⟨some 24, .binOp .sub 3 (.tmp 23) (.const (.int .i64 1)) 3, 3, "ref.go:108", #[⟨11, .data⟩, ⟨9, .guard⟩], some (9, true)⟩ (by intro w hSw; (try dsimp only at hSw); go_simp <;> (with_reducible rfl)) ?_
             try simp only [Act.put, List.setIfInBounds_toArray, List.set_cons_zero, List.set_cons_succ]
             refine tk1 13 ⟨some 25, .indexAddr 29 (.tmp 22) (.tmp 24), 0, "ref.go:108", #[⟨10, .data⟩, ⟨12, .data⟩, ⟨9, .guard⟩], some (9, true)⟩ (by intro w hSw; (try dsimp only at hSw); go_simp <;> (with_reducible rfl)) ?_
             try simp only [Act.put, List.setIfInBounds_toArray, List.set_cons_zero, List.set_cons_succ]
             refine tk1 14 ⟨some 26, .fieldAddr 38 (.tmp 25) 0, 0, "ref.go:108", #[⟨13, .data⟩, ⟨9, .guard⟩], some (9, true)⟩ (by intro w hSw; (try dsimp only at hSw); go_simp <;> (with_reducible rfl)) ?_
             try simp only [Act.put, List.setIfInBounds_toArray, List.set_cons_zero, List.set_cons_succ]
             refine tk1 15 ⟨some 27, .load 35 (.tmp 26), 35, "ref.go:108", #[⟨14, .data⟩, ⟨9, .guard⟩], some (9, true)⟩ (by intro w hSw; (try dsimp only at hSw); go_simp <;> (with_reducible rfl)) ?_
             try simp only [Act.put, List.setIfInBounds_toArray, List.set_cons_zero, List.set_cons_succ]
             refine tk1 16 ⟨some 28, .move (.tmp 1), 29, "ref.go:108", #[⟨9, .guard⟩], some (9, true)⟩ (by intro w hSw; (try dsimp only at hSw); go_simp <;> (with_reducible rfl)) ?_
             try simp only [Act.put, List.setIfInBounds_toArray, List.set_cons_zero, List.set_cons_succ]
             refine tk1 17 ⟨some 29, .move (.tmp 5), 3, "ref.go:108", #[⟨9, .guard⟩], some (9, true)⟩ (by intro w hSw; (try dsimp only at hSw); go_simp <;> (with_reducible rfl)) ?_
             try simp only [Act.put, List.setIfInBounds_toArray, List.set_cons_zero, List.set_cons_succ]
             refine tk1 18 ⟨some 30, .indexAddr 29 (.tmp 28) (.tmp 29), 0, "ref.go:108", #[⟨16, .data⟩, ⟨17, .data⟩, ⟨9, .guard⟩], some (9, true)⟩ (by intro w hSw; (try dsimp only at hSw); go_simp <;> (with_reducible rfl)) ?_
             try simp only [Act.put, List.setIfInBounds_toArray, List.set_cons_zero, List.set_cons_succ]
             refine tk1 19 ⟨some 31, .fieldAddr 38 (.tmp 30) 0, 0, "ref.go:108", #[⟨18, .data⟩, ⟨9, .guard⟩], some (9, true)⟩ (by intro w hSw; (try dsimp only at hSw); go_simp <;> (with_reducible rfl)) ?_
             try simp only [Act.put, List.setIfInBounds_toArray, List.set_cons_zero, List.set_cons_succ]
             refine tk1 20 ⟨some 32, .load 35 (.tmp 31), 35, "ref.go:108", #[⟨19, .data⟩, ⟨9, .guard⟩], some (9, true)⟩ (by intro w hSw; (try dsimp only at hSw); go_simp <;> (with_reducible rfl)) ?_
             try simp only [Act.put, List.setIfInBounds_toArray, List.set_cons_zero, List.set_cons_succ]
             refine wpAnyH_ready (rs := [21]) (by kernel_rfl) (by simp) ?_
             refine AllReadyH.cons (o := ⟨some 33, .call ⟨.value (.func 70), #[.tmp 27, .tmp 32], #[35, 35]⟩, 3, "ref.go:108", #[⟨15, .data⟩, ⟨20, .data⟩, ⟨9, .chain⟩, ⟨9, .guard⟩], some (9, true)⟩) rfl (fun K hK => ?_) AllReadyH.nil
             go_simp
             go_at_call 70; (with_reducible refine (CC _ bv).mono ?_); rintro r V2 ⟨rfl, bv2⟩; have hcV2 := HXC.out V2 bv2
             refine hK.out _ _ (by assumption) (fun hH => ?_)
             clear hHeld hK K
             have hHeld := hH
             clear hH
             try simp only [Act.put, List.setIfInBounds_toArray, List.set_cons_zero, List.set_cons_succ]
             refine tk1 22 ⟨some 34, .binOp .geq 3 (.tmp 33) (.const (.int .i64 0)) 3, 4, "ref.go:108", #[⟨21, .data⟩, ⟨9, .guard⟩], some (9, true)⟩ (by intro w hSw; (try dsimp only at hSw); go_simp <;> (with_reducible rfl)) ?_
             try simp only [Act.put, List.setIfInBounds_toArray, List.set_cons_zero, List.set_cons_succ]
             refine tk1 23 ⟨some 35, .pick (.tmp 21) (.tmp 34) (.const (.bool false)), 4, "ref.go:108", #[⟨9, .data⟩, ⟨22, .data⟩, ⟨6, .guard⟩], some (6, false)⟩ (by intro w hSw; (try dsimp only at hSw); go_simp <;> (with_reducible rfl)) ?_
             try simp only [Act.put, List.setIfInBounds_toArray, List.set_cons_zero, List.set_cons_succ]
             refine tk1 24 ⟨some 36, .pick (.tmp 18) (.const (.bool true)) (.tmp 35), 4, "ref.go:108", #[⟨6, .data⟩, ⟨23, .data⟩], none⟩ (by intro w hSw; (try dsimp only at hSw); go_simp <;> (with_reducible rfl)) ?_
             try simp only [Act.put, List.setIfInBounds_toArray, List.set_cons_zero, List.set_cons_succ]
             refine tk1 25 ⟨some 37, .move (.tmp 36), 4, "ref.go:108", #[⟨24, .data⟩, ⟨21, .chain⟩], none⟩ (by intro w hSw; (try dsimp only at hSw); go_simp <;> (with_reducible rfl)) ?_
             try simp only [Act.put, List.setIfInBounds_toArray, List.set_cons_zero, List.set_cons_succ]
             refine tk1 26 ⟨some 38, .move (.tmp 1), 29, "ref.go:108", #[⟨25, .guard⟩], some (25, false)⟩ (by intro w hSw; (try dsimp only at hSw); go_simp <;> (with_reducible rfl)) ?_
             try simp only [Act.put, List.setIfInBounds_toArray, List.set_cons_zero, List.set_cons_succ]
             refine tk1 27 ⟨some 39, .move (.tmp 5), 3, "ref.go:108", #[⟨25, .guard⟩], some (25, false)⟩ (by intro w hSw; (try dsimp only at hSw); go_simp <;> (with_reducible rfl)) ?_
             try simp only [Act.put, List.setIfInBounds_toArray, List.set_cons_zero, List.set_cons_succ]
             refine tk1 28 ⟨some 40, .indexAddr 29 (.tmp 38) (.tmp 39), 0, "ref.go:108", #[⟨26, .data⟩, ⟨27, .data⟩, ⟨25, .guard⟩], some (25, false)⟩ (by intro w hSw; (try dsimp only at hSw); go_simp <;> (with_reducible rfl)) ?_
             try simp only [Act.put, List.setIfInBounds_toArray, List.set_cons_zero, List.set_cons_succ]
             refine tk1 29 ⟨some 41, .fieldAddr 38 (.tmp 40) 1, 0, "ref.go:108", #[⟨28, .data⟩, ⟨25, .guard⟩], some (25, false)⟩ (by intro w hSw; (try dsimp only at hSw); go_simp <;> (with_reducible rfl)) ?_
             try simp only [Act.put, List.setIfInBounds_toArray, List.set_cons_zero, List.set_cons_succ]
             refine tk1 30 ⟨some 42, .load 5 (.tmp 41), 5, "ref.go:108", #[⟨29, .data⟩, ⟨25, .guard⟩], some (25, false)⟩ (by intro w hSw; (try dsimp only at hSw); go_simp <;> (with_reducible rfl)) ?_
             try simp only [Act.put, List.setIfInBounds_toArray, List.set_cons_zero, List.set_cons_succ]
             refine tk1 31 ⟨some 43, .binOp .eql 5 (.tmp 42) (.const (.int .u8 1)) 5, 4, "ref.go:108", #[⟨30, .data⟩, ⟨25, .guard⟩], some (25, false)⟩ (by intro w hSw; (try dsimp only at hSw); go_simp <;> (with_reducible rfl)) ?_
             try simp only [Act.put, List.setIfInBounds_toArray, List.set_cons_zero, List.set_cons_succ]
             refine tk1 32 ⟨some 44, .move (.tmp 43), 4, "ref.go:108", #[⟨31, .data⟩, ⟨25, .chain⟩, ⟨25, .guard⟩], some (25, false)⟩ (by intro w hSw; (try dsimp only at hSw); go_simp <;> (with_reducible rfl)) ?_
             try simp only [Act.put, List.setIfInBounds_toArray, List.set_cons_zero, List.set_cons_succ]
             refine tk1 33 ⟨some 45, .move (.tmp 1), 29, "ref.go:108", #[⟨32, .guard⟩], some (32, true)⟩ (by intro w hSw; (try dsimp only at hSw); go_simp <;> (with_reducible rfl)) ?_
             try simp only [Act.put, List.setIfInBounds_toArray, List.set_cons_zero, List.set_cons_succ]
             refine tk1 34 ⟨some 46, .move (.tmp 1), 29, "ref.go:108", #[⟨32, .guard⟩], some (32, true)⟩ (by intro w hSw; (try dsimp only at hSw); go_simp <;> (with_reducible rfl)) ?_
             try simp only [Act.put, List.setIfInBounds_toArray, List.set_cons_zero, List.set_cons_succ]
             refine tk1 35 ⟨some 47, .move (.tmp 5), 3, "ref.go:108", #[⟨32, .guard⟩], some (32, true)⟩ (by intro w hSw; (try dsimp only at hSw); go_simp <;> (with_reducible rfl)) ?_
             try simp only [Act.put, List.setIfInBounds_toArray, List.set_cons_zero, List.set_cons_succ]
             refine tk1 36 ⟨some 48, .indexAddr 29 (.tmp 46) (.tmp 47), 0, "ref.go:108", #[⟨34, .data⟩, ⟨35, .data⟩, ⟨32, .guard⟩], some (32, true)⟩ (by intro w hSw; (try dsimp only at hSw); go_simp <;> (with_reducible rfl)) ?_
             try simp only [Act.put, List.setIfInBounds_toArray, List.set_cons_zero, List.set_cons_succ]
             refine tk1 37 ⟨some 49, .fieldAddr 38 (.tmp 48) 0, 0, "ref.go:108", #[⟨36, .data⟩, ⟨32, .guard⟩], some (32, true)⟩ (by intro w hSw; (try dsimp only at hSw); go_simp <;> (with_reducible rfl)) ?_
             try simp only [Act.put, List.setIfInBounds_toArray, List.set_cons_zero, List.set_cons_succ]
             refine tk1 38 ⟨some 50, .load 35 (.tmp 49), 35, "ref.go:108", #[⟨37, .data⟩, ⟨32, .guard⟩], some (32, true)⟩ (by intro w hSw; (try dsimp only at hSw); go_simp <;> (with_reducible rfl)) ?_
             try simp only [Act.put, List.setIfInBounds_toArray, List.set_cons_zero, List.set_cons_succ]
             refine wpAnyH_ready (rs := [39]) (by kernel_rfl) (by simp) ?_
             refine AllReadyH.cons (o := ⟨some 51, .call ⟨.value (.func 71), #[.tmp 45, .tmp 50], #[29, 35]⟩, 4, "ref.go:108", #[⟨33, .data⟩, ⟨38, .data⟩, ⟨32, .chain⟩, ⟨32, .guard⟩], some (32, true)⟩) rfl (fun K hK => ?_) AllReadyH.nil
             go_simp
             go_at_call 71; (with_reducible refine (CD _ bv2).mono ?_); rintro r V3 ⟨rfl, bv3⟩; have hcV3 := HXC.out V3 bv3
             refine hK.out _ _ (by assumption) (fun hH => ?_)
             clear hHeld hK K
             have hHeld := hH
             clear hH
             try simp only [Act.put, List.setIfInBounds_toArray, List.set_cons_zero, List.set_cons_succ]
             refine tk1 40 ⟨some 52, .pick (.tmp 44) (.tmp 51) (.const (.bool false)), 4, "ref.go:108", #[⟨32, .data⟩, ⟨39, .data⟩, ⟨25, .guard⟩], some (25, false)⟩ (by intro w hSw; (try dsimp only at hSw); go_simp <;> (with_reducible rfl)) ?_
             try simp only [Act.put, List.setIfInBounds_toArray, List.set_cons_zero, List.set_cons_succ]
             refine tk1 41 ⟨some 53, .pick (.tmp 37) (.const (.bool true)) (.tmp 52), 4, "ref.go:108", #[⟨25, .data⟩, ⟨40, .data⟩], none⟩ (by intro w hSw; (try dsimp only at hSw); go_simp <;> (with_reducible rfl)) ?_
             try simp only [Act.put, List.setIfInBounds_toArray, List.set_cons_zero, List.set_cons_succ]
             refine wpAnyH_done (by kernel_rfl) ?_ _
             refine NoPanic.normal ?_
             cases b with
             | true =>
               have HF : Hid (fromB c l = false) := Lib.hid (from_bad (by rw [HL.out.len]; exact hlt) (HOD.out))
               have HV := Lib.hid (HW.out.trans (bv3.mono HW.out.size))
               go_wp2
               go_ret
               exact ⟨Ev.ret_bool HF.out.symm, HV.out⟩
             | false =>
               have HT2 : Hid (∀ i, i < (j + 1) + 1 → okB l i = true) := Lib.hid (fun i hi => (Nat.lt_or_ge i ((j + 1))).elim (fun h => HT.out i h) (fun h => by obtain rfl : i = (j + 1) := (by omega); exact (HOD.out)))
               have HV := Lib.hid (HW.out.trans (bv3.mono HW.out.size))
               go_wp2
               go_roundw
               case rel => exact ⟨(j + 1) + 1, by omega, by go_num, HT2.out, HV.out⟩
               case measure => simp [intOf]; omega
   · obtain rfl : k = n2 := by omega
     have HFB := Lib.hid (from_ok (c := c) (l := l) (fun i hi => HT.out i (by rw [HL.out.len] at hi; exact hi)))
     have CG := Cx.rgood_any wr A1 c n1 c1 (HC.out.up HW.out) HS.out
     have CDT := fun W (hW : Below wr.heap.size wr W) => Ev.rdots_any W A2 l k c2 ((HL.out.up HW.out).up hW) hn HKL.out
     have CDR := fun W A m cc (hW : Below wr.heap.size wr W) (h : Ev.DotsAt W W.heap.size A (Ev.dotsE l) m cc) => Kl.rdrop_any W A A1 (Ev.dotsE l) c m cc n1 c1 h ((HC.out.up HW.out).up hW) HS.out (by have h1 := dots_few HKL.out; have h2 := HL.out.len; rw [h.len, h2] at h1; omega)
     go_wp2_with fail
     refine CG.mono ?_
     rintro r V ⟨rfl, bv⟩
     cases hg : Cx.goodC c with
     | false =>
       have HF : Hid (fromB c l = false) := Lib.hid (by rw [HFB.out, hg]; rfl)
       have HV := Lib.hid (HW.out.trans (bv.mono HW.out.size))
       clear CDT CDR bv hg
       go_wp2
       go_ret
       exact ⟨Ev.ret_bool HF.out.symm, HV.out⟩
     | true =>
       have HF : Hid (fromB c l = decide (((Ev.dotsE l).filter (fun d => !Cx.hasC c d)) = [])) := Lib.hid (by rw [HFB.out, hg]; rfl)
       have BV := Lib.hid bv
       clear bv hg
       go_wp2_with fail
       refine (CDT _ BV.out).mono ?_
       rintro r V2 ⟨A5, m5, c5, rfl, h5, b5⟩
       have B5 := Lib.hid (BV.out.trans (b5.mono BV.out.size))
       have H5 := Lib.hid h5
       clear b5 h5
       go_wp2_with fail
       refine (CDR _ _ _ _ B5.out H5.out).mono ?_
       rintro r V3 ⟨A6, m6, c6, rfl, h6, b6⟩
       have HV := Lib.hid (HW.out.trans ((B5.out.trans (b6.mono B5.out.size)).mono HW.out.size))
       have HE : Hid (((m6 : Int) == 0) = decide (((Ev.dotsE l).filter (fun d => !Cx.hasC c d)) = [])) := Lib.hid (by
         rw [Bool.eq_iff_iff, beq_iff_eq, decide_eq_true_iff, ← sort_none, ← List.length_eq_zero_iff, h6.len]
         omega)
       have hm6 : m6 ≤ 9223372036854775807 := Nat.le_trans h6.wide (by decide)
       clear CDT CDR h6 b6
       cases hz : ((m6 : Int) == 0) with
       | true =>
         have HF2 : Hid (fromB c l = true) := Lib.hid (by rw [HF.out, ← HE.out, hz])
         go_wp2
         go_ret
         exact ⟨Ev.ret_bool HF2.out.symm, HV.out⟩
       | false =>
         have HF2 : Hid (fromB c l = false) := Lib.hid (by rw [HF.out, ← HE.out, hz])
         go_wp2
         go_ret
         exact ⟨Ev.ret_bool HF2.out.symm, HV.out⟩
end Go.Proofs.YtgaegfddobpomaaGreat.Bk
