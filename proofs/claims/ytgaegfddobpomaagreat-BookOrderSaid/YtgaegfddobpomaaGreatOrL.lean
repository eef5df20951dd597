/- Words and contracts that the proofs of this seat stand on, part 12 of 39. -/
import Derived.Test.YtgaegfddobpomaaGreatOrH
import Derived.Shelf.SlSortCmp.QuietGrown

namespace Go.Proofs.YtgaegfddobpomaaGreat.Dt
open Go.ChangeShapes Go.WideShapes Go.ChangeAt Go.RowKit
set_option linter.unusedVariables false
def stepE (o : List Dot) (x : Dot) : List Dot := if mayD x = true then putD o (x.1, 1) else o
def devsD (a b : List Dot) : List Dot := (a ++ b).foldl stepE []
def anyV (a b : List Dot) (d : Nat) : Nat := min 1 (max (ofV a d) (ofV b d))
def oneOf (g : Bool) (x y : Nat) : Nat := if g = true then max x y else min x y
def bothV (g : Bool) (a b : List Dot) : List Dot := listV (fun d => oneOf g (ofV a d) (ofV b d))
theorem both_join (a b : List Dot) : bothV true a b = joinV a b := rfl
theorem both_meet (a b : List Dot) : bothV false a b = meetV a b := rfl
end Go.Proofs.YtgaegfddobpomaaGreat.Dt

namespace Go.Proofs.YtgaegfddobpomaaGreat.Cx
open Go.ChangeShapes Go.WideShapes Go.ChangeAt Go.RowKit
set_option linter.unusedVariables false
structure PV where
 dev : Nat
 adr : Option Addr
 len : Nat
 cap : Nat
def cv (ps : List PV) : List Value := ps.flatMap fun p => [.int .u16 (p.dev : Int), .slice p.adr p.len p.cap]
theorem cv_nil : cv [] = [] := rfl
theorem cv_append (l m : List PV) : cv (l ++ m) = cv l ++ cv m := by unfold cv; rw [List.flatMap_append]
theorem cv_length (l : List PV) : (cv l).length = l.length * 2 := by
 induction l with
 | nil => rfl
 | cons r l ih => simp only [cv, List.flatMap_cons, List.length_append, List.length_cons, List.length_nil] at ih ⊢; omega
theorem cv_get {l : List PV} {k : Nat} {r : PV} (h : l[k]? = some r) : (cv l)[k * 2]? = some (.int .u16 (r.dev : Int)) ∧ (cv l)[k * 2 + 1]? = some (.slice r.adr r.len r.cap) := by
 induction l generalizing k with
 | nil => simp at h
 | cons x l ih =>
   cases k with
   | zero => obtain rfl : x = r := by simpa using h
             exact ⟨rfl, rfl⟩
   | succ k =>
     have h2 := ih (k := k) (by simpa using h)
     have e : cv (x :: l) = .int .u16 (x.dev : Int) :: .slice x.adr x.len x.cap :: cv l := rfl
     have e1 : (k + 1) * 2 = k * 2 + 2 := by omega
     rw [e, e1]
     exact ⟨by simpa using h2.1, by simpa using h2.2⟩
theorem cv_one (l : List PV) : ∀ u ∈ cv l, u.oneCell' = true := by
 intro u hu
 obtain ⟨r, _, h⟩ := List.mem_flatMap.1 hu
 simp only [List.mem_cons, List.not_mem_nil, or_false] at h
 rcases h with rfl | rfl <;> rfl
structure PartIs (w : World) (B : Nat) (p : PV) (x : Part) : Prop where
 dev : p.dev = x.1
 fit : x.1 < 65536
 len : x.2.length = p.len
 nil : p.adr = none → p.len = 0 ∧ p.cap = 0
 cap : p.len ≤ p.cap
 max : p.cap ≤ 9223372036854775807
 runs : Ru.Runs w B p.adr x.2
theorem PartIs.up {w W : World} {p : PV} {x : Part} (h : PartIs w w.heap.size p x) (hW : Below w.heap.size w W) : PartIs W W.heap.size p x := ⟨h.dev, h.fit, h.len, h.nil, h.cap, h.max, h.runs.up hW⟩
def Match (w : World) (ps : List PV) (c : List Part) : Prop := ps.length = c.length ∧ ∀ (k : Nat) (p : PV) (x : Part), ps[k]? = some p → c[k]? = some x → PartIs w w.heap.size p x
theorem Match.up {w W : World} {ps : List PV} {c : List Part} (h : Match w ps c) (hW : Below w.heap.size w W) : Match W ps c := ⟨h.1, fun k p x hp hx => (h.2 k p x hp hx).up hW⟩
theorem Match.nil_ (w : World) : Match w [] [] := ⟨rfl, fun k p x hp => by simp at hp⟩
theorem Match.snoc {w : World} {ps : List PV} {c : List Part} {p : PV} {x : Part} (h : Match w ps c) (hp : PartIs w w.heap.size p x) : Match w (ps ++ [p]) (c ++ [x]) := by
 refine ⟨by simp [h.1], fun k q y hq hy => ?_⟩
 rcases Nat.lt_or_ge k ps.length with hk | hk
 · rw [List.getElem?_append_left hk] at hq
   rw [List.getElem?_append_left (by rw [← h.1]; exact hk)] at hy
   exact h.2 k q y hq hy
 · rw [List.getElem?_append_right hk] at hq
   rw [List.getElem?_append_right (by rw [← h.1]; exact hk)] at hy
   have hk2 : k - ps.length = 0 := by
     rcases Nat.eq_zero_or_pos (k - ps.length) with h0 | h0
     · exact h0
     · rw [List.getElem?_eq_none (by simp; omega)] at hq; cases hq
   rw [hk2] at hq
   rw [← h.1, hk2] at hy
   simp at hq hy
   subst hq hy
   exact hp
theorem Match.fit {w : World} {ps : List PV} {c : List Part} (h : Match w ps c) : FitC c := fun x hx => by
 obtain ⟨k, hk, rfl⟩ := List.getElem_of_mem hx
 have hk2 : k < ps.length := by rw [h.1]; exact hk
 have hp := h.2 k ps[k] c[k] (List.getElem?_eq_getElem hk2) (List.getElem?_eq_getElem hk)
 exact ⟨hp.fit, hp.runs.1⟩
structure CtxAt (w : World) (A : Option Addr) (c : List Part) (n cp : Nat) : Prop where
 len : c.length = n
 nil : A = none → n = 0 ∧ cp = 0
 cap : n ≤ cp
 max : cp ≤ 9223372036854775807
 parts : ∃ ps, Dt.Lies w w.heap.size A (cv ps) ∧ Match w ps c
theorem CtxAt.up {w W : World} {A : Option Addr} {c : List Part} {n cp : Nat} (h : CtxAt w A c n cp) (hW : Below w.heap.size w W) : CtxAt W A c n cp := by
 obtain ⟨ps, h1, h2⟩ := h.parts
 exact ⟨h.len, h.nil, h.cap, h.max, ps, (h1.below hW).more hW.size, h2.up hW⟩
theorem CtxAt.fit {w : World} {A : Option Addr} {c : List Part} {n cp : Nat} (h : CtxAt w A c n cp) : FitC c := by
 obtain ⟨ps, _, h2⟩ := h.parts
 exact h2.fit
theorem CtxAt.none_ (w : World) : CtxAt w none [] 0 0 := ⟨rfl, fun _ => ⟨rfl, rfl⟩, Nat.le_refl _, by decide, [], Dt.Lies.none_ _ _ _, Match.nil_ _⟩
theorem CtxAt.cells {w : World} {A : Option Addr} {c : List Part} {n cp : Nat} (h : CtxAt w A c n cp) {k : Nat} (hk : k < n) :
   ∃ (ad : Addr) (p : PV) (x : Part), A = some ad ∧ ad.block < w.heap.size ∧ c[k]? = some x ∧ PartIs w w.heap.size p x ∧
     ∀ V, Below w.heap.size w V → V.cell? (ad.add (k * 2)) = some (.int .u16 (x.1 : Int)) ∧ V.cell? ⟨(ad.add (k * 2)).block, (ad.add (k * 2)).off + 1, none⟩ = some (.slice p.adr p.len p.cap) := by
 obtain ⟨ps, h1, h2⟩ := h.parts
 have hkc : k < c.length := by rw [h.len]; exact hk
 have hkp : k < ps.length := by rw [h2.1]; exact hkc
 have hx := List.getElem?_eq_getElem hkc
 have hp := List.getElem?_eq_getElem hkp
 have hpi := h2.2 k _ _ hp hx
 obtain ⟨ad, e, hB, hc⟩ := h1 (by rw [cv_length]; omega)
 obtain ⟨g1, g2⟩ := cv_get hp
 refine ⟨ad, ps[k], c[k], e, hB, hx, hpi, fun V hV => ⟨?_, ?_⟩⟩
 · rw [← hpi.dev]
   exact (hV.cell (by rw [Dt.block_add]; exact hB)).trans (hc _ _ g1)
 · rw [Dt.add_next]
   exact (hV.cell (by rw [Dt.block_add]; exact hB)).trans (hc _ _ g2)
theorem part_info : (Tryz.prog.info? 71).map (fun i => (i.zero, i.size, i.bytes)) = some (some (.agg #[.int .u16 0, .slice none 0 0]), 2, 32) := by kernel_rfl
def CtxPost (w : World) (m : List Part) (e : Ending) (w' : World) : Prop := ∃ A n cp ps, e = .returned (.slice A n cp) ∧ m.length = n ∧ w'.ownsRow w.heap.size 71 2 (.slice A n cp) n (cv ps) ∧ Match w' ps m ∧ Below w.heap.size w w'
theorem post_ctx {w w' : World} {m : List Part} {e : Ending} (h : CtxPost w m e w') : ∃ A n cp, e = .returned (.slice A n cp) ∧ CtxAt w' A m n cp ∧ Below w.heap.size w w' := by
 obtain ⟨A, n, cp, ps, rfl, hn, ho, hm, hb⟩ := h
 obtain ⟨h1, h2, h3⟩ := Dt.own_len ho
 exact ⟨A, n, cp, rfl, ⟨hn, h3, h1, h2, ps, Dt.lies_any (by decide) ho, hm⟩, hb⟩
def Small (c : List Part) : Prop := c.length ≤ 8000 ∧ (c.map (fun x => x.2.length)).sum ≤ 80000
theorem small_sum {c : List Part} (h : ∀ x ∈ c, x.2.length ≤ 282) : (c.map (fun x => x.2.length)).sum ≤ c.length * 282 := by
 induction c with
 | nil => simp
 | cons x c ih =>
   have h1 := h x (List.mem_cons_self ..)
   have h2 := ih (fun y hy => h y (List.mem_cons_of_mem _ hy))
   rw [List.map_cons, List.sum_cons, List.length_cons]
   omega
theorem small_each {c : List Part} (h : c.length ≤ 282) (h2 : ∀ x ∈ c, x.2.length ≤ 282) : Small c := by
 have h3 := small_sum h2
 exact ⟨by omega, by omega⟩
theorem small_one {c : List Part} (h : Small c) {x : Part} (hx : x ∈ c) : x.2.length ≤ 80000 := by
 have h2 : ∀ c : List Part, x ∈ c → x.2.length ≤ (c.map (fun x => x.2.length)).sum := by
   intro c
   induction c with
   | nil => intro h; cases h
   | cons y c ih =>
     intro h
     rw [List.map_cons, List.sum_cons]
     rcases List.mem_cons.1 h with e | h
     · rw [← e]; exact Nat.le_add_right _ _
     · have := ih h; omega
 exact Nat.le_trans (h2 c hx) h.2
theorem small_runs {c : List Part} (h : Small c) (d : Nat) : (runsC c d).length ≤ 80000 := Nat.le_trans (runs_length c d) h.2
theorem sum_take (c : List Part) (k : Nat) : ((c.take k).map (fun x => x.2.length)).sum ≤ (c.map (fun x => x.2.length)).sum := by
 have h : (c.map (fun x => x.2.length)).sum = ((c.take k).map (fun x => x.2.length)).sum + ((c.drop k).map (fun x => x.2.length)).sum := by
   rw [← List.sum_append, ← List.map_append, List.take_append_drop]
 omega
theorem small_take {c : List Part} (h : Small c) (k : Nat) : Small (c.take k) := ⟨by rw [List.length_take]; have := h.1; omega, Nat.le_trans (sum_take c k) h.2⟩
def stepP (o : List Dot) (x : Part) : List Dot := Dt.putD o (x.1, 1)
def devsC (a b : List Part) : List Dot := b.foldl stepP (a.foldl stepP [])
theorem step_next {c : List Part} {k : Nat} {x : Part} (o : List Dot) (h : c[k]? = some x) : (c.take (k + 1)).foldl stepP o = stepP ((c.take k).foldl stepP o) x := by
 rw [List.take_add_one, h, List.foldl_append]; rfl
theorem step_fit (c : List Part) (hc : FitC c) (o : List Dot) (ho : Dt.Fit o) (k : Nat) : Dt.Fit ((c.take k).foldl stepP o) ∧ ((c.take k).foldl stepP o).length ≤ o.length + k := by
 induction k with
 | zero => exact ⟨ho, Nat.le_refl _⟩
 | succ k ih =>
   by_cases hk : k < c.length
   · have hg := List.getElem?_eq_getElem hk
     rw [step_next o hg]
     exact ⟨Dt.fit_put ih.1 ⟨(hc _ (List.getElem_mem hk)).1, by simp⟩, Nat.le_trans (Dt.put_length _ _) (by omega)⟩
   · have e : c.take (k + 1) = c.take k := by rw [List.take_of_length_le (by omega), List.take_of_length_le (by omega)]
     rw [e]
     exact ⟨ih.1, by omega⟩
theorem step_from (c : List Part) (o : List Dot) (ho : Dt.Ord o) : Dt.Ord (c.foldl stepP o) ∧ ∀ x : Dot, x ∈ c.foldl stepP o ↔ x ∈ o ∨ (x.2 = 1 ∧ ∃ y ∈ c, y.1 = x.1) := by
 induction c generalizing o with
 | nil => exact ⟨ho, fun x => by simp⟩
 | cons d l ih =>
   rw [List.foldl_cons]
   obtain ⟨h1, h2⟩ := ih (stepP o d) (Dt.put_ord _ ho)
   refine ⟨h1, fun x => ?_⟩
   rw [h2, show stepP o d = Dt.putD o (d.1, 1) from rfl, Dt.put_mem]
   constructor
   · rintro ((rfl | h) | ⟨h, y, hy, h3⟩)
     · exact .inr ⟨rfl, d, List.mem_cons_self .., rfl⟩
     · exact .inl h
     · exact .inr ⟨h, y, List.mem_cons_of_mem _ hy, h3⟩
   · rintro (h | ⟨h, y, hy, h3⟩)
     · exact .inl (.inr h)
     · rcases List.mem_cons.1 hy with rfl | hy
       · exact .inl (.inl (Prod.ext h3.symm h))
       · exact .inr ⟨h, y, hy, h3⟩
theorem devs_spec (a b : List Part) : Dt.Ord (devsC a b) ∧ ∀ x : Dot, x ∈ devsC a b ↔ x.2 = 1 ∧ ((∃ y ∈ a, y.1 = x.1) ∨ ∃ y ∈ b, y.1 = x.1) := by
 obtain ⟨h1, h2⟩ := step_from a [] List.Pairwise.nil
 obtain ⟨h3, h4⟩ := step_from b _ h1
 refine ⟨h3, fun x => ?_⟩
 unfold devsC
 rw [h4, h2]
 simp only [List.not_mem_nil, false_or]
 constructor
 · rintro (⟨h, h5⟩ | ⟨h, h5⟩)
   · exact ⟨h, .inl h5⟩
   · exact ⟨h, .inr h5⟩
 · rintro ⟨h, h5 | h5⟩
   · exact .inl ⟨h, h5⟩
   · exact .inr ⟨h, h5⟩
theorem rise_uniq {α : Type} (f : α → Nat) {l m : List α} (hl : l.Pairwise (fun a b => f a < f b)) (hm : m.Pairwise (fun a b => f a < f b)) (h : ∀ x, x ∈ l ↔ x ∈ m) : l = m := by
 induction l generalizing m with
 | nil =>
   cases m with
   | nil => rfl
   | cons b m => exact absurd ((h b).2 (List.mem_cons_self ..)) (by simp)
 | cons a l ih =>
   cases m with
   | nil => exact absurd ((h a).1 (List.mem_cons_self ..)) (by simp)
   | cons b m =>
     obtain ⟨hl1, hl2⟩ := List.pairwise_cons.1 hl
     obtain ⟨hm1, hm2⟩ := List.pairwise_cons.1 hm
     have hab : a = b := by
       rcases List.mem_cons.1 ((h a).1 (List.mem_cons_self ..)) with h1 | h1
       · exact h1
       · rcases List.mem_cons.1 ((h b).2 (List.mem_cons_self ..)) with h2 | h2
         · exact h2.symm
         · have h3 := hm1 a h1
           have h4 := hl1 b h2
           omega
     subst hab
     congr 1
     refine ih hl2 hm2 fun x => ⟨fun hx => ?_, fun hx => ?_⟩
     · rcases List.mem_cons.1 ((h x).1 (List.mem_cons_of_mem _ hx)) with h1 | h1
       · have := hl1 x hx; rw [h1] at this; omega
       · exact h1
     · rcases List.mem_cons.1 ((h x).2 (List.mem_cons_of_mem _ hx)) with h1 | h1
       · have := hm1 x hx; rw [h1] at this; omega
       · exact h1
theorem pick_up (f : Nat → List Run) (l : List Dot) (h : l.Pairwise (fun a b => a.1 < b.1)) : (l.filterMap (fun x => oneC f x.1)).Pairwise (fun a b => a.1 < b.1) := by
 induction l with
 | nil => exact List.Pairwise.nil
 | cons d l ih =>
   obtain ⟨h1, h2⟩ := List.pairwise_cons.1 h
   rw [List.filterMap_cons]
   split
   · exact ih h2
   · rename_i x hx
     rw [List.pairwise_cons]
     refine ⟨fun y hy => ?_, ih h2⟩
     obtain ⟨e, he, h3⟩ := List.mem_filterMap.1 hy
     unfold oneC at hx h3
     split at hx
     · cases hx
     · split at h3
       · cases h3
       · cases hx; cases h3; exact h1 e he
theorem devs_up (a b : List Part) : (devsC a b).Pairwise (fun x y => x.1 < y.1) := by
 obtain ⟨h1, h2⟩ := devs_spec a b
 refine List.Pairwise.imp_of_mem ?_ h1
 intro x y hx hy hxy
 have hx2 := ((h2 x).1 hx).1
 have hy2 := ((h2 y).1 hy).1
 have := (Dt.ahead_iff x y).1 hxy
 omega
theorem pick_devs {a b : List Part} {f : Nat → List Run} (hf : Tells f) (h : ∀ d, f d ≠ [] → (∃ y ∈ a, y.1 = d) ∨ ∃ y ∈ b, y.1 = d) : (devsC a b).filterMap (fun x => oneC f x.1) = listC f := by
 refine rise_uniq (fun x : Part => x.1) (pick_up f _ (devs_up a b)) (list_rise f) fun x => ?_
 rw [list_mem hf, List.mem_filterMap]
 obtain ⟨_, hm⟩ := devs_spec a b
 constructor
 · rintro ⟨y, hy, h1⟩
   unfold oneC at h1
   split at h1
   · cases h1
   · rename_i h0
     cases h1
     exact ⟨rfl, fun h2 => h0 (by show (f y.1).length = 0; rw [show f y.1 = [] from h2]; rfl)⟩
 · rintro ⟨h1, h2⟩
   refine ⟨(x.1, 1), (hm _).2 ⟨rfl, h x.1 h2⟩, ?_⟩
   unfold oneC
   rw [if_neg (fun h3 => h2 (List.eq_nil_of_length_eq_zero h3)), ← h1]
theorem set_some {a b : List Part} {how : Int} (d : Nat) (h : Ru.setL (runsC a d) (runsC b d) how ≠ []) : (∃ y ∈ a, y.1 = d) ∨ ∃ y ∈ b, y.1 = d := by
 by_cases ha : ∃ y ∈ a, y.1 = d
 · exact .inl ha
 · by_cases hb : ∃ y ∈ b, y.1 = d
   · exact .inr hb
   · refine absurd ?_ h
     rw [runs_empty (.inr fun x hx e => ha ⟨x, hx, e⟩), runs_empty (.inr fun x hx e => hb ⟨x, hx, e⟩), set_nil]
set_option maxHeartbeats 4000000 in
theorem rdevs_any (w : World) (A1 A2 : Option Addr) (a b : List Part) (n1 n2 c1 c2 : Nat) (h1 : CtxAt w A1 a n1 c1) (h2 : CtxAt w A2 b n2 c2) (hn1 : n1 ≤ 8000) (hn2 : n2 ≤ 8000) :
   Calls Tryz.prog 120 #[.slice A1 n1 c1, .slice A2 n2 c2] w (Dt.DotPost w (devsC a b)) := by
 have H1 := Lib.hid h1
 have H2 := Lib.hid h2
 have F1 := Lib.hid (step_fit a h1.fit [] (fun r hr => by cases hr))
 have FA : Dt.Fit (a.foldl stepP []) ∧ (a.foldl stepP []).length ≤ n1 := by
   have := step_fit a h1.fit [] (fun r hr => by cases hr) n1
   rw [List.take_of_length_le (by rw [h1.len]; exact Nat.le_refl _)] at this
   simpa using this
 have F2 := Lib.hid (step_fit b h2.fit (a.foldl stepP []) FA.1)
 have FL := FA.2
 have FE := Lib.hid FA.1
 clear h1 h2 FA
 go_enter Tryz.func120, Tryz.ntmps120
 go_wp2_with fail
 go_loopw [5, 6] (fun v i wr => Dt.PRel w n1 (fun k => (a.take k).foldl stepP []) v i wr) (fun _ i _ => n1 - (intOf i).toNat)
 case atStart => exact ⟨0, 0, none, 0, Nat.zero_le _, rfl, rfl, rfl, World.ownsRow_nil _ _ _ _, Below.refl _ _⟩
 case round =>
   obtain ⟨k, m, A, c, hk, rfl, rfl, hm, ho, hw⟩ := hrel
   have hmk : m ≤ k := by rw [← hm]; have := (F1.out k).2; simpa using this
   have HM := Lib.hid hm
   have HO := Lib.hid ho
   have HW := Lib.hid hw
   clear hm ho hw
   by_cases hlt : k < n1
   · obtain ⟨ad, p, x, rfl, hB, hx, hp, hcell⟩ := H1.out.cells hlt
     have HN := Lib.hid (step_next [] hx)
     have hx1 := hp.fit
     obtain ⟨d1, d2⟩ := hcell wr HW.out
     have HP := Lib.hid (Dt.rput_any wr A ((a.take k).foldl stepP []) m c (x.1, 1) HM.out (Dt.dots_own HO.out (F1.out k).1) (by omega))
     clear hx hp hcell
     go_wp2_with fail
     refine HP.out.mono ?_
     rintro e V ⟨A3, m3, c3, rfl, hm3, ho3, hb3⟩
     have HR := Lib.hid (Dt.p_rel (f := fun k => (a.take k).foldl stepP []) hlt HN.out hm3 (Dt.own_less ho3 HW.out.size) (HW.out.trans (hb3.mono HW.out.size)))
     clear hm3 ho3 hb3 d1 d2
     go_wp2
     go_roundw
     case rel => exact HR.out
     case measure => simp [intOf]; omega
   · obtain rfl : k = n1 := by omega
     have e : Hid (a.take k = a) := Lib.hid (List.take_of_length_le (by rw [H1.out.len]; exact Nat.le_refl _))
     simp only [e.out] at HM HO
     go_wp2_with fail
     go_loopw [5, 7] (fun v i wx => Dt.PRel w n2 (fun k => (b.take k).foldl stepP (a.foldl stepP [])) v i wx) (fun _ i _ => n2 - (intOf i).toNat)
     case atStart => exact ⟨0, m, A, c, Nat.zero_le _, rfl, rfl, HM.out, HO.out, HW.out⟩
     case round =>
       clear HM HO HW hmk e
       obtain ⟨k2, m2, A3, c3, hk2, rfl, rfl, hm2, ho2, hw2⟩ := hrel
       have hmk2 : m2 ≤ 16000 := by
         have h1 := (F2.out k2).2
         have h2 : ((b.take k2).foldl stepP (a.foldl stepP [])).length = m2 := hm2
         omega
       have HM := Lib.hid hm2
       have HO := Lib.hid ho2
       have HW := Lib.hid hw2
       clear hm2 ho2 hw2
       by_cases hlt2 : k2 < n2
       · obtain ⟨ad, p, x, rfl, hB, hx, hp, hcell⟩ := H2.out.cells hlt2
         have HN := Lib.hid (step_next (a.foldl stepP []) hx)
         have hx1 := hp.fit
         obtain ⟨d1, d2⟩ := hcell wr HW.out
         have HP := Lib.hid (Dt.rput_any wr A3 ((b.take k2).foldl stepP (a.foldl stepP [])) m2 c3 (x.1, 1) HM.out (Dt.dots_own HO.out (F2.out k2).1) (by omega))
         clear hx hp hcell
         go_wp2_with fail
         refine HP.out.mono ?_
         rintro e V ⟨A4, m4, c4, rfl, hm4, ho4, hb4⟩
         have HR := Lib.hid (Dt.p_rel (f := fun k => (b.take k).foldl stepP (a.foldl stepP [])) hlt2 HN.out hm4 (Dt.own_less ho4 HW.out.size) (HW.out.trans (hb4.mono HW.out.size)))
         clear hm4 ho4 hb4 d1 d2
         go_wp2
         go_roundw
         case rel => exact HR.out
         case measure => simp [intOf]; omega
       · obtain rfl : k2 = n2 := by omega
         have e : Hid (b.take k2 = b) := Lib.hid (List.take_of_length_le (by rw [H2.out.len]; exact Nat.le_refl _))
         simp only [e.out] at HM HO
         go_wp2
         go_ret
         exact ⟨A3, m2, c3, rfl, HM.out, HO.out, HW.out⟩
theorem runs_next {c : List Part} {k : Nat} {x : Part} (d : Nat) (h : c[k]? = some x) : runsC (c.take (k + 1)) d = stepC d (runsC (c.take k) d) x := by
 unfold runsC
 rw [List.take_add_one, h, List.foldl_append]; rfl
theorem ru_less {w : World} {B B' n size : Nat} {e : TypeId} {v : Value} {xs : List Value} (h : w.ownsRow B' e size v n xs) (hB : B ≤ B') : w.ownsRow B e size v n xs := Dt.own_less h hB
set_option maxHeartbeats 4000000 in
theorem rruns_any (w : World) (A0 : Option Addr) (c : List Part) (n cp d : Nat) (h : CtxAt w A0 c n cp) (hs : Small c) :
   Calls Tryz.prog 77 #[.slice A0 n cp, .int .u16 (d : Int)] w (Ru.RunPost w (runsC c d)) := by
 have HC := Lib.hid h
 have HS := Lib.hid hs
 have hn : n ≤ 8000 := by rw [← h.len]; exact hs.1
 clear h hs
 go_enter Tryz.func77, Tryz.ntmps77
 go_wp2_with fail
 go_loopw [5, 6] (fun v i wr => ∃ (k m : Nat) (A : Option Addr) (q : Nat), k ≤ n ∧ i = .int .i64 (k : Int) ∧ v = .slice A m q ∧ (runsC (c.take k) d).length = m ∧ wr.ownsRow w.heap.size 68 2 (.slice A m q) m (Ru.rv (runsC (c.take k) d)) ∧ Below w.heap.size w wr) (fun _ i _ => n - (intOf i).toNat)
 case atStart => exact ⟨0, 0, none, 0, Nat.zero_le _, rfl, rfl, rfl, World.ownsRow_nil _ _ _ _, Below.refl _ _⟩
 case round =>
   obtain ⟨k, m, A, q, hk, rfl, rfl, hm, ho, hw⟩ := hrel
   have HM := Lib.hid hm
   have HO := Lib.hid ho
   have HW := Lib.hid hw
   clear hm ho hw
   by_cases hlt : k < n
   · obtain ⟨ad, p, x, rfl, hB, hx, hp, hcell⟩ := HC.out.cells hlt
     have HN := Lib.hid (runs_next d hx)
     have hxl : x.2.length ≤ 80000 := small_one HS.out (List.mem_of_getElem? hx)
     have HP := Lib.hid (hp.up HW.out)
     obtain ⟨d1, d2⟩ := hcell wr HW.out
     clear hx hp hcell
     have hrl := small_runs (small_take HS.out k) d
     by_cases hxd : x.1 = d
     · by_cases hd0 : d = 0
       · have HE : Hid (runsC (c.take (k + 1)) d = runsC (c.take k) d) := Lib.hid (by rw [HN.out]; exact if_neg (fun h => h.2 hd0))
         subst hd0
         clear HN HP hrl
         go_wp2
         go_roundw
         case rel => exact ⟨k + 1, m, A, q, by omega, by go_num, rfl, by rw [HE.out]; exact HM.out, by rw [HE.out]; exact HO.out, HW.out⟩
         case measure => simp [intOf]; omega
       · have hne : ((d : Int) != 0) = true := by rw [bne_iff_ne]; omega
         have HE : Hid (runsC (c.take (k + 1)) d = Ru.setL (runsC (c.take k) d) x.2 0) := Lib.hid (by rw [HN.out]; exact if_pos ⟨hxd, hd0⟩)
         have hlen := Ru.own_len HO.out
         have HJ := Lib.hid (Ru.join_any wr A p.adr (runsC (c.take k) d) x.2 m p.len q p.cap HM.out HP.out.len hlen.2.2 HP.out.nil (Ru.runs_own HO.out (fit_runs (runs_order _ _))) HP.out.runs (by rw [← HM.out]; omega) (by rw [← HP.out.len]; omega))
         clear HN hrl hlen
         subst hxd
         go_wp2_with fail
         refine HJ.out.mono ?_
         rintro e w2 ⟨A2, m2, q2, rfl, hm2, ho2, hb2⟩
         have HR : Hid (∃ (k' m' : Nat) (A' : Option Addr) (q' : Nat), k' ≤ n ∧ Value.int .i64 ((k : Int) + 1) = .int .i64 (k' : Int) ∧ Value.slice A2 m2 q2 = .slice A' m' q' ∧ (runsC (c.take k') x.1).length = m' ∧ w2.ownsRow w.heap.size 68 2 (.slice A' m' q') m' (Ru.rv (runsC (c.take k') x.1)) ∧ Below w.heap.size w w2) :=
           ⟨k + 1, m2, A2, q2, by omega, by go_num, rfl, by rw [HE.out]; exact hm2, by rw [HE.out]; exact ru_less ho2 HW.out.size, HW.out.trans (hb2.mono HW.out.size)⟩
         clear hm2 ho2 hb2 d1 d2
         go_wp2
         go_roundw
         case rel => exact HR.out
         case measure => simp [intOf]; omega
     · have hne : ((x.1 : Int) == (d : Int)) = false := by rw [beq_eq_false_iff_ne]; omega
       have HE : Hid (runsC (c.take (k + 1)) d = runsC (c.take k) d) := Lib.hid (by rw [HN.out]; exact if_neg (fun h => hxd h.1))
       clear HN HP hrl
       go_wp2
       go_roundw
       case rel => exact ⟨k + 1, m, A, q, by omega, by go_num, rfl, by rw [HE.out]; exact HM.out, by rw [HE.out]; exact HO.out, HW.out⟩
       case measure => simp [intOf]; omega
   · obtain rfl : k = n := by omega
     have e : Hid (c.take k = c) := Lib.hid (List.take_of_length_le (by rw [HC.out.len]; exact Nat.le_refl _))
     rw [e.out] at HM HO
     go_wp2
     go_ret
     exact ⟨A, m, q, rfl, HM.out, HO.out, HW.out⟩
structure RunsAt (w : World) (A : Option Addr) (l : List Run) (n c : Nat) : Prop where
 len : l.length = n
 nil : A = none → n = 0 ∧ c = 0
 cap : n ≤ c
 max : c ≤ 9223372036854775807
 runs : Ru.Runs w w.heap.size A l
theorem RunsAt.up {w W : World} {A : Option Addr} {l : List Run} {n c : Nat} (h : RunsAt w A l n c) (hW : Below w.heap.size w W) : RunsAt W A l n c := ⟨h.len, h.nil, h.cap, h.max, h.runs.up hW⟩
theorem runs_post {w w' : World} {m : List Run} {e : Ending} (h : Ru.RunPost w m e w') (hm : Ru.InOrder m) : ∃ A n c, e = .returned (.slice A n c) ∧ RunsAt w' A m n c ∧ Below w.heap.size w w' ∧ ∀ ad, A = some ad → w.heap.size ≤ ad.block := by
 obtain ⟨A, n, c, rfl, hn, hA, h1, h2, hR, ho, hb⟩ := Ru.post_runs h (fit_runs hm)
 refine ⟨A, n, c, rfl, ⟨hn, hA, h1, h2, hR⟩, hb, fun ad e => ?_⟩
 subst e
 exact (ho.lt ad.block rfl).1
theorem runs_grown {w w' : World} {row : Option Nat} (hg : w.grownBy w' row) {A : Option Addr} {l : List Run} (h : Ru.Runs w w.heap.size A l) (hne : ∀ ad, A = some ad → some ad.block ≠ row) : Ru.Runs w' w'.heap.size A l :=
 ⟨h.1, fun hl => by
   obtain ⟨ad, e, hB, hc⟩ := h.2 hl
   refine ⟨ad, e, Nat.lt_of_lt_of_le hB hg.size, fun j u hu => ?_⟩
   have hb := hg.block ad.block hB (hne ad e)
   rw [← hc j u hu]
   unfold World.cell?
   rw [Ru.block_add, hb]⟩
def Apart (w : World) (ps : List PV) (row : Option Nat) : Prop := ∀ p ∈ ps, ∃ ad, p.adr = some ad ∧ ad.block < w.heap.size ∧ some ad.block ≠ row
theorem Match.grown {w w' : World} {ps : List PV} {c : List Part} {row : Option Nat} (h : Match w ps c) (hg : w.grownBy w' row) (ha : Apart w ps row) : Match w' ps c :=
 ⟨h.1, fun k p x hp hx => by
   have h1 := h.2 k p x hp hx
   obtain ⟨ad, e, hB, hne⟩ := ha p (List.mem_of_getElem? hp)
   exact ⟨h1.dev, h1.fit, h1.len, h1.nil, h1.cap, h1.max, runs_grown hg h1.runs (fun ad' e' => by rw [e] at e'; cases e'; exact hne)⟩⟩
theorem Apart.up {w w' : World} {ps : List PV} {row : Option Nat} (h : Apart w ps row) (hs : w.heap.size ≤ w'.heap.size) : Apart w' ps row := fun p hp => by
 obtain ⟨ad, e, hB, hne⟩ := h p hp
 exact ⟨ad, e, Nat.lt_of_lt_of_le hB hs, hne⟩
theorem Apart.turn {w : World} {ps : List PV} {row : Option Nat} {r : Nat} (h : Apart w ps row) (hr : w.heap.size ≤ r) : Apart w ps (some r) := fun p hp => by
 obtain ⟨ad, e, hB, _⟩ := h p hp
 exact ⟨ad, e, hB, fun e2 => by cases e2; omega⟩
theorem Apart.snoc {w : World} {ps : List PV} {row : Option Nat} {p : PV} {ad : Addr} (h : Apart w ps row) (e : p.adr = some ad) (hB : ad.block < w.heap.size) (hne : some ad.block ≠ row) : Apart w (ps ++ [p]) row := fun q hq => by
 rcases List.mem_append.1 hq with hq | hq
 · exact h q hq
 · obtain rfl := List.mem_singleton.1 hq
   exact ⟨ad, e, hB, hne⟩
theorem part_at (W : World) (p : PV) : ∀ (j : Nat) (u : Value), (cv [p])[j]? = some u → (W.alloc (.cells #[.int .u16 (p.dev : Int), .slice p.adr p.len p.cap] 71)).cell? ((⟨W.heap.size, 0, none⟩ : Addr).add j) = some u := by
 intro j u hu
 rw [Dt.zero_add, World.cell?_alloc_new]
 have e : cv [p] = [.int .u16 (p.dev : Int), .slice p.adr p.len p.cap] := rfl
 rw [e] at hu
 simpa using hu
theorem wpList_part {ops : Array Oper} {rest : List Oper} {o : Oper} {a : Act} {Q : Exit → Act → World → Prop} (hgd : o.guard = none) (s x : Operand) (ho : o.op = .call { callee := .builtin .append, args := #[s, x], argTypes := #[28, 28] }) (hty : o.type = 28)
   (w : World) (B k : Nat) (v : Value) (ps : List PV) (ad : Addr) (p : PV) (hs : a.eval s = v) (hx : a.eval x = .slice (some ad) 1 1) (hw : w.ownsRow B 71 2 v k (cv ps)) (hc : ∀ (j : Nat) (u : Value), (cv [p])[j]? = some u → w.cell? (ad.add j) = some u)
   (hn : k + 1 ≤ 4398046511104) (hB : B ≤ w.heap.size)
   (hK : ∀ A' c' w', w'.ownsRow B 71 2 (.slice A' (k + 1) c') (k + 1) (cv (ps ++ [p])) → w.grownBy w' v.ownBlock → ((Value.slice A' (k + 1) c').ownBlock = v.ownBlock ∨ (Value.slice A' (k + 1) c').ownBlock = some w.heap.size) → wpList Tryz.prog ops Q rest (a.put o.dst (.slice A' (k + 1) c')) w') : wpList Tryz.prog ops Q (o :: rest) a w := by
 refine wpList_plain hgd fun K hQ => ?_
 obtain ⟨i0, hi0, hz0, hz1, hz2⟩ := info_parts part_info
 obtain ⟨v', w', hr, h2, h3, hat, h5⟩ := run_append_own_at (P := Tryz.prog) w B 28 28 71 i0 (.agg #[.int .u16 0, .slice none 0 0]) 2 32 Tryz.underlying28 hi0 hz0 hz1 hz2 rfl (by decide) v k (cv ps) hw ad 1 1 (cv [p]) (by rw [cv_length]; rfl) hc (cv_one [p]) (by simp only [maxLen]; omega) (by omega) hB
 obtain ⟨A', c', rfl⟩ := Dt.own_form h2
 unfold Oper.wp execOp
 simp only [ho, resolve, invoke, builtin, Sem.run_bind, Sem.run_pure, Result.andThen_ok, List.map_toArray, List.map_cons, List.map_nil, hs, hx]
 rw [hty, hr]
 refine hQ _ _ (hK _ _ _ ?_ h3 h5)
 rw [cv_append]; exact h2
end Go.Proofs.YtgaegfddobpomaaGreat.Cx
