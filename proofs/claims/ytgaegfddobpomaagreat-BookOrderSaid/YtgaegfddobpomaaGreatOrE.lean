/- Words and contracts that the proofs of this seat stand on, part 5 of 39. -/
import Derived.Test.YtgaegfddobpomaaGreatOrD
import Derived.Test.YtgaegfddobpomaaGreatOrB
import Derived.Deep.RegionHeld3
import Derived.Deep.DeepCutAuto
import Derived.Test.YtgaegfddobpomaaGreatProg
import Derived.WalkKit
import Derived.ProofKit
import Derived.OpenShut
import Derived.Lib.Hide
import Derived.Below
import Derived.Outline
import Derived.Laws.OwnMore
import Derived.OwnWalk
import Derived.Laws.AppendOwnNone
import Derived.Maps.AppendAt
import Derived.Deep.AppendLies
import Derived.BigQuiet
import Derived.Deep.QuietTactic
import Derived.KernelRfl

namespace Go.Proofs.YtgaegfddobpomaaGreat.Dt
open Go.ChangeShapes Go.WideShapes Go.ChangeAt Go.RowKit
set_option linter.unusedVariables false
theorem sort_next {l : List Dot} {k : Nat} {x : Dot} (h : l[k]? = some x) : sortD (l.take (k + 1)) = putD (sortD (l.take k)) x := by
 unfold sortD
 rw [take_next h, List.foldl_append]; rfl
theorem sort_fit (l : List Dot) (h : Fit l) (k : Nat) : Fit (sortD (l.take k)) ∧ (sortD (l.take k)).length ≤ k := by
 induction k with
 | zero => exact ⟨fun r hr => (by cases hr), Nat.le_refl _⟩
 | succ k ih =>
   by_cases hk : k < l.length
   · have hg := List.getElem?_eq_getElem hk
     rw [sort_next hg]
     exact ⟨fit_put ih.1 (h _ (List.getElem_mem hk)), Nat.le_trans (put_length _ _) (by omega)⟩
   · have e : l.take (k + 1) = l.take k := by rw [List.take_of_length_le (by omega), List.take_of_length_le (by omega)]
     rw [e]
     exact ⟨ih.1, by omega⟩
set_option maxHeartbeats 4000000 in
theorem rsort_any (w : World) (A0 : Option Addr) (l : List Dot) (n c0 : Nat) (hl : l.length = n) (hb : Dots w w.heap.size A0 l) (h42 : n ≤ 4398046511104) :
   Calls Tryz.prog 35 #[.slice A0 n c0] w (DotPost w (sortD l)) := by
 have HL := Lib.hid hl
 have H1 := Lib.hid hb
 have HF := Lib.hid (sort_fit l hb.1)
 clear hb hl
 go_enter Tryz.func35, Tryz.ntmps35
 go_wp2_with fail
 go_loopw [3, 4] (fun v i wr => PRel w n (fun k => sortD (l.take k)) v i wr) (fun _ i _ => n - (intOf i).toNat)
 case atStart => exact ⟨0, 0, none, 0, Nat.zero_le _, rfl, rfl, rfl, World.ownsRow_nil _ _ _ _, Below.refl _ _⟩
 case round =>
   obtain ⟨k, m, A, c, hk, rfl, rfl, hm, ho, hw⟩ := hrel
   have hmk : m ≤ k := by rw [← hm]; exact (HF.out k).2
   have HM := Lib.hid hm
   have HO := Lib.hid ho
   have HW := Lib.hid hw
   clear hm ho hw
   by_cases hlt : k < n
   · obtain ⟨ad, x, rfl, hB, hlx, hx1, hx2, hcx⟩ := H1.out.cells (k := k) (by rw [HL.out]; exact hlt)
     have HN := Lib.hid (sort_next hlx)
     clear hlx
     obtain ⟨d1, d2⟩ := hcx wr HW.out
     have HP := Lib.hid (rput_any wr A (sortD (l.take k)) m c x HM.out (dots_own HO.out (HF.out k).1) (by omega))
     clear hcx
     go_wp2_with fail
     refine HP.out.mono ?_
     rintro e V ⟨A3, m3, c3, rfl, hm3, ho3, hb3⟩
     have HR := Lib.hid (p_rel (f := fun k => sortD (l.take k)) hlt HN.out hm3 (own_less ho3 HW.out.size) (HW.out.trans (hb3.mono HW.out.size)))
     clear hm3 ho3 hb3 d1 d2
     go_wp2
     go_roundw
     case rel => exact HR.out
     case measure => simp [intOf]; omega
   · obtain rfl : n = k := by omega
     have e : Hid (l.take n = l) := Lib.hid (List.take_of_length_le (by rw [HL.out]; exact Nat.le_refl _))
     simp only [e.out] at HM HO
     go_wp2
     go_ret
     exact ⟨A, m, c, rfl, HM.out, HO.out, HW.out⟩
/-! The document's list of a list: its dots, each once, in order. Plain arithmetic. -/
theorem ahead_trans {a b c : Dot} (h1 : aheadD a b = true) (h2 : aheadD b c = true) : aheadD a c = true := by
 rw [ahead_iff] at *; omega
theorem ahead_not {a b : Dot} (h1 : aheadD a b = true) : aheadD b a = false := by
 cases h : aheadD b a with
 | false => rfl
 | true => rw [ahead_iff] at *; omega
theorem ahead_irr (a : Dot) : aheadD a a = false := by
 cases h : aheadD a a with
 | false => rfl
 | true => rw [ahead_iff] at h; omega
theorem ahead_all {a b : Dot} (h1 : aheadD a b = false) (h2 : a ≠ b) : aheadD b a = true := by
 rw [ahead_iff]
 have h3 : ¬ (a.1 < b.1 ∨ (a.1 = b.1 ∧ a.2 < b.2)) := fun h' => by rw [(ahead_iff a b).2 h'] at h1; exact absurd h1 (by simp)
 have h4 : ¬ (a.1 = b.1 ∧ a.2 = b.2) := fun h' => h2 (Prod.ext h'.1 h'.2)
 omega
def Ord (l : List Dot) : Prop := l.Pairwise (fun a b => aheadD a b = true)
theorem put_mem (l : List Dot) (d x : Dot) : x ∈ putD l d ↔ x = d ∨ x ∈ l := by
 unfold putD
 simp only [List.mem_append, List.mem_filter, List.mem_singleton]
 constructor
 · rintro ((h | h) | h)
   · exact .inr h.1
   · exact .inl h
   · exact .inr h.1
 · rintro (h | h)
   · exact .inl (.inr h)
   · by_cases h1 : aheadD x d = true
     · exact .inl (.inl ⟨h, h1⟩)
     · by_cases h2 : x = d
       · exact .inl (.inr h2)
       · exact .inr ⟨h, ahead_all (by simpa using h1) h2⟩
theorem put_ord {l : List Dot} (d : Dot) (h : Ord l) : Ord (putD l d) := by
 unfold putD Ord
 rw [List.pairwise_append, List.pairwise_append]
 refine ⟨⟨h.filter _, List.pairwise_singleton _ _, ?_⟩, h.filter _, ?_⟩
 · intro a ha b hb
   rw [List.mem_singleton.1 hb]
   exact (List.mem_filter.1 ha).2
 · intro a ha b hb
   have hb2 := (List.mem_filter.1 hb).2
   rcases List.mem_append.1 ha with ha | ha
   · exact ahead_trans (List.mem_filter.1 ha).2 hb2
   · rw [List.mem_singleton.1 ha]; exact hb2
theorem sort_from (l m : List Dot) (h : Ord m) : Ord (l.foldl putD m) ∧ ∀ x, x ∈ l.foldl putD m ↔ x ∈ m ∨ x ∈ l := by
 induction l generalizing m with
 | nil => exact ⟨h, fun x => by simp⟩
 | cons d l ih =>
   obtain ⟨h1, h2⟩ := ih (putD m d) (put_ord d h)
   refine ⟨h1, fun x => ?_⟩
   rw [List.foldl_cons, h2, put_mem, List.mem_cons]
   constructor
   · rintro ((h | h) | h)
     · exact .inr (.inl h)
     · exact .inl h
     · exact .inr (.inr h)
   · rintro (h | h | h)
     · exact .inl (.inr h)
     · exact .inl (.inl h)
     · exact .inr h
theorem sort_ord (l : List Dot) : Ord (sortD l) := (sort_from l [] List.Pairwise.nil).1
theorem sort_mem (l : List Dot) (x : Dot) : x ∈ sortD l ↔ x ∈ l := by rw [show sortD l = l.foldl putD [] from rfl, (sort_from l [] List.Pairwise.nil).2]; simp
theorem ord_uniq {l m : List Dot} (hl : Ord l) (hm : Ord m) (h : ∀ x, x ∈ l ↔ x ∈ m) : l = m := by
 induction l generalizing m with
 | nil =>
   cases m with
   | nil => rfl
   | cons b m => exact absurd ((h b).2 (List.mem_cons_self ..)) (by simp)
 | cons a l ih =>
   cases m with
   | nil => exact absurd ((h a).1 (List.mem_cons_self ..)) (by simp)
   | cons b m =>
     obtain ⟨hl1, hl2⟩ := List.pairwise_cons.1 hl
     obtain ⟨hm1, hm2⟩ := List.pairwise_cons.1 hm
     have hab : a = b := by
       rcases List.mem_cons.1 ((h a).1 (List.mem_cons_self ..)) with h1 | h1
       · exact h1
       · rcases List.mem_cons.1 ((h b).2 (List.mem_cons_self ..)) with h2 | h2
         · exact h2.symm
         · have h3 := hm1 a h1
           have h4 := hl1 b h2
           rw [ahead_not h3] at h4
           exact absurd h4 (by simp)
     subst hab
     congr 1
     refine ih hl2 hm2 fun x => ?_
     constructor
     · intro hx
       rcases List.mem_cons.1 ((h x).1 (List.mem_cons_of_mem _ hx)) with h1 | h1
       · have h2 := hl1 x hx
         rw [h1, ahead_irr] at h2
         exact absurd h2 (by simp)
       · exact h1
     · intro hx
       rcases List.mem_cons.1 ((h x).2 (List.mem_cons_of_mem _ hx)) with h1 | h1
       · have h2 := hm1 x hx
         rw [h1, ahead_irr] at h2
         exact absurd h2 (by simp)
       · exact h1
theorem sort_uniq {l m : List Dot} (hm : Ord m) (h : ∀ x, x ∈ m ↔ x ∈ l) : m = sortD l :=
 ord_uniq hm (sort_ord l) (fun x => by rw [h, sort_mem])
/-! Numbers of dots. -/
def numD (d : Dot) : Nat := d.1 * 281474976710656 + d.2 % 281474976710656
end Go.Proofs.YtgaegfddobpomaaGreat.Dt

namespace Go.Proofs.YtgaegfddobpomaaGreat.Kl
open Go.ChangeShapes Go.WideShapes Go.ChangeAt Go.RowKit
set_option linter.unusedVariables false
theorem puts_mem (l m : List Dt.Dot) (d : Dt.Dot) : d ∈ l.foldl Dt.putD m ↔ d ∈ m ∨ d ∈ l := by
 induction l generalizing m with
 | nil => simp
 | cons x l ih =>
   rw [List.foldl_cons, ih, Dt.put_mem, List.mem_cons]
   constructor
   · rintro ((h | h) | h)
     · exact .inr (.inl h)
     · exact .inl h
     · exact .inr (.inr h)
   · rintro (h | h | h)
     · exact .inl (.inr h)
     · exact .inl (.inl h)
     · exact .inr h
theorem one_mem (m : List Dt.Dot) (x : Ev.Evt) (d : Dt.Dot) : d ∈ Ev.dotsOne m x ↔ d ∈ m ∨ d = x.dot ∨ d ∈ x.kills := by
 unfold Ev.dotsOne
 rw [puts_mem, Dt.put_mem]
 constructor
 · rintro ((h | h) | h)
   · exact .inr (.inl h)
   · exact .inl h
   · exact .inr (.inr h)
 · rintro (h | h | h)
   · exact .inl (.inr h)
   · exact .inl (.inl h)
   · exact .inr h
theorem dots_from (l : List Ev.Evt) (m : List Dt.Dot) (d : Dt.Dot) : d ∈ l.foldl Ev.dotsOne m ↔ d ∈ m ∨ ∃ x ∈ l, d = x.dot ∨ d ∈ x.kills := by
 induction l generalizing m with
 | nil => simp
 | cons x l ih =>
   rw [List.foldl_cons, ih, one_mem]
   constructor
   · rintro ((h | h) | ⟨y, hy, h⟩)
     · exact .inl h
     · exact .inr ⟨x, List.mem_cons_self .., h⟩
     · exact .inr ⟨y, List.mem_cons_of_mem _ hy, h⟩
   · rintro (h | ⟨y, hy, h⟩)
     · exact .inl (.inl h)
     · rcases List.mem_cons.1 hy with rfl | hy
       · exact .inl (.inr h)
       · exact .inr ⟨y, hy, h⟩
theorem dots_mem (l : List Ev.Evt) (d : Dt.Dot) : d ∈ Ev.dotsE l ↔ ∃ x ∈ l, d = x.dot ∨ d ∈ x.kills := by
 unfold Ev.dotsE
 rw [dots_from]
 simp
def editB (cid f : Nat) (x : Ev.Evt) : Bool := decide (x.kind = 1) && decide (x.cid = cid) && decide (x.fld = f)
def delB (cid : Nat) (x : Ev.Evt) : Bool := decide (x.kind = 1) && decide (x.cid = cid)
def deadB (l : List Ev.Evt) (d : Dt.Dot) : Bool := l.any fun x => decide (d ∈ x.kills)
def liveB (s : List Ev.Evt) (x : Ev.Evt) : Bool := decide (x.kind = 1) && !deadB s x.dot
noncomputable def liveE (l : List Ev.Evt) : List Ev.Evt := (Ev.sortE l).filter (liveB (Ev.sortE l))
theorem ord_one {l : List Ev.Evt} (h : Ev.OrdE l) {x y : Ev.Evt} (hx : x ∈ l) (hy : y ∈ l) (hd : x.dot = y.dot) : x = y := by
 obtain ⟨i, hi, rfl⟩ := List.getElem_of_mem hx
 obtain ⟨j, hj, rfl⟩ := List.getElem_of_mem hy
 have hp := List.pairwise_iff_getElem.1 h
 rcases Nat.lt_trichotomy i j with h1 | h1 | h1
 · exact absurd hd (Ev.ahead_ne (hp i j hi hj h1))
 · subst h1; rfl
 · exact absurd hd.symm (Ev.ahead_ne (hp j i hj hi h1))
def killsB (k cid f : Nat) (x : Ev.Evt) : Bool := if k = 1 then editB cid f x else delB cid x
def stayB (k cid f : Nat) (x : Ev.Evt) : Bool := !decide (x.cid = cid) || (decide (k = 1) && !decide (x.fld = f))
noncomputable def newK (l : List Ev.Evt) (k cid f : Nat) : List Dt.Dot := Ev.dotsE ((liveE l).filter (killsB k cid f))
noncomputable def wantE (l : List Ev.Evt) (k cid f : Nat) (e : Ev.Evt) : List Ev.Evt := if k = 1 then Ev.putE (((liveE l).filter (stayB k cid f)).foldl Ev.putE []) e else ((liveE l).filter (stayB k cid f)).foldl Ev.putE []
theorem dot_in {l : List Ev.Evt} {x : Ev.Evt} (h : x ∈ Ev.sortE l) : x ∈ l := by
 obtain ⟨j, hj, _⟩ := (Ev.sort_mem l x).1 h
 exact List.mem_of_getElem? hj
end Go.Proofs.YtgaegfddobpomaaGreat.Kl

namespace Go.Proofs.YtgaegfddobpomaaGreat.Ev
open Go.ChangeShapes Go.WideShapes Go.ChangeAt Go.RowKit
set_option linter.unusedVariables false
set_option maxRecDepth 4000
def DPost (w : World) (l : List Dt.Dot) (e : Ending) (w' : World) : Prop := ∃ A n c, e = .returned (.slice A n c) ∧ DotsAt w' w'.heap.size A l n c ∧ Below w.heap.size w w'
theorem kills_long (m : List Dt.Dot) (x : Evt) (j : Nat) : (killsTo m x j).length ≤ m.length + 1 + j := by
 induction j with
 | zero =>
   have := Dt.put_length m x.dot
   show (Dt.putD m x.dot).length ≤ _
   omega
 | succ j ih =>
   rcases Nat.lt_or_ge j x.kills.length with h | h
   · rw [kills_next (List.getElem?_eq_getElem h)]
     have := Dt.put_length (killsTo m x j) x.kills[j]
     omega
   · have e : killsTo m x (j + 1) = killsTo m x j := by
       unfold killsTo
       rw [List.take_of_length_le (by omega), List.take_of_length_le h]
     rw [e]; omega
end Go.Proofs.YtgaegfddobpomaaGreat.Ev

namespace Go.Proofs.YtgaegfddobpomaaGreat.Kl
open Go.ChangeShapes Go.WideShapes Go.ChangeAt Go.RowKit
set_option linter.unusedVariables false
set_option maxRecDepth 4000
abbrev dbox (d : Dt.Dot) : Obj := .cells #[.int .u16 (d.1 : Int), .int .u64 (d.2 : Int)] 35
theorem dbox_cells (w V : World) (d : Dt.Dot) (hb : Below (w.alloc (dbox d)).heap.size (w.alloc (dbox d)) V) : V.cell? ⟨w.heap.size, 0, none⟩ = some (.int .u16 (d.1 : Int)) ∧ V.cell? ⟨w.heap.size, 1, none⟩ = some (.int .u64 (d.2 : Int)) :=
 ⟨Ev.stays hb (by rw [World.cell?_alloc_mark]; rfl), Ev.stays hb (by rw [World.cell?_alloc_mark]; rfl)⟩
theorem rhas_later (w W : World) (A : Option Addr) (l : List Dt.Dot) (n c : Nat) (d : Dt.Dot) (h : Ev.DotsAt W W.heap.size A l n c) (hW : Below w.heap.size w W) :
   Calls Tryz.prog 34 #[.slice A n c, .agg #[.int .u16 (d.1 : Int), .int .u64 (d.2 : Int)]] W fun e V => e = .returned (.bool (decide (d ∈ l))) ∧ Below w.heap.size w V :=
 (Dt.rhas_any W A l n c d h.len h.dots (Nat.le_trans h.wide (by decide))).mono fun e V ⟨h1, h2⟩ => ⟨h1, hW.trans (h2.mono hW.size)⟩
def SRel (w : World) (n : Nat) (l : List Ev.Evt) (f : Ev.Evt → Bool) (v i : Value) (wr : World) : Prop :=
 ∃ k m A c ps, k ≤ n ∧ i = .int .i64 ((k : Nat) : Int) ∧ v = .slice A m c ∧ ps.length = m ∧ Ev.Match w w.heap.size ps ((l.take k).filter f) ∧ wr.ownsRow w.heap.size 38 7 (.slice A m c) m (Ev.ev ps) ∧ Below w.heap.size w wr
theorem s_start (w : World) (n : Nat) (l : List Ev.Evt) (f : Ev.Evt → Bool) : SRel w n l f (.slice none 0 0) (.int .i64 0) w :=
 ⟨0, 0, none, 0, [], Nat.zero_le _, rfl, rfl, rfl, by rw [List.take_zero]; exact Ev.Match.nil_ _ _, World.ownsRow_nil _ _ _ _, Below.refl _ _⟩
theorem s_skip {w wr : World} {n k m c : Nat} {l : List Ev.Evt} {f : Ev.Evt → Bool} {A : Option Addr} {ps : List Ev.EV} {y : Ev.Evt} (hk : k < n) (hy : l[k]? = some y) (hf : f y = false) (hm : ps.length = m) (hma : Ev.Match w w.heap.size ps ((l.take k).filter f)) (ho : wr.ownsRow w.heap.size 38 7 (.slice A m c) m (Ev.ev ps)) (hb : Below w.heap.size w wr) :
   SRel w n l f (.slice A m c) (.int .i64 ((k : Int) + 1)) wr :=
 ⟨k + 1, m, A, c, ps, hk, by go_num, rfl, hm, by rw [Ev.take_one hy, List.filter_append]; simp only [List.filter_cons, hf, List.filter_nil, Bool.false_eq_true, if_false, List.append_nil]; exact hma, ho, hb⟩
theorem s_take {w wr : World} {n k m c : Nat} {l : List Ev.Evt} {f : Ev.Evt → Bool} {A : Option Addr} {ps : List Ev.EV} {q : Ev.EV} {y : Ev.Evt} (hk : k < n) (hy : l[k]? = some y) (hf : f y = true) (hq : Ev.EventIs w w.heap.size q y) (hm : ps.length = m) (hma : Ev.Match w w.heap.size ps ((l.take k).filter f)) (ho : wr.ownsRow w.heap.size 38 7 (.slice A (m + 1) c) (m + 1) (Ev.ev (ps ++ [q]))) (hb : Below w.heap.size w wr) :
   SRel w n l f (.slice A (m + 1) c) (.int .i64 ((k : Int) + 1)) wr :=
 ⟨k + 1, m + 1, A, c, ps ++ [q], hk, by go_num, rfl, by rw [List.length_append, hm]; rfl, by rw [Ev.take_one hy, List.filter_append]; simp only [List.filter_cons, hf, List.filter_nil, if_true]; exact hma.snoc hq, ho, hb⟩
theorem s_long {w : World} {ps : List Ev.EV} {l : List Ev.Evt} {f : Ev.Evt → Bool} {k m : Nat} (hm : ps.length = m) (h : Ev.Match w w.heap.size ps ((l.take k).filter f)) : m ≤ k := by
 have h1 := List.length_filter_le f (l.take k)
 have h2 := List.length_take_le k l
 have h3 := h.1
 omega
theorem eq_u8 (a b : Nat) : ((a : Int) == (b : Int)) = decide (a = b) := by
 rw [Bool.eq_iff_iff, beq_iff_eq, decide_eq_true_iff]
 omega
theorem eq_one (a : Nat) : ((a : Int) == 1) = decide (a = 1) := eq_u8 a 1
end Go.Proofs.YtgaegfddobpomaaGreat.Kl

namespace Go.Proofs.YtgaegfddobpomaaGreat.Bk
open Go.ChangeShapes Go.WideShapes Go.ChangeAt Go.RowKit
set_option linter.unusedVariables false
abbrev Bs : Type := (Dt.Dot → Bool) × List Ev.Evt
def leftB (x : Ev.Evt) (z : Ev.Evt) : Bool := !decide (z.kind = 1) || !decide (z.dot ∈ x.kills)
noncomputable def putS (good : Ev.Evt → Bool) (b : Bs) (x : Ev.Evt) : Bs := if good x = true ∧ b.1 x.dot = false then (fun d => b.1 d || (decide (d = x.dot) || decide (d ∈ x.kills)), Ev.putE (b.2.filter (leftB x)) x) else b
structure Inv (good : Ev.Evt → Bool) (p : List Ev.Evt) (b : Bs) : Prop where
 seen : ∀ d, b.1 d = true ↔ ∃ x ∈ p, good x = true ∧ (d = x.dot ∨ d ∈ x.kills)
 ord : Ev.OrdE b.2
 mem : ∀ z, z ∈ b.2 ↔ z ∈ p ∧ good z = true ∧ ∀ y ∈ p, good y = true → z.dot ∉ y.kills
theorem inv_none (good : Ev.Evt → Bool) : Inv good [] (fun _ => false, []) :=
 ⟨fun d => by simp, List.Pairwise.nil, fun z => by simp⟩
structure Fine (s : List Ev.Evt) : Prop where
 one : ∀ x ∈ s, ∀ y ∈ s, x.dot = y.dot → x = y
 own : ∀ x ∈ s, x.dot ∉ x.kills
 edit : ∀ x ∈ s, ∀ y ∈ s, y.dot ∈ x.kills → y.kind = 1
 all : ∀ x ∈ s, ∀ y ∈ s, y.dot ∈ x.kills → ∀ d ∈ y.kills, d ∈ x.kills
theorem inv_step {good : Ev.Evt → Bool} {s p : List Ev.Evt} {b : Bs} {x : Ev.Evt} (F : Fine s) (hp : ∀ y ∈ p, y ∈ s) (hx : x ∈ s) (h : Inv good p b) : Inv good (p ++ [x]) (putS good b x) := by
 have happ : ∀ y, y ∈ p ++ [x] ↔ y ∈ p ∨ y = x := fun y => by simp
 by_cases hg : good x = true
 · by_cases hs : b.1 x.dot = true
   · -- seen: killed by one that is there, or there itself
     have e : putS good b x = b := by
       unfold putS
       rw [if_neg (fun h2 => by rw [hs] at h2; cases h2.2)]
     rw [e]
     obtain ⟨y, hy, hgy, hd⟩ := (h.seen x.dot).1 hs
     have hcov : ∀ d, d = x.dot ∨ d ∈ x.kills → d = y.dot ∨ d ∈ y.kills := by
       intro d hd2
       rcases hd with hd | hd
       · rw [F.one y (hp y hy) x hx hd.symm]; exact hd2
       · rcases hd2 with rfl | hd2
         · exact .inr hd
         · exact .inr (F.all y (hp y hy) x hx hd d hd2)
     refine ⟨fun d => ?_, h.ord, fun z => ?_⟩
     · rw [h.seen d]
       constructor
       · rintro ⟨u, hu, h1, h2⟩
         exact ⟨u, (happ u).2 (.inl hu), h1, h2⟩
       · rintro ⟨u, hu, h1, h2⟩
         rcases (happ u).1 hu with hu | rfl
         · exact ⟨u, hu, h1, h2⟩
         · exact ⟨y, hy, hgy, hcov d h2⟩
     · rw [h.mem z]
       constructor
       · rintro ⟨hz, hgz, hk⟩
         refine ⟨(happ z).2 (.inl hz), hgz, fun u hu hgu => ?_⟩
         rcases (happ u).1 hu with hu | rfl
         · exact hk u hu hgu
         · intro hzk
           rcases hcov z.dot (.inr hzk) with h1 | h1
           · rw [F.one z (hp z hz) y (hp y hy) h1] at hzk hk
             rcases hd with hd | hd
             · rw [F.one u hx y (hp y hy) hd] at hzk
               exact F.own y (hp y hy) hzk
             · exact F.own y (hp y hy) (F.all y (hp y hy) u hx hd _ hzk)
           · exact hk y hy hgy h1
       · rintro ⟨hz, hgz, hk⟩
         rcases (happ z).1 hz with hz | rfl
         · exact ⟨hz, hgz, fun u hu hgu => hk u ((happ u).2 (.inl hu)) hgu⟩
         · rcases hd with hd | hd
           · refine ⟨?_, hgz, fun u hu hgu => hk u ((happ u).2 (.inl hu)) hgu⟩
             rw [F.one z hx y (hp y hy) hd]; exact hy
           · exact absurd hd (hk y ((happ y).2 (.inl hy)) hgy)
   · have hs' : b.1 x.dot = false := by rwa [Bool.not_eq_true] at hs
     have e : putS good b x = (fun d => b.1 d || (decide (d = x.dot) || decide (d ∈ x.kills)), Ev.putE (b.2.filter (leftB x)) x) := by
       unfold putS
       rw [if_pos ⟨hg, hs'⟩]
     have hns : ∀ y ∈ p, good y = true → x.dot ≠ y.dot ∧ x.dot ∉ y.kills := fun y hy hgy => ⟨fun e => hs ((h.seen _).2 ⟨y, hy, hgy, .inl e⟩), fun e => hs ((h.seen _).2 ⟨y, hy, hgy, .inr e⟩)⟩
     rw [e]
     refine ⟨fun d => ?_, Ev.put_ord x (h.ord.filter _), fun z => ?_⟩
     · show (b.1 d || (decide (d = x.dot) || decide (d ∈ x.kills))) = true ↔ _
       rw [Bool.or_eq_true, Bool.or_eq_true, decide_eq_true_iff, decide_eq_true_iff, h.seen d]
       constructor
       · rintro (⟨u, hu, h1, h2⟩ | h2)
         · exact ⟨u, (happ u).2 (.inl hu), h1, h2⟩
         · exact ⟨x, (happ x).2 (.inr rfl), hg, h2⟩
       · rintro ⟨u, hu, h1, h2⟩
         rcases (happ u).1 hu with hu | rfl
         · exact .inl ⟨u, hu, h1, h2⟩
         · exact .inr h2
     · show z ∈ Ev.putE (b.2.filter (leftB x)) x ↔ _
       have hun : ∀ y ∈ b.2.filter (leftB x), y.dot ≠ x.dot := fun y hy e => by
         obtain ⟨h1, h2, _⟩ := (h.mem y).1 (List.mem_filter.1 hy).1
         exact (hns y h1 h2).1 e.symm
       rw [Ev.put_mem, List.mem_filter, h.mem z]
       unfold leftB
       rw [Bool.or_eq_true, Bool.not_eq_true', Bool.not_eq_true', decide_eq_false_iff_not, decide_eq_false_iff_not]
       constructor
       · rintro (⟨⟨hz, hgz, hk⟩, hl⟩ | ⟨_, rfl⟩)
         · refine ⟨(happ z).2 (.inl hz), hgz, fun u hu hgu => ?_⟩
           rcases (happ u).1 hu with hu | rfl
           · exact hk u hu hgu
           · intro hzk
             rcases hl with hl | hl
             · exact hl (F.edit u hx z (hp z hz) hzk)
             · exact hl hzk
         · refine ⟨(happ z).2 (.inr rfl), hg, fun u hu hgu => ?_⟩
           rcases (happ u).1 hu with hu | rfl
           · exact (hns u hu hgu).2
           · exact F.own u hx
       · rintro ⟨hz, hgz, hk⟩
         rcases (happ z).1 hz with hz | rfl
         · exact .inl ⟨⟨hz, hgz, fun u hu hgu => hk u ((happ u).2 (.inl hu)) hgu⟩, .inr (hk x ((happ x).2 (.inr rfl)) hg)⟩
         · exact .inr ⟨hun, rfl⟩
 · have e : putS good b x = b := by
     unfold putS
     rw [if_neg (fun h2 => hg h2.1)]
   rw [e]
   refine ⟨fun d => ?_, h.ord, fun z => ?_⟩
   · rw [h.seen d]
     constructor
     · rintro ⟨u, hu, h1, h2⟩
       exact ⟨u, (happ u).2 (.inl hu), h1, h2⟩
     · rintro ⟨u, hu, h1, h2⟩
       rcases (happ u).1 hu with hu | rfl
       · exact ⟨u, hu, h1, h2⟩
       · exact absurd h1 hg
   · rw [h.mem z]
     constructor
     · rintro ⟨hz, hgz, hk⟩
       refine ⟨(happ z).2 (.inl hz), hgz, fun u hu hgu => ?_⟩
       rcases (happ u).1 hu with hu | rfl
       · exact hk u hu hgu
       · exact absurd hgu hg
     · rintro ⟨hz, hgz, hk⟩
       rcases (happ z).1 hz with hz | rfl
       · exact ⟨hz, hgz, fun u hu hgu => hk u ((happ u).2 (.inl hu)) hgu⟩
       · exact absurd hgz hg
theorem inv_same {good : Ev.Evt → Bool} {p q : List Ev.Evt} {a b : Bs} (ha : Inv good p a) (hb : Inv good q b) (h : ∀ x, x ∈ p ↔ x ∈ q) : a.2 = b.2 ∧ ∀ d, a.1 d = b.1 d := by
 refine ⟨Ev.ord_uniq ha.ord hb.ord (fun z => ?_), fun d => ?_⟩
 · rw [ha.mem, hb.mem, h z]
   exact ⟨fun ⟨h1, h2, h3⟩ => ⟨h1, h2, fun y hy => h3 y ((h y).2 hy)⟩, fun ⟨h1, h2, h3⟩ => ⟨h1, h2, fun y hy => h3 y ((h y).1 hy)⟩⟩
 · rw [Bool.eq_iff_iff, ha.seen, hb.seen]
   exact ⟨fun ⟨x, h1, h2⟩ => ⟨x, (h x).1 h1, h2⟩, fun ⟨x, h1, h2⟩ => ⟨x, (h x).2 h1, h2⟩⟩
end Go.Proofs.YtgaegfddobpomaaGreat.Bk

namespace Go.Proofs.YtgaegfddobpomaaGreat.Bk
open Go.ChangeShapes Go.WideShapes Go.ChangeAt Go.RowKit Go.Proofs.YtgaegfddobpomaaGreat.Kl
set_option linter.unusedVariables false
set_option maxRecDepth 4000
abbrev bbox (A1 A2 : Option Addr) (n1 c1 n2 c2 : Nat) : Obj := .cells #[.slice A1 n1 c1, .slice A2 n2 c2] 31
def kindB (k : Nat) (x : Ev.Evt) : Bool := decide (x.kind = k)
def ofB (cid : Nat) (x : Ev.Evt) : Bool := decide (x.kind = 1) && decide (x.cid = cid)
end Go.Proofs.YtgaegfddobpomaaGreat.Bk

namespace Go.Proofs.YtgaegfddobpomaaGreat.Ru
open Go.ChangeShapes Go.WideShapes Go.ChangeAt Go.RowKit
set_option linter.unusedVariables false
set_option maxRecDepth 4000
theorem ret_bool {a b : Bool} (h : a = b) : Ending.returned (.bool a) = .returned (.bool b) := by rw [h]
theorem block_add (a : Addr) (n : Nat) : (a.add n).block = a.block := by unfold Addr.add; split <;> rfl
theorem add_add (a : Addr) (m n : Nat) : (a.add m).add n = a.add (m + n) := by
 unfold Addr.add
 by_cases h1 : m = 0
 · subst h1; simp
 · by_cases h2 : n = 0
   · subst h2; simp
   · have h3 : ¬ m + n = 0 := by omega
     simp [h1, h2, Nat.add_assoc]
theorem zero_add (g j : Nat) : (⟨g, 0, none⟩ : Addr).add j = ⟨g, j, none⟩ := by
 unfold Addr.add; split
 · rename_i hz; rw [hz]
 · simp
def Lies (w : World) (B : Nat) (A : Option Addr) (vs : List Value) : Prop :=
 0 < vs.length → ∃ ad : Addr, A = some ad ∧ ad.block < B ∧ ∀ (j : Nat) (u : Value), vs[j]? = some u → w.cell? (ad.add j) = some u
theorem Lies.below {w w' : World} {B : Nat} {A : Option Addr} {vs : List Value} (h : Lies w B A vs) (hb : Below B w w') : Lies w' B A vs := fun hl => by
 obtain ⟨ad, e, hB, hc⟩ := h hl
 exact ⟨ad, e, hB, fun j u hu => (hb.cell (by rw [block_add]; exact hB)).trans (hc j u hu)⟩
theorem Lies.more {w : World} {B B' : Nat} {A : Option Addr} {vs : List Value} (h : Lies w B A vs) (hB : B ≤ B') : Lies w B' A vs := fun hl => by
 obtain ⟨ad, e, hb, hc⟩ := h hl
 exact ⟨ad, e, by omega, hc⟩
theorem Lies.none_ (w : World) (B : Nat) (A : Option Addr) : Lies w B A [] := fun h => absurd h (by simp)
theorem lies_own {w : World} {B g n cap size : Nat} {e : TypeId} {vs : List Value} (h : w.ownsRow B e size (.slice (some ⟨g, 0, none⟩) n cap) n vs) : Lies w w.heap.size (some ⟨g, 0, none⟩) vs := fun _ => by
 refine ⟨_, rfl, (h.lt g rfl).2, fun j u hj => ?_⟩
 have hjl : j < vs.length := (List.getElem?_eq_some_iff.1 hj).1
 have := h.1
 rw [zero_add, h.cellAt j (by omega), hj]
theorem below_new (w : World) (o : Obj) : Below w.heap.size w (w.alloc o) := (Below.refl _ _).alloc (Nat.le_refl _) o
theorem turn_refl (w : World) (row : Option Nat) : w.grownBy w row := ⟨rfl, rfl, rfl, Nat.le_refl _, fun _ _ _ => rfl⟩
theorem own_shape {w w1 : World} {B n size : Nat} {e : TypeId} {v1 : Value} {xs : List Value} (hown : w1.ownsRow B e size v1 n xs) (hn : 0 < n ∨ ¬ v1 = .slice none 0 0) : ∃ g cap, v1 = .slice (some ⟨g, 0, none⟩) n cap ∧ B ≤ g := by
 rcases hown.2 with ⟨h, hz⟩ | ⟨g, cap, _, e, hg, _⟩
 · rcases hn with hn | hn
   · omega
   · exact absurd h hn
 · exact ⟨g, cap, e, hg⟩
abbrev Run := Nat × Nat
def rv (l : List Run) : List Value := l.flatMap fun r => [.int .u64 (r.1 : Int), .int .u64 (r.2 : Int)]
def nv (l : List Nat) : List Value := l.map fun x : Nat => .int .u64 (x : Int)
theorem rv_nil : rv [] = [] := rfl
theorem rv_append (l m : List Run) : rv (l ++ m) = rv l ++ rv m := by unfold rv; rw [List.flatMap_append]
theorem nv_append (l m : List Nat) : nv (l ++ m) = nv l ++ nv m := by unfold nv; rw [List.map_append]
theorem rv_length (l : List Run) : (rv l).length = l.length * 2 := by
 induction l with
 | nil => rfl
 | cons r l ih => simp only [rv, List.flatMap_cons, List.length_append, List.length_cons, List.length_nil] at ih ⊢; omega
theorem nv_length (l : List Nat) : (nv l).length = l.length := by unfold nv; simp
theorem rv_get {l : List Run} {k : Nat} {r : Run} (h : l[k]? = some r) : (rv l)[k * 2]? = some (.int .u64 (r.1 : Int)) ∧ (rv l)[k * 2 + 1]? = some (.int .u64 (r.2 : Int)) := by
 induction l generalizing k with
 | nil => simp at h
 | cons x l ih =>
   cases k with
   | zero => obtain rfl : x = r := by simpa using h
             exact ⟨rfl, rfl⟩
   | succ k =>
     have h2 := ih (k := k) (by simpa using h)
     have e : rv (x :: l) = .int .u64 (x.1 : Int) :: .int .u64 (x.2 : Int) :: rv l := rfl
     have e1 : (k + 1) * 2 = k * 2 + 2 := by omega
     rw [e, e1]
     exact ⟨by simpa using h2.1, by simpa using h2.2⟩
theorem nv_get {l : List Nat} (j : Nat) : (nv l)[j]? = l[j]?.map fun x : Nat => Value.int .u64 (x : Int) := by unfold nv; simp
theorem rv_one (l : List Run) : ∀ u ∈ rv l, u.oneCell' = true := by
 intro u hu
 obtain ⟨r, _, h⟩ := List.mem_flatMap.1 hu
 simp only [List.mem_cons, List.not_mem_nil, or_false] at h
 rcases h with rfl | rfl <;> rfl
theorem nv_one (l : List Nat) : ∀ u ∈ nv l, u.oneCell' = true := by
 intro u hu
 obtain ⟨x, _, rfl⟩ := List.mem_map.1 hu
 rfl
def Fit (l : List Run) : Prop := ∀ r ∈ l, r.1 < 18446744073709551616 ∧ r.2 < 18446744073709551616
def FitN (l : List Nat) : Prop := ∀ x ∈ l, x < 18446744073709551616
def Runs (w : World) (B : Nat) (A : Option Addr) (l : List Run) : Prop := Fit l ∧ Lies w B A (rv l)
def Nums (w : World) (B : Nat) (A : Option Addr) (l : List Nat) : Prop := FitN l ∧ Lies w B A (nv l)
theorem Runs.below {w w' : World} {B : Nat} {A : Option Addr} {l : List Run} (h : Runs w B A l) (hb : Below B w w') : Runs w' B A l := ⟨h.1, h.2.below hb⟩
theorem Runs.more {w : World} {B B' : Nat} {A : Option Addr} {l : List Run} (h : Runs w B A l) (hB : B ≤ B') : Runs w B' A l := ⟨h.1, h.2.more hB⟩
theorem Runs.up {w W : World} {A : Option Addr} {l : List Run} (h : Runs w w.heap.size A l) (hb : Below w.heap.size w W) : Runs W W.heap.size A l := (h.below hb).more hb.size
theorem Runs.none_ (w : World) (B : Nat) (A : Option Addr) : Runs w B A [] := ⟨fun r hr => (by cases hr), Lies.none_ _ _ _⟩
theorem Nums.below {w w' : World} {B : Nat} {A : Option Addr} {l : List Nat} (h : Nums w B A l) (hb : Below B w w') : Nums w' B A l := ⟨h.1, h.2.below hb⟩
theorem Nums.more {w : World} {B B' : Nat} {A : Option Addr} {l : List Nat} (h : Nums w B A l) (hB : B ≤ B') : Nums w B' A l := ⟨h.1, h.2.more hB⟩
theorem Nums.up {w W : World} {A : Option Addr} {l : List Nat} (h : Nums w w.heap.size A l) (hb : Below w.heap.size w W) : Nums W W.heap.size A l := (h.below hb).more hb.size
theorem Runs.at_ {w : World} {B : Nat} {A : Option Addr} {l : List Run} (h : Runs w B A l) {k : Nat} (hk : k < l.length) :
   ∃ (ad : Addr) (lo hi : Nat), A = some ad ∧ l[k]? = some (lo, hi) ∧ lo < 18446744073709551616 ∧ hi < 18446744073709551616 ∧ w.cell? (ad.add (k * 2)) = some (.int .u64 (lo : Int)) ∧ w.cell? (ad.add (k * 2 + 1)) = some (.int .u64 (hi : Int)) := by
 obtain ⟨ad, e, _, hc⟩ := h.2 (by rw [rv_length]; omega)
 have hg := List.getElem?_eq_getElem hk
 obtain ⟨h1, h2⟩ := h.1 l[k] (List.getElem_mem hk)
 obtain ⟨g1, g2⟩ := rv_get hg
 exact ⟨ad, l[k].1, l[k].2, e, hg, h1, h2, hc _ _ g1, hc _ _ g2⟩
theorem Nums.at_ {w : World} {B : Nat} {A : Option Addr} {l : List Nat} (h : Nums w B A l) {k : Nat} (hk : k < l.length) :
   ∃ (ad : Addr) (x : Nat), A = some ad ∧ l[k]? = some x ∧ x < 18446744073709551616 ∧ w.cell? (ad.add k) = some (.int .u64 (x : Int)) := by
 obtain ⟨ad, e, _, hc⟩ := h.2 (by rw [nv_length]; omega)
 have hg := List.getElem?_eq_getElem hk
 exact ⟨ad, l[k], e, hg, h.1 _ (List.getElem_mem hk), hc _ _ (by rw [nv_get, hg]; rfl)⟩
theorem run_info : (Tryz.prog.info? 68).map (fun i => (i.zero, i.size, i.bytes)) = some (some (.agg #[.int .u64 0, .int .u64 0]), 2, 16) := by kernel_rfl
theorem num_info : (Tryz.prog.info? 33).map (fun i => (i.zero, i.size, i.bytes)) = some (some (.int .u64 0), 1, 8) := by kernel_rfl
def mayR (r : Run) : Bool := decide (1 ≤ r.1 ∧ r.1 ≤ r.2 ∧ r.2 ≤ 281474976710655)
theorem may_any (w : World) (lo hi : Nat) (h1 : lo < 18446744073709551616) (h2 : hi < 18446744073709551616) :
   Calls Tryz.prog 115 #[.agg #[.int .u64 (lo : Int), .int .u64 (hi : Int)]] w fun e w' => e = .returned (.bool (mayR (lo, hi))) ∧ Below w.heap.size w w' := by
 by_cases c1 : 1 ≤ lo
 · by_cases c2 : lo ≤ hi
   · have hd : mayR (lo, hi) = decide ((hi : Int) ≤ 281474976710655) := decide_eq_decide.2 ⟨fun h => by have := h.2.2; simp at this; omega, fun h => ⟨c1, c2, by simp; omega⟩⟩
     rw [hd]
     clear hd
     go_enter Tryz.func115, Tryz.ntmps115
     go_wp2
     go_ret
     exact ⟨rfl, below_new w _⟩
   · have hd : mayR (lo, hi) = false := decide_eq_false (fun h => c2 h.2.1)
     have d2 : decide ((lo : Int) ≤ (hi : Int)) = false := decide_eq_false (by omega)
     rw [hd]
     clear hd
     go_enter Tryz.func115, Tryz.ntmps115
     go_wp2
     go_ret
     exact ⟨rfl, below_new w _⟩
 · have hd : mayR (lo, hi) = false := decide_eq_false (fun h => c1 h.1)
   have d1 : decide ((1 : Int) ≤ (lo : Int)) = false := decide_eq_false (by omega)
   rw [hd]
   clear hd
   go_enter Tryz.func115, Tryz.ntmps115
   go_wp2
   go_ret
   exact ⟨rfl, below_new w _⟩
def has (l : List Run) (n : Nat) : Bool := l.any fun r => mayR r && (decide (r.1 ≤ n) && decide (n ≤ r.2))
theorem has_take {l : List Run} {k : Nat} {r : Run} {n : Nat} (h : l[k]? = some r) : has (l.take (k + 1)) n = (has (l.take k) n || (mayR r && (decide (r.1 ≤ n) && decide (n ≤ r.2)))) := by
 unfold has
 rw [List.take_add_one, h]
 simp
theorem has_hit {l : List Run} {k : Nat} {r : Run} {n : Nat} (h : l[k]? = some r) (ht : (mayR r && (decide (r.1 ≤ n) && decide (n ≤ r.2))) = true) : has l n = true := by
 unfold has
 exact List.any_eq_true.2 ⟨r, List.mem_of_getElem? h, ht⟩
theorem add_next (ad : Addr) (m : Nat) : (⟨(ad.add m).block, (ad.add m).off + 1, none⟩ : Addr) = ad.add (m + 1) := by
 unfold Addr.add
 by_cases h : m = 0
 · subst h; simp
 · simp [h, Nat.add_assoc]
theorem has_any (w : World) (B : Nat) (A : Option Addr) (l : List Run) (len c n : Nat) (hl : l.length = len) (hb : Runs w B A l) (hB : B ≤ w.heap.size) (h63 : len ≤ 9223372036854775807) (hn : n < 18446744073709551616) :
   Calls Tryz.prog 76 #[.slice A len c, .int .u64 (n : Int)] w fun e w' => e = .returned (.bool (has l n)) ∧ Below w.heap.size w w' := by
 have HB := Lib.hid hb
 have HL := Lib.hid hl
 clear hb hl
 go_enter Tryz.func76, Tryz.ntmps76
 go_wp2
 go_loopw [5] (fun i wr => ∃ k : Nat, k ≤ len ∧ i = .int .i64 (k : Int) ∧ has (l.take k) n = false ∧ Below w.heap.size w wr) (fun i _ => len - (intOf i).toNat)
 case atStart => exact ⟨0, Nat.zero_le _, rfl, rfl, Below.refl _ _⟩
 case round =>
   obtain ⟨k, hk, rfl, hf, hw⟩ := hrel
   have HF := Lib.hid hf
   have HW := Lib.hid hw
   clear hf hw
   by_cases hlt : k < len
   · obtain ⟨ad, lo, hi, rfl, hlk, h1, h2, hc1, hc2⟩ := (HB.out.below ⟨HW.out.os, HW.out.tape, HW.out.output, HW.out.size, fun i hi => HW.out.block i (Nat.lt_of_lt_of_le hi hB)⟩).at_ (k := k) (by rw [HL.out]; exact hlt)
     have LK := Lib.hid hlk
     have hc3 : wr.cell? ⟨(ad.add (k * 2)).block, (ad.add (k * 2)).off + 1, none⟩ = some (.int .u64 (hi : Int)) := by rw [add_next]; exact hc2
     have HM : Hid (∀ W, Below w.heap.size w W → W.cell? (ad.add (k * 2)) = some (.int .u64 (lo : Int)) ∧ W.cell? ⟨(ad.add (k * 2)).block, (ad.add (k * 2)).off + 1, none⟩ = some (.int .u64 (hi : Int))) := fun W hW => by
       obtain ⟨ad', lo', hi', e, hlk', _, _, d1, d2⟩ := (HB.out.below ⟨hW.os, hW.tape, hW.output, hW.size, fun i hi => hW.block i (Nat.lt_of_lt_of_le hi hB)⟩).at_ (k := k) (by rw [HL.out]; exact hlt)
       cases e
       rw [LK.out] at hlk'
       cases hlk'
       exact ⟨d1, by rw [add_next]; exact d2⟩
     clear hlk hc2
     go_wp2_with fail
     refine (may_any wr lo hi h1 h2).mono ?_
     rintro e w2 ⟨rfl, hb2⟩
     have HW2 : Hid (Below w.heap.size w w2) := HW.out.trans (hb2.mono HW.out.size)
     obtain ⟨d1, d3⟩ := HM.out w2 HW2.out
     clear hb2 hc1 hc3
     have HK : Hid ((mayR (lo, hi) && (decide (lo ≤ n) && decide (n ≤ hi))) = true → has l n = true) := fun h => has_hit LK.out h
     have HN : Hid ((mayR (lo, hi) && (decide (lo ≤ n) && decide (n ≤ hi))) = false → has (l.take (k + 1)) n = false) := fun h => by rw [has_take LK.out, HF.out, h]; rfl
     by_cases c1 : mayR (lo, hi) = true
     · by_cases c2 : lo ≤ n
       · by_cases c3 : n ≤ hi
         · have e : Hid (has l n = true) := HK.out (by simp [c1, c2, c3])
           rw [c1]
           go_wp2
           go_ret
           exact ⟨ret_bool e.out.symm, HW2.out⟩
         · have e : Hid (has (l.take (k + 1)) n = false) := HN.out (by simp [c3])
           have c3' : decide ((n : Int) ≤ (hi : Int)) = false := decide_eq_false (by omega)
           rw [c1]
           go_wp2
           go_roundw
           case rel => exact ⟨k + 1, by omega, by go_num, e.out, HW2.out⟩
           case measure => simp [intOf]; omega
       · have e : Hid (has (l.take (k + 1)) n = false) := HN.out (by simp [c2])
         have c2' : decide ((lo : Int) ≤ (n : Int)) = false := decide_eq_false (by omega)
         rw [c1]
         go_wp2
         go_roundw
         case rel => exact ⟨k + 1, by omega, by go_num, e.out, HW2.out⟩
         case measure => simp [intOf]; omega
     · have c1' : mayR (lo, hi) = false := by simpa using c1
       have e : Hid (has (l.take (k + 1)) n = false) := HN.out (by simp [c1'])
       rw [c1']
       go_wp2
       go_roundw
       case rel => exact ⟨k + 1, by omega, by go_num, e.out, HW2.out⟩
       case measure => simp [intOf]; omega
   · obtain rfl : k = len := by omega
     have e : Hid (has l n = false) := by
       have h := HF.out
       rw [List.take_of_length_le (by rw [HL.out]; exact Nat.le_refl _)] at h
       exact h
     go_wp2
     go_ret
     exact ⟨ret_bool e.out.symm, HW.out⟩
end Go.Proofs.YtgaegfddobpomaaGreat.Ru
