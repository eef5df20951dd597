/- Words and contracts that the proofs of this seat stand on, part 15 of 39. -/
import Derived.Test.YtgaegfddobpomaaGreatOrN
import Derived.Test.YtgaegfddobpomaaGreatOrB
import Derived.Test.YtgaegfddobpomaaGreatOrL
import Derived.Test.YtgaegfddobpomaaGreatOrI
import Derived.ShutString
import Derived.ChangeOld
import Derived.Deep.DeepHandedRow
import Derived.Deep.Matrix
import Derived.SizedLaws
import Derived.Deep.SlicePairs
import Derived.Lib.SmallJoins
import Derived.Test.YtgaegfddobpomaaGreatOrE
import Derived.Deep.RegionHeld3

namespace Go.Proofs.YtgaegfddobpomaaGreat.Cx
set_option linter.unusedVariables false
def sumC (c : List Part) : Nat := (c.map (fun x => x.2.length)).sum
theorem one_sum (f : Nat → List Run) (r : List Nat) : ((r.filterMap (oneC f)).map (fun x => x.2.length)).sum = (r.map (fun d => (f d).length)).sum := by
 induction r with
 | nil => rfl
 | cons d r ih =>
   rw [List.filterMap_cons, List.map_cons, List.sum_cons]
   unfold oneC
   by_cases h : (f d).length = 0
   · rw [if_pos h]
     simp only
     rw [h, Nat.zero_add]
     exact ih
   · rw [if_neg h]
     simp only [List.map_cons, List.sum_cons]
     rw [show ((r.filterMap (fun d => if (f d).length = 0 then none else some (d, f d))).map (fun x => x.2.length)).sum = (r.map (fun d => (f d).length)).sum from ih]
theorem map_two (f g h : Nat → Nat) (r : List Nat) (hle : ∀ d, f d ≤ g d + h d) : (r.map f).sum ≤ (r.map g).sum + (r.map h).sum := by
 induction r with
 | nil => exact Nat.zero_le _
 | cons d r ih =>
   simp only [List.map_cons, List.sum_cons]
   have := hle d
   omega
theorem map_one (e n : Nat) (r : List Nat) (hr : r.Nodup) : (r.map (fun d => if d = e then n else 0)).sum ≤ n := by
 induction r with
 | nil => exact Nat.zero_le _
 | cons d r ih =>
   obtain ⟨h1, h2⟩ := List.nodup_cons.1 hr
   simp only [List.map_cons, List.sum_cons]
   by_cases hd : d = e
   · rw [if_pos hd]
     have h0 : (r.map (fun d => if d = e then n else 0)).sum = 0 := by
       clear ih hr h2
       induction r with
       | nil => rfl
       | cons x r ih2 =>
         simp only [List.map_cons, List.sum_cons]
         rw [if_neg (fun hx => h1 (by rw [hd, ← hx]; exact List.mem_cons_self)), ih2 (fun h => h1 (List.mem_cons_of_mem _ h))]
     omega
   · rw [if_neg hd]
     have := ih h2
     omega
theorem fold_sum (c : List Part) (o : Nat → List Run) (r : List Nat) (hr : r.Nodup) : (r.map (fun d => (c.foldl (stepC d) (o d)).length)).sum ≤ (r.map (fun d => (o d).length)).sum + sumC c := by
 induction c generalizing o with
 | nil => exact Nat.le_add_right _ _
 | cons x c ih =>
   have h1 := ih (fun d => stepC d (o d) x)
   have h2 : (r.map (fun d => (stepC d (o d) x).length)).sum ≤ (r.map (fun d => (o d).length)).sum + (r.map (fun d => if d = x.1 then x.2.length else 0)).sum := by
     refine map_two _ _ _ r (fun d => ?_)
     by_cases hx : x.1 = d ∧ d ≠ 0
     · rw [show stepC d (o d) x = Ru.setL (o d) x.2 0 from if_pos hx, if_pos hx.1.symm]
       exact Ru.set_length0 _ _
     · rw [show stepC d (o d) x = o d from if_neg hx]
       exact Nat.le_add_right _ _
   have h3 := map_one x.1 x.2.length r hr
   have h4 : sumC (x :: c) = x.2.length + sumC c := by unfold sumC; rw [List.map_cons, List.sum_cons]
   simp only [List.foldl_cons]
   omega
theorem set_sum (a b : List Part) : sumC (setC a b 0) ≤ sumC a + sumC b := by
 have h1 : sumC (setC a b 0) = ((List.range Dt.topV).map (fun d => (Ru.setL (runsC a d) (runsC b d) 0).length)).sum := one_sum _ _
 have h2 := map_two (fun d => (Ru.setL (runsC a d) (runsC b d) 0).length) (fun d => (runsC a d).length) (fun d => (runsC b d).length) (List.range Dt.topV) (fun d => Ru.set_length0 _ _)
 have h3 := fold_sum a (fun _ => []) (List.range Dt.topV) List.nodup_range
 have h4 := fold_sum b (fun _ => []) (List.range Dt.topV) List.nodup_range
 have h0 : ((List.range Dt.topV).map (fun _ => ([] : List Run).length)).sum = 0 := by
   induction List.range Dt.topV with
   | nil => rfl
   | cons x l ih => rw [List.map_cons, List.sum_cons, ih]; rfl
 rw [h0] at h3 h4
 have e3 : (List.range Dt.topV).map (fun d => (runsC a d).length) = (List.range Dt.topV).map (fun d => (a.foldl (stepC d) []).length) := rfl
 have e4 : (List.range Dt.topV).map (fun d => (runsC b d).length) = (List.range Dt.topV).map (fun d => (b.foldl (stepC d) []).length) := rfl
 rw [e3, e4] at h2
 omega
theorem mem_sum {c : List Part} {x : Part} (h : x ∈ c) : x.2.length ≤ sumC c := by
 unfold sumC
 induction c with
 | nil => cases h
 | cons y c ih =>
   rw [List.map_cons, List.sum_cons]
   rcases List.mem_cons.1 h with rfl | h
   · exact Nat.le_add_right _ _
   · exact Nat.le_trans (ih h) (Nat.le_add_left _ _)
structure Wt (c : List Part) (k m : Nat) : Prop where
 fit : FitC c
 parts : c.length ≤ k
 runs : sumC c ≤ m
theorem Wt.small {c : List Part} {k m : Nat} (h : Wt c k m) (hk : k ≤ 8000) (hm : m ≤ 80000) : Small c := ⟨Nat.le_trans h.parts hk, Nat.le_trans h.runs hm⟩
theorem Wt.set {a b : List Part} {k m k2 m2 : Nat} (h : Wt a k m) (h2 : Wt b k2 m2) : Wt (setC a b 0) (k + k2) (m + m2) :=
 ⟨fit_set h.fit h2.fit 0, Nat.le_trans (set_len h.fit h2.fit 0) (Nat.add_le_add h.parts h2.parts), Nat.le_trans (set_sum a b) (Nat.add_le_add h.runs h2.runs)⟩
theorem Wt.more {c : List Part} {k m k2 m2 : Nat} (h : Wt c k m) (hk : k ≤ k2) (hm : m ≤ m2) : Wt c k2 m2 := ⟨h.fit, Nat.le_trans h.parts hk, Nat.le_trans h.runs hm⟩
theorem wt_nil : Wt [] 0 0 := ⟨ord_nil.fit, Nat.le_refl _, Nat.le_refl _⟩
theorem wt_few {c : List Part} (hf : FitC c) (h : fewC c = true) : Wt c 30 900 := by
 obtain ⟨h1, h2⟩ := of_decide_eq_true h
 refine ⟨hf, h1, ?_⟩
 have h3 : sumC c ≤ c.length * 30 := by
   unfold sumC
   clear h h1 hf
   induction c with
   | nil => exact Nat.zero_le _
   | cons x c ih =>
     have := h2 x List.mem_cons_self
     have := ih (fun y hy => h2 y (List.mem_cons_of_mem _ hy))
     simp only [List.map_cons, List.sum_cons, List.length_cons]
     omega
 omega
theorem wt_of {l : List Dot} (hl : Dt.Fit l) : Wt (ofC l) l.length l.length := by
 have h : ∀ k, Wt (ofC (l.take k)) k k := fun k => by
   induction k with
   | zero => exact wt_nil
   | succ k ih =>
     by_cases hk : k < l.length
     · have hg := List.getElem?_eq_getElem hk
       have hx := hl _ (List.getElem_mem hk)
       rw [of_next hg]
       unfold stepO
       split
       · exact ih.set ⟨fit_dot hx.1 hx.2, Nat.le_refl _, Nat.le_refl _⟩
       · exact ih.more (Nat.le_succ _) (Nat.le_succ _)
     · rw [List.take_of_length_le (by omega)] at ih ⊢
       exact ih.more (Nat.le_succ _) (Nat.le_succ _)
 have := h l.length
 rwa [List.take_length] at this
end Go.Proofs.YtgaegfddobpomaaGreat.Cx

namespace Go.Proofs.YtgaegfddobpomaaGreat.Bk
open Go.ChangeShapes Go.WideShapes Go.ChangeAt Go.RowKit Go.Proofs.YtgaegfddobpomaaGreat.Kl
set_option linter.unusedVariables false
structure Bd (k : Nat) (S : Bt) : Prop where
 ctx : Cx.Wt S.1 (k * 257) (k * 900)
 few : S.2.length ≤ k
 kills : ∀ y ∈ S.2, y.kills.length ≤ 256
theorem Bd.lim {k : Nat} {S : Bt} (h : Bd k S) (hk : k ≤ 26) : Lim S := ⟨h.ctx.small (by omega) (by omega), Nat.le_trans h.few (by omega), fun y hy => Nat.le_trans (h.kills y hy) (by decide)⟩
theorem Bd.more {k m : Nat} {S : Bt} (h : Bd k S) (hk : k ≤ m) : Bd m S := ⟨h.ctx.more (by omega) (by omega), Nat.le_trans h.few hk, h.kills⟩
theorem bd_nil : Bd 0 ([], []) := ⟨Cx.wt_nil, Nat.le_refl _, fun y hy => by cases hy⟩
theorem dots_fit {w : World} {B : Nat} {q : Ev.EV} {x : Ev.Evt} (h : Ev.EventIs w B q x) : Dt.Fit (Ev.dotsE [x]) := fun d hd => by
 obtain ⟨y, hy, h2⟩ := (dots_mem [x] d).1 hd
 rw [List.mem_singleton.1 hy] at h2
 rcases h2 with rfl | h2
 · exact h.fits.dot
 · exact h.kills.dots.1 d h2
theorem bd_put {k : Nat} {S : Bt} {w : World} {B : Nat} {q : Ev.EV} {x : Ev.Evt} (h : Bd k S) (hx : Ev.EventIs w B q x) : Bd (k + 1) (putB S x).1 := by
 unfold putB
 split
 · exact h.more (Nat.le_succ _)
 · split
   · exact h.more (Nat.le_succ _)
   · rename_i hg _
     have hxk := good_kills (x := x) (by cases h2 : Ev.goodE x with | true => rfl | false => exact absurd h2 hg)
     have hd := dots_one x
     refine ⟨?_, ?_, fun y hy => ?_⟩
     · exact (h.ctx.set (Cx.wt_of (dots_fit hx))).more (by omega) (by omega)
     · have h1 := Ev.put_long (S.2.filter (leftB x)) x
       have h2 := List.length_filter_le (leftB x) S.2
       have h3 := h.few
       show (Ev.putE (S.2.filter (leftB x)) x).length ≤ k + 1
       omega
     · rcases (Ev.put_mem y).1 hy with h1 | ⟨_, rfl⟩
       · exact h.kills y (List.mem_filter.1 h1).1
       · exact hxk
structure Kept (w w' : World) (T : Nat → Prop) : Prop where
 size : w.heap.size ≤ w'.heap.size
 cell : ∀ (a : Addr) (u : Value), w.cell? a = some u → ¬ T a.block → w'.cell? a = some u
 at_ : ∀ (g : Nat) (ty : TypeId) (cs : Array Value), At w g ty cs → ¬ T g → At w' g ty cs
 evt : ∀ (q : Ev.EV) (x : Ev.Evt), Ev.EventIs w w.heap.size q x → Ev.EventIs w' w'.heap.size q x
 evts : ∀ (A : Option Addr) (l : List Ev.Evt) (n c : Nat), Ev.EventsAt w w.heap.size A l n c → Ev.EventsAt w' w'.heap.size A l n c
 ctx : ∀ (A : Option Addr) (l : List Cx.Part) (n c : Nat), Cx.CtxAt w A l n c → Cx.CtxAt w' A l n c
 below : ∀ (v : World), Below v.heap.size v w → (∀ k, T k → v.heap.size ≤ k) → Below v.heap.size v w'
theorem Went.kept {R : Lay} {w w' : World} {p : Nat} {T : Nat → Prop} {S : Bt} (h : Went R w p T S w') : ∃ T', R w' p T' S ∧ (∀ k, T' k → T k ∨ w.heap.size ≤ k) ∧ Kept w w' T := by
 obtain ⟨T', F, h1, h2, h3, h4, h5⟩ := h
 refine ⟨T', h1, h2, h5.size, fun a u hc hn => h5.cell hc (fun hf => hn (h3 _ hf)), fun g ty cs ha hn => ?_, fun q x hx => evt_off h4 h5 hx, fun A l n c hl => evts_off h4 h5 hl, fun A l n c hc => ctx_off h4 h5 hc, fun v hv ht => Off.below hv h5 hv.size (fun k hk => ht k (h3 k hk))⟩
 exact (h5.block g (At.lt ha) (fun hf => hn (h3 _ hf))).trans ha
end Go.Proofs.YtgaegfddobpomaaGreat.Bk

namespace Go.Proofs.YtgaegfddobpomaaGreat.Bk
open Go.ChangeShapes Go.WideShapes Go.ChangeAt Go.RowKit Go.Proofs.YtgaegfddobpomaaGreat.Kl
set_option linter.unusedVariables false
set_option maxRecDepth 4000
structure AV where
 kind : Nat
 ev : Ev.EV
 adr : Option Addr
 len : Nat
 cap : Nat
structure Ac where
 kind : Nat
 e : Ev.Evt
 c : List Cx.Part
abbrev AV.cells (p : AV) : List Value := [.int .u8 (p.kind : Int), .int .u16 (p.ev.dev : Int), .int .u64 (p.ev.num : Int), .int .u8 (p.ev.kind : Int), .int .u64 (p.ev.cid : Int), .int .u8 (p.ev.fld : Int), .string p.ev.txt, .slice p.ev.adr p.ev.len p.ev.cap, .slice p.adr p.len p.cap]
def av (ps : List AV) : List Value := ps.flatMap AV.cells
structure ActIs (w : World) (p : AV) (x : Ac) : Prop where
 kind : p.kind = x.kind
 fit : x.kind < 256
 evt : Ev.EventIs w w.heap.size p.ev x.e
 ctx : Cx.CtxAt w p.adr x.c p.len p.cap
structure ActsAt (w : World) (A : Option Addr) (l : List Ac) (n c : Nat) : Prop where
 len : l.length = n
 cap : n ≤ c
 max : c ≤ 9223372036854775807
 acts : ∃ ps, Dt.Lies w w.heap.size A (av ps) ∧ ps.length = l.length ∧ ∀ (k : Nat) (p : AV) (x : Ac), ps[k]? = some p → l[k]? = some x → ActIs w p x
structure NineAt (w : World) (a : Addr) (p : AV) : Prop where
 c0 : w.cell? a = some (.int .u8 (p.kind : Int))
 c1 : w.cell? ⟨a.block, a.off + 1, none⟩ = some (.int .u16 (p.ev.dev : Int))
 c2 : w.cell? ⟨a.block, a.off + 2, none⟩ = some (.int .u64 (p.ev.num : Int))
 c3 : w.cell? ⟨a.block, a.off + 3, none⟩ = some (.int .u8 (p.ev.kind : Int))
 c4 : w.cell? ⟨a.block, a.off + 4, none⟩ = some (.int .u64 (p.ev.cid : Int))
 c5 : w.cell? ⟨a.block, a.off + 5, none⟩ = some (.int .u8 (p.ev.fld : Int))
 c6 : w.cell? ⟨a.block, a.off + 6, none⟩ = some (.string p.ev.txt)
 c7 : w.cell? ⟨a.block, a.off + 7, none⟩ = some (.slice p.ev.adr p.ev.len p.ev.cap)
 c8 : w.cell? ⟨a.block, a.off + 8, none⟩ = some (.slice p.adr p.len p.cap)
def fewO (a : Ac) : Bool := Ev.fewB [a.e] 1 && Cx.fewC a.c
def fewA (l : List Ac) (m : Nat) : Bool := decide (l.length ≤ m) && l.all fewO
end Go.Proofs.YtgaegfddobpomaaGreat.Bk

namespace Go.Proofs.YtgaegfddobpomaaGreat.Cx
open Go.ChangeShapes Go.WideShapes Go.ChangeAt Go.RowKit Go.Deep Go.Joins
set_option linter.unusedVariables false
set_option maxRecDepth 4000
structure DotsIn (w : World) (A : Option Addr) (l : List Dot) (n c : Nat) : Prop where
 len : l.length = n
 nil : A = none → n = 0 ∧ c = 0
 cap : n ≤ c
 max : c ≤ 9223372036854775807
 dots : Dt.Dots w w.heap.size A l
theorem own : ownKnob Tryz.prog.godebug = none := by kernel_rfl
theorem laidOut : laidOutB Tryz.prog = true := by kernel_rfl
theorem cells16 : Tryz.prog.cellsOf 32 = 1 := by kernel_rfl
theorem cells64 : Tryz.prog.cellsOf 33 = 1 := by kernel_rfl
theorem cellsRs : Tryz.prog.cellsOf 69 = 1 := by kernel_rfl
theorem cellsR : Tryz.prog.cellsOf 68 = 2 := by kernel_rfl
theorem cellsD : Tryz.prog.cellsOf 35 = 2 := by kernel_rfl
theorem cellsP : Tryz.prog.cellsOf 71 = 2 := by kernel_rfl
def Long {H : Type} (d : DataW H) (n : Nat) : Prop := n = 0 ∨ ∃ elems spare, d = .slice elems spare ∧ elems.length = n
end Go.Proofs.YtgaegfddobpomaaGreat.Cx
namespace Go.Proofs.YtgaegfddobpomaaGreat.Kl
open Go.ChangeShapes Go.WideShapes Go.ChangeAt Go.RowKit Go.Deep Go.Joins
end Go.Proofs.YtgaegfddobpomaaGreat.Kl

namespace Go.Proofs.YtgaegfddobpomaaGreat.Bk
open Go Go.ChangeShapes Go.WideShapes Go.ChangeAt Go.RowKit Go.Deep Go.Joins Go.Proofs.YtgaegfddobpomaaGreat.Kl Go.Proofs.YtgaegfddobpomaaGreat.Cx
set_option linter.unusedVariables false
set_option maxRecDepth 4000
theorem cellsA : Tryz.prog.cellsOf 40 = 9 := by kernel_rfl
end Go.Proofs.YtgaegfddobpomaaGreat.Bk

namespace Go.Proofs.YtgaegfddobpomaaGreat.Kl
open Go.ChangeShapes Go.WideShapes Go.ChangeAt Go.RowKit
set_option linter.unusedVariables false
set_option maxRecDepth 4000
theorem puts_len (l m : List Dt.Dot) : (l.foldl Dt.putD m).length ≤ m.length + l.length := by
 induction l generalizing m with
 | nil => exact Nat.le_refl _
 | cons x l ih =>
   have h1 := ih (Dt.putD m x)
   have h2 := Dt.put_length m x
   rw [List.foldl_cons, List.length_cons]
   omega
def keepTo (f : Dt.Dot → Bool) (l : List Dt.Dot) (k : Nat) : List Dt.Dot := Dt.sortD ((l.take k).filter f)
end Go.Proofs.YtgaegfddobpomaaGreat.Kl

namespace Go.Proofs.YtgaegfddobpomaaGreat.Bk
open Go.ChangeShapes Go.WideShapes Go.ChangeAt Go.RowKit Go.Proofs.YtgaegfddobpomaaGreat.Kl
set_option linter.unusedVariables false
set_option maxRecDepth 4000
noncomputable def okB (l : List Ev.Evt) (k : Nat) : Bool := match l[k]? with
 | none => true
 | some x => Ev.goodE x && (match k with | 0 => true | j + 1 => (match l[j]? with | none => true | some y => !decide (Dt.cmpD y.dot x.dot ≥ 0))) && !(decide (x.kind = 1) && deadB l x.dot)
noncomputable def fromB (c : List Cx.Part) (l : List Ev.Evt) : Bool := (List.range l.length).all (okB l) && (Cx.goodC c && decide (((Ev.dotsE l).filter (fun d => !Cx.hasC c d)) = []))
end Go.Proofs.YtgaegfddobpomaaGreat.Bk

namespace Go.Proofs.YtgaegfddobpomaaGreat.Bk
open Go.ChangeShapes Go.WideShapes Go.ChangeAt Go.RowKit Go.Proofs.YtgaegfddobpomaaGreat.Kl
set_option linter.unusedVariables false
structure Leg (S : Bt) : Prop where
 ctx : Cx.OrdC S.1
 rise : Ev.OrdE S.2
 good : ∀ x ∈ S.2, Ev.goodE x = true
 live : ∀ x ∈ S.2, x.kind = 1 → ∀ z ∈ S.2, x.dot ∉ z.kills
 seen : ∀ x ∈ S.2, ∀ d, d = x.dot ∨ d ∈ x.kills → Cx.hasC S.1 d = true
theorem leg_nil : Leg ([], []) := ⟨Cx.ord_nil, List.Pairwise.nil, (fun x hx => by cases hx), (fun x hx => by cases hx), (fun x hx => by cases hx)⟩
theorem hasC_set {a b : List Cx.Part} (ha : Cx.FitC a) (hb : Cx.FitC b) (d : Dt.Dot) : Cx.hasC (Cx.setC a b 0) d = (Cx.hasC a d || Cx.hasC b d) := by
 unfold Cx.hasC
 rw [Cx.has_set0 ha hb]
 cases Dt.mayD d <;> simp
theorem good_own {x : Ev.Evt} (h : Ev.goodE x = true) : x.dot ∉ x.kills ∧ Dt.mayD x.dot = true ∧ ∀ d ∈ x.kills, Dt.mayD d = true := by
 unfold Ev.goodE at h
 simp only [Bool.and_eq_true, Bool.not_eq_true', decide_eq_false_iff_not, List.all_eq_true] at h
 exact ⟨h.2, h.1.1.1.1.1.2, h.1.1.1.2⟩
theorem hasC_of {l : List Dt.Dot} (hl : Dt.Fit l) {d : Dt.Dot} (hd : d ∈ l) (hm : Dt.mayD d = true) : Cx.hasC (Cx.ofC l) d = true := by
 unfold Cx.hasC
 rw [Cx.has_of hl, hm, Bool.true_and, List.any_eq_true]
 exact ⟨d, hd, by unfold Cx.isDot; simp [hm]⟩
theorem leg_put {S : Bt} {w : World} {B : Nat} {q : Ev.EV} {x : Ev.Evt} (h : Leg S) (hx : Ev.EventIs w B q x) : Leg (putB S x).1 := by
 unfold putB
 split
 · exact h
 · split
   · exact h
   · rename_i hg hs
     have hgx : Ev.goodE x = true := by cases h2 : Ev.goodE x with | true => rfl | false => exact absurd h2 hg
     have hf := dots_fit hx
     have hmem : ∀ y, y ∈ Ev.putE (S.2.filter (leftB x)) x → (y ∈ S.2 ∧ leftB x y = true) ∨ y = x := fun y hy => by
       rcases (Ev.put_mem y).1 hy with h1 | ⟨_, h1⟩
       · exact .inl (List.mem_filter.1 h1)
       · exact .inr h1
     have hsx : ∀ z ∈ S.2, x.dot ∉ z.kills := fun z hz hk => hs (h.seen z hz x.dot (.inr hk))
     refine ⟨Cx.ord_set h.ctx.fit (Cx.ord_of hf).fit 0, Ev.put_ord x (h.rise.filter _), fun y hy => ?_, fun y hy hk z hz => ?_, fun y hy d hd => ?_⟩
     · rcases hmem y hy with h1 | rfl
       · exact h.good y h1.1
       · exact hgx
     · rcases hmem y hy with ⟨h1, h2⟩ | rfl
       · rcases hmem z hz with ⟨h3, _⟩ | rfl
         · exact h.live y h1 hk z h3
         · unfold leftB at h2
           simpa [hk] using h2
       · rcases hmem z hz with ⟨h3, _⟩ | rfl
         · exact hsx z h3
         · exact (good_own hgx).1
     · show Cx.hasC (Cx.setC S.1 (Cx.ofC (Ev.dotsE [x])) 0) d = true
       rw [hasC_set h.ctx.fit (Cx.ord_of hf).fit]
       rcases hmem y hy with ⟨h1, _⟩ | rfl
       · rw [h.seen y h1 d hd, Bool.true_or]
       · have hin : d ∈ Ev.dotsE [y] := (dots_mem [y] d).2 ⟨y, List.mem_singleton.2 rfl, hd⟩
         have hm : Dt.mayD d = true := by
           rcases hd with rfl | hd
           · exact (good_own hgx).2.1
           · exact (good_own hgx).2.2 d hd
         rw [hasC_of hf hin hm, Bool.or_true]
theorem leg_see {S : Bt} {c : List Cx.Part} (h : Leg S) (hc : Cx.FitC c) : Leg (Cx.setC S.1 c 0, S.2) :=
 ⟨Cx.ord_set h.ctx.fit hc 0, h.rise, h.good, h.live, fun x hx d hd => by
   show Cx.hasC (Cx.setC S.1 c 0) d = true
   rw [hasC_set h.ctx.fit hc, h.seen x hx d hd, Bool.true_or]⟩
theorem strip_dot (c : List Cx.Part) (x : Ev.Evt) : (stripE c x).dot = x.dot ∧ (stripE c x).kind = x.kind ∧ (∀ d ∈ (stripE c x).kills, d ∈ x.kills) := by
 unfold stripE
 split
 · exact ⟨rfl, rfl, fun d hd => by cases hd⟩
 · exact ⟨rfl, rfl, fun d hd => hd⟩
theorem strip_good {c : List Cx.Part} {x : Ev.Evt} (h : Ev.goodE x = true) : Ev.goodE (stripE c x) = true := by
 unfold stripE
 split
 · unfold Ev.goodE at h ⊢
   simp only [Bool.and_eq_true] at h ⊢
   obtain ⟨⟨⟨⟨⟨⟨h1, h2⟩, h3⟩, _⟩, _⟩, _⟩, _⟩ := h
   exact ⟨⟨⟨⟨⟨⟨h1, h2⟩, h3⟩, rfl⟩, by simp⟩, rfl⟩, by simp⟩
 · exact h
theorem leg_prune {S : Bt} {c : List Cx.Part} (h : Leg S) : Leg (pruneB S c).1 := by
 have hmem : ∀ y, y ∈ (S.2.filter (stayB c)).map (stripE c) → ∃ x ∈ S.2, y = stripE c x := fun y hy => by
   obtain ⟨x, hx, rfl⟩ := List.mem_map.1 hy
   exact ⟨x, (List.mem_filter.1 hx).1, rfl⟩
 refine ⟨h.ctx, ?_, fun y hy => ?_, fun y hy hk z hz => ?_, fun y hy d hd => ?_⟩
 · show ((S.2.filter (stayB c)).map (stripE c)).Pairwise _
   refine List.Pairwise.map _ (fun a b hab => ?_) (h.rise.filter (stayB c))
   rw [(strip_dot c a).1, (strip_dot c b).1]; exact hab
 · obtain ⟨x, hx, rfl⟩ := hmem y hy
   exact strip_good (h.good x hx)
 · obtain ⟨x, hx, rfl⟩ := hmem y hy
   obtain ⟨u, hu, rfl⟩ := hmem z hz
   rw [(strip_dot c x).1]
   exact fun hd => h.live x hx (by rw [← (strip_dot c x).2.1]; exact hk) u hu ((strip_dot c u).2.2 _ hd)
 · obtain ⟨x, hx, rfl⟩ := hmem y hy
   refine h.seen x hx d ?_
   rcases hd with rfl | hd
   · exact .inl (strip_dot c x).1
   · exact .inr ((strip_dot c x).2.2 d hd)
end Go.Proofs.YtgaegfddobpomaaGreat.Bk

namespace Go.Proofs.YtgaegfddobpomaaGreat.Bk
open Go.ChangeShapes Go.WideShapes Go.ChangeAt Go.RowKit Go.Proofs.YtgaegfddobpomaaGreat.Kl
set_option linter.unusedVariables false
set_option maxRecDepth 4000
def rankO (x : Ev.Evt) : Bool := x.kills.all fun d => !decide (x.dot.2 ≤ d.2)
def rankB (l : List Ev.Evt) : Bool := l.all rankO
theorem rank_bad {l : List Ev.Evt} {k j : Nat} {x : Ev.Evt} {d : Dt.Dot} (h : l[k]? = some x) (hd : x.kills[j]? = some d) (hr : x.dot.2 ≤ d.2) : rankB l = false := by
 unfold rankB
 refine List.all_eq_false.2 ⟨x, List.mem_of_getElem? h, ?_⟩
 unfold rankO
 rw [show (x.kills.all fun d => !decide (x.dot.2 ≤ d.2)) = false from List.all_eq_false.2 ⟨d, List.mem_of_getElem? hd, by rw [decide_eq_true hr]; simp⟩]
 simp
theorem rank_ok {l : List Ev.Evt} (h : ∀ k x, k < l.length → l[k]? = some x → rankO x = true) : rankB l = true := by
 unfold rankB
 rw [List.all_eq_true]
 intro x hx
 obtain ⟨k, hk, rfl⟩ := List.getElem_of_mem hx
 exact h k _ hk (List.getElem?_eq_getElem hk)
set_option maxHeartbeats 8000000 in
theorem ranked_any (w : World) (A : Option Addr) (l : List Ev.Evt) (n c : Nat) (hl : Ev.EventsAt w w.heap.size A l n c) :
   Calls Tryz.prog 32 #[.slice A n c] w fun e w' => e = .returned (.bool (rankB l)) ∧ Below w.heap.size w w' := by
 have HL := Lib.hid hl
 have h63 : n ≤ 2199023255552 := hl.wide
 clear hl
 go_enter Tryz.func32, Tryz.ntmps32
 go_wp2
 go_loopw [3] (fun i wr => ∃ k : Nat, k ≤ n ∧ i = .int .i64 (k : Int) ∧ (∀ j y, j < k → l[j]? = some y → rankO y = true) ∧ Below w.heap.size w wr) (fun i _ => n - (intOf i).toNat)
 case atStart => exact ⟨0, Nat.zero_le _, rfl, (fun j y hj => absurd hj (Nat.not_lt_zero _)), Below.refl _ _⟩
 case round =>
   obtain ⟨k, hk, rfl, ht, hw⟩ := hrel
   have HT := Lib.hid ht
   have HW := Lib.hid hw
   clear ht hw
   by_cases hlt : k < n
   · obtain ⟨ad, p, x, rfl, hB, hlx, hp, cp⟩ := HL.out.at_ hlt
     have HP := Lib.hid hp
     have HCP := Lib.hid cp
     have HLX := Lib.hid hlx
     have hpl : p.len ≤ 9223372036854775807 := Nat.le_trans hp.kills.wide (by decide)
     have hpn : p.num = x.dot.2 := hp.num
     clear hlx hp cp
     go_wp2_with fail
     go_loopw [4] (fun i wr => ∃ m : Nat, m ≤ p.len ∧ i = .int .i64 (m : Int) ∧ (∀ j d, j < m → x.kills[j]? = some d → ¬ x.dot.2 ≤ d.2) ∧ Below w.heap.size w wr) (fun i _ => p.len - (intOf i).toNat)
     case atStart => exact ⟨0, Nat.zero_le _, rfl, (fun j d hj => absurd hj (Nat.not_lt_zero _)), HW.out⟩
     case round =>
       obtain ⟨m, hm, rfl, ht, hw⟩ := hrel
       have HTM := Lib.hid ht
       have HWM := Lib.hid hw
       clear ht hw
       by_cases hlm : m < p.len
       · obtain ⟨bd, d, hpa, hB2, hld, hd1, hd2, hcd⟩ := HP.out.kills.dots.cells (k := m) (by rw [HP.out.kills.len]; exact hlm)
         obtain ⟨x0, x1, x2, x3, x4, x5, x6⟩ := HCP.out.kept HWM.out
         rw [hpa] at x6
         obtain ⟨d0, d3⟩ := hcd _ HWM.out
         have HLD := Lib.hid hld
         clear hpa hld hcd
         cases hz : decide (p.num ≤ d.2) with
         | true =>
           have HF : Hid (rankB l = false) := Lib.hid (rank_bad HLX.out HLD.out (by rw [← hpn]; exact of_decide_eq_true hz))
           clear hpn
           go_wp2_with fail
           go_region
           have HV := Lib.hid (Ev.bel_drew HWM.out)
           clear x0 x1 x2 x3 x4 x5 x6 d0 d3
           go_wp2
           go_ret
           exact ⟨Ev.ret_bool HF.out.symm, HV.out⟩
         | false =>
           have HN : Hid (∀ j d, j < m + 1 → x.kills[j]? = some d → ¬ x.dot.2 ≤ d.2) := Lib.hid (fun j e hj he => (Nat.lt_or_ge j m).elim (fun h => HTM.out j e h he) (fun h => by
             obtain rfl : j = m := by omega
             rw [HLD.out] at he
             cases he
             rw [← hpn]
             exact of_decide_eq_false hz))
           have HPN := Lib.hid hpn
           clear hpn
           go_wp2_with fail
           go_region
           have HV := Lib.hid (Ev.bel_drew HWM.out)
           have hpn := HPN.out
           clear x0 x1 x2 x3 x4 x5 x6 d0 d3 hpn
           go_wp2
           go_roundw
           case rel => exact ⟨m + 1, by omega, by go_num, HN.out, HV.out⟩
           case measure => simp [intOf]; omega
       · obtain rfl : m = p.len := by omega
         have HN : Hid (∀ j y, j < k + 1 → l[j]? = some y → rankO y = true) := Lib.hid (fun j y hj hy => (Nat.lt_or_ge j k).elim (fun h => HT.out j y h hy) (fun h => by
           obtain rfl : j = k := by omega
           rw [HLX.out] at hy
           cases hy
           unfold rankO
           rw [List.all_eq_true]
           intro d hd
           obtain ⟨i, hi, rfl⟩ := List.getElem_of_mem hd
           rw [decide_eq_false (HTM.out i _ (by rw [← HP.out.kills.len]; exact hi) (List.getElem?_eq_getElem hi))]; rfl))
         obtain ⟨x0, x1, x2, x3, x4, x5, x6⟩ := HCP.out.kept HWM.out
         go_wp2
         clear x0 x1 x2 x3 x4 x5 x6
         go_roundw
         case rel => exact ⟨k + 1, by omega, by go_num, HN.out, HWM.out⟩
         case measure => simp [intOf]; omega
   · obtain rfl : k = n := by omega
     have HF : Hid (rankB l = true) := Lib.hid (rank_ok (fun j y hj hy => HT.out j y (by rw [HL.out.len] at hj; exact hj) hy))
     go_wp2
     go_ret
     exact ⟨Ev.ret_bool HF.out.symm, HW.out⟩
def closeO (x y : Ev.Evt) : Bool := !decide (y.dot ∈ x.kills) || (decide (y.kind = 1) && y.kills.all fun d => decide (d ∈ x.kills))
def closeB (l : List Ev.Evt) : Bool := l.all fun x => l.all (closeO x)
theorem close_bad {l : List Ev.Evt} {k j : Nat} {x y : Ev.Evt} (h : l[k]? = some x) (hy : l[j]? = some y) (hc : closeO x y = false) : closeB l = false := by
 unfold closeB
 refine List.all_eq_false.2 ⟨x, List.mem_of_getElem? h, ?_⟩
 rw [show l.all (closeO x) = false from List.all_eq_false.2 ⟨y, List.mem_of_getElem? hy, by rw [hc]; simp⟩]
 simp
theorem close_iff (l : List Ev.Evt) : closeB l = true ↔ ∀ x ∈ l, ∀ y ∈ l, y.dot ∈ x.kills → y.kind = 1 ∧ ∀ d ∈ y.kills, d ∈ x.kills := by
 unfold closeB closeO
 simp only [List.all_eq_true, Bool.or_eq_true, Bool.not_eq_true', decide_eq_false_iff_not, Bool.and_eq_true, decide_eq_true_iff]
 constructor
 · intro h x hx y hy hd
   exact (h x hx y hy).elim (fun h2 => absurd hd h2) (fun h2 => h2)
 · intro h x hx y hy
   by_cases hd : y.dot ∈ x.kills
   · exact .inr (h x hx y hy hd)
   · exact .inl hd
set_option maxHeartbeats 16000000 in
theorem closed_any (w : World) (A : Option Addr) (l : List Ev.Evt) (n c : Nat) (hl : Ev.EventsAt w w.heap.size A l n c) :
   Calls Tryz.prog 36 #[.slice A n c] w fun e w' => e = .returned (.bool (closeB l)) ∧ Below w.heap.size w w' := by
 have HL := Lib.hid hl
 have h63 : n ≤ 2199023255552 := hl.wide
 clear hl
 go_enter Tryz.func36, Tryz.ntmps36
 go_wp2
 go_loopw [3] (fun i wr => ∃ k : Nat, k ≤ n ∧ i = .int .i64 (k : Int) ∧ (∀ j y, j < k → l[j]? = some y → ∀ z ∈ l, closeO y z = true) ∧ Below w.heap.size w wr) (fun i _ => n - (intOf i).toNat)
 case atStart => exact ⟨0, Nat.zero_le _, rfl, (fun j y hj => absurd hj (Nat.not_lt_zero _)), Below.refl _ _⟩
 case round =>
   obtain ⟨k, hk, rfl, ht, hw⟩ := hrel
   have HT := Lib.hid ht
   have HW := Lib.hid hw
   clear ht hw
   by_cases hlt : k < n
   · obtain ⟨ad, p, x, rfl, hB, hlx, hp, cp⟩ := HL.out.at_ hlt
     have HP := Lib.hid hp
     have HCP := Lib.hid cp
     have HLX := Lib.hid hlx
     clear hlx hp cp
     go_wp2_with fail
     go_loopw [4] (fun i wr => ∃ m : Nat, m ≤ n ∧ i = .int .i64 (m : Int) ∧ (∀ j z, j < m → l[j]? = some z → closeO x z = true) ∧ Below w.heap.size w wr) (fun i _ => n - (intOf i).toNat)
     case atStart => exact ⟨0, Nat.zero_le _, rfl, (fun j d hj => absurd hj (Nat.not_lt_zero _)), HW.out⟩
     case round =>
       obtain ⟨m, hm, rfl, ht, hw⟩ := hrel
       have HTM := Lib.hid ht
       have HWM := Lib.hid hw
       clear ht hw
       by_cases hlm : m < n
       · obtain ⟨ad2, q, y, hae, hB2, hly, hq, cq⟩ := HL.out.at_ hlm
         obtain rfl := Option.some.inj hae
         have HQ := Lib.hid hq
         have HCQ := Lib.hid cq
         have HLY := Lib.hid hly
         have hdot := Ev.is_dot hq
         have hql : q.len ≤ 9223372036854775807 := Nat.le_trans hq.kills.wide (by decide)
         clear hae hly hq cq
         have HXC : Hid (∀ V, Below w.heap.size w V → V.cell? ⟨(ad.add (k * 7)).block, (ad.add (k * 7)).off + 6, none⟩ = some (.slice p.adr p.len p.cap) ∧ V.cell? (ad.add (m * 7)) = some (.int .u16 (q.dev : Int)) ∧ V.cell? ⟨(ad.add (m * 7)).block, (ad.add (m * 7)).off + 1, none⟩ = some (.int .u64 (q.num : Int)) ∧ V.cell? ⟨(ad.add (m * 7)).block, (ad.add (m * 7)).off + 2, none⟩ = some (.int .u8 (q.kind : Int)) ∧ V.cell? ⟨(ad.add (m * 7)).block, (ad.add (m * 7)).off + 6, none⟩ = some (.slice q.adr q.len q.cap)) := Lib.hid (fun V hV => by
           have h1 := HCP.out.kept hV
           have h2 := HCQ.out.kept hV
           exact ⟨h1.c6, h2.c0, h2.c1, h2.c2, h2.c6⟩)
         have CH := fun W (hW : Below w.heap.size w W) => rhas_later w W p.adr x.kills p.len p.cap (q.dev, q.num) ((HP.out.up hW).kills) hW
         have hdd : decide ((q.dev, q.num) ∈ x.kills) = decide (y.dot ∈ x.kills) := by rw [hdot]
         obtain ⟨b, hb⟩ : ∃ b, decide (y.dot ∈ x.kills) = b := ⟨_, rfl⟩
         simp only [hdd, hb] at CH
         have HBB := Lib.hid hb
         clear hdd hb hdot
         obtain ⟨x0, x1, x2, x3, x4⟩ := HXC.out _ HWM.out
         go_wp2_with fail
         go_region_held3 (fun V => V.cell? ⟨(ad.add (k * 7)).block, (ad.add (k * 7)).off + 6, none⟩ = some (.slice p.adr p.len p.cap) ∧ V.cell? (ad.add (m * 7)) = some (.int .u16 (q.dev : Int)) ∧ V.cell? ⟨(ad.add (m * 7)).block, (ad.add (m * 7)).off + 1, none⟩ = some (.int .u64 (q.num : Int)) ∧ V.cell? ⟨(ad.add (m * 7)).block, (ad.add (m * 7)).off + 2, none⟩ = some (.int .u8 (q.kind : Int)) ∧ V.cell? ⟨(ad.add (m * 7)).block, (ad.add (m * 7)).off + 6, none⟩ = some (.slice q.adr q.len q.cap)) (first | exact ⟨x0, x1, x2, x3, x4⟩ | assumption | exact HXC.out _ (by (repeat (first | exact HWM.out | assumption | apply Ev.bel_drew)))) (first
           | (go_at_call 34; (with_reducible refine (CH _ ?_).mono ?_); (focus (repeat (first | exact HWM.out | assumption | apply Ev.bel_drew))); rintro r V ⟨rfl, bv⟩; have hcV := HXC.out V bv))
         all_goals
           have HV := Lib.hid bv
           obtain ⟨y0, y1, y2, y3, y4⟩ := hcV
           clear bv x0 x1 x2 x3 x4 CH
           cases b with
           | false =>
             have HN : Hid (∀ j z, j < m + 1 → l[j]? = some z → closeO x z = true) := Lib.hid (fun j z hj hz => (Nat.lt_or_ge j m).elim (fun h => HTM.out j z h hz) (fun h => by
               obtain rfl : j = m := by omega
               rw [HLY.out] at hz
               cases hz
               unfold closeO
               rw [HBB.out]; rfl))
             clear y0 y1 y2 y3 y4
             go_wp2
             go_roundw
             case rel => exact ⟨m + 1, by omega, by go_num, HN.out, HV.out⟩
             case measure => simp [intOf]; omega
           | true =>
             simp only [Bool.not_true]
             cases hkd : decide (y.kind = 1) with
             | false =>
               have kq : ((q.kind : Int) != 1) = true := by rw [bne, eq_one, HQ.out.kind, hkd]; rfl
               have HF : Hid (closeB l = false) := Lib.hid (close_bad HLX.out HLY.out (by unfold closeO; rw [HBB.out, hkd]; rfl))
               clear hkd
               go_wp2
               go_ret
               exact ⟨Ev.ret_bool HF.out.symm, HV.out⟩
             | true =>
               have kq : ((q.kind : Int) != 1) = false := by rw [bne, eq_one, HQ.out.kind, hkd]; rfl
               have HKD := Lib.hid hkd
               clear hkd
               go_wp2_with fail
               clear y0 y1 y2 y3 y4 kq
               go_loopw [5] (fun i wr => ∃ t : Nat, t ≤ q.len ∧ i = .int .i64 (t : Int) ∧ (∀ j d, j < t → y.kills[j]? = some d → d ∈ x.kills) ∧ Below w.heap.size w wr) (fun i _ => q.len - (intOf i).toNat)
               case atStart => exact ⟨0, Nat.zero_le _, rfl, (fun j d hj => absurd hj (Nat.not_lt_zero _)), HV.out⟩
               case round =>
                 obtain ⟨t, ht0, rfl, ht, hw⟩ := hrel
                 have HTT := Lib.hid ht
                 have HWT := Lib.hid hw
                 clear ht hw
                 by_cases hlt2 : t < q.len
                 · obtain ⟨bd, d, hqa, hB3, hld, hd1, hd2, hcd⟩ := HQ.out.kills.dots.cells (k := t) (by rw [HQ.out.kills.len]; exact hlt2)
                   have HXD : Hid (∀ V, Below w.heap.size w V → V.cell? ⟨(ad.add (k * 7)).block, (ad.add (k * 7)).off + 6, none⟩ = some (.slice p.adr p.len p.cap) ∧ V.cell? ⟨(ad.add (m * 7)).block, (ad.add (m * 7)).off + 6, none⟩ = some (.slice (some bd) q.len q.cap) ∧ V.cell? (bd.add (t * 2)) = some (.int .u16 (d.1 : Int)) ∧ V.cell? ⟨(bd.add (t * 2)).block, (bd.add (t * 2)).off + 1, none⟩ = some (.int .u64 (d.2 : Int))) := Lib.hid (fun V hV => by
                     have h1 := HXC.out V hV
                     have h2 := hcd V hV
                     rw [← hqa]
                     exact ⟨h1.1, h1.2.2.2.2, h2.1, h2.2⟩)
                   have HLD := Lib.hid hld
                   clear hqa hld hcd
                   have CH := fun W (hW : Below w.heap.size w W) => rhas_later w W p.adr x.kills p.len p.cap d ((HP.out.up hW).kills) hW
                   obtain ⟨b, hb⟩ : ∃ b, decide (d ∈ x.kills) = b := ⟨_, rfl⟩
                   simp only [hb] at CH
                   have HB2 := Lib.hid hb
                   clear hb
                   obtain ⟨x0, x1, x2, x3⟩ := HXD.out _ HWT.out
                   go_wp2_with fail
                   go_region_held3 (fun V => V.cell? ⟨(ad.add (k * 7)).block, (ad.add (k * 7)).off + 6, none⟩ = some (.slice p.adr p.len p.cap) ∧ V.cell? ⟨(ad.add (m * 7)).block, (ad.add (m * 7)).off + 6, none⟩ = some (.slice (some bd) q.len q.cap) ∧ V.cell? (bd.add (t * 2)) = some (.int .u16 (d.1 : Int)) ∧ V.cell? ⟨(bd.add (t * 2)).block, (bd.add (t * 2)).off + 1, none⟩ = some (.int .u64 (d.2 : Int))) (first | exact ⟨x0, x1, x2, x3⟩ | assumption | exact HXD.out _ (by (repeat (first | exact HWT.out | assumption | apply Ev.bel_drew)))) (first
                     | (go_at_call 34; (with_reducible refine (CH _ ?_).mono ?_); (focus (repeat (first | exact HWT.out | assumption | apply Ev.bel_drew))); rintro r V2 ⟨rfl, bv2⟩; have hcV2 := HXD.out V2 bv2))
                   all_goals
                     have HV2 := Lib.hid bv2
                     clear bv2 x0 x1 x2 x3 CH hcV2
                     cases b with
                     | false =>
                       have HF : Hid (closeB l = false) := Lib.hid (close_bad HLX.out HLY.out (by
                         unfold closeO
                         rw [HBB.out, HKD.out, show (y.kills.all fun d => decide (d ∈ x.kills)) = false from List.all_eq_false.2 ⟨d, List.mem_of_getElem? HLD.out, by rw [HB2.out]; simp⟩]; rfl))
                       go_wp2
                       go_ret
                       exact ⟨Ev.ret_bool HF.out.symm, HV2.out⟩
                     | true =>
                       have HN : Hid (∀ j d, j < t + 1 → y.kills[j]? = some d → d ∈ x.kills) := Lib.hid (fun j e hj he => (Nat.lt_or_ge j t).elim (fun h => HTT.out j e h he) (fun h => by
                         obtain rfl : j = t := by omega
                         rw [HLD.out] at he
                         cases he
                         exact of_decide_eq_true HB2.out))
                       go_wp2
                       go_roundw
                       case rel => exact ⟨t + 1, by omega, by go_num, HN.out, HV2.out⟩
                       case measure => simp [intOf]; omega
                 · obtain rfl : t = q.len := by omega
                   have HN : Hid (∀ j z, j < m + 1 → l[j]? = some z → closeO x z = true) := Lib.hid (fun j z hj hz => (Nat.lt_or_ge j m).elim (fun h => HTM.out j z h hz) (fun h => by
                     obtain rfl : j = m := by omega
                     rw [HLY.out] at hz
                     cases hz
                     unfold closeO
                     rw [HKD.out, show (y.kills.all fun d => decide (d ∈ x.kills)) = true from List.all_eq_true.2 (fun d hd => by
                       obtain ⟨i, hi, rfl⟩ := List.getElem_of_mem hd
                       exact decide_eq_true (HTT.out i _ (by rw [← HQ.out.kills.len]; exact hi) (List.getElem?_eq_getElem hi)))]
                     simp))
                   obtain ⟨x0, x1, x2, x3, x4⟩ := HXC.out _ HWT.out
                   go_wp2
                   clear x0 x1 x2 x3 x4
                   go_roundw
                   case rel => exact ⟨m + 1, by omega, by go_num, HN.out, HWT.out⟩
                   case measure => simp [intOf]; omega
       · obtain rfl : m = n := by omega
         have HN : Hid (∀ j y, j < k + 1 → l[j]? = some y → ∀ z ∈ l, closeO y z = true) := Lib.hid (fun j y hj hy => (Nat.lt_or_ge j k).elim (fun h => HT.out j y h hy) (fun h => by
           obtain rfl : j = k := by omega
           rw [HLX.out] at hy
           cases hy
           intro z hz
           obtain ⟨i, hi, rfl⟩ := List.getElem_of_mem hz
           exact HTM.out i _ (by rw [← HL.out.len]; exact hi) (List.getElem?_eq_getElem hi)))
         go_wp2
         go_roundw
         case rel => exact ⟨k + 1, by omega, by go_num, HN.out, HWM.out⟩
         case measure => simp [intOf]; omega
   · obtain rfl : k = n := by omega
     have HF : Hid (closeB l = true) := Lib.hid (by
       unfold closeB
       rw [List.all_eq_true]
       intro x hx
       obtain ⟨i, hi, rfl⟩ := List.getElem_of_mem hx
       exact List.all_eq_true.2 (fun z hz => HT.out i _ (by rw [← HL.out.len]; exact hi) (List.getElem?_eq_getElem hi) z hz))
     go_wp2
     go_ret
     exact ⟨Ev.ret_bool HF.out.symm, HW.out⟩
end Go.Proofs.YtgaegfddobpomaaGreat.Bk
