/- Words and contracts that the proofs of this seat stand on, part 10 of 28. -/
import Derived.Test.YtgaegfddobpomaaGreatFrI
import Derived.Test.YtgaegfddobpomaaGreatFrB
import Derived.Test.YtgaegfddobpomaaGreatFrH
import Derived.Test.YtgaegfddobpomaaGreatFrF
import Derived.ShutString
import Derived.ChangeOld
import Derived.Deep.DeepHandedRow
import Derived.Deep.Matrix
import Derived.SizedLaws
import Derived.Deep.SlicePairs
import Derived.Lib.SmallJoins

namespace Go.Proofs.YtgaegfddobpomaaGreat.Cx
set_option linter.unusedVariables false
def sumC (c : List Part) : Nat := (c.map (fun x => x.2.length)).sum
theorem one_sum (f : Nat → List Run) (r : List Nat) : ((r.filterMap (oneC f)).map (fun x => x.2.length)).sum = (r.map (fun d => (f d).length)).sum := by
 induction r with
 | nil => rfl
 | cons d r ih =>
   rw [List.filterMap_cons, List.map_cons, List.sum_cons]
   unfold oneC
   by_cases h : (f d).length = 0
   · rw [if_pos h]
     simp only
     rw [h, Nat.zero_add]
     exact ih
   · rw [if_neg h]
     simp only [List.map_cons, List.sum_cons]
     rw [show ((r.filterMap (fun d => if (f d).length = 0 then none else some (d, f d))).map (fun x => x.2.length)).sum = (r.map (fun d => (f d).length)).sum from ih]
theorem map_two (f g h : Nat → Nat) (r : List Nat) (hle : ∀ d, f d ≤ g d + h d) : (r.map f).sum ≤ (r.map g).sum + (r.map h).sum := by
 induction r with
 | nil => exact Nat.zero_le _
 | cons d r ih =>
   simp only [List.map_cons, List.sum_cons]
   have := hle d
   omega
theorem map_one (e n : Nat) (r : List Nat) (hr : r.Nodup) : (r.map (fun d => if d = e then n else 0)).sum ≤ n := by
 induction r with
 | nil => exact Nat.zero_le _
 | cons d r ih =>
   obtain ⟨h1, h2⟩ := List.nodup_cons.1 hr
   simp only [List.map_cons, List.sum_cons]
   by_cases hd : d = e
   · rw [if_pos hd]
     have h0 : (r.map (fun d => if d = e then n else 0)).sum = 0 := by
       clear ih hr h2
       induction r with
       | nil => rfl
       | cons x r ih2 =>
         simp only [List.map_cons, List.sum_cons]
         rw [if_neg (fun hx => h1 (by rw [hd, ← hx]; exact List.mem_cons_self)), ih2 (fun h => h1 (List.mem_cons_of_mem _ h))]
     omega
   · rw [if_neg hd]
     have := ih h2
     omega
theorem fold_sum (c : List Part) (o : Nat → List Run) (r : List Nat) (hr : r.Nodup) : (r.map (fun d => (c.foldl (stepC d) (o d)).length)).sum ≤ (r.map (fun d => (o d).length)).sum + sumC c := by
 induction c generalizing o with
 | nil => exact Nat.le_add_right _ _
 | cons x c ih =>
   have h1 := ih (fun d => stepC d (o d) x)
   have h2 : (r.map (fun d => (stepC d (o d) x).length)).sum ≤ (r.map (fun d => (o d).length)).sum + (r.map (fun d => if d = x.1 then x.2.length else 0)).sum := by
     refine map_two _ _ _ r (fun d => ?_)
     by_cases hx : x.1 = d ∧ d ≠ 0
     · rw [show stepC d (o d) x = Ru.setL (o d) x.2 0 from if_pos hx, if_pos hx.1.symm]
       exact Ru.set_length0 _ _
     · rw [show stepC d (o d) x = o d from if_neg hx]
       exact Nat.le_add_right _ _
   have h3 := map_one x.1 x.2.length r hr
   have h4 : sumC (x :: c) = x.2.length + sumC c := by unfold sumC; rw [List.map_cons, List.sum_cons]
   simp only [List.foldl_cons]
   omega
theorem set_sum (a b : List Part) : sumC (setC a b 0) ≤ sumC a + sumC b := by
 have h1 : sumC (setC a b 0) = ((List.range Dt.topV).map (fun d => (Ru.setL (runsC a d) (runsC b d) 0).length)).sum := one_sum _ _
 have h2 := map_two (fun d => (Ru.setL (runsC a d) (runsC b d) 0).length) (fun d => (runsC a d).length) (fun d => (runsC b d).length) (List.range Dt.topV) (fun d => Ru.set_length0 _ _)
 have h3 := fold_sum a (fun _ => []) (List.range Dt.topV) List.nodup_range
 have h4 := fold_sum b (fun _ => []) (List.range Dt.topV) List.nodup_range
 have h0 : ((List.range Dt.topV).map (fun _ => ([] : List Run).length)).sum = 0 := by
   induction List.range Dt.topV with
   | nil => rfl
   | cons x l ih => rw [List.map_cons, List.sum_cons, ih]; rfl
 rw [h0] at h3 h4
 have e3 : (List.range Dt.topV).map (fun d => (runsC a d).length) = (List.range Dt.topV).map (fun d => (a.foldl (stepC d) []).length) := rfl
 have e4 : (List.range Dt.topV).map (fun d => (runsC b d).length) = (List.range Dt.topV).map (fun d => (b.foldl (stepC d) []).length) := rfl
 rw [e3, e4] at h2
 omega
theorem mem_sum {c : List Part} {x : Part} (h : x ∈ c) : x.2.length ≤ sumC c := by
 unfold sumC
 induction c with
 | nil => cases h
 | cons y c ih =>
   rw [List.map_cons, List.sum_cons]
   rcases List.mem_cons.1 h with rfl | h
   · exact Nat.le_add_right _ _
   · exact Nat.le_trans (ih h) (Nat.le_add_left _ _)
structure Wt (c : List Part) (k m : Nat) : Prop where
 fit : FitC c
 parts : c.length ≤ k
 runs : sumC c ≤ m
theorem Wt.small {c : List Part} {k m : Nat} (h : Wt c k m) (hk : k ≤ 8000) (hm : m ≤ 80000) : Small c := ⟨Nat.le_trans h.parts hk, Nat.le_trans h.runs hm⟩
theorem Wt.set {a b : List Part} {k m k2 m2 : Nat} (h : Wt a k m) (h2 : Wt b k2 m2) : Wt (setC a b 0) (k + k2) (m + m2) :=
 ⟨fit_set h.fit h2.fit 0, Nat.le_trans (set_len h.fit h2.fit 0) (Nat.add_le_add h.parts h2.parts), Nat.le_trans (set_sum a b) (Nat.add_le_add h.runs h2.runs)⟩
theorem Wt.more {c : List Part} {k m k2 m2 : Nat} (h : Wt c k m) (hk : k ≤ k2) (hm : m ≤ m2) : Wt c k2 m2 := ⟨h.fit, Nat.le_trans h.parts hk, Nat.le_trans h.runs hm⟩
theorem wt_nil : Wt [] 0 0 := ⟨ord_nil.fit, Nat.le_refl _, Nat.le_refl _⟩
theorem wt_few {c : List Part} (hf : FitC c) (h : fewC c = true) : Wt c 30 900 := by
 obtain ⟨h1, h2⟩ := of_decide_eq_true h
 refine ⟨hf, h1, ?_⟩
 have h3 : sumC c ≤ c.length * 30 := by
   unfold sumC
   clear h h1 hf
   induction c with
   | nil => exact Nat.zero_le _
   | cons x c ih =>
     have := h2 x List.mem_cons_self
     have := ih (fun y hy => h2 y (List.mem_cons_of_mem _ hy))
     simp only [List.map_cons, List.sum_cons, List.length_cons]
     omega
 omega
theorem wt_of {l : List Dot} (hl : Dt.Fit l) : Wt (ofC l) l.length l.length := by
 have h : ∀ k, Wt (ofC (l.take k)) k k := fun k => by
   induction k with
   | zero => exact wt_nil
   | succ k ih =>
     by_cases hk : k < l.length
     · have hg := List.getElem?_eq_getElem hk
       have hx := hl _ (List.getElem_mem hk)
       rw [of_next hg]
       unfold stepO
       split
       · exact ih.set ⟨fit_dot hx.1 hx.2, Nat.le_refl _, Nat.le_refl _⟩
       · exact ih.more (Nat.le_succ _) (Nat.le_succ _)
     · rw [List.take_of_length_le (by omega)] at ih ⊢
       exact ih.more (Nat.le_succ _) (Nat.le_succ _)
 have := h l.length
 rwa [List.take_length] at this
end Go.Proofs.YtgaegfddobpomaaGreat.Cx

namespace Go.Proofs.YtgaegfddobpomaaGreat.Bk
open Go.ChangeShapes Go.WideShapes Go.ChangeAt Go.RowKit Go.Proofs.YtgaegfddobpomaaGreat.Kl
set_option linter.unusedVariables false
structure Bd (k : Nat) (S : Bt) : Prop where
 ctx : Cx.Wt S.1 (k * 257) (k * 900)
 few : S.2.length ≤ k
 kills : ∀ y ∈ S.2, y.kills.length ≤ 256
theorem Bd.lim {k : Nat} {S : Bt} (h : Bd k S) (hk : k ≤ 26) : Lim S := ⟨h.ctx.small (by omega) (by omega), Nat.le_trans h.few (by omega), fun y hy => Nat.le_trans (h.kills y hy) (by decide)⟩
theorem Bd.more {k m : Nat} {S : Bt} (h : Bd k S) (hk : k ≤ m) : Bd m S := ⟨h.ctx.more (by omega) (by omega), Nat.le_trans h.few hk, h.kills⟩
theorem bd_nil : Bd 0 ([], []) := ⟨Cx.wt_nil, Nat.le_refl _, fun y hy => by cases hy⟩
theorem dots_fit {w : World} {B : Nat} {q : Ev.EV} {x : Ev.Evt} (h : Ev.EventIs w B q x) : Dt.Fit (Ev.dotsE [x]) := fun d hd => by
 obtain ⟨y, hy, h2⟩ := (dots_mem [x] d).1 hd
 rw [List.mem_singleton.1 hy] at h2
 rcases h2 with rfl | h2
 · exact h.fits.dot
 · exact h.kills.dots.1 d h2
theorem bd_put {k : Nat} {S : Bt} {w : World} {B : Nat} {q : Ev.EV} {x : Ev.Evt} (h : Bd k S) (hx : Ev.EventIs w B q x) : Bd (k + 1) (putB S x).1 := by
 unfold putB
 split
 · exact h.more (Nat.le_succ _)
 · split
   · exact h.more (Nat.le_succ _)
   · rename_i hg _
     have hxk := good_kills (x := x) (by cases h2 : Ev.goodE x with | true => rfl | false => exact absurd h2 hg)
     have hd := dots_one x
     refine ⟨?_, ?_, fun y hy => ?_⟩
     · exact (h.ctx.set (Cx.wt_of (dots_fit hx))).more (by omega) (by omega)
     · have h1 := Ev.put_long (S.2.filter (leftB x)) x
       have h2 := List.length_filter_le (leftB x) S.2
       have h3 := h.few
       show (Ev.putE (S.2.filter (leftB x)) x).length ≤ k + 1
       omega
     · rcases (Ev.put_mem y).1 hy with h1 | ⟨_, rfl⟩
       · exact h.kills y (List.mem_filter.1 h1).1
       · exact hxk
theorem bd_see {k : Nat} {S : Bt} {c : List Cx.Part} (h : Bd k S) (hc : Cx.FitC c) (hf : Cx.fewC c = true) : Bd (k + 1) (Cx.setC S.1 c 0, S.2) :=
 ⟨(h.ctx.set (Cx.wt_few hc hf)).more (by omega) (by omega), Nat.le_succ_of_le h.few, h.kills⟩
theorem strip_kills (c : List Cx.Part) (x : Ev.Evt) : (stripE c x).kills.length ≤ x.kills.length := by
 unfold stripE
 split
 · exact Nat.zero_le _
 · exact Nat.le_refl _
theorem bd_prune {k : Nat} {S : Bt} {c : List Cx.Part} (h : Bd k S) : Bd (k + 1) (pruneB S c).1 := by
 refine ⟨h.ctx.more (by omega) (by omega), ?_, fun y hy => ?_⟩
 · show ((S.2.filter (stayB c)).map (stripE c)).length ≤ k + 1
   rw [List.length_map]
   have h2 := List.length_filter_le (stayB c) S.2
   have h3 := h.few
   omega
 · obtain ⟨x, hx, rfl⟩ := List.mem_map.1 hy
   exact Nat.le_trans (strip_kills c x) (h.kills x (List.mem_filter.1 hx).1)
structure Kept (w w' : World) (T : Nat → Prop) : Prop where
 size : w.heap.size ≤ w'.heap.size
 cell : ∀ (a : Addr) (u : Value), w.cell? a = some u → ¬ T a.block → w'.cell? a = some u
 at_ : ∀ (g : Nat) (ty : TypeId) (cs : Array Value), At w g ty cs → ¬ T g → At w' g ty cs
 evt : ∀ (q : Ev.EV) (x : Ev.Evt), Ev.EventIs w w.heap.size q x → Ev.EventIs w' w'.heap.size q x
 evts : ∀ (A : Option Addr) (l : List Ev.Evt) (n c : Nat), Ev.EventsAt w w.heap.size A l n c → Ev.EventsAt w' w'.heap.size A l n c
 ctx : ∀ (A : Option Addr) (l : List Cx.Part) (n c : Nat), Cx.CtxAt w A l n c → Cx.CtxAt w' A l n c
 below : ∀ (v : World), Below v.heap.size v w → (∀ k, T k → v.heap.size ≤ k) → Below v.heap.size v w'
theorem Went.kept {R : Lay} {w w' : World} {p : Nat} {T : Nat → Prop} {S : Bt} (h : Went R w p T S w') : ∃ T', R w' p T' S ∧ (∀ k, T' k → T k ∨ w.heap.size ≤ k) ∧ Kept w w' T := by
 obtain ⟨T', F, h1, h2, h3, h4, h5⟩ := h
 refine ⟨T', h1, h2, h5.size, fun a u hc hn => h5.cell hc (fun hf => hn (h3 _ hf)), fun g ty cs ha hn => ?_, fun q x hx => evt_off h4 h5 hx, fun A l n c hl => evts_off h4 h5 hl, fun A l n c hc => ctx_off h4 h5 hc, fun v hv ht => Off.below hv h5 hv.size (fun k hk => ht k (h3 k hk))⟩
 exact (h5.block g (At.lt ha) (fun hf => hn (h3 _ hf))).trans ha
end Go.Proofs.YtgaegfddobpomaaGreat.Bk

namespace Go.Proofs.YtgaegfddobpomaaGreat.Bk
open Go.ChangeShapes Go.WideShapes Go.ChangeAt Go.RowKit Go.Proofs.YtgaegfddobpomaaGreat.Kl
set_option linter.unusedVariables false
set_option maxRecDepth 4000
structure AV where
 kind : Nat
 ev : Ev.EV
 adr : Option Addr
 len : Nat
 cap : Nat
structure Ac where
 kind : Nat
 e : Ev.Evt
 c : List Cx.Part
abbrev AV.cells (p : AV) : List Value := [.int .u8 (p.kind : Int), .int .u16 (p.ev.dev : Int), .int .u64 (p.ev.num : Int), .int .u8 (p.ev.kind : Int), .int .u64 (p.ev.cid : Int), .int .u8 (p.ev.fld : Int), .string p.ev.txt, .slice p.ev.adr p.ev.len p.ev.cap, .slice p.adr p.len p.cap]
def av (ps : List AV) : List Value := ps.flatMap AV.cells
theorem av_length (l : List AV) : (av l).length = l.length * 9 := by
 induction l with
 | nil => rfl
 | cons r l ih => simp only [av, List.flatMap_cons, List.length_append, List.length_cons, List.length_nil] at ih ⊢; omega
theorem av_get {l : List AV} {k : Nat} {r : AV} (h : l[k]? = some r) (j : Nat) (hj : j < 9) : (av l)[k * 9 + j]? = r.cells[j]? := by
 induction l generalizing k with
 | nil => simp at h
 | cons x l ih =>
   have e : av (x :: l) = x.cells ++ av l := rfl
   cases k with
   | zero =>
     obtain rfl : x = r := by simpa using h
     rw [e, Nat.zero_mul, Nat.zero_add, List.getElem?_append_left (by simpa using hj)]
   | succ k =>
     rw [e, List.getElem?_append_right (by simp; omega), show (k + 1) * 9 + j - x.cells.length = k * 9 + j by simp; omega]
     exact ih (by simpa using h)
structure ActIs (w : World) (p : AV) (x : Ac) : Prop where
 kind : p.kind = x.kind
 fit : x.kind < 256
 evt : Ev.EventIs w w.heap.size p.ev x.e
 ctx : Cx.CtxAt w p.adr x.c p.len p.cap
theorem ActIs.up {w W : World} {p : AV} {x : Ac} (h : ActIs w p x) (hb : Below w.heap.size w W) : ActIs W p x := ⟨h.kind, h.fit, h.evt.up hb, h.ctx.up hb⟩
structure ActsAt (w : World) (A : Option Addr) (l : List Ac) (n c : Nat) : Prop where
 len : l.length = n
 cap : n ≤ c
 max : c ≤ 9223372036854775807
 acts : ∃ ps, Dt.Lies w w.heap.size A (av ps) ∧ ps.length = l.length ∧ ∀ (k : Nat) (p : AV) (x : Ac), ps[k]? = some p → l[k]? = some x → ActIs w p x
theorem ActsAt.up {w W : World} {A : Option Addr} {l : List Ac} {n c : Nat} (h : ActsAt w A l n c) (hb : Below w.heap.size w W) : ActsAt W A l n c := by
 obtain ⟨ps, h1, h2, h3⟩ := h.acts
 exact ⟨h.len, h.cap, h.max, ps, (h1.below hb).more hb.size, h2, fun k p x hp hx => (h3 k p x hp hx).up hb⟩
structure NineAt (w : World) (a : Addr) (p : AV) : Prop where
 c0 : w.cell? a = some (.int .u8 (p.kind : Int))
 c1 : w.cell? ⟨a.block, a.off + 1, none⟩ = some (.int .u16 (p.ev.dev : Int))
 c2 : w.cell? ⟨a.block, a.off + 2, none⟩ = some (.int .u64 (p.ev.num : Int))
 c3 : w.cell? ⟨a.block, a.off + 3, none⟩ = some (.int .u8 (p.ev.kind : Int))
 c4 : w.cell? ⟨a.block, a.off + 4, none⟩ = some (.int .u64 (p.ev.cid : Int))
 c5 : w.cell? ⟨a.block, a.off + 5, none⟩ = some (.int .u8 (p.ev.fld : Int))
 c6 : w.cell? ⟨a.block, a.off + 6, none⟩ = some (.string p.ev.txt)
 c7 : w.cell? ⟨a.block, a.off + 7, none⟩ = some (.slice p.ev.adr p.ev.len p.ev.cap)
 c8 : w.cell? ⟨a.block, a.off + 8, none⟩ = some (.slice p.adr p.len p.cap)
theorem NineAt.kept {w W : World} {a : Addr} {p : AV} (h : NineAt w a p) (hb : Below w.heap.size w W) : NineAt W a p := ⟨Ev.stays hb h.c0, Ev.stays hb h.c1, Ev.stays hb h.c2, Ev.stays hb h.c3, Ev.stays hb h.c4, Ev.stays hb h.c5, Ev.stays hb h.c6, Ev.stays hb h.c7, Ev.stays hb h.c8⟩
theorem ActsAt.at_ {w : World} {A : Option Addr} {l : List Ac} {n cp : Nat} (h : ActsAt w A l n cp) {k : Nat} (hk : k < n) :
   ∃ (ad : Addr) (p : AV) (x : Ac), A = some ad ∧ ad.block < w.heap.size ∧ l[k]? = some x ∧ ActIs w p x ∧ NineAt w (ad.add (k * 9)) p := by
 obtain ⟨ps, h1, h2, h3⟩ := h.acts
 have hkc : k < l.length := by rw [h.len]; exact hk
 have hkp : k < ps.length := by rw [h2]; exact hkc
 have hx := List.getElem?_eq_getElem hkc
 have hp := List.getElem?_eq_getElem hkp
 obtain ⟨ad, e, hB, hc⟩ := h1 (by rw [av_length]; omega)
 have g := fun j hj => av_get hp j hj
 refine ⟨ad, ps[k], l[k], e, hB, hx, h3 k _ _ hp hx, ⟨hc _ _ (g 0 (by omega)), ?_, ?_, ?_, ?_, ?_, ?_, ?_, ?_⟩⟩
 · rw [Ev.add_eq _ _ _ (by omega)]; exact hc _ _ (g 1 (by omega))
 · rw [Ev.add_eq _ _ _ (by omega)]; exact hc _ _ (g 2 (by omega))
 · rw [Ev.add_eq _ _ _ (by omega)]; exact hc _ _ (g 3 (by omega))
 · rw [Ev.add_eq _ _ _ (by omega)]; exact hc _ _ (g 4 (by omega))
 · rw [Ev.add_eq _ _ _ (by omega)]; exact hc _ _ (g 5 (by omega))
 · rw [Ev.add_eq _ _ _ (by omega)]; exact hc _ _ (g 6 (by omega))
 · rw [Ev.add_eq _ _ _ (by omega)]; exact hc _ _ (g 7 (by omega))
 · rw [Ev.add_eq _ _ _ (by omega)]; exact hc _ _ (g 8 (by omega))
def fewO (a : Ac) : Bool := Ev.fewB [a.e] 1 && Cx.fewC a.c
def fewA (l : List Ac) (m : Nat) : Bool := decide (l.length ≤ m) && l.all fewO
theorem fewA_all {l : List Ac} {m : Nat} (h : fewA l m = true) : l.length ≤ m ∧ ∀ a ∈ l, fewO a = true := by
 unfold fewA at h
 rw [Bool.and_eq_true, decide_eq_true_iff, List.all_eq_true] at h
 exact h
theorem fewA_bad {l : List Ac} {m k : Nat} {a : Ac} (h : l[k]? = some a) (ha : fewO a = false) : fewA l m = false := by
 unfold fewA
 rw [show l.all fewO = false from List.all_eq_false.2 ⟨a, List.mem_of_getElem? h, by rw [ha]; simp⟩, Bool.and_false]
theorem few_one' {w W : World} {g : Nat} {q : Ev.EV} {e : Ev.Evt} {b : Bool} (hb : Ev.fewB [e] 1 = b) (hW : Below w.heap.size w W) (hl : Dt.Lies W W.heap.size (some ⟨g, 0, none⟩) (Ev.ev [q])) (hq : Ev.EventIs W W.heap.size q e) :
   Calls Tryz.prog 26 #[.slice (some ⟨g, 0, none⟩) 1 1, .int .i64 1] W fun r V => r = .returned (.bool b) ∧ Below w.heap.size w V := by
 have h : Ev.EventsAt W W.heap.size (some ⟨g, 0, none⟩) [e] 1 1 := by
   refine ⟨rfl, (fun e => by cases e), Nat.le_refl _, by decide, by decide, [q], hl, rfl, fun k p y hp hy => ?_⟩
   have hk : k = 0 := by have := (List.getElem?_eq_some_iff.1 hp).1; simp at this; omega
   subst hk
   cases hp; cases hy
   exact hq
 refine (Ev.rfew_any W _ [e] 1 1 1 (by decide) h).mono ?_
 rintro r V ⟨h1, rfl⟩
 exact ⟨by rw [h1, hb], hW⟩
set_option maxHeartbeats 8000000 in
theorem rfewa_any (w : World) (A : Option Addr) (l : List Ac) (n c m : Nat) (hm : m ≤ 2147483647) (h : ActsAt w A l n c) :
   Calls Tryz.prog 7 #[.slice A n c, .int .i64 ((m : Nat) : Int)] w fun e w' => e = .returned (.int .i64 (if fewA l m = true then 1 else 0)) ∧ Below w.heap.size w w' := by
 obtain ⟨r0, hr0⟩ : ∃ r : Int, (if fewA l m = true then 1 else 0) = r := ⟨_, rfl⟩
 rw [hr0]
 have HRR := Lib.hid hr0
 clear hr0
 have H := Lib.hid h
 have h63 : n ≤ 9223372036854775807 := Nat.le_trans h.cap h.max
 clear h
 by_cases hn : n ≤ m
 · have hd1 : decide (m < n) = false := decide_eq_false (by omega)
   go_enter Tryz.func7, Tryz.ntmps7
   go_wp2
   go_loopw [5] (fun i wr => ∃ k : Nat, k ≤ n ∧ i = .int .i64 (k : Int) ∧ (∀ j a, j < k → l[j]? = some a → fewO a = true) ∧ Below w.heap.size w wr) (fun i _ => n - (intOf i).toNat)
   case atStart => exact ⟨0, Nat.zero_le _, rfl, (fun j a hj => absurd hj (Nat.not_lt_zero _)), Below.refl _ _⟩
   case round =>
     obtain ⟨k, hk, rfl, ht, hw⟩ := hrel
     have HT := Lib.hid ht
     have HW := Lib.hid hw
     clear ht hw
     by_cases hlt : k < n
     · obtain ⟨ad, p, x, rfl, hB, hlx, hp, cp⟩ := (H.out.up HW.out).at_ hlt
       obtain ⟨x0, x1, x2, x3, x4, x5, x6, x7, x8⟩ := cp
       have HP := Lib.hid hp
       have HLX := Lib.hid hlx
       clear hp hlx
       go_wp2_with fail
       have hbx := Ev.below_new wr p.ev.box
       obtain ⟨b, hb⟩ : ∃ b, Ev.fewB [x.e] 1 = b := ⟨_, rfl⟩
       refine (few_one' hb hbx (Ev.lies_evt wr p.ev) (HP.out.evt.up hbx)).mono ?_
       rintro r V ⟨rfl, bv⟩
       have HV := Lib.hid (HW.out.trans (bv.mono HW.out.size))
       have y8 := Ev.stays bv x8
       have HCV := Lib.hid (HP.out.ctx.up bv)
       have HB := Lib.hid hb
       clear x0 x1 x2 x3 x4 x5 x6 x7 x8 hbx bv hb
       cases b with
       | false =>
         have HF : Hid (r0 = 0) := Lib.hid (by rw [← HRR.out, fewA_bad HLX.out (by unfold fewO; rw [HB.out]; rfl)]; rfl)
         go_wp2
         go_ret
         exact ⟨by rw [HF.out]; rfl, HV.out⟩
       | true =>
         go_wp2_with fail
         refine (Cx.rfew_any V p.adr x.c p.len p.cap HCV.out).mono ?_
         rintro r V2 ⟨rfl, bv⟩
         have HV2 := Lib.hid (HV.out.trans (bv.mono HV.out.size))
         clear bv y8
         cases hc : Cx.fewC x.c with
         | false =>
           have HF : Hid (r0 = 0) := Lib.hid (by rw [← HRR.out, fewA_bad HLX.out (by unfold fewO; rw [HB.out, hc]; rfl)]; rfl)
           clear hc
           go_wp2
           go_ret
           exact ⟨by rw [HF.out]; rfl, HV2.out⟩
         | true =>
           have HN : Hid (∀ j a, j < k + 1 → l[j]? = some a → fewO a = true) := Lib.hid (fun j a hj ha => (Nat.lt_or_ge j k).elim (fun h => HT.out j a h ha) (fun h => by
             obtain rfl : j = k := by omega
             rw [HLX.out] at ha
             cases ha
             unfold fewO
             rw [HB.out, hc]; rfl))
           clear hc
           go_wp2
           go_roundw
           case rel => exact ⟨k + 1, by omega, by go_num, HN.out, HV2.out⟩
           case measure => simp [intOf]; omega
     · obtain rfl : k = n := by omega
       have HF : Hid (r0 = 1) := Lib.hid (by
         rw [← HRR.out]
         refine if_pos ?_
         unfold fewA
         rw [decide_eq_true (by rw [H.out.len]; exact hn), Bool.true_and, List.all_eq_true]
         intro a ha
         obtain ⟨j, hj, rfl⟩ := List.getElem_of_mem ha
         exact HT.out j _ (by rw [H.out.len] at hj; exact hj) (List.getElem?_eq_getElem hj))
       go_wp2
       go_ret
       exact ⟨by rw [HF.out]; rfl, HW.out⟩
 · have hd1 : decide (m < n) = true := decide_eq_true (by omega)
   have HF : Hid (r0 = 0) := Lib.hid (by
     rw [← HRR.out]
     refine if_neg ?_
     unfold fewA
     rw [decide_eq_false (by rw [H.out.len]; exact hn), Bool.false_and]
     decide)
   go_enter Tryz.func7, Tryz.ntmps7
   go_wp2
   go_ret
   exact ⟨by rw [HF.out]; rfl, Below.refl _ _⟩
end Go.Proofs.YtgaegfddobpomaaGreat.Bk

namespace Go.Proofs.YtgaegfddobpomaaGreat.Cx
open Go.ChangeShapes Go.WideShapes Go.ChangeAt Go.RowKit Go.Deep Go.Joins
set_option linter.unusedVariables false
set_option maxRecDepth 4000
structure DotsIn (w : World) (A : Option Addr) (l : List Dot) (n c : Nat) : Prop where
 len : l.length = n
 nil : A = none → n = 0 ∧ c = 0
 cap : n ≤ c
 max : c ≤ 9223372036854775807
 dots : Dt.Dots w w.heap.size A l
theorem own : ownKnob Tryz.prog.godebug = none := by kernel_rfl
theorem laidOut : laidOutB Tryz.prog = true := by kernel_rfl
theorem cells16 : Tryz.prog.cellsOf 32 = 1 := by kernel_rfl
theorem cells64 : Tryz.prog.cellsOf 33 = 1 := by kernel_rfl
theorem cellsRs : Tryz.prog.cellsOf 69 = 1 := by kernel_rfl
theorem cellsR : Tryz.prog.cellsOf 68 = 2 := by kernel_rfl
theorem cellsD : Tryz.prog.cellsOf 35 = 2 := by kernel_rfl
theorem cellsP : Tryz.prog.cellsOf 71 = 2 := by kernel_rfl
theorem wf_u64 {n : Int} (h : (Lit.int .u64 n).wf = true) : ∃ s : Nat, n = (s : Int) ∧ s < 18446744073709551616 := by
 simp [Lit.wf, IntKind.min, IntKind.max, IntKind.bits, IntKind.signed] at h
 exact ⟨n.toNat, by omega, by omega⟩
theorem wf_u16 {n : Int} (h : (Lit.int .u16 n).wf = true) : ∃ s : Nat, n = (s : Int) ∧ s < 65536 := by
 simp [Lit.wf, IntKind.min, IntKind.max, IntKind.bits, IntKind.signed] at h
 exact ⟨n.toNat, by omega, by omega⟩
theorem list_of {α : Type} {Q : Nat → α → Prop} (n : Nat) (h : ∀ i, i < n → ∃ t, Q i t) : ∃ L : List α, L.length = n ∧ ∀ (i : Nat) (t : α), L[i]? = some t → Q i t := by
 induction n with
 | zero => exact ⟨[], rfl, fun i t hi => by simp at hi⟩
 | succ n ih =>
   obtain ⟨L, hL, hQ⟩ := ih (fun i hi => h i (by omega))
   obtain ⟨t, ht⟩ := h n (by omega)
   refine ⟨L ++ [t], by simp [hL], fun i u hu => ?_⟩
   rcases Nat.lt_or_ge i n with hi | hi
   · rw [List.getElem?_append_left (by omega)] at hu
     exact hQ i u hu
   · rw [List.getElem?_append_right (by omega), hL] at hu
     have e : i = n := by
       rcases Nat.eq_or_lt_of_le hi with e | e
       · exact e.symm
       · rw [List.getElem?_eq_none (by simp; omega)] at hu; cases hu
     subst e
     simp at hu
     subst hu
     exact ht
theorem lies_two {α : Type} {w : World} {B : Nat} {ad : Addr} (hB : ad.block < B) (f g : α → Value) (L : List α) (h : ∀ (i : Nat) (r : α), L[i]? = some r → w.cell? (ad.add (i * 2)) = some (f r) ∧ w.cell? (ad.add (i * 2 + 1)) = some (g r)) : Dt.Lies w B (some ad) (L.flatMap fun r => [f r, g r]) := fun _ => by
 have len : ∀ L : List α, (L.flatMap fun r => [f r, g r]).length = L.length * 2 := fun L => by
   induction L with
   | nil => rfl
   | cons r L ih => simp only [List.flatMap_cons, List.length_append, List.length_cons, List.length_nil, ih]; omega
 have get : ∀ (L : List α) (k : Nat) (r : α), L[k]? = some r → (L.flatMap fun r => [f r, g r])[k * 2]? = some (f r) ∧ (L.flatMap fun r => [f r, g r])[k * 2 + 1]? = some (g r) := fun L => by
   induction L with
   | nil => intro k r h; simp at h
   | cons x L ih =>
     intro k r h
     cases k with
     | zero => obtain rfl : x = r := by simpa using h
               exact ⟨rfl, rfl⟩
     | succ k =>
       have h2 := ih k r (by simpa using h)
       have e : (x :: L).flatMap (fun r => [f r, g r]) = f x :: g x :: L.flatMap (fun r => [f r, g r]) := rfl
       have e1 : (k + 1) * 2 = k * 2 + 2 := by omega
       rw [e, e1]
       exact ⟨by simpa using h2.1, by simpa using h2.2⟩
 refine ⟨ad, rfl, hB, fun j u hu => ?_⟩
 have hj : j < (L.flatMap fun r => [f r, g r]).length := (List.getElem?_eq_some_iff.1 hu).1
 rw [len] at hj
 have hd : j / 2 < L.length := by omega
 have hg := List.getElem?_eq_getElem hd
 obtain ⟨g1, g2⟩ := get L _ _ hg
 obtain ⟨c1, c2⟩ := h _ _ hg
 rcases Nat.mod_two_eq_zero_or_one j with h0 | h0
 · have e : j = j / 2 * 2 := by omega
   rw [e] at hu ⊢
   rw [g1] at hu
   cases hu
   exact c1
 · have e : j = j / 2 * 2 + 1 := by omega
   generalize hz : j / 2 = z at *
   subst e
   rw [g2] at hu
   cases hu
   exact c2
def Long {H : Type} (d : DataW H) (n : Nat) : Prop := n = 0 ∨ ∃ elems spare, d = .slice elems spare ∧ elems.length = n
theorem runs_cell {H : Type} {enc : TypeId × Value → H} {W : World} {fuel : Nat} {v : Value} {d : DataW H} {p : List MemPlace} (h : DataW.trod enc Tryz.prog W 0 (fun _ => true) true fuel 69 [v] = some (d, p)) :
   ∃ (A : Option Addr) (n c : Nat) (l : List Run), v = .slice A n c ∧ RunsAt W A l n c ∧ Long d n := by
 rcases open_slice_pairs Tryz.underlying69 Tryz.underlying68 cellsR rfl rfl cells64 cells64 h with ⟨hcs, _⟩ | ⟨x, n0, c0, m, f0, V0, V1, D0, D1, P0, P1, hcs, hb, hl, hm, hmm, hx, hi⟩
 · obtain rfl := (List.cons.inj hcs).1
   exact ⟨none, 0, 0, [], rfl, ⟨rfl, fun _ => ⟨rfl, rfl⟩, Nat.le_refl _, by omega, Ru.Runs.none_ _ _ _⟩, .inl rfl⟩
 · obtain rfl := (List.cons.inj hcs).1
   unfold maxLen at hm
   have hmc : m = c0 := by simpa using hmm
   have each : ∀ i, i < n0 → ∃ r : Run, (r.1 < 18446744073709551616 ∧ r.2 < 18446744073709551616) ∧ W.cell? (x.add (i * 2)) = some (.int .u64 (r.1 : Int)) ∧ W.cell? (x.add (i * 2 + 1)) = some (.int .u64 (r.2 : Int)) := by
     intro i hil
     obtain ⟨h0, h1, t0, t1⟩ := hi i (by omega)
     obtain ⟨z0, e0, _, w0⟩ := DataW.trod_int Tryz.underlying33 t0
     obtain ⟨z1, e1, _, w1⟩ := DataW.trod_int Tryz.underlying33 t1
     obtain ⟨s0, rfl, hs0⟩ := wf_u64 w0
     obtain ⟨s1, rfl, hs1⟩ := wf_u64 w1
     rw [(List.cons.inj e0).1] at h0
     rw [(List.cons.inj e1).1] at h1
     exact ⟨(s0, s1), ⟨hs0, hs1⟩, h0, h1⟩
   obtain ⟨L, hL, hQ⟩ := list_of n0 each
   simp only [Prod.mk.injEq] at hx
   refine ⟨some x, n0, c0, L, rfl, ⟨hL, (fun e => by cases e), by omega, by omega, fun r hr => ?_, ?_⟩, .inr ⟨_, _, hx.1, by simp⟩⟩
   · obtain ⟨i, hi', rfl⟩ := List.getElem_of_mem hr
     exact (hQ i _ (List.getElem?_eq_getElem hi')).1
   · rcases Nat.eq_zero_or_pos L.length with h0 | h0
     · rw [List.eq_nil_of_length_eq_zero h0]; exact Ru.Lies.none_ _ _ _
     · refine lies_two ?_ (fun r : Run => Value.int .u64 (r.1 : Int)) (fun r : Run => Value.int .u64 (r.2 : Int)) L (fun i r hr => (hQ i r hr).2)
       have h1 := (hQ 0 _ (List.getElem?_eq_getElem h0)).2.1
       have h2 := World.block_lt_of_cell? W _ h1
       rwa [Dt.block_add] at h2
theorem ctx_of {H : Type} {enc : TypeId × Value → H} {W : World} {a : Option Addr} {len cap : Nat} {d : DataW H} {p : List MemPlace} (h : DataW.Trod enc Tryz.prog W 0 (fun _ => true) true 28 (.slice a len cap) d p) :
   ∃ c : List Part, CtxAt W a c len cap ∧ (len = 0 ∨ ∃ (D0 D1 : Nat → DataW H) (spare : List (DataW H)), d = .slice ((List.range len).map fun i => .agg [D0 i, D1 i]) spare ∧ ∀ (i : Nat) (x : Part), c[i]? = some x → Long (D1 i) x.2.length) := by
 obtain ⟨fuel, hf⟩ := h
 rcases open_slice_pairs Tryz.underlying28 Tryz.underlying71 cellsP rfl rfl cells16 cellsRs hf with ⟨hcs, _⟩ | ⟨x, n0, c0, m, f0, V0, V1, D0, D1, P0, P1, hcs, hb, hl, hm, hmm, hx, hi⟩
 · simp [Value.cells] at hcs
   obtain ⟨rfl, rfl, rfl⟩ := hcs
   exact ⟨[], CtxAt.none_ W, .inl rfl⟩
 · simp [Value.cells] at hcs
   obtain ⟨rfl, rfl, rfl⟩ := hcs
   unfold maxLen at hm
   have hmc : m = cap := by simpa using hmm
   have each : ∀ i, i < len → ∃ r : PV × Part, PartIs W W.heap.size r.1 r.2 ∧ Long (D1 i) r.2.2.length ∧ W.cell? (x.add (i * 2)) = some (.int .u16 (r.1.dev : Int)) ∧ W.cell? (x.add (i * 2 + 1)) = some (.slice r.1.adr r.1.len r.1.cap) := by
     intro i hil
     obtain ⟨h0, h1, t0, t1⟩ := hi i (by omega)
     obtain ⟨z0, e0, _, w0⟩ := DataW.trod_int Tryz.underlying32 t0
     obtain ⟨s0, rfl, hs0⟩ := wf_u16 w0
     rw [(List.cons.inj e0).1] at h0
     obtain ⟨A, n, c, l, e1, hR, hLg⟩ := runs_cell t1
     rw [e1] at h1
     exact ⟨(⟨s0, A, n, c⟩, (s0, l)), ⟨rfl, hs0, hR.len, hR.nil, hR.cap, hR.max, hR.runs⟩, by show Long (D1 i) l.length; rw [hR.len]; exact hLg, h0, h1⟩
   obtain ⟨L, hL, hQ⟩ := list_of len each
   simp only [Prod.mk.injEq] at hx
   refine ⟨L.map (fun r => r.2), ⟨by rw [List.length_map, hL], (fun e => by cases e), by omega, by omega, L.map (fun r => r.1), ?_, by rw [List.length_map, List.length_map], ?_⟩, .inr ⟨D0, D1, _, hx.1, ?_⟩⟩
   · have e : cv (L.map (fun r => r.1)) = L.flatMap (fun r => [Value.int .u16 (r.1.dev : Int), .slice r.1.adr r.1.len r.1.cap]) := by
       unfold cv
       rw [List.flatMap_map]
     rw [e]
     rcases Nat.eq_zero_or_pos L.length with h0 | h0
     · rw [List.eq_nil_of_length_eq_zero h0]; exact Dt.Lies.none_ _ _ _
     · refine lies_two ?_ (fun r : PV × Part => Value.int .u16 (r.1.dev : Int)) (fun r : PV × Part => Value.slice r.1.adr r.1.len r.1.cap) L (fun i r hr => (hQ i r hr).2.2)
       have h1 := (hQ 0 _ (List.getElem?_eq_getElem h0)).2.2.1
       have h2 := World.block_lt_of_cell? W _ h1
       rwa [Dt.block_add] at h2
   · intro k p y hp hy
     rw [List.getElem?_map] at hp hy
     obtain ⟨r, hr, rfl⟩ := Option.map_eq_some_iff.1 hp
     rw [hr] at hy
     cases hy
     exact (hQ k r hr).1
   · intro i y hy
     rw [List.getElem?_map] at hy
     obtain ⟨r, hr, rfl⟩ := Option.map_eq_some_iff.1 hy
     exact (hQ i r hr).2.1
end Go.Proofs.YtgaegfddobpomaaGreat.Cx
namespace Go.Proofs.YtgaegfddobpomaaGreat.Kl
open Go.ChangeShapes Go.WideShapes Go.ChangeAt Go.RowKit Go.Deep Go.Joins
end Go.Proofs.YtgaegfddobpomaaGreat.Kl

namespace Go.Proofs.YtgaegfddobpomaaGreat.Bk
open Go Go.ChangeShapes Go.WideShapes Go.ChangeAt Go.RowKit Go.Deep Go.Joins Go.Proofs.YtgaegfddobpomaaGreat.Kl Go.Proofs.YtgaegfddobpomaaGreat.Cx
set_option linter.unusedVariables false
set_option maxRecDepth 4000
theorem cellsA : Tryz.prog.cellsOf 40 = 9 := by kernel_rfl
theorem act_cells {H : Type} {enc : TypeId × Value → H} {W : World} {fuel : Nat} {cs : List Value} {d : DataW H} {p : List MemPlace} (h : DataW.trod enc Tryz.prog W 0 (fun _ => true) true fuel 40 cs = some (d, p)) (hz : Ev.Held 40 d) :
   ∃ (q : AV) (x : Ac), cs = q.cells ∧ ActIs W q x := by
 obtain ⟨xs, f1, _, hxy, hlen, hxl, hfd⟩ := DataW.trod_struct Tryz.underlying40 h
 rw [cellsA] at hlen
 match xs, hxl, cs, hlen with
 | [y0, (y1, z1), (y2, z2)], _, [u0, u1, u2, u3, u4, u5, u6, u7, u8], _ =>
   have g0 := hfd 0 _ rfl
   have g1 := hfd 1 _ rfl
   have g2 := hfd 2 _ rfl
   simp only [List.getElem?_cons_zero, List.getElem?_cons_succ] at g0 g1 g2
   have hD : d = .agg ([y0, (y1, z1), (y2, z2)].map (·.1)) := congrArg Prod.fst hxy
   subst hD
   obtain ⟨i0, e0, _, w0⟩ := DataW.trod_int Tryz.underlying5 g0
   obtain rfl := (List.cons.inj e0).1
   obtain ⟨s0, rfl, hs0⟩ := Ev.wf_u8 w0
   obtain ⟨q, x, e1, hq, _⟩ := Ev.evt_cells (cs := [u1, u2, u3, u4, u5, u6, u7]) g1 (hz.part (j := 1) Tryz.underlying40 rfl rfl)
   have g2' : DataW.trod enc Tryz.prog W 0 (fun _ => true) true f1 28 [u8] = some (y2, z2) := g2
   have hc : ∃ (A : Option Addr) (n c : Nat) (l : List Cx.Part), u8 = .slice A n c ∧ Cx.CtxAt W A l n c := by
     rcases open_slice Tryz.underlying28 g2' with ⟨hcs, _⟩ | ⟨a, n0, c0, m, f0, D, Pl, hcs, _⟩
     · simp at hcs
       subst hcs
       exact ⟨none, 0, 0, [], rfl, Cx.CtxAt.none_ _⟩
     · simp at hcs
       subst hcs
       obtain ⟨l, hl, _⟩ := ctx_of (W := W) ⟨f1, g2'⟩
       exact ⟨_, _, _, l, rfl, hl⟩
   obtain ⟨A, n, c, l, rfl, hl⟩ := hc
   simp only [List.cons.injEq, and_true] at e1
   obtain ⟨rfl, rfl, rfl, rfl, rfl, rfl, rfl⟩ := e1
   exact ⟨⟨s0, q, A, n, c⟩, ⟨s0, x, l⟩, rfl, rfl, hs0, hq, hl⟩
theorem acts_of {H : Type} {enc : TypeId × Value → H} {W : World} {A : Option Addr} {n c : Nat} {d : DataW H} {p : List MemPlace} (h : DataW.Trod enc Tryz.prog W 0 (fun _ => true) true 22 (.slice A n c) d p) (hz : Ev.Held 22 d) :
   ∃ l : List Ac, ActsAt W A l n c := by
 obtain ⟨fuel, hf⟩ := h
 rcases open_slice Tryz.underlying22 hf with ⟨hcs, _⟩ | ⟨x, n0, c0, m, f0, D, Pl, hcs, hb, hl, hm, hmm, hx, hi⟩
 · simp [Value.cells] at hcs
   obtain ⟨rfl, rfl, rfl⟩ := hcs
   exact ⟨[], rfl, Nat.le_refl _, by decide, [], Dt.Lies.none_ _ _ _, rfl, fun k p x hp => by simp at hp⟩
 · simp [Value.cells] at hcs
   obtain ⟨rfl, rfl, rfl⟩ := hcs
   unfold maxLen at hm
   have hmc : m = c := by simpa using hmm
   obtain rfl := (Prod.mk.inj hx).1
   have each : ∀ i, i < n → ∃ r : AV × Ac, ActIs W r.1 r.2 ∧ ∀ j (hj : j < r.1.cells.length), W.cell? (x.add (i * 9 + j)) = some r.1.cells[j] := by
     intro i hil
     obtain ⟨cs', k1, k2⟩ := hi i (by omega)
     rw [cellsA] at k1
     obtain ⟨_, hlen, hcell⟩ := World.cells?_some k1
     have hh : Ev.Held 40 (D i) := hz.elem Tryz.underlying22 (List.mem_map.2 ⟨i, List.mem_range.2 hil, rfl⟩)
     obtain ⟨q, y, rfl, hq⟩ := act_cells k2 hh
     refine ⟨(q, y), hq, fun j hj => ?_⟩
     have := hcell j hj
     rw [add_add] at this
     rw [this]
     exact List.getElem?_eq_getElem hj
   obtain ⟨L, hL, hQ⟩ := list_of n each
   refine ⟨L.map (fun r => r.2), by rw [List.length_map, hL], hl, by omega, L.map (fun r => r.1), fun h0 => ?_, by rw [List.length_map, List.length_map], ?_⟩
   · rw [av_length, List.length_map] at h0
     have h1 := (hQ 0 _ (List.getElem?_eq_getElem (show 0 < L.length by omega))).2 0 (show 0 < 9 by decide)
     have h2 := World.block_lt_of_cell? W _ h1
     rw [block_add] at h2
     refine ⟨x, rfl, h2, fun j u hu => ?_⟩
     have hj : j < L.length * 9 := by have := (List.getElem?_eq_some_iff.1 hu).1; rwa [av_length, List.length_map] at this
     have hk : j / 9 < L.length := by omega
     have hg : (L.map (fun r => r.1))[j / 9]? = some (L[j / 9]).1 := by simp [hk]
     have hv := av_get hg (j % 9) (by omega)
     rw [show j / 9 * 9 + j % 9 = j by omega, hu] at hv
     have hc := (hQ (j / 9) _ (List.getElem?_eq_getElem hk)).2 (j % 9) (show j % 9 < 9 by omega)
     rw [show j / 9 * 9 + j % 9 = j by omega] at hc
     rw [hc, ← List.getElem?_eq_getElem, ← hv]
   · intro k q y hq hy
     rw [List.getElem?_map] at hq hy
     obtain ⟨r, hr, rfl⟩ := Option.map_eq_some_iff.1 hq
     rw [hr] at hy
     cases hy
     exact (hQ k r hr).1
end Go.Proofs.YtgaegfddobpomaaGreat.Bk

namespace Go.Proofs.YtgaegfddobpomaaGreat.Kl
open Go.ChangeShapes Go.WideShapes Go.ChangeAt Go.RowKit
set_option linter.unusedVariables false
set_option maxRecDepth 4000
theorem puts_len (l m : List Dt.Dot) : (l.foldl Dt.putD m).length ≤ m.length + l.length := by
 induction l generalizing m with
 | nil => exact Nat.le_refl _
 | cons x l ih =>
   have h1 := ih (Dt.putD m x)
   have h2 := Dt.put_length m x
   rw [List.foldl_cons, List.length_cons]
   omega
def keepTo (f : Dt.Dot → Bool) (l : List Dt.Dot) (k : Nat) : List Dt.Dot := Dt.sortD ((l.take k).filter f)
theorem keep_len (f : Dt.Dot → Bool) (l : List Dt.Dot) (k : Nat) : (keepTo f l k).length ≤ k := by
 have h1 := puts_len ((l.take k).filter f) []
 have h2 := List.length_filter_le f (l.take k)
 have h3 := List.length_take_le k l
 show (((l.take k).filter f).foldl Dt.putD []).length ≤ k
 simp only [List.length_nil] at h1
 omega
theorem keep_skip {f : Dt.Dot → Bool} {l : List Dt.Dot} {k : Nat} {d : Dt.Dot} (h : l[k]? = some d) (hf : f d = false) : keepTo f l (k + 1) = keepTo f l k := by
 unfold keepTo
 rw [Ev.take_one h, List.filter_append]
 simp [hf]
theorem keep_take {f : Dt.Dot → Bool} {l : List Dt.Dot} {k : Nat} {d : Dt.Dot} (h : l[k]? = some d) (hf : f d = true) : keepTo f l (k + 1) = Dt.putD (keepTo f l k) d := by
 unfold keepTo Dt.sortD
 rw [Ev.take_one h, List.filter_append, List.foldl_append]
 simp [hf]
theorem keep_all {f : Dt.Dot → Bool} {l : List Dt.Dot} {n : Nat} (h : l.length = n) : keepTo f l n = Dt.sortD (l.filter f) := by
 unfold keepTo
 rw [List.take_of_length_le (by rw [h]; exact Nat.le_refl _)]
set_option maxHeartbeats 4000000 in
theorem rdrop_any (w : World) (A0 A2 : Option Addr) (l : List Dt.Dot) (x : List Cx.Part) (n c0 n2 c2 : Nat) (hl : Ev.DotsAt w w.heap.size A0 l n c0) (hx : Cx.CtxAt w A2 x n2 c2) (hs : Cx.Small x) (hn : n ≤ 1099511627776) :
   Calls Tryz.prog 73 #[.slice A0 n c0, .slice A2 n2 c2] w (Ev.DPost w (Dt.sortD (l.filter (fun d => !Cx.hasC x d)))) := by
 have HL := Lib.hid hl
 have HX := Lib.hid hx
 have HSM := Lib.hid hs
 clear hl hx hs
 go_enter Tryz.func73, Tryz.ntmps73
 go_wp2_with fail
 go_loopw [5, 6] (fun v i wr => ∃ (k m : Nat) (A : Option Addr) (c : Nat), k ≤ n ∧ i = .int .i64 (k : Int) ∧ v = .slice A m c ∧ Ev.DotsAt wr wr.heap.size A (keepTo (fun d => !Cx.hasC x d) l k) m c ∧ Below w.heap.size w wr) (fun _ i _ => n - (intOf i).toNat)
 case atStart => exact ⟨0, 0, none, 0, Nat.zero_le _, rfl, rfl, Ev.DotsAt.none_ _ _, Below.refl _ _⟩
 case round =>
   obtain ⟨k, m, A, c, hk, rfl, rfl, ho, hw⟩ := hrel
   have HO := Lib.hid ho
   have HW := Lib.hid hw
   clear ho hw
   by_cases hlt : k < n
   · obtain ⟨ad, x1, x2, rfl, hlx, hx1, hx2, c1, c3⟩ := HL.out.dots.at_ (k := k) (by rw [HL.out.len]; exact hlt)
     have c3' : w.cell? ⟨(ad.add (k * 2)).block, (ad.add (k * 2)).off + 1, none⟩ = some (.int .u64 (x2 : Int)) := by rw [Dt.add_next]; exact c3
     have HC : Hid (∀ V, Below w.heap.size w V → V.cell? (ad.add (k * 2)) = some (.int .u16 (x1 : Int)) ∧ V.cell? ⟨(ad.add (k * 2)).block, (ad.add (k * 2)).off + 1, none⟩ = some (.int .u64 (x2 : Int))) := Lib.hid (fun V hV => ⟨Ev.stays hV c1, Ev.stays hV c3'⟩)
     have HKS := Lib.hid (fun h => keep_skip (f := (fun d => !Cx.hasC x d)) hlx h)
     have HKT := Lib.hid (fun h => keep_take (f := (fun d => !Cx.hasC x d)) hlx h)
     have hmk := keep_len (fun d => !Cx.hasC x d) l k
     rw [HO.out.len] at hmk
     have CH := Cx.rhas_any wr A2 x n2 c2 (x1, x2) (HX.out.up HW.out) HSM.out ⟨hx1, hx2⟩
     obtain ⟨y1, y2⟩ := HC.out wr HW.out
     clear hlx c1 c3 c3'
     cases hb : Cx.hasC x (x1, x2) with
     | true =>
       rw [hb] at CH
       have HN := Lib.hid (HKS.out (by simp [hb]))
       go_wp2_with fail
       refine CH.mono ?_
       rintro e V ⟨rfl, hbV⟩
       have HO3 := Lib.hid (HO.out.up hbV)
       have HW3 := Lib.hid (HW.out.trans (hbV.mono HW.out.size))
       clear CH hbV y1 y2 HO
       go_wp2
       go_roundw
       case rel => exact ⟨k + 1, m, A, c, by omega, by go_num, rfl, by rw [HN.out]; exact HO3.out, HW3.out⟩
       case measure => simp [intOf]; omega
     | false =>
       rw [hb] at CH
       have HN := Lib.hid (HKT.out (by simp [hb]))
       go_wp2_with fail
       refine CH.mono ?_
       rintro e V ⟨rfl, hbV⟩
       have HO3 := Lib.hid (HO.out.up hbV)
       have HW3 := Lib.hid (HW.out.trans (hbV.mono HW.out.size))
       have CP := Ev.rputd_any V A (keepTo (fun d => !Cx.hasC x d) l k) m c (x1, x2) HO3.out ⟨hx1, hx2⟩ (by omega)
       clear CH hbV y1 y2 HO
       obtain ⟨y1, y2⟩ := HC.out V HW3.out
       go_wp2_with fail
       refine CP.mono ?_
       rintro e V4 ⟨A4, m4, c4, rfl, ho4, hb4⟩
       have HO4 := Lib.hid ho4
       have HW4 := Lib.hid (HW3.out.trans (hb4.mono HW3.out.size))
       clear CP ho4 hb4 y1 y2 HO3
       go_wp2
       go_roundw
       case rel => exact ⟨k + 1, m4, A4, c4, by omega, by go_num, rfl, by rw [HN.out]; exact HO4.out, HW4.out⟩
       case measure => simp [intOf]; omega
   · obtain rfl : k = n := by omega
     have HE := Lib.hid (keep_all (f := (fun d => !Cx.hasC x d)) HL.out.len)
     rw [HE.out] at HO
     go_wp2
     go_ret
     exact ⟨A, m, c, rfl, HO.out, HW.out⟩
end Go.Proofs.YtgaegfddobpomaaGreat.Kl
