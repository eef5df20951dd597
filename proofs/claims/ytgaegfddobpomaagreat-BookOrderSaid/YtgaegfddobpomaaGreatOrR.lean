/- Words and contracts that the proofs of this seat stand on, part 18 of 39. -/
import Derived.Test.YtgaegfddobpomaaGreatOrN
import Derived.Test.YtgaegfddobpomaaGreatOrQ
import Derived.Test.YtgaegfddobpomaaGreatOrO
import Derived.Maps.RangeWalk
import Derived.Maps.OwnOps
import Derived.Maps.OwnSet
import Derived.Maps.Ext

namespace Go.Proofs.YtgaegfddobpomaaGreat.Kl
open Go.ChangeShapes Go.WideShapes Go.ChangeAt Go.RowKit
set_option linter.unusedVariables false
def runTo (d : Nat) (r : Cx.Run) (i : Nat) : List Dt.Dot := (List.range' r.1 i).map fun n => (d, n)
def runD (d : Nat) (r : Cx.Run) : List Dt.Dot := runTo d r (r.2 + 1 - r.1)
def partD (p : Cx.Part) : List Dt.Dot := p.2.flatMap (runD p.1)
def dotsC (m : List Cx.Part) : List Dt.Dot := m.flatMap partD
theorem run_mem (d : Nat) (r : Cx.Run) (x : Dt.Dot) : x ∈ runD d r ↔ x.1 = d ∧ r.1 ≤ x.2 ∧ x.2 ≤ r.2 := by
 unfold runD runTo
 rw [List.mem_map]
 constructor
 · rintro ⟨n, hn, rfl⟩
   rw [List.mem_range'_1] at hn
   exact ⟨rfl, by simp only; omega, by simp only; omega⟩
 · rintro ⟨h1, h2, h3⟩
   exact ⟨x.2, by rw [List.mem_range'_1]; omega, by rw [← h1]⟩
theorem part_mem (p : Cx.Part) (x : Dt.Dot) : x ∈ partD p ↔ x.1 = p.1 ∧ ∃ r ∈ p.2, r.1 ≤ x.2 ∧ x.2 ≤ r.2 := by
 unfold partD
 rw [List.mem_flatMap]
 constructor
 · rintro ⟨r, hr, hx⟩
   obtain ⟨h1, h2, h3⟩ := (run_mem _ _ _).1 hx
   exact ⟨h1, r, hr, h2, h3⟩
 · rintro ⟨h1, r, hr, h2, h3⟩
   exact ⟨r, hr, (run_mem _ _ _).2 ⟨h1, h2, h3⟩⟩
theorem ahead_pair {a b : Dt.Dot} (h : a.1 < b.1 ∨ (a.1 = b.1 ∧ a.2 < b.2)) : Dt.aheadD a b = true := (Dt.ahead_iff a b).2 h
theorem run_ord (d : Nat) (r : Cx.Run) (i : Nat) : Dt.Ord (runTo d r i) := by
 unfold runTo Dt.Ord
 rw [List.pairwise_map]
 exact (List.pairwise_lt_range' (s := r.1) (n := i)).imp (fun {a b} (hab : a < b) => ahead_pair (a := (d, a)) (b := (d, b)) (.inr ⟨rfl, hab⟩))
theorem part_ord {p : Cx.Part} (h : Ru.InOrder p.2) : Dt.Ord (partD p) := by
 have hp := h.2
 unfold partD Dt.Ord
 rw [List.pairwise_flatMap]
 refine ⟨fun r _ => run_ord _ _ _, hp.imp fun hab x hx y hy => ?_⟩
 obtain ⟨h1, h2, h3⟩ := (run_mem _ _ _).1 hx
 obtain ⟨h4, h5, h6⟩ := (run_mem _ _ _).1 hy
 exact ahead_pair (.inr ⟨by rw [h1, h4], by omega⟩)
theorem dots_mem' {m : List Cx.Part} (h : Cx.OrdC m) (x : Dt.Dot) : x ∈ dotsC m ↔ Ru.has (Cx.runsC m x.1) x.2 = true := by
 obtain ⟨f, hf, rfl⟩ := h
 unfold dotsC
 rw [List.mem_flatMap, Cx.runs_list hf]
 constructor
 · rintro ⟨p, hp, hx⟩
   obtain ⟨h1, r, hr, h2, h3⟩ := (part_mem _ _).1 hx
   obtain ⟨h4, h5⟩ := (Cx.list_mem hf p).1 hp
   rw [h4, ← h1] at hr
   unfold Ru.has
   rw [List.any_eq_true]
   exact ⟨r, hr, by rw [(hf.order x.1).1 r hr, decide_eq_true h2, decide_eq_true h3]; rfl⟩
 · intro hx
   unfold Ru.has at hx
   rw [List.any_eq_true] at hx
   obtain ⟨r, hr, h1⟩ := hx
   rw [Bool.and_eq_true, Bool.and_eq_true, decide_eq_true_eq, decide_eq_true_eq] at h1
   refine ⟨(x.1, f x.1), (Cx.list_mem hf _).2 ⟨rfl, fun e => by simp only at e; rw [e] at hr; cases hr⟩, (part_mem _ _).2 ⟨rfl, r, hr, h1.2.1, h1.2.2⟩⟩
theorem dotsC_ord {m : List Cx.Part} (h : Cx.OrdC m) : Dt.Ord (dotsC m) := by
 obtain ⟨f, hf, rfl⟩ := h
 unfold dotsC Dt.Ord
 rw [List.pairwise_flatMap]
 refine ⟨fun p hp => part_ord ?_, (Cx.list_rise f).imp fun hab x hx y hy => ?_⟩
 · rw [((Cx.list_mem hf p).1 hp).1]
   exact hf.order _
 · obtain ⟨h1, _⟩ := (part_mem _ _).1 hx
   obtain ⟨h2, _⟩ := (part_mem _ _).1 hy
   exact ahead_pair (.inl (by omega))
theorem both_dots {l : List Dt.Dot} {c : List Cx.Part} (hl : Dt.Fit l) (hc : Cx.FitC c) : dotsC (Cx.setC (Cx.ofC l) c 1) = Dt.sortD (l.filter (Cx.hasC c)) := by
 have ho := Cx.ord_of hl
 have h1 := Cx.ord_set ho.fit hc 1
 refine Dt.sort_uniq (dotsC_ord h1) fun x => ?_
 rw [dots_mem' h1, Cx.has_set1 ho.fit hc, Cx.has_of hl, Bool.and_eq_true, List.any_eq_true, List.mem_filter]
 unfold Cx.isDot Cx.hasC
 constructor
 · rintro ⟨⟨y, hy, h2⟩, h3⟩
   rw [Bool.and_eq_true, Bool.and_eq_true, decide_eq_true_eq, decide_eq_true_eq] at h2
   have e : y = x := Prod.ext h2.2.1 h2.2.2
   rw [e] at hy h2
   exact ⟨hy, by rw [Bool.and_eq_true]; exact ⟨h2.1, h3⟩⟩
 · rintro ⟨hx, h2⟩
   rw [Bool.and_eq_true] at h2
   exact ⟨⟨x, hx, by rw [h2.1]; simp⟩, h2.2⟩
theorem run_next (d : Nat) (r : Cx.Run) (i : Nat) : runTo d r (i + 1) = runTo d r i ++ [(d, r.1 + i)] := by
 unfold runTo
 rw [List.range'_concat, List.map_append]
 simp
theorem part_next {p : Cx.Part} {j : Nat} {r : Cx.Run} (h : p.2[j]? = some r) : (p.2.take (j + 1)).flatMap (runD p.1) = (p.2.take j).flatMap (runD p.1) ++ runD p.1 r := by
 rw [Ev.take_one h, List.flatMap_append]
 simp
theorem dotsC_next {m : List Cx.Part} {k : Nat} {p : Cx.Part} (h : m[k]? = some p) : dotsC (m.take (k + 1)) = dotsC (m.take k) ++ partD p := by
 unfold dotsC
 rw [Ev.take_one h, List.flatMap_append]
 simp
theorem gath_most {m : List Cx.Part} {k j i : Nat} {p : Cx.Part} {r : Cx.Run} (hp : m[k]? = some p) (hr : p.2[j]? = some r) (hi : i < r.2 + 1 - r.1) : (dotsC (m.take k) ++ ((p.2.take j).flatMap (runD p.1) ++ runTo p.1 r i)).length < (dotsC m).length := by
 have e1 : m = m.take k ++ (p :: m.drop (k + 1)) := by
   have h := List.getElem?_eq_some_iff.1 hp
   obtain ⟨h1, h2⟩ := h
   rw [← h2, ← List.drop_eq_getElem_cons h1, List.take_append_drop]
 have e2 : p.2 = p.2.take j ++ (r :: p.2.drop (j + 1)) := by
   have h := List.getElem?_eq_some_iff.1 hr
   obtain ⟨h1, h2⟩ := h
   rw [← h2, ← List.drop_eq_getElem_cons h1, List.take_append_drop]
 have h1 : (dotsC m).length = (dotsC (m.take k)).length + ((partD p).length + (dotsC (m.drop (k + 1))).length) := by
   conv => lhs; rw [e1]
   unfold dotsC
   rw [List.flatMap_append, List.flatMap_cons, List.length_append, List.length_append]
 have h2 : (partD p).length = ((p.2.take j).flatMap (runD p.1)).length + ((runD p.1 r).length + ((p.2.drop (j + 1)).flatMap (runD p.1)).length) := by
   unfold partD
   conv => lhs; rw [e2]
   rw [List.flatMap_append, List.flatMap_cons, List.length_append, List.length_append]
 have h3 : (runD p.1 r).length = r.2 + 1 - r.1 := by unfold runD runTo; simp
 have h4 : (runTo p.1 r i).length = i := by unfold runTo; simp
 rw [List.length_append, List.length_append]
 omega
theorem sortd_len (l : List Dt.Dot) : (Dt.sortD l).length ≤ l.length := by
 have h := puts_len l []
 simp only [List.length_nil, Nat.zero_add] at h
 exact h
theorem wide_dots : ∀ m : List Cx.Part, (∀ p ∈ m, p.2 ≠ [] ∧ ∀ r ∈ p.2, r.1 ≤ r.2) → m.length ≤ Cx.wC m ∧ Cx.wC m ≤ (dotsC m).length
 | [], _ => ⟨Nat.zero_le _, Nat.zero_le _⟩
 | p :: m, h => by
   obtain ⟨h1, h2⟩ := wide_dots m (fun q hq => h q (List.mem_cons_of_mem _ hq))
   obtain ⟨h3, h4⟩ := h p (List.mem_cons_self ..)
   have h5 : 0 < p.2.length := List.length_pos_iff.2 h3
   have h6 : ∀ l : List Cx.Run, (∀ r ∈ l, r.1 ≤ r.2) → l.length ≤ (l.flatMap (runD p.1)).length := by
     intro l
     induction l with
     | nil => intro _; exact Nat.le_refl _
     | cons r l ih =>
       intro hl
       have h7 := ih (fun s hs => hl s (List.mem_cons_of_mem _ hs))
       have h8 := hl r (List.mem_cons_self ..)
       have h9 : (runD p.1 r).length = r.2 + 1 - r.1 := by unfold runD runTo; simp
       rw [List.flatMap_cons, List.length_cons, List.length_append]
       omega
   have h7 := h6 p.2 h4
   have e1 : Cx.wC (p :: m) = p.2.length + Cx.wC m := by unfold Cx.wC; rw [List.map_cons, List.sum_cons]
   have e2 : (dotsC (p :: m)).length = (p.2.flatMap (runD p.1)).length + (dotsC m).length := by
     unfold dotsC
     rw [List.flatMap_cons, List.length_append]
     rfl
   rw [List.length_cons]
   omega
theorem ord_parts' {m : List Cx.Part} (h : Cx.OrdC m) : ∀ p ∈ m, p.1 < 65536 ∧ p.2 ≠ [] ∧ Ru.InOrder p.2 := by
 obtain ⟨f, hf, rfl⟩ := h
 intro p hp
 obtain ⟨h1, h2⟩ := (Cx.list_mem hf p).1 hp
 refine ⟨?_, by rw [h1]; exact h2, by rw [h1]; exact hf.order _⟩
 rcases Nat.lt_or_ge p.1 65536 with h3 | h3
 · exact h3
 · exact absurd (hf.far _ h3) h2
theorem of_dots {l : List Dt.Dot} (hl : Dt.Fit l) : dotsC (Cx.ofC l) = Dt.sortD (l.filter Dt.mayD) := by
 have ho := Cx.ord_of hl
 refine Dt.sort_uniq (dotsC_ord ho) fun x => ?_
 rw [dots_mem' ho, Cx.has_of hl, List.any_eq_true, List.mem_filter]
 unfold Cx.isDot
 constructor
 · rintro ⟨y, hy, h2⟩
   rw [Bool.and_eq_true, Bool.and_eq_true, decide_eq_true_eq, decide_eq_true_eq] at h2
   have e : y = x := Prod.ext h2.2.1 h2.2.2
   rw [e] at hy h2
   exact ⟨hy, h2.1⟩
 · rintro ⟨hx, h2⟩
   exact ⟨x, hx, by rw [h2]; simp⟩
theorem of_wide {l : List Dt.Dot} (hl : Dt.Fit l) : Cx.Wide l.length (Cx.ofC l) := by
 obtain ⟨h1, h2⟩ := wide_dots (Cx.ofC l) (fun p hp => by
   obtain ⟨h1, h2, h3⟩ := ord_parts' (Cx.ord_of hl) p hp
   exact ⟨h2, fun r hr => ((Ru.may_iff r).1 (h3.1 r hr)).2.1⟩)
 have h3 := sortd_len (l.filter Dt.mayD)
 have h4 := List.length_filter_le Dt.mayD l
 rw [← of_dots hl] at h3
 exact ⟨by omega, by omega⟩
end Go.Proofs.YtgaegfddobpomaaGreat.Kl

namespace Go.Proofs.YtgaegfddobpomaaGreat.Cx
open Go.ChangeShapes Go.WideShapes Go.ChangeAt Go.RowKit Go.Maps
set_option linter.unusedVariables false
set_option maxRecDepth 4000
theorem law16 : Keyed Tryz.prog 32 := int_keyed Tryz.underlying32
theorem zeroS (w : World) : (zeroValue 69).run Tryz.prog w = .ok (.slice none 0 0) w := by kernel_rfl
theorem wf16 {d : Nat} (h : d < 65536) : (Lit.int .u16 (d : Int)).wf = true := by
 simp [Lit.wf, IntKind.min, IntKind.max, IntKind.bits, IntKind.signed]; omega
theorem un16 {x : Int} (h : (Lit.int .u16 x).wf = true) : ∃ d : Nat, x = (d : Int) ∧ d < 65536 := by
 simp [Lit.wf, IntKind.min, IntKind.max, IntKind.bits, IntKind.signed] at h
 exact ⟨x.toNat, by omega, by omega⟩
abbrev keyL (d : Nat) : Lit := .int .u16 (d : Int)
theorem key_is {d : Nat} (h : d < 65536) : keyOf Tryz.prog 32 (.int .u16 (d : Int)) = some (keyL d) := keyOf_int_mk Tryz.underlying32 (wf16 h)
theorem key_lit (d : Nat) : WideAt.IsKeyLit (keyL d) := trivial
theorem key_ne {d e : Nat} (h : e ≠ d) : keyL e ≠ keyL d := fun h2 => by
 injection h2 with _ h3
 exact h (by omega)
theorem same_key (d e : Nat) : (keyL e).sameKey (keyL d) = decide (e = d) := by
 by_cases h : e = d
 · subst h; simp [Lit.sameKey]
 · rw [Maps.sameKey_ne (key_ne h), decide_eq_false h]
structure Sl where
 adr : Option Addr
 len : Nat
 cap : Nat
def sv (s : Sl) : Value := .slice s.adr s.len s.cap
def noS : Sl := ⟨none, 0, 0⟩
theorem sv_inj {s t : Sl} (h : sv s = sv t) : s = t := by
 cases s; cases t
 simp only [sv, Value.slice.injEq] at h
 obtain ⟨rfl, rfl, rfl⟩ := h
 rfl
def valS (v : Value) : Option (DataW Value × List MemPlace) :=
 match v with
 | .slice A n c => some (.held (.slice A n c), [])
 | _ => none
theorem val_is (s : Sl) : valS (sv s) = some (.held (sv s), []) := rfl
theorem val_inv {v : Value} {z : DataW Value × List MemPlace} (h : valS v = some z) : ∃ s : Sl, v = sv s ∧ z = (.held (sv s), []) := by
 cases v with
 | slice A n c => exact ⟨⟨A, n, c⟩, rfl, (Option.some.inj h).symm⟩
 | _ => cases h
structure HoldsS (D : DataW Value) (g : Nat → Option Sl) : Prop where
 at_ : ∀ d, d < 65536 → D.atKey (keyL d) (.held (sv noS)) = .held (sv ((g d).getD noS))
 key : ∀ kl, Maps.has D kl = true → ∃ d, d < 65536 ∧ kl = keyL d ∧ (g d).isSome = true
 some_ : ∀ d, (g d).isSome = true → d < 65536 ∧ Maps.has D (keyL d) = true
theorem holdsS_none : HoldsS (.map []) (fun _ => none) := ⟨fun d _ => rfl, (fun kl h => by cases h), (fun d h => by cases h)⟩
theorem HoldsS.put {D : DataW Value} {g : Nat → Option Sl} (h : HoldsS D g) (hD : Maps.IsMap D) {d : Nat} {s : Sl} (hd : d < 65536) : HoldsS (D.put (keyL d) (.held (sv s))) (fun e => if e = d then some s else g e) := by
 refine ⟨fun e he => ?_, fun kl hk => ?_, fun e he => ?_⟩
 · by_cases hed : e = d
   · subst hed
     rw [Maps.atKey_put_same hD (key_lit _), if_pos rfl]; rfl
   · rw [Maps.atKey_put_other (key_ne hed), h.at_ e he, if_neg hed]
 · by_cases hed : kl = keyL d
   · exact ⟨d, hd, hed, by rw [if_pos rfl]; rfl⟩
   · rw [Maps.has_put_other hed] at hk
     obtain ⟨e, he, rfl, hf⟩ := h.key kl hk
     have : e ≠ d := fun h2 => hed (by rw [h2])
     exact ⟨e, he, rfl, by rw [if_neg this]; exact hf⟩
 · by_cases hed : e = d
   · subst hed
     exact ⟨hd, Maps.has_put_same hD (key_lit _) _⟩
   · rw [if_neg hed] at he
     rw [Maps.has_put_other (key_ne hed)]
     exact h.some_ e he
def SlsAt (w : World) (B : Nat) (g : Nat → Option Sl) (f : Nat → List Run) : Prop :=
 ∀ d, (g d = none ∧ f d = []) ∨ ∃ s, g d = some s ∧ RunsAt w s.adr (f d) s.len s.cap ∧ ∀ ad, s.adr = some ad → B ≤ ad.block
theorem SlsAt.up {w W : World} {b : Nat} {g : Nat → Option Sl} {f : Nat → List Run} (h : SlsAt w b g f) (hW : Below w.heap.size w W) : SlsAt W b g f := fun d => by
 rcases h d with h1 | ⟨s, h1, h2, h3⟩
 · exact .inl h1
 · exact .inr ⟨s, h1, h2.up hW, h3⟩
theorem RunsAt.grown {w w' : World} {A : Option Addr} {l : List Run} {n c : Nat} {row : Option Nat} (h : RunsAt w A l n c) (hg : w.grownBy w' row) (hne : ∀ ad, A = some ad → some ad.block ≠ row) : RunsAt w' A l n c := ⟨h.len, h.nil, h.cap, h.max, runs_grown hg h.runs hne⟩
theorem SlsAt.grown {w w' : World} {B b : Nat} {g : Nat → Option Sl} {f : Nat → List Run} (h : SlsAt w B g f) (hg : w.grownBy w' (some b)) (hb : b < B) : SlsAt w' B g f := fun d => by
 rcases h d with h1 | ⟨s, h1, h2, h3⟩
 · exact .inl h1
 · exact .inr ⟨s, h1, h2.grown hg (fun ad e e2 => by have := h3 ad e; injection e2 with e2; omega), h3⟩
theorem SlsAt.put {w : World} {b : Nat} {g : Nat → Option Sl} {f : Nat → List Run} (h : SlsAt w b g f) {d : Nat} {s : Sl} {l : List Run} (hs : RunsAt w s.adr l s.len s.cap) (hb : ∀ ad, s.adr = some ad → b ≤ ad.block) :
   SlsAt w b (fun e => if e = d then some s else g e) (fun e => if e = d then l else f e) := fun e => by
 by_cases he : e = d
 · refine .inr ⟨s, if_pos he, ?_, hb⟩
   have e1 : (fun e => if e = d then l else f e) e = l := if_pos he
   rw [e1]; exact hs
 · have e1 : (fun e => if e = d then l else f e) e = f e := if_neg he
   have e2 : (fun e => if e = d then some s else g e) e = g e := if_neg he
   rw [e1, e2]; exact h e
def MapS (w : World) (B b n : Nat) (f : Nat → List Run) : Prop := b < B ∧ ∃ (D : DataW Value) (g : Nat → Option Sl), w.ownsMap Tryz.prog 32 valS b n D ∧ HoldsS D g ∧ SlsAt w B g f
theorem MapS.lt {w : World} {B b n : Nat} {f : Nat → List Run} (h : MapS w B b n f) : b < w.heap.size := by
 obtain ⟨_, D, g, h1, _⟩ := h
 exact h1.lt
theorem MapS.up {w W : World} {B b n : Nat} {f : Nat → List Run} (h : MapS w B b n f) (hW : Below w.heap.size w W) : MapS W B b n f := by
 have hlt := h.lt
 obtain ⟨hb, D, g, ⟨es, clock, h1, h2⟩, h3, h4⟩ := h
 exact ⟨hb, D, g, ⟨es, clock, (hW.block b hlt).trans h1, h2⟩, h3, h4.up hW⟩
theorem MapS.other {w W : World} {B b b2 n : Nat} {f : Nat → List Run} (h : MapS w B b n f) (hg : w.grownBy W (some b2)) (hne : b ≠ b2) (hb2 : b2 < B) : MapS W B b n f := by
 obtain ⟨hb, D, g, h1, h3, h4⟩ := h
 exact ⟨hb, D, g, h1.kept hg (fun e => hne (by injection e)), h3, h4.grown hg hb2⟩
theorem MapS.turn {w : World} {B b n : Nat} {f g : Nat → List Run} (h : MapS w B b n f) (e : f = g) : MapS w B b n g := e ▸ h
theorem mapS_new (w : World) (B : Nat) (hB : w.heap.size < B) : MapS (w.alloc (.map #[] 0)) B w.heap.size 0 (fun _ => []) := ⟨hB, .map [], fun _ => none, World.ownsMap_made _ _ _ _, holdsS_none, fun _ => .inl ⟨rfl, rfl⟩⟩
theorem wpList_lookS {ops : Array Oper} {rest : List Oper} {o : Oper} {a : Act} {w : World} {Q : Exit → Act → World → Prop} (hg : Region.wanted o (yielded ops a.tmps) = true) (m x : Operand) (hop : o.op = Op.lookup 118 m x false)
   (B b n d : Nat) (f : Nat → List Run) (hm : a.eval m = .map (some b)) (h : MapS w B b n f) (hd : d < 65536) (hx : a.eval x = .int .u16 (d : Int))
   (hK : ∀ A k c, RunsAt w A (f d) k c → wpList Tryz.prog ops Q rest (a.put o.dst (.slice A k c)) w) : wpList Tryz.prog ops Q (o :: rest) a w := by
 refine wpList_step fun K' hK' => ?_
 obtain ⟨hbB, D, g, h1, h2, h3⟩ := h
 obtain ⟨v, ps, hrun, hv⟩ := h1.lookup law16 Tryz.underlying118 (zeroS _) (val_is noS) (key_is hd)
 rw [h2.at_ d hd] at hv
 obtain ⟨s, rfl, hs⟩ := val_inv hv
 have e : sv ((g d).getD noS) = sv s := by
   have := congrArg Prod.fst hs
   injection this
 have hR : RunsAt w s.adr (f d) s.len s.cap := by
   have e2 : (g d).getD noS = s := sv_inj e
   rcases h3 d with ⟨q1, q2⟩ | ⟨s', q1, q2, _⟩
   · rw [q1] at e2
     rw [q2, ← e2]
     exact ⟨rfl, fun _ => ⟨rfl, rfl⟩, Nat.le_refl _, by decide, Ru.Runs.none_ _ _ _⟩
   · rw [q1] at e2
     rw [← e2]
     exact q2
 rw [if_pos hg]
 unfold Oper.wp
 simp [execOp, hop, hm, hx, hrun, Result.andThen]
 exact hK' _ _ (hK s.adr s.len s.cap hR)
theorem wpList_putS {ops : Array Oper} {rest : List Oper} {o : Oper} {a : Act} {w : World} {Q : Exit → Act → World → Prop} (hg : o.guard = none) (m x v : Operand) (hop : o.op = Op.mapUpdate 118 m x v)
   (B b n d : Nat) (f : Nat → List Run) (A : Option Addr) (l : List Run) (k c : Nat) (hm : a.eval m = .map (some b)) (h : MapS w B b n f) (hn : n ≤ 8796093022208) (hd : d < 65536) (hx : a.eval x = .int .u16 (d : Int)) (hv : a.eval v = .slice A k c) (hl : RunsAt w A l k c) (hb : ∀ ad, A = some ad → B ≤ ad.block)
   (hK : ∀ w', MapS w' B b (n + 1) (fun e => if e = d then l else f e) → w.grownBy w' (some b) → wpList Tryz.prog ops Q rest (a.put o.dst undef) w') : wpList Tryz.prog ops Q (o :: rest) a w := by
 obtain ⟨hbB, D, g, h1, h2, h3⟩ := h
 exact wpList_mapUpdate_own w hg m x v 118 hop 32 69 law16 Tryz.underlying118 _ b n D hm h1 (by unfold maxLen; omega) _ _ _ hx hv (key_is hd) _ [] (val_is ⟨A, k, c⟩) fun w' h4 h5 =>
   hK w' ⟨hbB, _, _, h4, h2.put h1.isMap hd, (h3.put (s := ⟨A, k, c⟩) hl hb).grown h5 hbB⟩ h5
/-! A range over such a map: what has been gathered, whichever order its entries come in. -/
structure GatherS (f : Nat → List Run) (g : Nat → Option Sl) (left : Lit → Bool) (m : List Part) : Prop where
 of_ : ∀ x ∈ m, x.1 < 65536 ∧ x.2 = f x.1 ∧ f x.1 ≠ [] ∧ left (keyL x.1) = false
 all_ : ∀ d, f d ≠ [] → left (keyL d) = false → (d, f d) ∈ m
 once : m.Pairwise (fun a b => a.1 ≠ b.1)
theorem struckS {left : Lit → Bool} {d e : Nat} : (left (keyL e) && !(keyL e).sameKey (keyL d)) = false ↔ left (keyL e) = false ∨ e = d := by
 rw [same_key]
 cases left (keyL e) <;> simp
theorem GatherS.step {f : Nat → List Run} {g : Nat → Option Sl} {left : Lit → Bool} {m : List Part} (h : GatherS f g left m) {d : Nat} (hd : d < 65536) (hf : f d ≠ []) (hl : left (keyL d) = true) : GatherS f g (fun z => left z && !z.sameKey (keyL d)) (m ++ [(d, f d)]) := by
 refine ⟨fun x hx => ?_, fun e he hle => ?_, ?_⟩
 · rcases List.mem_append.1 hx with hx | hx
   · obtain ⟨h1, h2, h3, h4⟩ := h.of_ x hx
     exact ⟨h1, h2, h3, struckS.2 (.inl h4)⟩
   · obtain rfl := List.mem_singleton.1 hx
     exact ⟨hd, rfl, hf, struckS.2 (.inr rfl)⟩
 · rcases struckS.1 hle with h1 | h1
   · exact List.mem_append_left _ (h.all_ e he h1)
   · subst h1
     exact List.mem_append_right _ (List.mem_singleton.2 rfl)
 · rw [List.pairwise_append]
   refine ⟨h.once, List.pairwise_singleton _ _, fun a ha b hb => ?_⟩
   obtain rfl := List.mem_singleton.1 hb
   intro e
   have := (h.of_ a ha).2.2.2
   rw [e, hl] at this
   cases this
theorem GatherS.skip {f : Nat → List Run} {g : Nat → Option Sl} {left : Lit → Bool} {m : List Part} (h : GatherS f g left m) {d : Nat} (hf : f d = []) : GatherS f g (fun z => left z && !z.sameKey (keyL d)) m := by
 refine ⟨fun x hx => ?_, fun e he hle => ?_, h.once⟩
 · obtain ⟨h1, h2, h3, h4⟩ := h.of_ x hx
   exact ⟨h1, h2, h3, struckS.2 (.inl h4)⟩
 · rcases struckS.1 hle with h1 | h1
   · exact h.all_ e he h1
   · subst h1; exact absurd hf he
theorem gatherS_end {f : Nat → List Run} {g : Nat → Option Sl} {left : Lit → Bool} {m s : List Part} (h : GatherS f g left m) (hf : Tells f) (hl : ∀ kl, left kl = false) (hs : s.Pairwise (fun a b => a.1 < b.1)) (hp : ∀ x, x ∈ s ↔ x ∈ m) : s = listC f := by
 refine rise_uniq (fun x => x.1) hs (list_rise f) fun x => ?_
 rw [hp, list_mem hf]
 constructor
 · intro hx
   obtain ⟨_, h2, h3, _⟩ := h.of_ x hx
   exact ⟨h2, h3⟩
 · rintro ⟨h1, h2⟩
   have := h.all_ x.1 h2 (hl _)
   rwa [← h1] at this
theorem entryS {w : World} {b : Nat} {D : DataW Value} {g : Nat → Option Sl} {f : Nat → List Run} (h : HoldsS D g) (hs : SlsAt w b g f) {x : Int} (hx : (Lit.int .u16 x).wf = true) {s : Sl} (hat : ∀ zd, D.atKey (.int .u16 x) zd = .held (sv s)) :
   ∃ d : Nat, x = (d : Int) ∧ d < 65536 ∧ RunsAt w s.adr (f d) s.len s.cap ∧ ∀ ad, s.adr = some ad → b ≤ ad.block := by
 obtain ⟨d, rfl, hd⟩ := un16 hx
 have h2 := h.at_ d hd
 rw [show D.atKey (keyL d) (.held (sv noS)) = .held (sv s) from hat _] at h2
 obtain ⟨e, he, hk, hf⟩ := h.key _ (Maps.has_true_of_atKey hat)
 have hde : d = e := by
   injection hk with _ hk
   omega
 subst hde
 rcases hs d with ⟨q1, _⟩ | ⟨s', q1, q2, q3⟩
 · rw [q1] at hf; cases hf
 · rw [q1] at h2
   have e1 : sv s = sv s' := by injection h2
   have e2 : s = s' := sv_inj e1
   subst e2
   exact ⟨d, rfl, hd, q2, q3⟩
theorem bel_grown {w W : World} (h : Below w.heap.size w W) (row : Option Nat) : w.grownBy W row := by
 obtain ⟨h1, h2, h3, h4, h5⟩ := h
 exact ⟨h1, h2, h3, h4, fun i hi _ => h5 i hi⟩
/-! The runs of a device, as they stand there. -/
def stepR (d : Nat) (o : List Run) (x : Part) : List Run := if x.1 = d ∧ d ≠ 0 then o ++ x.2 else o
def rawF (f : Nat → List Run) (c : List Part) : Nat → List Run := fun d => c.foldl (stepR d) (f d)
theorem raw_next {f : Nat → List Run} {c : List Part} {k : Nat} {x : Part} (h : c[k]? = some x) : rawF f (c.take (k + 1)) = fun d => stepR d (rawF f (c.take k) d) x := by
 funext d
 unfold rawF
 rw [List.take_add_one, h, List.foldl_append]; rfl
theorem raw_skip {f : Nat → List Run} {x : Part} (h : x.1 = 0) : (fun d => stepR d (f d) x) = f := by
 funext d
 exact if_neg (fun h2 => h2.2 (by rw [← h2.1]; exact h))
theorem raw_put {f : Nat → List Run} {x : Part} (h : x.1 ≠ 0) : (fun d => if d = x.1 then f x.1 ++ x.2 else f d) = fun d => stepR d (f d) x := by
 funext d
 unfold stepR
 by_cases hd : d = x.1
 · subst hd; rw [if_pos rfl, if_pos ⟨rfl, h⟩]
 · rw [if_neg hd, if_neg (fun h2 => hd h2.1.symm)]
theorem raw_has (f : Nat → List Run) (c : List Part) (d n : Nat) : Ru.has (rawF f c d) n = (Ru.has (f d) n || (decide (d ≠ 0) && c.any (fun x => decide (x.1 = d) && Ru.has x.2 n))) := by
 have : ∀ (c : List Part) (o : List Run), Ru.has (c.foldl (stepR d) o) n = (Ru.has o n || (decide (d ≠ 0) && c.any (fun x => decide (x.1 = d) && Ru.has x.2 n))) := fun c => by
   induction c with
   | nil => intro o; simp
   | cons x c ih =>
     intro o
     rw [List.foldl_cons, ih]
     unfold stepR
     by_cases hx : x.1 = d ∧ d ≠ 0
     · rw [if_pos hx, Ru.has_append, List.any_cons, decide_eq_true hx.1, decide_eq_true hx.2]
       cases Ru.has o n <;> cases Ru.has x.2 n <;> simp
     · rw [if_neg hx, List.any_cons]
       by_cases hd : d = 0
       · simp [hd]
       · have : ¬ x.1 = d := fun h => hx ⟨h, hd⟩
         simp [this]
 exact this c (f d)
theorem weight_take (c : List Part) (k : Nat) : wC (c.take k) ≤ wC c := by
 have h : wC c = wC (c.take k) + wC (c.drop k) := by
   unfold wC
   rw [← List.sum_append, ← List.map_append, List.take_append_drop]
 omega
theorem weight_next {c : List Part} {k : Nat} {x : Part} (h : c[k]? = some x) : wC (c.take (k + 1)) = wC (c.take k) + x.2.length := by
 unfold wC
 rw [List.take_add_one, h, List.map_append, List.sum_append]; simp
theorem weight_part {c : List Part} {k : Nat} {x : Part} (h : c[k]? = some x) : x.2.length ≤ wC c := by
 have h1 := weight_take c (k + 1)
 have e := weight_next h
 omega
theorem raw_len (f : Nat → List Run) (c : List Part) (k d : Nat) : (rawF f (c.take k) d).length ≤ (f d).length + wC (c.take k) := by
 have : ∀ (c : List Part) (o : List Run), (c.foldl (stepR d) o).length ≤ o.length + wC c := fun c => by
   induction c with
   | nil => intro o; simp [wC]
   | cons x c ih =>
     intro o
     rw [List.foldl_cons]
     have h1 := ih (stepR d o x)
     have h2 : (stepR d o x).length ≤ o.length + x.2.length := by
       unfold stepR
       split
       · rw [List.length_append]; exact Nat.le_refl _
       · omega
     have h3 : wC (x :: c) = x.2.length + wC c := by unfold wC; rw [List.map_cons, List.sum_cons]
     omega
 exact this _ _
theorem raw_whole (f : Nat → List Run) (c : List Part) (d : Nat) : (rawF f c d).length ≤ (f d).length + wC c := by
 have h := raw_len f c c.length d
 rwa [List.take_length] at h
abbrev rawC (c : List Part) : Nat → List Run := rawF (fun _ => []) c
theorem nrm_raw (c : List Part) (d : Nat) : Ru.nrm (rawC c d) = runsC c d := by
 refine Ru.uniq (Ru.nrm_spec _).1 (runs_order c d) fun n => ?_
 rw [(Ru.nrm_spec _).2, raw_has, runs_has, Ru.has_nil, Bool.false_or]
theorem raw_zero (f : Nat → List Run) (c : List Part) : rawF f c 0 = f 0 := by
 have : ∀ (c : List Part) (o : List Run), c.foldl (stepR 0) o = o := fun c => by
   induction c with
   | nil => intro o; rfl
   | cons x c ih => intro o; rw [List.foldl_cons, ih]; exact if_neg (fun h => h.2 rfl)
 exact this _ _
theorem raw_far {f : Nat → List Run} {c : List Part} (hc : FitC c) {d : Nat} (hd : 65536 ≤ d) (hf : f d = []) : rawF f c d = [] := by
 have : ∀ (c : List Part), FitC c → ∀ (o : List Run), c.foldl (stepR d) o = o := fun c => by
   induction c with
   | nil => intro _ o; rfl
   | cons x c ih =>
     intro hc o
     rw [List.foldl_cons, ih (fun y hy => hc y (List.mem_cons_of_mem _ hy))]
     exact if_neg (fun h => by have := (hc x (List.mem_cons_self ..)).1; omega)
 rw [← hf]
 exact this c hc (f d)
theorem raw_fit {f : Nat → List Run} {c : List Part} (hc : FitC c) (d : Nat) (hf : Ru.Fit (f d)) : Ru.Fit (rawF f c d) := by
 have : ∀ (c : List Part), FitC c → ∀ (o : List Run), Ru.Fit o → Ru.Fit (c.foldl (stepR d) o) := fun c => by
   induction c with
   | nil => intro _ o ho; exact ho
   | cons x c ih =>
     intro hc o ho
     rw [List.foldl_cons]
     refine ih (fun y hy => hc y (List.mem_cons_of_mem _ hy)) _ ?_
     unfold stepR
     split
     · exact fun r hr => (List.mem_append.1 hr).elim (ho r) ((hc x (List.mem_cons_self ..)).2 r)
     · exact ho
 exact this c hc (f d) hf
/-! append of runs to any list of one's own. -/
theorem run_app (w : World) (B k : Nat) (v : Value) (xs : List Run) (A : Option Addr) (m : List Run) (n c : Nat) (ho : w.ownsRow B 68 2 v k (Ru.rv xs)) (hA : A = none → n = 0 ∧ c = 0) (hb : Ru.Lies w w.heap.size A (Ru.rv m)) (hl : m.length = n)
   (hn : k + n ≤ 4398046511104) (hB : B ≤ w.heap.size) :
   ∃ A' c' w', (Builtin.append_ #[69, 69] 69 #[v, .slice A n c]).run Tryz.prog w = .ok (.slice A' (k + n) c') w' ∧
     w'.ownsRow B 68 2 (.slice A' (k + n) c') (k + n) (Ru.rv (xs ++ m)) ∧ w.grownBy w' v.ownBlock ∧ ((Value.slice A' (k + n) c').ownBlock = v.ownBlock ∨ (Value.slice A' (k + n) c').ownBlock = some w.heap.size) := by
 obtain ⟨i0, hi0, hz0, hz1, hz2⟩ := info_parts Ru.run_info
 cases A with
 | none =>
   obtain ⟨rfl, rfl⟩ := hA rfl
   obtain rfl := List.eq_nil_of_length_eq_zero hl
   obtain ⟨A', c', rfl⟩ := Dt.own_form ho
   exact ⟨A', c', w, run_append_owned_none (P := Tryz.prog) (w := w) B 69 69 68 i0 2 Tryz.underlying69 hi0 _ k (Ru.rv xs) ho, by rw [List.append_nil]; exact ho, Ru.turn_refl _ _, .inl rfl⟩
 | some ad =>
   have hc : ∀ j u, (Ru.rv m)[j]? = some u → w.cell? (ad.add j) = some u := by
     intro j u hu
     have hjl : j < (Ru.rv m).length := (List.getElem?_eq_some_iff.1 hu).1
     obtain ⟨ad', e, hadb, hc⟩ := hb (by omega)
     obtain rfl := Option.some.inj e
     exact hc j u hu
   obtain ⟨v', w', hr, h2, h3, hat, h5⟩ := run_append_own_at (P := Tryz.prog) w B 69 69 68 i0 (.agg #[.int .u64 0, .int .u64 0]) 2 16 Tryz.underlying69 hi0 hz0 hz1 hz2 rfl (by decide) v k (Ru.rv xs) ho ad n c (Ru.rv m) (by rw [Ru.rv_length, hl]) hc (Ru.rv_one m) (by simp only [maxLen]; omega) (by omega) hB
   obtain ⟨A', c', rfl⟩ := Dt.own_form h2
   exact ⟨A', c', w', hr, by rw [Ru.rv_append]; exact h2, h3, h5⟩
theorem step_app {ops : Array Oper} {o : Oper} {a : Act} {K : Act → World → Prop} {Q : Exit → Act → World → Prop} {E : Prop} {w : World} (hgd : o.guard = none) (s x : Operand)
   (ho : o.op = .call { callee := .builtin .append, args := #[s, x], argTypes := #[69, 69] }) (hty : o.type = 69)
   (B k : Nat) (v : Value) (xs : List Run) (A : Option Addr) (m : List Run) (n c : Nat) (hs : a.eval s = v) (hx : a.eval x = .slice A n c) (hw : w.ownsRow B 68 2 v k (Ru.rv xs)) (hA : A = none → n = 0 ∧ c = 0) (hb : Ru.Lies w w.heap.size A (Ru.rv m)) (hl : m.length = n)
   (hn : k + n ≤ 4398046511104) (hB : B ≤ w.heap.size)
   (hK : ∀ A' c' w', w'.ownsRow B 68 2 (.slice A' (k + n) c') (k + n) (Ru.rv (xs ++ m)) → w.grownBy w' v.ownBlock → ((Value.slice A' (k + n) c').ownBlock = v.ownBlock ∨ (Value.slice A' (k + n) c').ownBlock = some w.heap.size) → K (a.put o.dst (.slice A' (k + n) c')) w') :
   if Region.wanted o (yielded ops a.tmps) = true then Oper.wp Tryz.prog o a w K Q else E := by
 have hwd : Region.wanted o (yielded ops a.tmps) = true := by simp [Region.wanted, hgd]
 rw [if_pos hwd]
 obtain ⟨A', c', w', hr, h2, h3, h5⟩ := run_app w B k v xs A m n c hw hA hb hl hn hB
 unfold Oper.wp execOp
 simp only [ho, resolve, invoke, builtin, Sem.run_bind, Sem.run_pure, Result.andThen_ok, List.map_toArray, List.map_cons, List.map_nil, hs, hx]
 rw [hty, hr]
 exact hK _ _ _ h2 h3 h5
/-! The map. -/
structure RowsAt (w : World) (B : Nat) (g : Nat → Option Sl) (f : Nat → List Run) : Prop where
 row : ∀ d, (g d = none ∧ f d = []) ∨ ∃ s, g d = some s ∧ w.ownsRow B 68 2 (sv s) s.len (Ru.rv (f d))
 fit : ∀ d, Ru.Fit (f d)
 apart : ∀ d e s t, g d = some s → g e = some t → d ≠ e → (sv s).ownBlock = none ∨ (sv s).ownBlock ≠ (sv t).ownBlock
theorem RowsAt.up {w W : World} {B : Nat} {g : Nat → Option Sl} {f : Nat → List Run} (h : RowsAt w B g f) (hW : Below w.heap.size w W) : RowsAt W B g f :=
 ⟨fun d => (h.row d).imp (fun x => x) (fun ⟨s, h1, h2⟩ => ⟨s, h1, Dt.own_kept h2 hW⟩), h.fit, h.apart⟩
theorem rows_slice {w : World} {B : Nat} {s : Sl} {l : List Run} (h : w.ownsRow B 68 2 (sv s) s.len (Ru.rv l)) (hf : Ru.Fit l) : RunsAt w s.adr l s.len s.cap ∧ ∀ ad, s.adr = some ad → B ≤ ad.block := by
 obtain ⟨A, n, c⟩ := s
 have h0 : w.ownsRow B 68 2 (.slice A n c) n (Ru.rv l) := h
 obtain ⟨h1, h2, h3⟩ := Ru.own_len h0
 have h4 := h0.1
 rw [Ru.rv_length] at h4
 refine ⟨⟨by show l.length = n; omega, h3, h1, h2, hf, Ru.lies_any (by decide) h0⟩, fun ad e => ?_⟩
 have e2 : A = some ad := e
 subst e2
 exact (h0.lt ad.block rfl).1
theorem RowsAt.sls {w : World} {B : Nat} {g : Nat → Option Sl} {f : Nat → List Run} (h : RowsAt w B g f) : SlsAt w B g f := fun d => by
 rcases h.row d with h1 | ⟨s, h1, h2⟩
 · exact .inl h1
 · obtain ⟨h3, h4⟩ := rows_slice h2 (h.fit d)
   exact .inr ⟨s, h1, h3, h4⟩
def MapO (w : World) (B b n : Nat) (f : Nat → List Run) : Prop := b < B ∧ ∃ (D : DataW Value) (g : Nat → Option Sl), w.ownsMap Tryz.prog 32 valS b n D ∧ HoldsS D g ∧ RowsAt w B g f
theorem MapO.lt {w : World} {B b n : Nat} {f : Nat → List Run} (h : MapO w B b n f) : b < w.heap.size := by
 obtain ⟨_, D, g, h1, _⟩ := h
 exact h1.lt
theorem MapO.up {w W : World} {B b n : Nat} {f : Nat → List Run} (h : MapO w B b n f) (hW : Below w.heap.size w W) : MapO W B b n f := by
 have hlt := h.lt
 obtain ⟨hb, D, g, ⟨es, clock, h1, h2⟩, h3, h4⟩ := h
 exact ⟨hb, D, g, ⟨es, clock, (hW.block b hlt).trans h1, h2⟩, h3, h4.up hW⟩
theorem MapO.more {w : World} {B b n n' : Nat} {f : Nat → List Run} (h : MapO w B b n f) (hn : n ≤ n') : MapO w B b n' f := by
 obtain ⟨hb, D, g, h1, h2⟩ := h
 exact ⟨hb, D, g, h1.mono hn, h2⟩
theorem MapO.turn {w : World} {B b n : Nat} {f g : Nat → List Run} (h : MapO w B b n f) (e : f = g) : MapO w B b n g := e ▸ h
theorem MapO.mapS {w : World} {B b n : Nat} {f : Nat → List Run} (h : MapO w B b n f) : MapS w B b n f := by
 obtain ⟨hb, D, g, h1, h2, h3⟩ := h
 exact ⟨hb, D, g, h1, h2, h3.sls⟩
theorem mapO_new (w : World) : MapO (w.alloc (.map #[] 0)) (w.heap.size + 1) w.heap.size 0 (fun _ => []) :=
 ⟨Nat.lt_succ_self _, .map [], fun _ => none, World.ownsMap_made _ _ _ _, holdsS_none, fun _ => .inl ⟨rfl, rfl⟩, fun _ r hr => (by cases hr), fun d e s t h => (by cases h)⟩
theorem MapO.look {w : World} {B b n : Nat} {f : Nat → List Run} (h : MapO w B b n f) {d : Nat} (hd : d < 65536) : ∃ A k c, w.ownsRow B 68 2 (.slice A k c) k (Ru.rv (f d)) ∧ (f d).length = k ∧
   (∀ V, w.grownBy V (Value.slice A k c).ownBlock → (Instr.lookup 118 (.map (some b)) (.int .u16 (d : Int)) false).run Tryz.prog V = .ok (.slice A k c) V) ∧
   (∀ W A' k' c' l, w.grownBy W (Value.slice A k c).ownBlock → W.ownsRow B 68 2 (.slice A' k' c') k' (Ru.rv l) → Ru.Fit l → ((Value.slice A' k' c').ownBlock = (Value.slice A k c).ownBlock ∨ ∀ j, (Value.slice A' k' c').ownBlock = some j → w.heap.size ≤ j) → n ≤ 8796093022208 →
     ∃ W', (Instr.mapUpdate 118 (.map (some b)) (.int .u16 (d : Int)) (.slice A' k' c')).run Tryz.prog W = .ok () W' ∧ MapO W' B b (n + 1) (fun e => if e = d then l else f e) ∧ W.grownBy W' (some b)) := by
 obtain ⟨hbB, D, g, h1, h2, h3⟩ := h
 obtain ⟨s, hs, hrow, hz⟩ : ∃ s, (g d).getD noS = s ∧ w.ownsRow B 68 2 (sv s) s.len (Ru.rv (f d)) ∧ (g d = some s ∨ g d = none ∧ s = noS) := by
   rcases h3.row d with ⟨q1, q2⟩ | ⟨s, q1, q2⟩
   · refine ⟨noS, by rw [q1]; rfl, ?_, .inr ⟨q1, rfl⟩⟩
     rw [q2]
     exact World.ownsRow_nil _ _ _ _
   · exact ⟨s, by rw [q1]; rfl, q2, .inl q1⟩
 have hlen := (rows_slice hrow (h3.fit d)).1.len
 refine ⟨s.adr, s.len, s.cap, hrow, hlen, fun V hV => ?_, fun W A' k' c' l hg hown hfit hblk hn => ?_⟩
 · have h1V : V.ownsMap Tryz.prog 32 valS b n D := h1.kept hV (fun e => by
     have := (hrow.lt b e.symm).1
     omega)
   obtain ⟨v, ps, hrun, hv⟩ := h1V.lookup law16 Tryz.underlying118 (zeroS _) (val_is noS) (key_is hd)
   rw [h2.at_ d hd] at hv
   obtain ⟨s2, rfl, hs2⟩ := val_inv hv
   have e : sv ((g d).getD noS) = sv s2 := by
     have := congrArg Prod.fst hs2
     injection this
   have e2 : (g d).getD noS = s2 := sv_inj e
   rw [hs] at e2
   subst e2
   exact hrun
 · have hbk : b < w.heap.size := h1.lt
   have hmW : W.ownsMap Tryz.prog 32 valS b n D := h1.kept hg (fun e => by
     have := (hrow.lt b e.symm).1
     omega)
   obtain ⟨W', hrun, h4, h5⟩ := hmW.update law16 Tryz.underlying118 (by unfold maxLen; omega) (key_is hd) (val_is ⟨A', k', c'⟩)
   have own' : W'.ownsRow B 68 2 (sv ⟨A', k', c'⟩) k' (Ru.rv l) := hown.kept h5 (by
     rcases ho : (Value.slice A' k' c').ownBlock with _ | j
     · exact .inl rfl
     · right
       intro e
       have := (hown.lt j ho).1
       injection e with e
       omega)
   have nb : ∀ e t, e ≠ d → g e = some t → (sv t).ownBlock = none ∨ (sv t).ownBlock ≠ (Value.slice s.adr s.len s.cap).ownBlock := fun e t he ht => by
     rcases hz with hz | ⟨_, rfl⟩
     · exact h3.apart e d t s ht hz he
     · rcases hh : (sv t).ownBlock with _ | j
       · exact .inl rfl
       · right; intro e2; cases e2
   refine ⟨W', hrun, ⟨hbB, _, _, h4, h2.put h1.isMap hd, ⟨fun e => ?_, fun e => ?_, fun e1 e2 s1 s2 q1 q2 hne => ?_⟩⟩, h5⟩
   · by_cases he : e = d
     · refine .inr ⟨⟨A', k', c'⟩, if_pos he, ?_⟩
       rw [if_pos he]
       exact own'
     · simp only [if_neg he]
       rcases h3.row e with ⟨q1, q2⟩ | ⟨t, q1, q2⟩
       · exact .inl ⟨q1, q2⟩
       · refine .inr ⟨t, q1, ?_⟩
         have a1 := q2.kept hg (nb e t he q1)
         refine a1.kept h5 ?_
         rcases ho : (sv t).ownBlock with _ | j
         · exact .inl rfl
         · right
           intro e3
           have := (q2.lt j ho).1
           injection e3 with e3
           omega
   · by_cases he : e = d
     · rw [if_pos he]; exact hfit
     · rw [if_neg he]; exact h3.fit e
   · -- rows of two devices
     have new_old : ∀ e t, e ≠ d → g e = some t → (sv ⟨A', k', c'⟩).ownBlock = none ∨ (sv ⟨A', k', c'⟩).ownBlock ≠ (sv t).ownBlock := fun e t he ht => by
       rcases hj : (sv ⟨A', k', c'⟩).ownBlock with _ | j
       · exact .inl rfl
       · right
         rcases h3.row e with ⟨q, _⟩ | ⟨t', q, hrt⟩
         · rw [q] at ht; cases ht
         · rw [q] at ht
           obtain rfl := Option.some.inj ht
           rcases hblk with hb1 | hb1
           · have hj' : (Value.slice A' k' c').ownBlock = some j := hj
             rw [hb1] at hj'
             intro e4
             rcases nb e t' he q with n1 | n1
             · rw [n1] at e4; cases e4
             · exact n1 (by rw [← e4, ← hj'])
           · intro e4
             have := (hrt.lt j e4.symm).2
             have := hb1 j hj
             omega
     by_cases h6 : e1 = d
     · have h7 : e2 ≠ d := fun h7 => hne (h6.trans h7.symm)
       rw [if_pos h6] at q1
       rw [if_neg h7] at q2
       obtain rfl := Option.some.inj q1
       exact new_old e2 s2 h7 q2
     · rw [if_neg h6] at q1
       by_cases h7 : e2 = d
       · rw [if_pos h7] at q2
         obtain rfl := Option.some.inj q2
         rcases new_old e1 s1 h6 q1 with h8 | h8
         · rcases ho : (sv s1).ownBlock with _ | j
           · exact .inl rfl
           · right; rw [h8]; intro e; cases e
         · right; exact fun e => h8 e.symm
       · rw [if_neg h7] at q2
         exact h3.apart e1 e2 s1 s2 q1 q2 hne
end Go.Proofs.YtgaegfddobpomaaGreat.Cx
