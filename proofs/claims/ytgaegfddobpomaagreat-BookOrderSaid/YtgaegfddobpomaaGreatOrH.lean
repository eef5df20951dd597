/- Words and contracts that the proofs of this seat stand on, part 8 of 39. -/
import Derived.Test.YtgaegfddobpomaaGreatOrG
import Derived.Test.YtgaegfddobpomaaGreatOrE
import Derived.Test.YtgaegfddobpomaaGreatOrF
import Derived.Deep.RegionHeld3
import Derived.WalkSmall
import Derived.Deep.RegionLaw
import Derived.Test.YtgaegfddobpomaaGreatOrD

namespace Go.Proofs.YtgaegfddobpomaaGreat.Ru
set_option linter.unusedVariables false
set_option maxRecDepth 4000
theorem has0 (a b : List Run) (n : Nat) : has (setL a b 0) n = (has a n || has b n) := (set_spec a b 0).2 n
theorem has1 (a b : List Run) (n : Nat) : has (setL a b 1) n = (has a n && has b n) := (set_spec a b 1).2 n
theorem has2 (a b : List Run) (n : Nat) : has (setL a b 2) n = (has a n && !has b n) := (set_spec a b 2).2 n
theorem join_turn (a b : List Run) : setL b a 0 = setL a b 0 := uniq (set_spec b a 0).1 (set_spec a b 0).1 fun n => by rw [has0, has0, Bool.or_comm]
theorem empty_of {l : List Run} (h : InOrder l) (hn : ∀ n, has l n = false) : l = [] := uniq h order_nil fun n => by rw [hn n]; rfl
end Go.Proofs.YtgaegfddobpomaaGreat.Ru

namespace Go.Proofs.YtgaegfddobpomaaGreat.Dt
end Go.Proofs.YtgaegfddobpomaaGreat.Dt

namespace Go.Proofs.YtgaegfddobpomaaGreat.Dt
set_option linter.unusedVariables false
def stepV (d : Nat) (n : Nat) (x : Dot) : Nat := if x.1 = d ∧ mayD x = true ∧ n < x.2 then x.2 else n
def ofV (v : List Dot) (d : Nat) : Nat := v.foldl (stepV d) 0
theorem of_nil (d : Nat) : ofV [] d = 0 := rfl
def Tells (f : Nat → Nat) : Prop := f 0 = 0 ∧ (∀ d, 65536 ≤ d → f d = 0) ∧ ∀ d, f d < 281474976710656
@[irreducible] def topV : Nat := 65536
theorem top_eq : topV = 65536 := by unfold topV; rfl
def oneV (f : Nat → Nat) (d : Nat) : Option Dot := if 0 < f d then some (d, f d) else none
def listV (f : Nat → Nat) : List Dot := (List.range topV).filterMap (oneV f)
theorem range_up (n : Nat) : (List.range n).Pairwise (fun a b => a < b) := List.pairwise_lt_range
/-! The document's words. -/
def normV (v : List Dot) : List Dot := listV (ofV v)
def joinV (a b : List Dot) : List Dot := listV (fun d => max (ofV a d) (ofV b d))
def meetV (a b : List Dot) : List Dot := listV (fun d => min (ofV a d) (ofV b d))
def putV (v : List Dot) (x : Dot) : List Dot := joinV v [x]
def hasV (v : List Dot) (x : Dot) : Bool := mayD x && decide (x.2 ≤ ofV v x.1)
def mostV (a b : List Dot) : Bool := (List.range topV).all (fun d => decide (ofV a d ≤ ofV b d))
def orderV (a b : List Dot) : Int := if mostV a b = true ∧ mostV b a = true then 0 else if mostV a b = true then -1 else if mostV b a = true then 1 else 2
def lackV (a b : List Dot) : Nat := ((List.range topV).map (fun d => ofV b d - ofV a d)).sum
def goodV (v : List Dot) : Bool := decide (v = normV v)
end Go.Proofs.YtgaegfddobpomaaGreat.Dt

namespace Go.Proofs.YtgaegfddobpomaaGreat.Cx
set_option linter.unusedVariables false
abbrev Run := Ru.Run
abbrev Dot := Dt.Dot
abbrev Part := Nat × List Run
theorem fit_runs {l : List Run} (h : Ru.InOrder l) : Ru.Fit l := fun r hr => by
 have := (Ru.may_iff r).1 (h.1 r hr)
 exact ⟨by omega, by omega⟩
def FitC (c : List Part) : Prop := ∀ x ∈ c, x.1 < 65536 ∧ Ru.Fit x.2
def stepC (d : Nat) (o : List Run) (x : Part) : List Run := if x.1 = d ∧ d ≠ 0 then Ru.setL o x.2 0 else o
def runsC (c : List Part) (d : Nat) : List Run := c.foldl (stepC d) []
theorem runs_nil (d : Nat) : runsC [] d = [] := rfl
theorem runs_from (c : List Part) (d : Nat) (o : List Run) (ho : Ru.InOrder o) : Ru.InOrder (c.foldl (stepC d) o) ∧ (∀ n, Ru.has (c.foldl (stepC d) o) n = (Ru.has o n || (decide (d ≠ 0) && c.any (fun x => decide (x.1 = d) && Ru.has x.2 n)))) ∧
   (c.foldl (stepC d) o).length ≤ o.length + (c.map (fun x => x.2.length)).sum := by
 induction c generalizing o with
 | nil => exact ⟨ho, fun n => by simp, by simp⟩
 | cons x c ih =>
   rw [List.foldl_cons]
   by_cases hx : x.1 = d ∧ d ≠ 0
   · rw [show stepC d o x = Ru.setL o x.2 0 from if_pos hx]
     obtain ⟨h1, h2, h3⟩ := ih (Ru.setL o x.2 0) (Ru.set_spec o x.2 0).1
     refine ⟨h1, fun n => ?_, ?_⟩
     · rw [h2, Ru.has0, List.any_cons, decide_eq_true hx.1, decide_eq_true hx.2]
       cases Ru.has o n <;> cases Ru.has x.2 n <;> simp
     · have := Ru.set_length0 o x.2
       rw [List.map_cons, List.sum_cons]
       omega
   · rw [show stepC d o x = o from if_neg hx]
     obtain ⟨h1, h2, h3⟩ := ih o ho
     refine ⟨h1, fun n => ?_, ?_⟩
     · rw [h2, List.any_cons]
       by_cases hd : d = 0
       · simp [hd]
       · have : ¬ x.1 = d := fun h => hx ⟨h, hd⟩
         simp [this]
     · rw [List.map_cons, List.sum_cons]
       omega
theorem runs_order (c : List Part) (d : Nat) : Ru.InOrder (runsC c d) := (runs_from c d [] Ru.order_nil).1
theorem runs_has (c : List Part) (d n : Nat) : Ru.has (runsC c d) n = (decide (d ≠ 0) && c.any (fun x => decide (x.1 = d) && Ru.has x.2 n)) := by
 rw [show runsC c d = c.foldl (stepC d) [] from rfl, (runs_from c d [] Ru.order_nil).2.1]; simp [Ru.has_nil]
theorem runs_length (c : List Part) (d : Nat) : (runsC c d).length ≤ (c.map (fun x => x.2.length)).sum := by
 have := (runs_from c d [] Ru.order_nil).2.2
 simpa [runsC] using this
theorem runs_empty {c : List Part} {d : Nat} (h : d = 0 ∨ ∀ x ∈ c, x.1 ≠ d) : runsC c d = [] := by
 refine Ru.empty_of (runs_order c d) fun n => ?_
 rw [runs_has]
 rcases h with h | h
 · simp [h]
 · have : c.any (fun x => decide (x.1 = d) && Ru.has x.2 n) = false := by
     rw [List.any_eq_false]
     intro x hx
     simp [h x hx]
   rw [this, Bool.and_false]
theorem runs_zero (c : List Part) : runsC c 0 = [] := runs_empty (.inl rfl)
theorem runs_far {c : List Part} (hc : FitC c) {d : Nat} (hd : 65536 ≤ d) : runsC c d = [] := runs_empty (.inr fun x hx => by have := (hc x hx).1; omega)
structure Tells (f : Nat → List Run) : Prop where
 zero : f 0 = []
 far : ∀ d, 65536 ≤ d → f d = []
 order : ∀ d, Ru.InOrder (f d)
theorem tells_runs {c : List Part} (hc : FitC c) : Tells (runsC c) := ⟨runs_zero c, fun d hd => runs_far hc hd, runs_order c⟩
theorem set_nil (how : Int) : Ru.setL [] [] how = [] := Ru.empty_of (Ru.set_spec _ _ _).1 fun n => by rw [(Ru.set_spec [] [] how).2, Ru.has_nil]; exact Ru.inB_ff how
theorem tells_set {f g : Nat → List Run} (hf : Tells f) (hg : Tells g) (how : Int) : Tells (fun d => Ru.setL (f d) (g d) how) :=
 ⟨by show Ru.setL (f 0) (g 0) how = []; rw [hf.zero, hg.zero, set_nil], fun d hd => by show Ru.setL (f d) (g d) how = []; rw [hf.far d hd, hg.far d hd, set_nil], fun d => (Ru.set_spec _ _ _).1⟩
def oneC (f : Nat → List Run) (d : Nat) : Option Part := if (f d).length = 0 then none else some (d, f d)
def listC (f : Nat → List Run) : List Part := (List.range Dt.topV).filterMap (oneC f)
theorem list_mem {f : Nat → List Run} (hf : Tells f) (x : Part) : x ∈ listC f ↔ x.2 = f x.1 ∧ f x.1 ≠ [] := by
 unfold listC
 rw [List.mem_filterMap]
 constructor
 · rintro ⟨d, _, h⟩
   unfold oneC at h
   split at h
   · cases h
   · rename_i h0
     cases h
     exact ⟨rfl, fun h => h0 (by show (f d).length = 0; rw [show f d = [] from h]; rfl)⟩
 · rintro ⟨h1, h2⟩
   refine ⟨x.1, ?_, ?_⟩
   · rw [List.mem_range, Dt.top_eq]
     rcases Nat.lt_or_ge x.1 65536 with h | h
     · exact h
     · exact absurd (hf.far _ h) h2
   · unfold oneC
     rw [if_neg (fun h => h2 (List.eq_nil_of_length_eq_zero h)), ← h1]
theorem list_up (f : Nat → List Run) (l : List Nat) (h : l.Pairwise (fun a b => a < b)) : (l.filterMap (oneC f)).Pairwise (fun a b => a.1 < b.1) := by
 induction l with
 | nil => exact List.Pairwise.nil
 | cons d l ih =>
   obtain ⟨h1, h2⟩ := List.pairwise_cons.1 h
   rw [List.filterMap_cons]
   split
   · exact ih h2
   · rename_i x hx
     rw [List.pairwise_cons]
     refine ⟨fun y hy => ?_, ih h2⟩
     obtain ⟨e, he, h3⟩ := List.mem_filterMap.1 hy
     unfold oneC at hx h3
     split at hx
     · cases hx
     · split at h3
       · cases h3
       · cases hx; cases h3; exact h1 e he
theorem list_rise (f : Nat → List Run) : (listC f).Pairwise (fun a b => a.1 < b.1) := list_up f _ (Dt.range_up _)
theorem list_fit {f : Nat → List Run} (hf : Tells f) : FitC (listC f) := fun x hx => by
 obtain ⟨h1, h2⟩ := (list_mem hf x).1 hx
 refine ⟨?_, by rw [h1]; exact fit_runs (hf.order _)⟩
 rcases Nat.lt_or_ge x.1 65536 with h | h
 · exact h
 · exact absurd (hf.far _ h) h2
theorem runs_list {f : Nat → List Run} (hf : Tells f) : runsC (listC f) = f := by
 funext d
 refine Ru.uniq (runs_order _ d) (hf.order d) fun n => ?_
 rw [runs_has]
 by_cases hd : d = 0
 · subst hd; rw [hf.zero]; simp [Ru.has_nil]
 · rw [decide_eq_true hd, Bool.true_and]
   cases h : Ru.has (f d) n with
   | true =>
     rw [List.any_eq_true]
     refine ⟨(d, f d), (list_mem hf _).2 ⟨rfl, fun h2 => ?_⟩, by simp [h]⟩
     rw [show f d = [] from h2, Ru.has_nil] at h; cases h
   | false =>
     rw [List.any_eq_false]
     intro x hx
     obtain ⟨h1, _⟩ := (list_mem hf x).1 hx
     by_cases hx2 : x.1 = d
     · rw [h1, hx2, h]; simp
     · simp [hx2]
/-! The document's words. -/
def setC (a b : List Part) (how : Int) : List Part := listC (fun d => Ru.setL (runsC a d) (runsC b d) how)
def normC (c : List Part) : List Part := listC (runsC c)
theorem tells_both {a b : List Part} (ha : FitC a) (hb : FitC b) (how : Int) : Tells (fun d => Ru.setL (runsC a d) (runsC b d) how) := tells_set (tells_runs ha) (tells_runs hb) how
theorem runs_set {a b : List Part} (ha : FitC a) (hb : FitC b) (how : Int) : runsC (setC a b how) = fun d => Ru.setL (runsC a d) (runsC b d) how := runs_list (tells_both ha hb how)
theorem runs_norm {c : List Part} (hc : FitC c) : runsC (normC c) = runsC c := runs_list (tells_runs hc)
theorem fit_set {a b : List Part} (ha : FitC a) (hb : FitC b) (how : Int) : FitC (setC a b how) := list_fit (tells_both ha hb how)
theorem set_self {l : List Run} (h : Ru.InOrder l) : Ru.setL l [] 0 = l := Ru.uniq (Ru.set_spec _ _ _).1 h fun n => by rw [Ru.has0, Ru.has_nil, Bool.or_false]
theorem norm_set (c : List Part) : setC c [] 0 = normC c := by
 unfold setC normC
 congr 1
 funext d
 exact set_self (runs_order c d)
def hasC (c : List Part) (x : Dot) : Bool := Dt.mayD x && Ru.has (runsC c x.1) x.2
def goodC (c : List Part) : Bool := decide (c = normC c)
def withinC (a b : List Part) : Bool := decide (setC a b 2 = [])
def sameC (a b : List Part) : Bool := decide (normC a = normC b)
def onlyC (c : List Part) (d : Nat) : List Part := if (runsC c d).length = 0 then [] else [(d, runsC c d)]
def ofC (l : List Dot) : List Part := l.foldl (fun o x => if Dt.mayD x = true then setC o [(x.1, [(x.2, x.2)])] 0 else o) []
def sizeC (c : List Part) : Nat := ((normC c).map (fun x => Ru.sizeR x.2)).sum
def baseC (c : List Part) : List Dot := (normC c).filterMap (fun x => if 1 < Ru.firstR x.2 then some (x.1, Ru.firstR x.2 - 1) else none)
def plainC (v : List Dot) : List Part := (Dt.normV v).map (fun x => (x.1, [(1, x.2)]))
end Go.Proofs.YtgaegfddobpomaaGreat.Cx

namespace Go.Proofs.YtgaegfddobpomaaGreat.Ru
open Go.ChangeShapes Go.WideShapes Go.ChangeAt Go.RowKit
set_option linter.unusedVariables false
theorem addR_length (o : List Run) (p q : Nat) : (addR o p q).length ≤ o.length + 1 := by
 unfold addR
 split
 · rename_i r h
   split
   · have hne : o ≠ [] := fun e => by rw [e] at h; simp at h
     rw [List.length_append, List.length_dropLast, List.length_singleton]
     have : 0 < o.length := List.length_pos_iff.2 hne
     omega
   · rw [List.length_append]; simp
 · simp
theorem stF_length (a b : List Run) (how : Int) (P : List Nat) (k : Nat) : (stF a b how P k).length ≤ k := by
 induction k with
 | zero => simp [stF]
 | succ k ih =>
   rw [stF_succ]
   unfold stS
   split
   · have := addR_length (stF a b how P k) (P.getD k 0) (P.getD (k + 1) 0)
     omega
   · omega
theorem getD_some {P : List Nat} {i p : Nat} (h : P[i]? = some p) : P.getD i 0 = p := by
 rw [List.getD_eq_getElem?_getD, h]; rfl
theorem putL_bound {l : List Nat} {n : Nat} (C : Nat → Prop) (hl : ∀ x ∈ l, C x) (hn : C n) : ∀ x ∈ putL l n, C x := by
 have key : ∀ (l : List Nat), (∀ x ∈ l, C x) → ∀ s : List Nat × Bool, (∀ x ∈ s.1, C x) → ∀ x ∈ (l.foldl (putS n) s).1, C x := by
   intro l
   induction l with
   | nil => intro _ s hs; exact hs
   | cons y l ih =>
     intro h s hs
     rw [List.foldl_cons]
     refine ih (fun x hx => h x (by simp [hx])) _ ?_
     have hy : C y := h y (by simp)
     unfold putS
     intro x hx
     split at hx <;> split at hx <;> simp at hx
     all_goals (first
       | (rcases hx with hx | rfl | rfl <;> first | exact hs x hx | exact hn | exact hy)
       | (rcases hx with hx | rfl <;> first | exact hs x hx | exact hn | exact hy)
       | exact hs x hx)
 have h1 := key l hl ([], false) (fun x hx => by cases hx)
 unfold putL
 split
 · exact h1
 · intro x hx
   rcases List.mem_append.1 hx with hx | hx
   · exact h1 x hx
   · obtain rfl := List.mem_singleton.1 hx
     exact hn
theorem ptL_bound (l : List Run) : ∀ x ∈ ptL l, 1 ≤ x ∧ x ≤ 281474976710656 := by
 suffices h : ∀ o : List Nat, (∀ x ∈ o, 1 ≤ x ∧ x ≤ 281474976710656) → ∀ x ∈ l.foldl ptS o, 1 ≤ x ∧ x ≤ 281474976710656 from h [] (fun x hx => by cases hx)
 induction l with
 | nil => intro o ho; exact ho
 | cons r l ih =>
   intro o ho
   rw [List.foldl_cons]
   refine ih _ ?_
   unfold ptS
   split
   · rename_i hm
     have := of_decide_eq_true hm
     exact putL_bound _ (putL_bound _ ho (by omega)) (by omega)
   · exact ho
def RunPost (w : World) (m : List Run) (e : Ending) (w' : World) : Prop :=
 ∃ A n c, e = .returned (.slice A n c) ∧ m.length = n ∧ w'.ownsRow w.heap.size 68 2 (.slice A n c) n (rv m) ∧ Below w.heap.size w w'
theorem has_later (w W : World) (A : Option Addr) (l : List Run) (len c n : Nat) (b : Bool) (hl : l.length = len) (hb : Runs w w.heap.size A l) (h63 : len ≤ 9223372036854775807) (hn : n < 18446744073709551616) (hbe : has l n = b) (bel : Below w.heap.size w W) :
   Calls Tryz.prog 76 #[.slice A len c, .int .u64 (n : Int)] W fun e w' => e = .returned (.bool b) ∧ Below w.heap.size w w' := by
 subst hbe
 refine (has_any W w.heap.size A l len c n hl (hb.below bel) bel.size h63 hn).mono ?_
 rintro e w' ⟨rfl, hb'⟩
 exact ⟨rfl, bel.trans (hb'.mono bel.size)⟩
theorem bel_drew {w W : World} (h : Below w.heap.size w W) : Below w.heap.size w W.drew := h.drew
def Low (o : List Run) : Prop := ∀ r ∈ o, r.1 ≤ 281474976710656 ∧ r.2 ≤ 281474976710656
theorem addR_nil (p q : Nat) : addR [] p q = [(p, q - 1)] := rfl
theorem addR_last (o : List Run) (lo hi p q : Nat) : addR (o ++ [(lo, hi)]) p q = if hi + 1 = p then o ++ [(lo, q - 1)] else o ++ [(lo, hi)] ++ [(p, q - 1)] := by
 unfold addR
 rw [List.getLast?_append]
 simp only [List.getLast?_singleton, Option.some_or, List.dropLast_concat]
theorem last_of {o : List Run} {z : Nat} (h : o.length = z + 1) : ∃ o' lo hi, o = o' ++ [(lo, hi)] ∧ o'.length = z := by
 have hne : o ≠ [] := fun e => by rw [e] at h; simp at h
 refine ⟨o.dropLast, (o.getLast hne).1, (o.getLast hne).2, (List.dropLast_concat_getLast hne).symm, by rw [List.length_dropLast]; omega⟩
theorem low_last {o : List Run} {lo hi : Nat} (h : Low (o ++ [(lo, hi)])) : lo ≤ 281474976710656 ∧ hi ≤ 281474976710656 := h (lo, hi) (by simp)
theorem low_snoc {o : List Run} {lo hi : Nat} (h : Low o) (h1 : lo ≤ 281474976710656) (h2 : hi ≤ 281474976710656) : Low (o ++ [(lo, hi)]) := fun r hr => by
 rcases List.mem_append.1 hr with hr | hr
 · exact h r hr
 · obtain rfl := List.mem_singleton.1 hr
   exact ⟨h1, h2⟩
theorem low_init {o : List Run} {r : Run} (h : Low (o ++ [r])) : Low o := fun x hx => h x (List.mem_append_left _ hx)
theorem rv_snoc (o : List Run) (lo hi : Nat) : rv (o ++ [(lo, hi)]) = rv o ++ [.int .u64 (lo : Int), .int .u64 (hi : Int)] := rv_append o [(lo, hi)]
theorem rv_set_last (o : List Run) (lo hi v z : Nat) (h : o.length = z) : (rv (o ++ [(lo, hi)])).set (z * 2 + 1) (.int .u64 (v : Int)) = rv (o ++ [(lo, v)]) := by
 have hl : (rv o).length = z * 2 := by rw [rv_length, h]
 rw [rv_snoc, rv_snoc, List.set_append, if_neg (by omega), hl]
 have e : z * 2 + 1 - z * 2 = 1 := by omega
 rw [e]
 rfl
theorem rv_last (o : List Run) (lo hi z : Nat) (h : o.length = z) : (rv (o ++ [(lo, hi)]))[z * 2]? = some (.int .u64 (lo : Int)) ∧ (rv (o ++ [(lo, hi)]))[z * 2 + 1]? = some (.int .u64 (hi : Int)) := by
 refine rv_get (l := o ++ [(lo, hi)]) (r := (lo, hi)) ?_
 rw [List.getElem?_append_right (by omega), h]
 simp
def StRel (w : World) (a b : List Run) (how : Int) (P : List Nat) (len : Nat) (o i : Value) (wr : World) : Prop :=
 ∃ (k m : Nat) (A : Option Addr) (c : Nat), k ≤ len - 1 ∧ i = .int .i64 (k : Int) ∧ o = .slice A m c ∧ (stF a b how P k).length = m ∧ Low (stF a b how P k) ∧ wr.ownsRow w.heap.size 68 2 (.slice A m c) m (rv (stF a b how P k)) ∧ Below w.heap.size w wr
theorem st_rel {w wr : World} {a b : List Run} {how : Int} {P : List Nat} {len k m : Nat} {A : Option Addr} {c : Nat} {o : List Run} (hk : k < len - 1) (hs : stF a b how P (k + 1) = o) (hm : o.length = m) (hf : Low o) (ho : wr.ownsRow w.heap.size 68 2 (.slice A m c) m (rv o)) (hb : Below w.heap.size w wr) :
   StRel w a b how P len (.slice A m c) (.int .i64 ((k : Int) + 1)) wr :=
 ⟨k + 1, m, A, c, hk, by go_num, rfl, by rw [hs]; exact hm, by rw [hs]; exact hf, by rw [hs]; exact ho, hb⟩
theorem st_drewN {w V : World} {a b : List Run} {how : Int} {P : List Nat} {len : Nat} {o i : Value} (h : StRel w a b how P len o i V) (n : Nat) : StRel w a b how P len o i (V.drewN n) := by
 obtain ⟨k, m, A, c, h1, h2, h3, h4, h5, h6, h7⟩ := h
 exact ⟨k, m, A, c, h1, h2, h3, h4, h5, h6, Go.below_drewN h7 n⟩
theorem news_run (W : World) (p q : Nat) (z : Int) (h : z = (q : Int)) : ∀ (j : Nat) (u : Value), (rv [(p, q)])[j]? = some u → (W.alloc (.cells #[.int .u64 (p : Int), .int .u64 z] 68)).cell? ((⟨W.heap.size, 0, none⟩ : Addr).add j) = some u := by
 subst h
 intro j u hu
 rw [zero_add, World.cell?_alloc_new]
 simpa [rv] using hu
theorem run_grown {w wr w2 : World} {v : Value} {m : Nat} {xs : List Value} {o : Obj} (ho : wr.ownsRow w.heap.size 68 2 v m xs) (hb : Below w.heap.size w wr) (hg : (wr.alloc o).grownBy w2 v.ownBlock) : Below w.heap.size w w2 :=
 (hb.alloc hb.size _).grown hg (Nat.le_trans hb.size (by simp)) (fun k hk => (ho.lt k hk).1)
theorem own_drewN {V : World} {B n size : Nat} {e : TypeId} {v : Value} {xs : List Value} (h : V.ownsRow B e size v n xs) (k : Nat) : (V.drewN k).ownsRow B e size v n xs := h
theorem own_drewS {V : World} {B n size : Nat} {e : TypeId} {v : Value} {xs : List Value} (h : V.ownsRow B e size v n xs) (k : Nat) : ((V.drewN k).drew).ownsRow B e size v n xs := h
theorem low_drewS {w V : World} (h : Below w.heap.size w V) (k : Nat) : Below w.heap.size w ((V.drewN k).drew) := (Go.below_drewN h k).drew
theorem lies_num {w : World} {B n c : Nat} {A : Option Addr} {m : List Nat} (h : w.ownsRow B 33 1 (.slice A n c) n (nv m)) (hf : FitN m) : Nums w w.heap.size A m := ⟨hf, lies_any (by decide) h⟩
set_option maxHeartbeats 8000000 in
set_option maxRecDepth 100000 in
theorem set_any (w : World) (A1 A2 : Option Addr) (l1 l2 : List Run) (n1 n2 c1 c2 : Nat) (how : Int) (hl1 : l1.length = n1) (hl2 : l2.length = n2) (hA1 : A1 = none → n1 = 0 ∧ c1 = 0) (hA2 : A2 = none → n2 = 0 ∧ c2 = 0) (hb1 : Runs w w.heap.size A1 l1) (hb2 : Runs w w.heap.size A2 l2) (h1 : n1 ≤ 262144) (h2 : n2 ≤ 262144) (hh : 0 ≤ how ∧ how ≤ 2) :
   Calls Tryz.prog 152 #[.slice A1 n1 c1, .slice A2 n2 c2, .int .i64 how] w (RunPost w (setL l1 l2 how)) := by
 obtain ⟨i0, hi0, hz0, hz1, hz2⟩ := info_parts run_info
 have HL1 := Lib.hid hl1
 have HL2 := Lib.hid hl2
 have HB1 := Lib.hid hb1
 have HB2 := Lib.hid hb2
 have HA1 := Lib.hid hA1
 have HA2 := Lib.hid hA2
 clear hl1 hl2 hA1 hA2 hb1 hb2
 obtain ⟨P, hP⟩ : ∃ P, ptL (l1 ++ l2) = P := ⟨_, rfl⟩
 have PB : Hid (∀ x ∈ P, 1 ≤ x ∧ x ≤ 281474976710656) := by show ∀ x ∈ P, _; rw [← hP]; exact ptL_bound _
 have PF : Hid (FitN P) := fun x hx => by have := PB.out x hx; omega
 have PL : Hid (P.length ≤ 1048576) := by
   show _ ≤ _
   rw [← hP]
   have := ptL_length (l1 ++ l2) (l1 ++ l2).length
   rw [List.take_length, List.length_append, HL1.out, HL2.out] at this
   omega
 have HS : Hid (setL l1 l2 how = stF l1 l2 how P (P.length - 1)) := by show _ = _; unfold setL; rw [hP]
 go_enter Tryz.func152, Tryz.ntmps152
 go_wp2_with fail
 refine (points_any w A1 A2 l1 l2 n1 n2 c1 c2 HL1.out HL2.out HA1.out HA2.out HB1.out HB2.out h1 h2).mono ?_
 rw [hP]
 rintro e w1 ⟨AP, np, cp, rfl, hnp, hop, hbp⟩
 have W1 := Lib.hid hbp
 have KP := Lib.hid (lies_num hop PF.out)
 have NP := Lib.hid hnp
 have K1 := Lib.hid (HB1.out.up hbp)
 have K2 := Lib.hid (HB2.out.up hbp)
 have hnp2 : np ≤ 1048576 := by rw [← hnp]; exact PL.out
 clear hop hbp hnp hP
 have HR : Hid (StRel w1 l1 l2 how P np (.slice none 0 0) (.int .i64 0) w1) := ⟨0, 0, none, 0, Nat.zero_le _, rfl, rfl, rfl, (fun x hx => by cases hx), World.ownsRow_nil _ _ _ _, Below.refl _ _⟩
 go_wp2_with fail
 go_loopw [8, 9] (fun o i wr => StRel w1 l1 l2 how P np o i wr) (fun _ i _ => np - (intOf i).toNat)
 case atStart => exact HR.out
 case round =>
   clear HR
   obtain ⟨k, m, A, c, hk, rfl, rfl, hm, hf, ho, hb⟩ := hrel
   have HO := Lib.hid ho
   have HW := Lib.hid hb
   have HF := Lib.hid hf
   have HM := Lib.hid hm
   have hmk : m ≤ k := by rw [← hm]; exact stF_length _ _ _ _ _
   clear ho hb hf hm
   by_cases hlt : k + 1 < np
   · obtain ⟨k1, hk1⟩ : ∃ k1, k1 = k + 1 := ⟨_, rfl⟩
     have hk1I : (k : Int) + 1 = (k1 : Int) := by omega
     have hk1n : k1 < np := by omega
     have HK1 := Lib.hid hk1
     obtain ⟨ad, p, rfl, hp, hp64, hcp⟩ := KP.out.at_ (k := k) (by rw [NP.out]; omega)
     obtain ⟨ad2, q, e2, hq, hq64, hcq⟩ := KP.out.at_ (k := k1) (by rw [NP.out]; omega)
     cases e2
     have hpb := PB.out p (List.mem_of_getElem? hp)
     have hqb := PB.out q (List.mem_of_getElem? hq)
     have EP := Lib.hid (getD_some hp)
     have EQ := Lib.hid (getD_some hq)
     rw [HK1.out] at EQ
     have HC : Hid (∀ V, Below w1.heap.size w1 V → V.cell? (ad.add k) = some (.int .u64 (p : Int)) ∧ V.cell? (ad.add k1) = some (.int .u64 (q : Int))) := fun V hV =>
       ⟨(hV.cell (World.block_lt_of_cell? w1 _ hcp)).trans hcp, (hV.cell (World.block_lt_of_cell? w1 _ hcq)).trans hcq⟩
     obtain ⟨q1, q2⟩ := HC.out wr HW.out
     have KA := Lib.hid (K1.out.up HW.out)
     have KB := Lib.hid (K2.out.up HW.out)
     obtain ⟨x, hx⟩ : ∃ x, has l1 p = x := ⟨_, rfl⟩
     obtain ⟨y, hy⟩ : ∃ y, has l2 p = y := ⟨_, rfl⟩
     have HX := Lib.hid hx
     have HY := Lib.hid hy
     have HCR : Hid (∀ V, Below wr.heap.size wr V → V.cell? (ad.add k) = some (.int .u64 (p : Int))) := fun V hV => (HC.out V (HW.out.trans (hV.mono HW.out.size))).1
     clear hp hq hcp hcq hx hy
     have hkn : k < np := by omega
     have hwk : IntKind.i64.wrap (k1 : Int) = (k1 : Int) := by rw [IntKind.wrap_i64]; omega
     have hwq : IntKind.u64.wrap ((q : Int) - 1) = ((q - 1 : Nat) : Int) := by rw [IntKind.wrap_u64]; omega
     have hkl : k < np - 1 := by omega
     clear hk1 hlt hk
     obtain ⟨o, hoe⟩ : ∃ o, stF l1 l2 how P k = o := ⟨_, rfl⟩
     have ES : Hid (∀ b, inB how x y = b → stF l1 l2 how P (k + 1) = if b = true then addR o p q else o) := by
       intro b hb
       rw [stF_succ, hoe]
       unfold stS
       rw [EP.out, EQ.out, HX.out, HY.out, hb]
     rw [hoe] at HO HM HF
     clear hoe
     go_wp2_with fail
     go_region_held3 (fun V => V.cell? (ad.add k) = some (.int .u64 (p : Int))) (first | go_keep | assumption | exact HCR.out _ (by (repeat (first | exact Below.refl _ _ | assumption | apply bel_drew)))) (first
       | (go_at_call 76; (with_reducible refine (has_later wr _ A1 l1 n1 c1 p x HL1.out KA.out (by omega) hp64 HX.out ?_).mono ?_); (repeat (first | exact Below.refl _ _ | assumption | apply bel_drew)); rintro e V ⟨rfl, bv1⟩; have hcV : V.cell? (ad.add k) = some (.int .u64 (p : Int)) := HCR.out V bv1)
       | (go_at_call 76; (with_reducible refine (has_later wr _ A2 l2 n2 c2 p y HL2.out KB.out (by omega) hp64 HY.out ?_).mono ?_); (repeat (first | exact Below.refl _ _ | assumption | apply bel_drew)); rintro e V ⟨rfl, bv2⟩; have hcV : V.cell? (ad.add k) = some (.int .u64 (p : Int)) := HCR.out V bv2))
     all_goals
       have HV0 : Hid (Below wr.heap.size wr V) := by first | exact bv2 | exact bv1
       have HV : Hid (Below w1.heap.size w1 V) := HW.out.trans (HV0.out.mono HW.out.size)
       have HOV := Lib.hid (own_kept HO.out HV0.out)
       obtain ⟨r1, r2⟩ := HC.out V HV.out
       clear hcV
       try clear bv1
       try clear bv2
       have hh3 : how = 0 ∨ how = 1 ∨ how = 2 := by omega
       rcases hh3 with rfl | rfl | rfl <;> cases x <;> cases y
     all_goals (first
       | (have hin := Lib.hid (ES.out false (by decide))
          rw [if_neg (by decide)] at hin
          have HR := Lib.hid (st_rel (len := np) hkl hin.out HM.out HF.out HOV.out HV.out)
          rw [hk1I] at HR
          clear ES
          go_wp2_with fail
          go_quiet (fail)
          go_wp2
          go_roundw
          case rel => exact st_drewN HR.out _
          case measure => simp [intOf]; omega)
       | skip)
     all_goals
       have hin := Lib.hid (ES.out true (by decide))
       rw [if_pos rfl] at hin
       clear ES
       by_cases hm0 : m = 0
       · subst hm0
         have ho0 : Hid (o = []) := List.eq_nil_of_length_eq_zero HM.out
         rw [ho0.out] at hin HOV HF
         rw [addR_nil] at hin
         go_wp2_with fail
         go_quiet (fail)
         go_wp2_with fail
         go_region_law (first
           | (refine step_append_lies _ rfl (.tmp 85) (.tmp 97) 69 rfl w1.heap.size 68 i0 (.agg #[.int .u64 0, .int .u64 0]) 2 16 Tryz.underlying69 hi0 hz0 hz1 hz2 rfl (by decide) (.slice A 0 c) 0 (rv []) rfl (World.ownsRow.alloc (own_drewS HOV.out nq) _) ⟨V.heap.size, 0, none⟩ 1 1 (rv [(p, q - 1)]) rfl rfl (news_run (V.drewN nq).drew p (q - 1) ((q - 1 : Nat) : Int) rfl) (rv_one _) (by decide) (by simp only [maxLen]; omega) (by omega) (Nat.le_trans HV.out.size (by simp)) _ rfl ?_
              intro g2 cap2 w2 ho2 hg2 hat2 hlt2
              rw [← rv_append] at ho2
              have HO2 := Lib.hid ho2
              have HW2 : Hid (Below w1.heap.size w1 w2) := run_grown (own_drewS HOV.out nq) (low_drewS HV.out nq) hg2
              clear ho2 hg2 hat2 hlt2))
         all_goals
           have HR := Lib.hid (st_rel (len := np) hkl hin.out rfl (fun r hr => by obtain rfl := List.mem_singleton.1 hr; exact ⟨by omega, by omega⟩) HO2.out HW2.out)
           rw [hk1I] at HR
           go_wp2
           go_roundw
           case rel => exact HR.out
           case measure => simp [intOf]; omega
       · obtain ⟨z, hz⟩ : ∃ z, m = z + 1 := ⟨m - 1, by omega⟩
         obtain ⟨g, cap', e1, hgw⟩ := own_shape (w := w1) HOV.out (.inl (by omega))
         cases e1
         subst hz
         obtain ⟨o', lo, hi, ho', hz'⟩ := last_of HM.out
         rw [ho'] at HOV HF HM hin
         rw [addR_last] at hin
         have HZ := Lib.hid hz'
         obtain ⟨b1, b2⟩ := low_last HF.out
         have hcl : V.cell? ⟨g, z * 2 + 1, none⟩ = some (.int .u64 (hi : Int)) := by rw [HOV.out.cellAt (z * 2 + 1) (by omega)]; exact (rv_last o' lo hi z hz').2
         have hfz : V.frozen? ⟨g, z * 2 + 1, none⟩ = false := HOV.out.frozenAt _
         have hwh : IntKind.u64.wrap ((hi : Int) + 1) = (hi : Int) + 1 := by rw [IntKind.wrap_u64]; omega
         have hzi : z < z + 1 := Nat.lt_succ_self z
         have hwz : IntKind.i64.wrap ((z : Int)) = (z : Int) := by rw [IntKind.wrap_i64]; omega
         clear ho' hz' HO hm0
         by_cases ht : hi + 1 = p
         · have hte : ((hi : Int) + 1 == (p : Int)) = true := by rw [beq_iff_eq]; omega
           rw [if_pos ht] at hin
           have HR := Lib.hid (fun n => st_rel (len := np) (m := z + 1) (A := some ⟨g, 0, none⟩) (c := c) (wr := (V.drewN n).setCell ⟨g, z * 2 + 1, none⟩ (.int .u64 ((q - 1 : Nat) : Int))) hkl hin.out (by rw [List.length_append, HZ.out]; rfl) (low_snoc (low_init HF.out) b1 (by omega)) (by rw [← rv_set_last o' lo hi (q - 1) z HZ.out]; exact ((own_drewN HOV.out n).stored (z * 2 + 1) _).1) ((Go.below_drewN HV.out n).setCell hgw _))
           rw [hk1I] at HR
           clear ht
           go_wp2_with fail
           go_quiet (fail)
           go_wp2
           go_roundw
           case rel => exact HR.out _
           case measure => simp [intOf]; omega
         · have hte : ((hi : Int) + 1 == (p : Int)) = false := by rw [beq_eq_false_iff_ne]; omega
           rw [if_neg ht] at hin
           clear ht
           go_wp2_with fail
           go_quiet (fail)
           go_wp2_with fail
           go_region_law (first
             | (refine step_append_lies _ rfl (.tmp 85) (.tmp 97) 69 rfl w1.heap.size 68 i0 (.agg #[.int .u64 0, .int .u64 0]) 2 16 Tryz.underlying69 hi0 hz0 hz1 hz2 rfl (by decide) (.slice (some ⟨g, 0, none⟩) (z + 1) c) (z + 1) (rv (o' ++ [(lo, hi)])) rfl (World.ownsRow.alloc (own_drewS HOV.out nq) _) ⟨V.heap.size, 0, none⟩ 1 1 (rv [(p, q - 1)]) rfl rfl (news_run (V.drewN nq).drew p (q - 1) ((q - 1 : Nat) : Int) rfl) (rv_one _) (by decide) (by simp only [maxLen]; omega) (by omega) (Nat.le_trans HV.out.size (by simp)) _ rfl ?_
                intro g2 cap2 w2 ho2 hg2 hat2 hlt2
                rw [← rv_append] at ho2
                have HO2 := Lib.hid ho2
                have HW2 : Hid (Below w1.heap.size w1 w2) := run_grown (own_drewS HOV.out nq) (low_drewS HV.out nq) hg2
                clear ho2 hg2 hat2 hlt2))
           all_goals
             have HR := Lib.hid (st_rel (len := np) hkl hin.out (by rw [List.length_append, HM.out]; rfl) (low_snoc HF.out (by omega) (by omega)) HO2.out HW2.out)
             rw [hk1I] at HR
             go_wp2
             go_roundw
             case rel => exact HR.out
             case measure => simp [intOf]; omega
   · have e : Hid (setL l1 l2 how = stF l1 l2 how P k) := by show _ = _; rw [HS.out, NP.out]; congr 1; omega
     have hcond : decide ((k : Int) + 1 < (np : Int)) = false := decide_eq_false (by omega)
     have hge : (np : Int) ≤ (k : Int) + 1 := by omega
     go_wp2
     go_ret
     exact ⟨A, m, c, rfl, by rw [e.out]; exact HM.out, by rw [e.out]; exact own_less HO.out W1.out.size, W1.out.trans (HW.out.mono W1.out.size)⟩
end Go.Proofs.YtgaegfddobpomaaGreat.Ru

namespace Go.Proofs.YtgaegfddobpomaaGreat.Ru
open Go.ChangeShapes Go.WideShapes Go.ChangeAt Go.RowKit
set_option linter.unusedVariables false
set_option maxRecDepth 4000
theorem fit_order {l : List Run} (h : InOrder l) : Fit l := fun r hr => by
 have := (may_iff r).1 (h.1 r hr)
 omega
theorem runs_own {w : World} {B n c : Nat} {A : Option Addr} {m : List Run} (h : w.ownsRow B 68 2 (.slice A n c) n (rv m)) (hf : Fit m) : Runs w w.heap.size A m := ⟨hf, lies_any (by decide) h⟩
theorem post_runs {w w' : World} {m : List Run} {e : Ending} (h : RunPost w m e w') (hf : Fit m) : ∃ A n c, e = .returned (.slice A n c) ∧ m.length = n ∧ (A = none → n = 0 ∧ c = 0) ∧ n ≤ c ∧ c ≤ 9223372036854775807 ∧ Runs w' w'.heap.size A m ∧ w'.ownsRow w.heap.size 68 2 (.slice A n c) n (rv m) ∧ Below w.heap.size w w' := by
 obtain ⟨A, n, c, rfl, hn, ho, hb⟩ := h
 obtain ⟨h1, h2, h3⟩ := own_len ho
 exact ⟨A, n, c, rfl, hn, h3, h1, h2, runs_own ho hf, ho, hb⟩
theorem join_any (w : World) (A1 A2 : Option Addr) (l1 l2 : List Run) (n1 n2 c1 c2 : Nat) (hl1 : l1.length = n1) (hl2 : l2.length = n2) (hA1 : A1 = none → n1 = 0 ∧ c1 = 0) (hA2 : A2 = none → n2 = 0 ∧ c2 = 0) (hb1 : Runs w w.heap.size A1 l1) (hb2 : Runs w w.heap.size A2 l2) (h1 : n1 ≤ 262144) (h2 : n2 ≤ 262144) :
   Calls Tryz.prog 116 #[.slice A1 n1 c1, .slice A2 n2 c2] w (RunPost w (setL l1 l2 0)) := by
 have H := Lib.hid (set_any w A1 A2 l1 l2 n1 n2 c1 c2 0 hl1 hl2 hA1 hA2 hb1 hb2 h1 h2 (by decide))
 clear hl1 hl2 hA1 hA2 hb1 hb2
 go_enter Tryz.func116, Tryz.ntmps116
 go_wp2_with fail
 refine H.out.mono ?_
 rintro e w' ⟨A, n, c, rfl, h⟩
 have HH := Lib.hid h
 clear h
 go_wp2
 go_ret
 exact ⟨A, n, c, rfl, HH.out⟩
def normL (l : List Run) : List Run := setL l [] 0
theorem take_more {l m : List Run} {k : Nat} {x : Run} (h : l.take k = m.take k) (h1 : l[k]? = some x) (h2 : m[k]? = some x) : l.take (k + 1) = m.take (k + 1) := by
 rw [List.take_add_one, List.take_add_one, h, h1, h2]
theorem ne_at {l m : List Run} {k : Nat} {x y : Run} (h1 : l[k]? = some x) (h2 : m[k]? = some y) (hn : x ≠ y) : l ≠ m := by
 intro e
 rw [e, h2] at h1
 exact hn (Option.some.inj h1).symm
theorem eq_any (w : World) (B1 B2 : Nat) (A1 A2 : Option Addr) (l1 l2 : List Run) (n1 n2 c1 c2 : Nat) (e1 : l1.length = n1) (e2 : l2.length = n2) (h1 : Runs w B1 A1 l1) (h2 : Runs w B2 A2 l2) (h63 : n1 ≤ 9223372036854775807) :
   Calls Tryz.prog 79 #[.slice A1 n1 c1, .slice A2 n2 c2] w fun e w' => e = .returned (.bool (decide (l1 = l2))) ∧ ∃ m, w' = w.drewN m := by
 have H1 := Lib.hid h1
 have H2 := Lib.hid h2
 have E1 := Lib.hid e1
 have E2 := Lib.hid e2
 clear h1 h2 e1 e2
 by_cases hn : n1 = n2
 · subst hn
   go_enter Tryz.func79, Tryz.ntmps79
   go_wp2
   go_loopw [5] (fun i wr => ∃ k : Nat, k ≤ n1 ∧ i = .int .i64 (k : Int) ∧ l1.take k = l2.take k ∧ ∃ m, wr = w.drewN m) (fun i _ => n1 - (intOf i).toNat)
   case atStart => exact ⟨0, Nat.zero_le _, rfl, by simp, 0, rfl⟩
   case round =>
     obtain ⟨k, hk, rfl, ht, m, rfl⟩ := hrel
     have HT := Lib.hid ht
     clear ht
     by_cases hlt : k < n1
     · obtain ⟨a1, x1, x2, rfl, hlx, hx1, hx2, hc1, hc2⟩ := H1.out.at_ (k := k) (by rw [E1.out]; exact hlt)
       obtain ⟨a2, y1, y2, rfl, hly, hy1, hy2, hd1, hd2⟩ := H2.out.at_ (k := k) (by rw [E2.out]; exact hlt)
       have hc3 : w.cell? ⟨(a1.add (k * 2)).block, (a1.add (k * 2)).off + 1, none⟩ = some (.int .u64 (x2 : Int)) := by rw [add_next]; exact hc2
       have hd3 : w.cell? ⟨(a2.add (k * 2)).block, (a2.add (k * 2)).off + 1, none⟩ = some (.int .u64 (y2 : Int)) := by rw [add_next]; exact hd2
       have LX := Lib.hid hlx
       have LY := Lib.hid hly
       clear hlx hly hc2 hd2
       by_cases hxy : x1 = y1 ∧ x2 = y2
       · obtain ⟨rfl, rfl⟩ := hxy
         have hs := Lib.hid (take_more HT.out LX.out LY.out)
         go_wp2_with fail
         go_quiet (fail)
         go_wp2
         go_roundw
         case rel => exact ⟨k + 1, by omega, by go_num, hs.out, _, rfl⟩
         case measure => simp [intOf]; omega
       · have hd : Hid (decide (l1 = l2) = false) := decide_eq_false (ne_at LX.out LY.out (fun e => hxy (by cases e; exact ⟨rfl, rfl⟩)))
         by_cases hx : x1 = y1
         · subst hx
           have hx2' : ¬ x2 = y2 := fun e => hxy ⟨rfl, e⟩
           have hb2 : ((x2 : Int) == (y2 : Int)) = false := by rw [beq_eq_false_iff_ne]; omega
           clear hxy
           go_wp2_with fail
           go_quiet (fail)
           go_wp2
           go_ret
           exact ⟨ret_bool hd.out.symm, _, World.drewN_drewN ..⟩
         · have hb2 : ((x1 : Int) == (y1 : Int)) = false := by rw [beq_eq_false_iff_ne]; omega
           clear hxy
           go_wp2_with fail
           go_quiet (fail)
           go_wp2
           go_ret
           exact ⟨ret_bool hd.out.symm, _, World.drewN_drewN ..⟩
     · obtain rfl : k = n1 := by omega
       have hd : Hid (l1 = l2) := by
         have h := HT.out
         rw [List.take_of_length_le (by rw [E1.out]; exact Nat.le_refl _), List.take_of_length_le (by rw [E2.out]; exact Nat.le_refl _)] at h
         exact h
       go_wp2
       go_ret
       exact ⟨ret_bool (by rw [decide_eq_true hd.out]), m, rfl⟩
 · have hd : Hid (decide (l1 = l2) = false) := decide_eq_false (fun e => hn (by rw [← E1.out, ← E2.out, e]))
   have hne : ((n1 : Int) != (n2 : Int)) = true := by rw [bne_iff_ne]; omega
   go_enter Tryz.func79, Tryz.ntmps79
   go_wp2
   go_ret
   exact ⟨ret_bool hd.out.symm, 0, rfl⟩
end Go.Proofs.YtgaegfddobpomaaGreat.Ru

namespace Go.Proofs.YtgaegfddobpomaaGreat.Dt
end Go.Proofs.YtgaegfddobpomaaGreat.Dt

namespace Go.Proofs.YtgaegfddobpomaaGreat.Kl
open Go.ChangeShapes Go.WideShapes Go.ChangeAt Go.RowKit
set_option linter.unusedVariables false
set_option maxRecDepth 4000
theorem sort_len (l : List Ev.Evt) : (Ev.sortE l).length ≤ l.length := by
 have h := Ev.sort_long l l.length
 rwa [List.take_of_length_le (Nat.le_refl _)] at h
end Go.Proofs.YtgaegfddobpomaaGreat.Kl
