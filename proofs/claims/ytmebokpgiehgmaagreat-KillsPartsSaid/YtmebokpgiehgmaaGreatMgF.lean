/- Words and contracts that the proofs of this seat stand on, part 6 of 22. -/
import Derived.Test.YtmebokpgiehgmaaGreatMgE
import Derived.Test.YtmebokpgiehgmaaGreatMgD
import Derived.Deep.RegionHeld3
import Derived.WalkSmall
import Derived.Deep.RegionLaw
import Derived.Test.YtmebokpgiehgmaaGreatMgB
import Derived.Test.YtmebokpgiehgmaaGreatMgC
import Derived.ShutString
import Derived.ChangeOld
import Derived.Deep.DeepHandedRow
import Derived.Deep.Matrix
import Derived.SizedLaws
import Derived.Deep.SlicePairs
import Derived.Lib.SmallJoins

/- Contexts as what they tell: of each device runs in order. Plain arithmetic; no program is named here. -/
namespace Go.Proofs.YtmebokpgiehgmaaGreat.Cx
set_option linter.unusedVariables false

abbrev Run := Ru.Run
abbrev Dot := Dt.Dot
abbrev Part := Nat × List Run
theorem fit_runs {l : List Run} (h : Ru.InOrder l) : Ru.Fit l := fun r hr => by
  have := (Ru.may_iff r).1 (h.1 r hr)
  exact ⟨by omega, by omega⟩
/-- a part of its types. -/
def FitC (c : List Part) : Prop := ∀ x ∈ c, x.1 < 65536 ∧ Ru.Fit x.2
/-- what a context has of a device. -/
def stepC (d : Nat) (o : List Run) (x : Part) : List Run := if x.1 = d ∧ d ≠ 0 then Ru.setL o x.2 0 else o
def runsC (c : List Part) (d : Nat) : List Run := c.foldl (stepC d) []
theorem runs_nil (d : Nat) : runsC [] d = [] := rfl
theorem runs_from (c : List Part) (d : Nat) (o : List Run) (ho : Ru.InOrder o) : Ru.InOrder (c.foldl (stepC d) o) ∧ (∀ n, Ru.has (c.foldl (stepC d) o) n = (Ru.has o n || (decide (d ≠ 0) && c.any (fun x => decide (x.1 = d) && Ru.has x.2 n)))) ∧
    (c.foldl (stepC d) o).length ≤ o.length + (c.map (fun x => x.2.length)).sum := by
  induction c generalizing o with
  | nil => exact ⟨ho, fun n => by simp, by simp⟩
  | cons x c ih =>
    rw [List.foldl_cons]
    by_cases hx : x.1 = d ∧ d ≠ 0
    · rw [show stepC d o x = Ru.setL o x.2 0 from if_pos hx]
      obtain ⟨h1, h2, h3⟩ := ih (Ru.setL o x.2 0) (Ru.set_spec o x.2 0).1
      refine ⟨h1, fun n => ?_, ?_⟩
      · rw [h2, Ru.has0, List.any_cons, decide_eq_true hx.1, decide_eq_true hx.2]
        cases Ru.has o n <;> cases Ru.has x.2 n <;> simp
      · have := Ru.set_length0 o x.2
        rw [List.map_cons, List.sum_cons]
        omega
    · rw [show stepC d o x = o from if_neg hx]
      obtain ⟨h1, h2, h3⟩ := ih o ho
      refine ⟨h1, fun n => ?_, ?_⟩
      · rw [h2, List.any_cons]
        by_cases hd : d = 0
        · simp [hd]
        · have : ¬ x.1 = d := fun h => hx ⟨h, hd⟩
          simp [this]
      · rw [List.map_cons, List.sum_cons]
        omega
theorem runs_order (c : List Part) (d : Nat) : Ru.InOrder (runsC c d) := (runs_from c d [] Ru.order_nil).1
theorem runs_has (c : List Part) (d n : Nat) : Ru.has (runsC c d) n = (decide (d ≠ 0) && c.any (fun x => decide (x.1 = d) && Ru.has x.2 n)) := by
  rw [show runsC c d = c.foldl (stepC d) [] from rfl, (runs_from c d [] Ru.order_nil).2.1]; simp [Ru.has_nil]
theorem runs_length (c : List Part) (d : Nat) : (runsC c d).length ≤ (c.map (fun x => x.2.length)).sum := by
  have := (runs_from c d [] Ru.order_nil).2.2
  simpa [runsC] using this
theorem runs_empty {c : List Part} {d : Nat} (h : d = 0 ∨ ∀ x ∈ c, x.1 ≠ d) : runsC c d = [] := by
  refine Ru.empty_of (runs_order c d) fun n => ?_
  rw [runs_has]
  rcases h with h | h
  · simp [h]
  · have : c.any (fun x => decide (x.1 = d) && Ru.has x.2 n) = false := by
      rw [List.any_eq_false]
      intro x hx
      simp [h x hx]
    rw [this, Bool.and_false]
theorem runs_zero (c : List Part) : runsC c 0 = [] := runs_empty (.inl rfl)
theorem runs_far {c : List Part} (hc : FitC c) {d : Nat} (hd : 65536 ≤ d) : runsC c d = [] := runs_empty (.inr fun x hx => by have := (hc x hx).1; omega)

/-- what may be told: nothing of device 0, nor of devices beyond; runs in order. -/
structure Tells (f : Nat → List Run) : Prop where
  zero : f 0 = []
  far : ∀ d, 65536 ≤ d → f d = []
  order : ∀ d, Ru.InOrder (f d)
theorem tells_runs {c : List Part} (hc : FitC c) : Tells (runsC c) := ⟨runs_zero c, fun d hd => runs_far hc hd, runs_order c⟩
theorem set_nil (how : Int) : Ru.setL [] [] how = [] := Ru.empty_of (Ru.set_spec _ _ _).1 fun n => by rw [(Ru.set_spec [] [] how).2, Ru.has_nil]; exact Ru.inB_ff how
theorem tells_set {f g : Nat → List Run} (hf : Tells f) (hg : Tells g) (how : Int) : Tells (fun d => Ru.setL (f d) (g d) how) :=
  ⟨by show Ru.setL (f 0) (g 0) how = []; rw [hf.zero, hg.zero, set_nil], fun d hd => by show Ru.setL (f d) (g d) how = []; rw [hf.far d hd, hg.far d hd, set_nil], fun d => (Ru.set_spec _ _ _).1⟩
def oneC (f : Nat → List Run) (d : Nat) : Option Part := if (f d).length = 0 then none else some (d, f d)
/-- the context in order that tells this. -/
def listC (f : Nat → List Run) : List Part := (List.range Dt.topV).filterMap (oneC f)
theorem list_mem {f : Nat → List Run} (hf : Tells f) (x : Part) : x ∈ listC f ↔ x.2 = f x.1 ∧ f x.1 ≠ [] := by
  unfold listC
  rw [List.mem_filterMap]
  constructor
  · rintro ⟨d, _, h⟩
    unfold oneC at h
    split at h
    · cases h
    · rename_i h0
      cases h
      exact ⟨rfl, fun h => h0 (by show (f d).length = 0; rw [show f d = [] from h]; rfl)⟩
  · rintro ⟨h1, h2⟩
    refine ⟨x.1, ?_, ?_⟩
    · rw [List.mem_range, Dt.top_eq]
      rcases Nat.lt_or_ge x.1 65536 with h | h
      · exact h
      · exact absurd (hf.far _ h) h2
    · unfold oneC
      rw [if_neg (fun h => h2 (List.eq_nil_of_length_eq_zero h)), ← h1]
theorem list_up (f : Nat → List Run) (l : List Nat) (h : l.Pairwise (fun a b => a < b)) : (l.filterMap (oneC f)).Pairwise (fun a b => a.1 < b.1) := by
  induction l with
  | nil => exact List.Pairwise.nil
  | cons d l ih =>
    obtain ⟨h1, h2⟩ := List.pairwise_cons.1 h
    rw [List.filterMap_cons]
    split
    · exact ih h2
    · rename_i x hx
      rw [List.pairwise_cons]
      refine ⟨fun y hy => ?_, ih h2⟩
      obtain ⟨e, he, h3⟩ := List.mem_filterMap.1 hy
      unfold oneC at hx h3
      split at hx
      · cases hx
      · split at h3
        · cases h3
        · cases hx; cases h3; exact h1 e he
theorem list_rise (f : Nat → List Run) : (listC f).Pairwise (fun a b => a.1 < b.1) := list_up f _ (Dt.range_up _)
theorem list_length (f : Nat → List Run) : (listC f).length ≤ 65536 := by
  have := List.length_filterMap_le (oneC f) (List.range Dt.topV)
  rw [List.length_range] at this
  exact Nat.le_trans this (Nat.le_of_eq Dt.top_eq)
theorem list_fit {f : Nat → List Run} (hf : Tells f) : FitC (listC f) := fun x hx => by
  obtain ⟨h1, h2⟩ := (list_mem hf x).1 hx
  refine ⟨?_, by rw [h1]; exact fit_runs (hf.order _)⟩
  rcases Nat.lt_or_ge x.1 65536 with h | h
  · exact h
  · exact absurd (hf.far _ h) h2
/-- the context that tells f tells f. -/
theorem runs_list {f : Nat → List Run} (hf : Tells f) : runsC (listC f) = f := by
  funext d
  refine Ru.uniq (runs_order _ d) (hf.order d) fun n => ?_
  rw [runs_has]
  by_cases hd : d = 0
  · subst hd; rw [hf.zero]; simp [Ru.has_nil]
  · rw [decide_eq_true hd, Bool.true_and]
    cases h : Ru.has (f d) n with
    | true =>
      rw [List.any_eq_true]
      refine ⟨(d, f d), (list_mem hf _).2 ⟨rfl, fun h2 => ?_⟩, by simp [h]⟩
      rw [show f d = [] from h2, Ru.has_nil] at h; cases h
    | false =>
      rw [List.any_eq_false]
      intro x hx
      obtain ⟨h1, _⟩ := (list_mem hf x).1 hx
      by_cases hx2 : x.1 = d
      · rw [h1, hx2, h]; simp
      · simp [hx2]

/-! The document's words. -/
def setC (a b : List Part) (how : Int) : List Part := listC (fun d => Ru.setL (runsC a d) (runsC b d) how)
def normC (c : List Part) : List Part := listC (runsC c)
theorem tells_both {a b : List Part} (ha : FitC a) (hb : FitC b) (how : Int) : Tells (fun d => Ru.setL (runsC a d) (runsC b d) how) := tells_set (tells_runs ha) (tells_runs hb) how
theorem runs_set {a b : List Part} (ha : FitC a) (hb : FitC b) (how : Int) : runsC (setC a b how) = fun d => Ru.setL (runsC a d) (runsC b d) how := runs_list (tells_both ha hb how)
theorem runs_norm {c : List Part} (hc : FitC c) : runsC (normC c) = runsC c := runs_list (tells_runs hc)
theorem fit_set {a b : List Part} (ha : FitC a) (hb : FitC b) (how : Int) : FitC (setC a b how) := list_fit (tells_both ha hb how)
theorem fit_norm {c : List Part} (hc : FitC c) : FitC (normC c) := list_fit (tells_runs hc)
/-- what is in order already is its own norm. -/
theorem set_self {l : List Run} (h : Ru.InOrder l) : Ru.setL l [] 0 = l := Ru.uniq (Ru.set_spec _ _ _).1 h fun n => by rw [Ru.has0, Ru.has_nil, Bool.or_false]
theorem norm_set (c : List Part) : setC c [] 0 = normC c := by
  unfold setC normC
  congr 1
  funext d
  exact set_self (runs_order c d)
def hasC (c : List Part) (x : Dot) : Bool := Dt.mayD x && Ru.has (runsC c x.1) x.2
def goodC (c : List Part) : Bool := decide (c = normC c)
def withinC (a b : List Part) : Bool := decide (setC a b 2 = [])
def sameC (a b : List Part) : Bool := decide (normC a = normC b)
def onlyC (c : List Part) (d : Nat) : List Part := if (runsC c d).length = 0 then [] else [(d, runsC c d)]
def ofC (l : List Dot) : List Part := l.foldl (fun o x => if Dt.mayD x = true then setC o [(x.1, [(x.2, x.2)])] 0 else o) []
def sizeC (c : List Part) : Nat := ((normC c).map (fun x => Ru.sizeR x.2)).sum
def baseC (c : List Part) : List Dot := (normC c).filterMap (fun x => if 1 < Ru.firstR x.2 then some (x.1, Ru.firstR x.2 - 1) else none)
def plainC (v : List Dot) : List Part := (Dt.normV v).map (fun x => (x.1, [(1, x.2)]))
end Go.Proofs.YtmebokpgiehgmaaGreat.Cx

/- The contract of the document's 'set': what two lists of runs come to. Condition: at most 32768 runs on either side. -/
namespace Go.Proofs.YtmebokpgiehgmaaGreat.Ru
open Go.ChangeShapes Go.WideShapes Go.ChangeAt Go.RowKit
set_option linter.unusedVariables false

theorem addR_length (o : List Run) (p q : Nat) : (addR o p q).length ≤ o.length + 1 := by
  unfold addR
  split
  · rename_i r h
    split
    · have hne : o ≠ [] := fun e => by rw [e] at h; simp at h
      rw [List.length_append, List.length_dropLast, List.length_singleton]
      have : 0 < o.length := List.length_pos_iff.2 hne
      omega
    · rw [List.length_append]; simp
  · simp
theorem stF_length (a b : List Run) (how : Int) (P : List Nat) (k : Nat) : (stF a b how P k).length ≤ k := by
  induction k with
  | zero => simp [stF]
  | succ k ih =>
    rw [stF_succ]
    unfold stS
    split
    · have := addR_length (stF a b how P k) (P.getD k 0) (P.getD (k + 1) 0)
      omega
    · omega
theorem getD_some {P : List Nat} {i p : Nat} (h : P[i]? = some p) : P.getD i 0 = p := by
  rw [List.getD_eq_getElem?_getD, h]; rfl

theorem putL_bound {l : List Nat} {n : Nat} (C : Nat → Prop) (hl : ∀ x ∈ l, C x) (hn : C n) : ∀ x ∈ putL l n, C x := by
  have key : ∀ (l : List Nat), (∀ x ∈ l, C x) → ∀ s : List Nat × Bool, (∀ x ∈ s.1, C x) → ∀ x ∈ (l.foldl (putS n) s).1, C x := by
    intro l
    induction l with
    | nil => intro _ s hs; exact hs
    | cons y l ih =>
      intro h s hs
      rw [List.foldl_cons]
      refine ih (fun x hx => h x (by simp [hx])) _ ?_
      have hy : C y := h y (by simp)
      unfold putS
      intro x hx
      split at hx <;> split at hx <;> simp at hx
      all_goals (first
        | (rcases hx with hx | rfl | rfl <;> first | exact hs x hx | exact hn | exact hy)
        | (rcases hx with hx | rfl <;> first | exact hs x hx | exact hn | exact hy)
        | exact hs x hx)
  have h1 := key l hl ([], false) (fun x hx => by cases hx)
  unfold putL
  split
  · exact h1
  · intro x hx
    rcases List.mem_append.1 hx with hx | hx
    · exact h1 x hx
    · obtain rfl := List.mem_singleton.1 hx
      exact hn
/-- points lie from 1 to 2^48. -/
theorem ptL_bound (l : List Run) : ∀ x ∈ ptL l, 1 ≤ x ∧ x ≤ 281474976710656 := by
  suffices h : ∀ o : List Nat, (∀ x ∈ o, 1 ≤ x ∧ x ≤ 281474976710656) → ∀ x ∈ l.foldl ptS o, 1 ≤ x ∧ x ≤ 281474976710656 from h [] (fun x hx => by cases hx)
  induction l with
  | nil => intro o ho; exact ho
  | cons r l ih =>
    intro o ho
    rw [List.foldl_cons]
    refine ih _ ?_
    unfold ptS
    split
    · rename_i hm
      have := of_decide_eq_true hm
      exact putL_bound _ (putL_bound _ ho (by omega)) (by omega)
    · exact ho

def RunPost (w : World) (m : List Run) (e : Ending) (w' : World) : Prop :=
  ∃ A n c, e = .returned (.slice A n c) ∧ m.length = n ∧ w'.ownsRow w.heap.size 50 2 (.slice A n c) n (rv m) ∧ Below w.heap.size w w'
theorem has_later (w W : World) (A : Option Addr) (l : List Run) (len c n : Nat) (b : Bool) (hl : l.length = len) (hb : Runs w w.heap.size A l) (h63 : len ≤ 9223372036854775807) (hn : n < 18446744073709551616) (hbe : has l n = b) (bel : Below w.heap.size w W) :
    Calls Tryz.prog 41 #[.slice A len c, .int .u64 (n : Int)] W fun e w' => e = .returned (.bool b) ∧ Below w.heap.size w w' := by
  subst hbe
  refine (has_any W w.heap.size A l len c n hl (hb.below bel) bel.size h63 hn).mono ?_
  rintro e w' ⟨rfl, hb'⟩
  exact ⟨rfl, bel.trans (hb'.mono bel.size)⟩
theorem bel_drew {w W : World} (h : Below w.heap.size w W) : Below w.heap.size w W.drew := h.drew

def Low (o : List Run) : Prop := ∀ r ∈ o, r.1 ≤ 281474976710656 ∧ r.2 ≤ 281474976710656
theorem addR_nil (p q : Nat) : addR [] p q = [(p, q - 1)] := rfl
theorem addR_last (o : List Run) (lo hi p q : Nat) : addR (o ++ [(lo, hi)]) p q = if hi + 1 = p then o ++ [(lo, q - 1)] else o ++ [(lo, hi)] ++ [(p, q - 1)] := by
  unfold addR
  rw [List.getLast?_append]
  simp only [List.getLast?_singleton, Option.some_or, List.dropLast_concat]
theorem last_of {o : List Run} {z : Nat} (h : o.length = z + 1) : ∃ o' lo hi, o = o' ++ [(lo, hi)] ∧ o'.length = z := by
  have hne : o ≠ [] := fun e => by rw [e] at h; simp at h
  refine ⟨o.dropLast, (o.getLast hne).1, (o.getLast hne).2, (List.dropLast_concat_getLast hne).symm, by rw [List.length_dropLast]; omega⟩
theorem low_last {o : List Run} {lo hi : Nat} (h : Low (o ++ [(lo, hi)])) : lo ≤ 281474976710656 ∧ hi ≤ 281474976710656 := h (lo, hi) (by simp)
theorem low_snoc {o : List Run} {lo hi : Nat} (h : Low o) (h1 : lo ≤ 281474976710656) (h2 : hi ≤ 281474976710656) : Low (o ++ [(lo, hi)]) := fun r hr => by
  rcases List.mem_append.1 hr with hr | hr
  · exact h r hr
  · obtain rfl := List.mem_singleton.1 hr
    exact ⟨h1, h2⟩
theorem low_init {o : List Run} {r : Run} (h : Low (o ++ [r])) : Low o := fun x hx => h x (List.mem_append_left _ hx)
theorem rv_snoc (o : List Run) (lo hi : Nat) : rv (o ++ [(lo, hi)]) = rv o ++ [.int .u64 (lo : Int), .int .u64 (hi : Int)] := rv_append o [(lo, hi)]
theorem rv_set_last (o : List Run) (lo hi v z : Nat) (h : o.length = z) : (rv (o ++ [(lo, hi)])).set (z * 2 + 1) (.int .u64 (v : Int)) = rv (o ++ [(lo, v)]) := by
  have hl : (rv o).length = z * 2 := by rw [rv_length, h]
  rw [rv_snoc, rv_snoc, List.set_append, if_neg (by omega), hl]
  have e : z * 2 + 1 - z * 2 = 1 := by omega
  rw [e]
  rfl
theorem rv_last (o : List Run) (lo hi z : Nat) (h : o.length = z) : (rv (o ++ [(lo, hi)]))[z * 2]? = some (.int .u64 (lo : Int)) ∧ (rv (o ++ [(lo, hi)]))[z * 2 + 1]? = some (.int .u64 (hi : Int)) := by
  refine rv_get (l := o ++ [(lo, hi)]) (r := (lo, hi)) ?_
  rw [List.getElem?_append_right (by omega), h]
  simp
def StRel (w : World) (a b : List Run) (how : Int) (P : List Nat) (len : Nat) (o i : Value) (wr : World) : Prop :=
  ∃ (k m : Nat) (A : Option Addr) (c : Nat), k ≤ len - 1 ∧ i = .int .i64 (k : Int) ∧ o = .slice A m c ∧ (stF a b how P k).length = m ∧ Low (stF a b how P k) ∧ wr.ownsRow w.heap.size 50 2 (.slice A m c) m (rv (stF a b how P k)) ∧ Below w.heap.size w wr
theorem st_rel {w wr : World} {a b : List Run} {how : Int} {P : List Nat} {len k m : Nat} {A : Option Addr} {c : Nat} {o : List Run} (hk : k < len - 1) (hs : stF a b how P (k + 1) = o) (hm : o.length = m) (hf : Low o) (ho : wr.ownsRow w.heap.size 50 2 (.slice A m c) m (rv o)) (hb : Below w.heap.size w wr) :
    StRel w a b how P len (.slice A m c) (.int .i64 ((k : Int) + 1)) wr :=
  ⟨k + 1, m, A, c, hk, by go_num, rfl, by rw [hs]; exact hm, by rw [hs]; exact hf, by rw [hs]; exact ho, hb⟩
theorem st_drewN {w V : World} {a b : List Run} {how : Int} {P : List Nat} {len : Nat} {o i : Value} (h : StRel w a b how P len o i V) (n : Nat) : StRel w a b how P len o i (V.drewN n) := by
  obtain ⟨k, m, A, c, h1, h2, h3, h4, h5, h6, h7⟩ := h
  exact ⟨k, m, A, c, h1, h2, h3, h4, h5, h6, Go.below_drewN h7 n⟩
theorem news_run (W : World) (p q : Nat) (z : Int) (h : z = (q : Int)) : ∀ (j : Nat) (u : Value), (rv [(p, q)])[j]? = some u → (W.alloc (.cells #[.int .u64 (p : Int), .int .u64 z] 50)).cell? ((⟨W.heap.size, 0, none⟩ : Addr).add j) = some u := by
  subst h
  intro j u hu
  rw [zero_add, World.cell?_alloc_new]
  simpa [rv] using hu
theorem run_grown {w wr w2 : World} {v : Value} {m : Nat} {xs : List Value} {o : Obj} (ho : wr.ownsRow w.heap.size 50 2 v m xs) (hb : Below w.heap.size w wr) (hg : (wr.alloc o).grownBy w2 v.ownBlock) : Below w.heap.size w w2 :=
  (hb.alloc hb.size _).grown hg (Nat.le_trans hb.size (by simp)) (fun k hk => (ho.lt k hk).1)
theorem own_drewN {V : World} {B n size : Nat} {e : TypeId} {v : Value} {xs : List Value} (h : V.ownsRow B e size v n xs) (k : Nat) : (V.drewN k).ownsRow B e size v n xs := h
theorem own_drewS {V : World} {B n size : Nat} {e : TypeId} {v : Value} {xs : List Value} (h : V.ownsRow B e size v n xs) (k : Nat) : ((V.drewN k).drew).ownsRow B e size v n xs := h
theorem low_drewS {w V : World} (h : Below w.heap.size w V) (k : Nat) : Below w.heap.size w ((V.drewN k).drew) := (Go.below_drewN h k).drew
theorem lies_num {w : World} {B n c : Nat} {A : Option Addr} {m : List Nat} (h : w.ownsRow B 26 1 (.slice A n c) n (nv m)) (hf : FitN m) : Nums w w.heap.size A m := ⟨hf, lies_any (by decide) h⟩

set_option maxHeartbeats 8000000 in
set_option maxRecDepth 100000 in
theorem set_any (w : World) (A1 A2 : Option Addr) (l1 l2 : List Run) (n1 n2 c1 c2 : Nat) (how : Int) (hl1 : l1.length = n1) (hl2 : l2.length = n2) (hA1 : A1 = none → n1 = 0 ∧ c1 = 0) (hA2 : A2 = none → n2 = 0 ∧ c2 = 0) (hb1 : Runs w w.heap.size A1 l1) (hb2 : Runs w w.heap.size A2 l2) (h1 : n1 ≤ 32768) (h2 : n2 ≤ 32768) (hh : 0 ≤ how ∧ how ≤ 2) :
    Calls Tryz.prog 82 #[.slice A1 n1 c1, .slice A2 n2 c2, .int .i64 how] w (RunPost w (setL l1 l2 how)) := by
  obtain ⟨i0, hi0, hz0, hz1, hz2⟩ := info_parts run_info
  have HL1 := Lib.hid hl1
  have HL2 := Lib.hid hl2
  have HB1 := Lib.hid hb1
  have HB2 := Lib.hid hb2
  have HA1 := Lib.hid hA1
  have HA2 := Lib.hid hA2
  clear hl1 hl2 hA1 hA2 hb1 hb2
  obtain ⟨P, hP⟩ : ∃ P, ptL (l1 ++ l2) = P := ⟨_, rfl⟩
  have PB : Hid (∀ x ∈ P, 1 ≤ x ∧ x ≤ 281474976710656) := by show ∀ x ∈ P, _; rw [← hP]; exact ptL_bound _
  have PF : Hid (FitN P) := fun x hx => by have := PB.out x hx; omega
  have PL : Hid (P.length ≤ 131072) := by
    show _ ≤ _
    rw [← hP]
    have := ptL_length (l1 ++ l2) (l1 ++ l2).length
    rw [List.take_length, List.length_append, HL1.out, HL2.out] at this
    omega
  have HS : Hid (setL l1 l2 how = stF l1 l2 how P (P.length - 1)) := by show _ = _; unfold setL; rw [hP]
  go_enter Tryz.func82, Tryz.ntmps82
  go_wp2_with fail
  refine (points_any w A1 A2 l1 l2 n1 n2 c1 c2 HL1.out HL2.out HA1.out HA2.out HB1.out HB2.out h1 h2).mono ?_
  rw [hP]
  rintro e w1 ⟨AP, np, cp, rfl, hnp, hop, hbp⟩
  have W1 := Lib.hid hbp
  have KP := Lib.hid (lies_num hop PF.out)
  have NP := Lib.hid hnp
  have K1 := Lib.hid (HB1.out.up hbp)
  have K2 := Lib.hid (HB2.out.up hbp)
  have hnp2 : np ≤ 131072 := by rw [← hnp]; exact PL.out
  clear hop hbp hnp hP
  have HR : Hid (StRel w1 l1 l2 how P np (.slice none 0 0) (.int .i64 0) w1) := ⟨0, 0, none, 0, Nat.zero_le _, rfl, rfl, rfl, (fun x hx => by cases hx), World.ownsRow_nil _ _ _ _, Below.refl _ _⟩
  go_wp2_with fail
  go_loopw [8, 9] (fun o i wr => StRel w1 l1 l2 how P np o i wr) (fun _ i _ => np - (intOf i).toNat)
  case atStart => exact HR.out
  case round =>
    clear HR
    obtain ⟨k, m, A, c, hk, rfl, rfl, hm, hf, ho, hb⟩ := hrel
    have HO := Lib.hid ho
    have HW := Lib.hid hb
    have HF := Lib.hid hf
    have HM := Lib.hid hm
    have hmk : m ≤ k := by rw [← hm]; exact stF_length _ _ _ _ _
    clear ho hb hf hm
    by_cases hlt : k + 1 < np
    · obtain ⟨k1, hk1⟩ : ∃ k1, k1 = k + 1 := ⟨_, rfl⟩
      have hk1I : (k : Int) + 1 = (k1 : Int) := by omega
      have hk1n : k1 < np := by omega
      have HK1 := Lib.hid hk1
      obtain ⟨ad, p, rfl, hp, hp64, hcp⟩ := KP.out.at_ (k := k) (by rw [NP.out]; omega)
      obtain ⟨ad2, q, e2, hq, hq64, hcq⟩ := KP.out.at_ (k := k1) (by rw [NP.out]; omega)
      cases e2
      have hpb := PB.out p (List.mem_of_getElem? hp)
      have hqb := PB.out q (List.mem_of_getElem? hq)
      have EP := Lib.hid (getD_some hp)
      have EQ := Lib.hid (getD_some hq)
      rw [HK1.out] at EQ
      have HC : Hid (∀ V, Below w1.heap.size w1 V → V.cell? (ad.add k) = some (.int .u64 (p : Int)) ∧ V.cell? (ad.add k1) = some (.int .u64 (q : Int))) := fun V hV =>
        ⟨(hV.cell (World.block_lt_of_cell? w1 _ hcp)).trans hcp, (hV.cell (World.block_lt_of_cell? w1 _ hcq)).trans hcq⟩
      obtain ⟨q1, q2⟩ := HC.out wr HW.out
      have KA := Lib.hid (K1.out.up HW.out)
      have KB := Lib.hid (K2.out.up HW.out)
      obtain ⟨x, hx⟩ : ∃ x, has l1 p = x := ⟨_, rfl⟩
      obtain ⟨y, hy⟩ : ∃ y, has l2 p = y := ⟨_, rfl⟩
      have HX := Lib.hid hx
      have HY := Lib.hid hy
      have HCR : Hid (∀ V, Below wr.heap.size wr V → V.cell? (ad.add k) = some (.int .u64 (p : Int))) := fun V hV => (HC.out V (HW.out.trans (hV.mono HW.out.size))).1
      clear hp hq hcp hcq hx hy
      have hkn : k < np := by omega
      have hwk : IntKind.i64.wrap (k1 : Int) = (k1 : Int) := by rw [IntKind.wrap_i64]; omega
      have hwq : IntKind.u64.wrap ((q : Int) - 1) = ((q - 1 : Nat) : Int) := by rw [IntKind.wrap_u64]; omega
      have hkl : k < np - 1 := by omega
      clear hk1 hlt hk
      obtain ⟨o, hoe⟩ : ∃ o, stF l1 l2 how P k = o := ⟨_, rfl⟩
      have ES : Hid (∀ b, inB how x y = b → stF l1 l2 how P (k + 1) = if b = true then addR o p q else o) := by
        intro b hb
        rw [stF_succ, hoe]
        unfold stS
        rw [EP.out, EQ.out, HX.out, HY.out, hb]
      rw [hoe] at HO HM HF
      clear hoe
      go_wp2_with fail
      go_region_held3 (fun V => V.cell? (ad.add k) = some (.int .u64 (p : Int))) (first | go_keep | assumption | exact HCR.out _ (by (repeat (first | exact Below.refl _ _ | assumption | apply bel_drew)))) (first
        | (go_at_call 41; (with_reducible refine (has_later wr _ A1 l1 n1 c1 p x HL1.out KA.out (by omega) hp64 HX.out ?_).mono ?_); (repeat (first | exact Below.refl _ _ | assumption | apply bel_drew)); rintro e V ⟨rfl, bv1⟩; have hcV : V.cell? (ad.add k) = some (.int .u64 (p : Int)) := HCR.out V bv1)
        | (go_at_call 41; (with_reducible refine (has_later wr _ A2 l2 n2 c2 p y HL2.out KB.out (by omega) hp64 HY.out ?_).mono ?_); (repeat (first | exact Below.refl _ _ | assumption | apply bel_drew)); rintro e V ⟨rfl, bv2⟩; have hcV : V.cell? (ad.add k) = some (.int .u64 (p : Int)) := HCR.out V bv2))
      all_goals
        have HV0 : Hid (Below wr.heap.size wr V) := by first | exact bv2 | exact bv1
        have HV : Hid (Below w1.heap.size w1 V) := HW.out.trans (HV0.out.mono HW.out.size)
        have HOV := Lib.hid (own_kept HO.out HV0.out)
        obtain ⟨r1, r2⟩ := HC.out V HV.out
        clear hcV
        try clear bv1
        try clear bv2
        have hh3 : how = 0 ∨ how = 1 ∨ how = 2 := by omega
        rcases hh3 with rfl | rfl | rfl <;> cases x <;> cases y
      all_goals (first
        | (have hin := Lib.hid (ES.out false (by decide))
           rw [if_neg (by decide)] at hin
           have HR := Lib.hid (st_rel (len := np) hkl hin.out HM.out HF.out HOV.out HV.out)
           rw [hk1I] at HR
           clear ES
           go_wp2_with fail
           go_quiet (fail)
           go_wp2
           go_roundw
           case rel => exact st_drewN HR.out _
           case measure => simp [intOf]; omega)
        | skip)
      all_goals
        have hin := Lib.hid (ES.out true (by decide))
        rw [if_pos rfl] at hin
        clear ES
        by_cases hm0 : m = 0
        · subst hm0
          have ho0 : Hid (o = []) := List.eq_nil_of_length_eq_zero HM.out
          rw [ho0.out] at hin HOV HF
          rw [addR_nil] at hin
          go_wp2_with fail
          go_quiet (fail)
          go_wp2_with fail
          go_region_law (first
            | (refine step_append_lies _ rfl (.tmp 85) (.tmp 97) 42 rfl w1.heap.size 50 i0 (.agg #[.int .u64 0, .int .u64 0]) 2 16 Tryz.underlying42 hi0 hz0 hz1 hz2 rfl (by decide) (.slice A 0 c) 0 (rv []) rfl (World.ownsRow.alloc (own_drewS HOV.out nq) _) ⟨V.heap.size, 0, none⟩ 1 1 (rv [(p, q - 1)]) rfl rfl (news_run (V.drewN nq).drew p (q - 1) ((q - 1 : Nat) : Int) rfl) (rv_one _) (by decide) (by simp only [maxLen]; omega) (by omega) (Nat.le_trans HV.out.size (by simp)) _ rfl ?_
               intro g2 cap2 w2 ho2 hg2 hat2 hlt2
               rw [← rv_append] at ho2
               have HO2 := Lib.hid ho2
               have HW2 : Hid (Below w1.heap.size w1 w2) := run_grown (own_drewS HOV.out nq) (low_drewS HV.out nq) hg2
               clear ho2 hg2 hat2 hlt2))
          all_goals
            have HR := Lib.hid (st_rel (len := np) hkl hin.out rfl (fun r hr => by obtain rfl := List.mem_singleton.1 hr; exact ⟨by omega, by omega⟩) HO2.out HW2.out)
            rw [hk1I] at HR
            go_wp2
            go_roundw
            case rel => exact HR.out
            case measure => simp [intOf]; omega
        · obtain ⟨z, hz⟩ : ∃ z, m = z + 1 := ⟨m - 1, by omega⟩
          obtain ⟨g, cap', e1, hgw⟩ := own_shape (w := w1) HOV.out (.inl (by omega))
          cases e1
          subst hz
          obtain ⟨o', lo, hi, ho', hz'⟩ := last_of HM.out
          rw [ho'] at HOV HF HM hin
          rw [addR_last] at hin
          have HZ := Lib.hid hz'
          obtain ⟨b1, b2⟩ := low_last HF.out
          have hcl : V.cell? ⟨g, z * 2 + 1, none⟩ = some (.int .u64 (hi : Int)) := by rw [HOV.out.cellAt (z * 2 + 1) (by omega)]; exact (rv_last o' lo hi z hz').2
          have hfz : V.frozen? ⟨g, z * 2 + 1, none⟩ = false := HOV.out.frozenAt _
          have hwh : IntKind.u64.wrap ((hi : Int) + 1) = (hi : Int) + 1 := by rw [IntKind.wrap_u64]; omega
          have hzi : z < z + 1 := Nat.lt_succ_self z
          have hwz : IntKind.i64.wrap ((z : Int)) = (z : Int) := by rw [IntKind.wrap_i64]; omega
          clear ho' hz' HO hm0
          by_cases ht : hi + 1 = p
          · have hte : ((hi : Int) + 1 == (p : Int)) = true := by rw [beq_iff_eq]; omega
            rw [if_pos ht] at hin
            have HR := Lib.hid (fun n => st_rel (len := np) (m := z + 1) (A := some ⟨g, 0, none⟩) (c := c) (wr := (V.drewN n).setCell ⟨g, z * 2 + 1, none⟩ (.int .u64 ((q - 1 : Nat) : Int))) hkl hin.out (by rw [List.length_append, HZ.out]; rfl) (low_snoc (low_init HF.out) b1 (by omega)) (by rw [← rv_set_last o' lo hi (q - 1) z HZ.out]; exact ((own_drewN HOV.out n).stored (z * 2 + 1) _).1) ((Go.below_drewN HV.out n).setCell hgw _))
            rw [hk1I] at HR
            clear ht
            go_wp2_with fail
            go_quiet (fail)
            go_wp2
            go_roundw
            case rel => exact HR.out _
            case measure => simp [intOf]; omega
          · have hte : ((hi : Int) + 1 == (p : Int)) = false := by rw [beq_eq_false_iff_ne]; omega
            rw [if_neg ht] at hin
            clear ht
            go_wp2_with fail
            go_quiet (fail)
            go_wp2_with fail
            go_region_law (first
              | (refine step_append_lies _ rfl (.tmp 85) (.tmp 97) 42 rfl w1.heap.size 50 i0 (.agg #[.int .u64 0, .int .u64 0]) 2 16 Tryz.underlying42 hi0 hz0 hz1 hz2 rfl (by decide) (.slice (some ⟨g, 0, none⟩) (z + 1) c) (z + 1) (rv (o' ++ [(lo, hi)])) rfl (World.ownsRow.alloc (own_drewS HOV.out nq) _) ⟨V.heap.size, 0, none⟩ 1 1 (rv [(p, q - 1)]) rfl rfl (news_run (V.drewN nq).drew p (q - 1) ((q - 1 : Nat) : Int) rfl) (rv_one _) (by decide) (by simp only [maxLen]; omega) (by omega) (Nat.le_trans HV.out.size (by simp)) _ rfl ?_
                 intro g2 cap2 w2 ho2 hg2 hat2 hlt2
                 rw [← rv_append] at ho2
                 have HO2 := Lib.hid ho2
                 have HW2 : Hid (Below w1.heap.size w1 w2) := run_grown (own_drewS HOV.out nq) (low_drewS HV.out nq) hg2
                 clear ho2 hg2 hat2 hlt2))
            all_goals
              have HR := Lib.hid (st_rel (len := np) hkl hin.out (by rw [List.length_append, HM.out]; rfl) (low_snoc HF.out (by omega) (by omega)) HO2.out HW2.out)
              rw [hk1I] at HR
              go_wp2
              go_roundw
              case rel => exact HR.out
              case measure => simp [intOf]; omega
    · have e : Hid (setL l1 l2 how = stF l1 l2 how P k) := by show _ = _; rw [HS.out, NP.out]; congr 1; omega
      have hcond : decide ((k : Int) + 1 < (np : Int)) = false := decide_eq_false (by omega)
      have hge : (np : Int) ≤ (k : Int) + 1 := by omega
      go_wp2
      go_ret
      exact ⟨A, m, c, rfl, by rw [e.out]; exact HM.out, by rw [e.out]; exact own_less HO.out W1.out.size, W1.out.trans (HW.out.mono W1.out.size)⟩
end Go.Proofs.YtmebokpgiehgmaaGreat.Ru

/- The contracts of the document's answers for layer runs: Join, Meet, Minus, Norm, Eq, Good, Size, First, Last, Of. Condition: at most 32768 runs (16384 on either side where two lists meet are more than the laws ask), at most 32768 numbers. -/
namespace Go.Proofs.YtmebokpgiehgmaaGreat.Ru
open Go.ChangeShapes Go.WideShapes Go.ChangeAt Go.RowKit
set_option linter.unusedVariables false
set_option maxRecDepth 4000

theorem fit_order {l : List Run} (h : InOrder l) : Fit l := fun r hr => by
  have := (may_iff r).1 (h.1 r hr)
  omega
theorem runs_own {w : World} {B n c : Nat} {A : Option Addr} {m : List Run} (h : w.ownsRow B 50 2 (.slice A n c) n (rv m)) (hf : Fit m) : Runs w w.heap.size A m := ⟨hf, lies_any (by decide) h⟩
/-- what a list that came out is to the walks behind it. -/
theorem post_runs {w w' : World} {m : List Run} {e : Ending} (h : RunPost w m e w') (hf : Fit m) : ∃ A n c, e = .returned (.slice A n c) ∧ m.length = n ∧ (A = none → n = 0 ∧ c = 0) ∧ n ≤ c ∧ c ≤ 9223372036854775807 ∧ Runs w' w'.heap.size A m ∧ w'.ownsRow w.heap.size 50 2 (.slice A n c) n (rv m) ∧ Below w.heap.size w w' := by
  obtain ⟨A, n, c, rfl, hn, ho, hb⟩ := h
  obtain ⟨h1, h2, h3⟩ := own_len ho
  exact ⟨A, n, c, rfl, hn, h3, h1, h2, runs_own ho hf, ho, hb⟩

theorem join_any (w : World) (A1 A2 : Option Addr) (l1 l2 : List Run) (n1 n2 c1 c2 : Nat) (hl1 : l1.length = n1) (hl2 : l2.length = n2) (hA1 : A1 = none → n1 = 0 ∧ c1 = 0) (hA2 : A2 = none → n2 = 0 ∧ c2 = 0) (hb1 : Runs w w.heap.size A1 l1) (hb2 : Runs w w.heap.size A2 l2) (h1 : n1 ≤ 32768) (h2 : n2 ≤ 32768) :
    Calls Tryz.prog 60 #[.slice A1 n1 c1, .slice A2 n2 c2] w (RunPost w (setL l1 l2 0)) := by
  have H := Lib.hid (set_any w A1 A2 l1 l2 n1 n2 c1 c2 0 hl1 hl2 hA1 hA2 hb1 hb2 h1 h2 (by decide))
  clear hl1 hl2 hA1 hA2 hb1 hb2
  go_enter Tryz.func60, Tryz.ntmps60
  go_wp2_with fail
  refine H.out.mono ?_
  rintro e w' ⟨A, n, c, rfl, h⟩
  have HH := Lib.hid h
  clear h
  go_wp2
  go_ret
  exact ⟨A, n, c, rfl, HH.out⟩
/-- the list in order of the same numbers. -/
def normL (l : List Run) : List Run := setL l [] 0
theorem norm_spec (l : List Run) : InOrder (normL l) ∧ ∀ n, has (normL l) n = has l n := by
  obtain ⟨h1, h2⟩ := set_spec l [] 0
  exact ⟨h1, fun n => by rw [show normL l = setL l [] 0 from rfl, h2 n, inB_zero, has_nil, Bool.or_false]⟩
theorem take_more {l m : List Run} {k : Nat} {x : Run} (h : l.take k = m.take k) (h1 : l[k]? = some x) (h2 : m[k]? = some x) : l.take (k + 1) = m.take (k + 1) := by
  rw [List.take_add_one, List.take_add_one, h, h1, h2]
theorem ne_at {l m : List Run} {k : Nat} {x y : Run} (h1 : l[k]? = some x) (h2 : m[k]? = some y) (hn : x ≠ y) : l ≠ m := by
  intro e
  rw [e, h2] at h1
  exact hn (Option.some.inj h1).symm
end Go.Proofs.YtmebokpgiehgmaaGreat.Ru

/- The contracts of the document's Size and First for layer runs. Condition: at most 32768 runs. -/
namespace Go.Proofs.YtmebokpgiehgmaaGreat.Ru
open Go.ChangeShapes Go.WideShapes Go.ChangeAt Go.RowKit
set_option linter.unusedVariables false
set_option maxRecDepth 4000

theorem below_drewK {B : Nat} {a w : World} (h : Below B a w) (n : Nat) : Below B a (w.drewN n) := Go.below_drewN h n

theorem sizeR_append (a b : List Run) : sizeR (a ++ b) = sizeR a + sizeR b := by
  induction a with
  | nil => simp [sizeR]
  | cons r a ih => simp only [List.cons_append, sizeR, ih]; omega
theorem sizeR_take {l : List Run} {k lo hi : Nat} (h : l[k]? = some (lo, hi)) : sizeR (l.take (k + 1)) = sizeR (l.take k) + (hi - lo + 1) := by
  rw [List.take_add_one, h, sizeR_append]
  rfl
theorem sizeR_le (l : List Run) (k : Nat) : sizeR (l.take k) ≤ sizeR l := by
  have := sizeR_append (l.take k) (l.drop k)
  rw [List.take_append_drop] at this
  omega

end Go.Proofs.YtmebokpgiehgmaaGreat.Ru

/- What ctx knows by the name VPut lies in dot's DPut. -/
namespace Go.Proofs.YtmebokpgiehgmaaGreat.Dt
end Go.Proofs.YtmebokpgiehgmaaGreat.Dt

/- What the frames of layer event's laws share: an event, a list of events, a dot that came in, as the walks take them. No condition. -/
namespace Go.Proofs.YtmebokpgiehgmaaGreat.Ev
open Go.ChangeShapes Go.WideShapes Go.ChangeAt Go.RowKit Go.Deep Go.Joins
set_option linter.unusedVariables false
set_option maxRecDepth 4000

theorem own : ownKnob Tryz.prog.godebug = none := by kernel_rfl
theorem laidOut : laidOutB Tryz.prog = true := by kernel_rfl
theorem cells16 : Tryz.prog.cellsOf 25 = 1 := by kernel_rfl
theorem cells64 : Tryz.prog.cellsOf 26 = 1 := by kernel_rfl
theorem cellsD : Tryz.prog.cellsOf 28 = 2 := by kernel_rfl
theorem cellsE : Tryz.prog.cellsOf 30 = 7 := by kernel_rfl
theorem bytesD : Tryz.prog.bytesOf 28 = 16 := by kernel_rfl
theorem bytesE : Tryz.prog.bytesOf 30 = 80 := by kernel_rfl
theorem wf_u64 {n : Int} (h : (Lit.int .u64 n).wf = true) : ∃ s : Nat, n = (s : Int) ∧ s < 18446744073709551616 := by
  simp [Lit.wf, IntKind.min, IntKind.max, IntKind.bits, IntKind.signed] at h
  exact ⟨n.toNat, by omega, by omega⟩
theorem wf_u16 {n : Int} (h : (Lit.int .u16 n).wf = true) : ∃ s : Nat, n = (s : Int) ∧ s < 65536 := by
  simp [Lit.wf, IntKind.min, IntKind.max, IntKind.bits, IntKind.signed] at h
  exact ⟨n.toNat, by omega, by omega⟩
theorem wf_u8 {n : Int} (h : (Lit.int .u8 n).wf = true) : ∃ s : Nat, n = (s : Int) ∧ s < 256 := by
  simp [Lit.wf, IntKind.min, IntKind.max, IntKind.bits, IntKind.signed] at h
  exact ⟨n.toNat, by omega, by omega⟩
/-- each slice and text within weighs at most what an argument may weigh. -/
def Held {H : Type} (t : TypeId) (d : DataW H) : Prop := ∀ n ∈ d.weights Tryz.prog t, n ≤ reachBytes
theorem weights_all {H : Type} {P : Program} {e : TypeId} {l : List (DataW H)} {d : DataW H} (h : d ∈ l) : ∀ n ∈ d.weights P e, n ∈ DataW.weightsAll P e l := by
  induction l with
  | nil => cases h
  | cons x l ih =>
    intro n hn
    simp only [DataW.weightsAll, List.mem_append]
    rcases List.mem_cons.1 h with rfl | h
    · exact Or.inl hn
    · exact Or.inr (ih h n hn)
theorem Held.elem {H : Type} {t e : TypeId} {elems spare : List (DataW H)} (h : Held t (.slice elems spare)) (hu : Tryz.prog.underlying t = some (.slice e)) {d : DataW H} (hd : d ∈ elems) : Held e d := fun n hn =>
  h n (by simp only [DataW.weights, hu, List.mem_cons, List.mem_append]; exact Or.inr (Or.inl (weights_all hd n hn)))
theorem Held.length {H : Type} {t e : TypeId} {elems spare : List (DataW H)} (h : Held t (.slice elems spare)) (hu : Tryz.prog.underlying t = some (.slice e)) : (elems.length + spare.length) * Tryz.prog.bytesOf e ≤ reachBytes :=
  h _ (by simp [DataW.weights, hu])
theorem Held.part {H : Type} {t t' : TypeId} {fs : Array Field} {parts : List (DataW H)} (h : Held t (.agg parts)) (hu : Tryz.prog.underlying t = some (.struct fs)) {j : Nat} {d : DataW H} (ht : (fs.toList.map (·.type))[j]? = some t') (hd : parts[j]? = some d) : Held t' d := fun n hn =>
  h n (by simp only [DataW.weights, hu]; exact DataW.weights_mem_each ht hd n hn)
theorem list_of {α : Type} {Q : Nat → α → Prop} (n : Nat) (h : ∀ i, i < n → ∃ t, Q i t) : ∃ L : List α, L.length = n ∧ ∀ (i : Nat) (t : α), L[i]? = some t → Q i t := by
  induction n with
  | zero => exact ⟨[], rfl, fun i t hi => by simp at hi⟩
  | succ n ih =>
    obtain ⟨L, hL, hQ⟩ := ih (fun i hi => h i (by omega))
    obtain ⟨t, ht⟩ := h n (by omega)
    refine ⟨L ++ [t], by simp [hL], fun i u hu => ?_⟩
    rcases Nat.lt_or_ge i n with hi | hi
    · rw [List.getElem?_append_left (by omega)] at hu
      exact hQ i u hu
    · rw [List.getElem?_append_right (by omega), hL] at hu
      have e : i = n := by
        rcases Nat.eq_or_lt_of_le hi with e | e
        · exact e.symm
        · rw [List.getElem?_eq_none (by simp; omega)] at hu; cases hu
      subst e
      simp at hu
      subst hu
      exact ht
theorem lies_dots {w : World} {B : Nat} {ad : Addr} (hB : ad.block < B) (L : List Dt.Dot) (h : ∀ (i : Nat) (r : Dt.Dot), L[i]? = some r → w.cell? (ad.add (i * 2)) = some (.int .u16 (r.1 : Int)) ∧ w.cell? (ad.add (i * 2 + 1)) = some (.int .u64 (r.2 : Int))) : Dt.Lies w B (some ad) (Dt.dv L) := fun _ => by
  refine ⟨ad, rfl, hB, fun j u hu => ?_⟩
  have hj : j < (Dt.dv L).length := (List.getElem?_eq_some_iff.1 hu).1
  rw [Dt.dv_length] at hj
  have hd : j / 2 < L.length := by omega
  have hg := List.getElem?_eq_getElem hd
  obtain ⟨g1, g2⟩ := Dt.dv_get hg
  obtain ⟨c1, c2⟩ := h _ _ hg
  rcases Nat.mod_two_eq_zero_or_one j with h0 | h0
  · have e : j = j / 2 * 2 := by omega
    rw [e] at hu ⊢
    rw [g1] at hu
    cases hu
    exact c1
  · have e : j = j / 2 * 2 + 1 := by omega
    generalize hz : j / 2 = z at *
    subst e
    rw [g2] at hu
    cases hu
    exact c2

/-- a dot that came in; it reads as it did in every world. -/
theorem dot_of {H : Type} {enc : TypeId × Value → H} {W : World} {b0 : Nat} {v : Value} {d : DataW H} {p : List MemPlace} (hv : Value.okWide Tryz.prog W .any b0 28 v) (h : DataW.Trod enc Tryz.prog W 0 (fun _ => true) true 28 v d p) :
    ∃ r : Dt.Dot, v = .agg #[.int .u16 (r.1 : Int), .int .u64 (r.2 : Int)] ∧ r.1 < 65536 ∧ r.2 < 18446744073709551616 ∧ p = [] ∧ ∀ (W' : World) (sp : Nat → Bool), DataW.Trod enc Tryz.prog W' 0 sp true 28 v d p := by
  obtain ⟨c0, c1, y0, y1, m, rfl, rfl, rfl, hy0, hy1⟩ := open_agg2 Tryz.underlying28 (by kernel_rfl) cellsD hv h
  obtain ⟨a, e0, rfl, wa⟩ := DataW.trod_int Tryz.underlying25 hy0
  obtain ⟨b, e1, rfl, wb⟩ := DataW.trod_int Tryz.underlying26 hy1
  simp at e0 e1
  subst e0 e1
  have wa' := wa
  have wb' := wb
  obtain ⟨s, rfl, hs⟩ := wf_u16 wa
  obtain ⟨t, rfl, ht⟩ := wf_u64 wb
  exact ⟨(s, t), rfl, hs, ht, rfl, fun W' sp =>
    shut_agg2 (y0 := (.lit (.int .u16 (s : Int)), [])) (y1 := (.lit (.int .u64 (t : Int)), [])) Tryz.underlying28 (by kernel_rfl) cellsD ⟨1, by simp [DataW.trod, Tryz.underlying25, wa']⟩ ⟨1, by simp [DataW.trod, Tryz.underlying26, wb']⟩⟩
/-- dots that stand in a cell. -/
theorem dots_cell {H : Type} {enc : TypeId × Value → H} {W : World} {fuel : Nat} {v : Value} {d : DataW H} {p : List MemPlace} (h : DataW.trod enc Tryz.prog W 0 (fun _ => true) true fuel 22 [v] = some (d, p)) (hz : Held 22 d) :
    ∃ (A : Option Addr) (n c : Nat) (l : List Dt.Dot), v = .slice A n c ∧ DotsAt W W.heap.size A l n c ∧ n ≤ 8796093021952 := by
  rcases open_slice_pairs Tryz.underlying22 Tryz.underlying28 cellsD rfl rfl cells16 cells64 h with ⟨hcs, _⟩ | ⟨x, n0, c0, m, f0, V0, V1, D0, D1, P0, P1, hcs, hb, hl, hm, hmm, hx, hi⟩
  · obtain rfl := (List.cons.inj hcs).1
    exact ⟨none, 0, 0, [], rfl, DotsAt.none_ _ _, by decide⟩
  · obtain rfl := (List.cons.inj hcs).1
    unfold maxLen at hm
    have hmc : m = c0 := by simpa using hmm
    obtain rfl := (Prod.mk.inj hx).1
    have hw := hz.length Tryz.underlying22
    rw [bytesD] at hw
    simp only [List.length_map, List.length_range, reachBytes] at hw
    have each : ∀ i, i < n0 → ∃ r : Dt.Dot, (r.1 < 65536 ∧ r.2 < 18446744073709551616) ∧ W.cell? (x.add (i * 2)) = some (.int .u16 (r.1 : Int)) ∧ W.cell? (x.add (i * 2 + 1)) = some (.int .u64 (r.2 : Int)) := by
      intro i hil
      obtain ⟨h0, h1, t0, t1⟩ := hi i (by omega)
      obtain ⟨z0, e0, _, w0⟩ := DataW.trod_int Tryz.underlying25 t0
      obtain ⟨z1, e1, _, w1⟩ := DataW.trod_int Tryz.underlying26 t1
      obtain ⟨s0, rfl, hs0⟩ := wf_u16 w0
      obtain ⟨s1, rfl, hs1⟩ := wf_u64 w1
      rw [(List.cons.inj e0).1] at h0
      rw [(List.cons.inj e1).1] at h1
      exact ⟨(s0, s1), ⟨hs0, hs1⟩, h0, h1⟩
    obtain ⟨L, hL, hQ⟩ := list_of n0 each
    refine ⟨some x, n0, c0, L, rfl, ⟨hL, (fun e => by cases e), hl, by omega, by omega, fun r hr => ?_, ?_⟩, by omega⟩
    · obtain ⟨i, hi', rfl⟩ := List.getElem_of_mem hr
      exact (hQ i _ (List.getElem?_eq_getElem hi')).1
    · rcases Nat.eq_zero_or_pos L.length with h0 | h0
      · rw [List.eq_nil_of_length_eq_zero h0]; exact Dt.Lies.none_ _ _ _
      · refine lies_dots ?_ L (fun i r hr => (hQ i r hr).2)
        have h1 := (hQ 0 _ (List.getElem?_eq_getElem h0)).2.1
        have h2 := World.block_lt_of_cell? W _ h1
        rwa [block_add] at h2
/-- an event's cells. -/
theorem evt_cells {H : Type} {enc : TypeId × Value → H} {W : World} {fuel : Nat} {cs : List Value} {d : DataW H} {p : List MemPlace} (h : DataW.trod enc Tryz.prog W 0 (fun _ => true) true fuel 30 cs = some (d, p)) (hz : Held 30 d) :
    ∃ (q : EV) (x : Evt), cs = q.cells ∧ EventIs W W.heap.size q x ∧ q.len ≤ 8796093021952 := by
  obtain ⟨xs, f1, _, hxy, hlen, hxl, hfd⟩ := DataW.trod_struct Tryz.underlying30 h
  rw [cellsE] at hlen
  match xs, hxl, cs, hlen with
  | [y0, y1, y2, y3, y4, y5], _, [u0, u1, u2, u3, u4, u5, u6], _ =>
    have g0 := hfd 0 _ rfl
    have g1 := hfd 1 _ rfl
    have g2 := hfd 2 _ rfl
    have g3 := hfd 3 _ rfl
    have g4 := hfd 4 _ rfl
    have g5 := hfd 5 _ rfl
    simp only [List.getElem?_cons_zero, List.getElem?_cons_succ] at g0 g1 g2 g3 g4 g5
    have hD : d = .agg ([y0, y1, y2, y3, y4, y5].map (·.1)) := congrArg Prod.fst hxy
    subst hD
    obtain ⟨zs, f2, _, hzy, _, hzl, hfz⟩ := DataW.trod_struct Tryz.underlying28 g0
    match zs, hzl with
    | [z0, z1], _ =>
      have k0 := hfz 0 _ rfl
      have k1 := hfz 1 _ rfl
      simp only [List.getElem?_cons_zero, List.getElem?_cons_succ] at k0 k1
      obtain ⟨i0, e0, _, w0⟩ := DataW.trod_int Tryz.underlying25 k0
      obtain ⟨i1, e1, _, w1⟩ := DataW.trod_int Tryz.underlying26 k1
      obtain ⟨i2, e2, _, w2⟩ := DataW.trod_int Tryz.underlying5 g1
      obtain ⟨i3, e3, _, w3⟩ := DataW.trod_int Tryz.underlying26 g2
      obtain ⟨i4, e4, _, w4⟩ := DataW.trod_int Tryz.underlying5 g3
      obtain ⟨s, e5, hs1, _⟩ := DataW.trod_string Tryz.underlying9 g4
      obtain ⟨y51, y52⟩ := y5
      have g5' : DataW.trod enc Tryz.prog W 0 (fun _ => true) true f1 22 [u6] = some (y51, y52) := g5
      obtain ⟨A, n, c, l, e6, hT, hn⟩ := dots_cell g5' (hz.part (j := 5) Tryz.underlying30 rfl rfl)
      have hst : Held 9 y4.1 := hz.part (j := 4) Tryz.underlying30 rfl rfl
      rw [hs1] at hst
      have hsl := hst s.data.toList.length (by simp [DataW.weights])
      obtain rfl := (List.cons.inj e0).1
      obtain rfl := (List.cons.inj e1).1
      obtain rfl := (List.cons.inj e2).1
      obtain rfl := (List.cons.inj e3).1
      obtain rfl := (List.cons.inj e4).1
      obtain rfl := (List.cons.inj e5).1
      subst e6
      obtain ⟨s0, rfl, hs0⟩ := wf_u16 w0
      obtain ⟨s1, rfl, hs1⟩ := wf_u64 w1
      obtain ⟨s2, rfl, hs2⟩ := wf_u8 w2
      obtain ⟨s3, rfl, hs3⟩ := wf_u64 w3
      obtain ⟨s4, rfl, hs4⟩ := wf_u8 w4
      refine ⟨⟨s0, s1, s2, s3, s4, s, A, n, c⟩, ⟨(s0, s1), s2, s3, s4, s, l⟩, rfl, ⟨rfl, rfl, rfl, rfl, rfl, rfl, ⟨⟨hs0, hs1⟩, hs2, hs3, hs4, ?_⟩, hT⟩, hn⟩
      unfold Short
      simp only [reachBytes, Array.length_toList] at hsl
      have e : s.data.size = s.size := rfl
      show s.size ≤ 140737488355328
      omega
/-- an event that came in. -/
theorem evt_of {H : Type} {enc : TypeId × Value → H} {W : World} {b0 : Nat} {v : Value} {d : DataW H} {p : List MemPlace} (hv : Value.okWide Tryz.prog W .any b0 30 v) (h : DataW.Trod enc Tryz.prog W 0 (fun _ => true) true 30 v d p) (hz : Held 30 d) :
    ∃ (q : EV) (x : Evt), v = q.val ∧ EventIs W W.heap.size q x ∧ q.len ≤ 8796093021952 := by
  obtain ⟨cs, rfl, hsz⟩ := okWide_struct Tryz.underlying30 hv
  obtain ⟨fuel, hf⟩ := h
  obtain ⟨q, x, e, hq, hn⟩ := evt_cells hf hz
  refine ⟨q, x, ?_, hq, hn⟩
  have e2 : cs.toList = q.cells := e
  have e3 : cs = q.cells.toArray := by rw [← e2]
  rw [e3]
/-- events that came in. -/
theorem evts_of {H : Type} {enc : TypeId × Value → H} {W : World} {A : Option Addr} {n c : Nat} {d : DataW H} {p : List MemPlace} (h : DataW.Trod enc Tryz.prog W 0 (fun _ => true) true 33 (.slice A n c) d p) (hz : Held 33 d) :
    ∃ l : List Evt, EventsAt W W.heap.size A l n c := by
  obtain ⟨fuel, hf⟩ := h
  rcases open_slice Tryz.underlying33 hf with ⟨hcs, _⟩ | ⟨x, n0, c0, m, f0, D, Pl, hcs, hb, hl, hm, hmm, hx, hi⟩
  · simp [Value.cells] at hcs
    obtain ⟨rfl, rfl, rfl⟩ := hcs
    exact ⟨[], EventsAt.none_ _ _⟩
  · simp [Value.cells] at hcs
    obtain ⟨rfl, rfl, rfl⟩ := hcs
    unfold maxLen at hm
    have hmc : m = c := by simpa using hmm
    obtain rfl := (Prod.mk.inj hx).1
    have hw := hz.length Tryz.underlying33
    rw [bytesE] at hw
    simp only [List.length_map, List.length_range, reachBytes] at hw
    have each : ∀ i, i < n → ∃ r : EV × Evt, EventIs W W.heap.size r.1 r.2 ∧ ∀ j (hj : j < r.1.cells.length), W.cell? (x.add (i * 7 + j)) = some r.1.cells[j] := by
      intro i hil
      obtain ⟨cs', k1, k2⟩ := hi i (by omega)
      rw [cellsE] at k1
      obtain ⟨_, hlen, hcell⟩ := World.cells?_some k1
      have hh : Held 30 (D i) := hz.elem Tryz.underlying33 (List.mem_map.2 ⟨i, List.mem_range.2 hil, rfl⟩)
      obtain ⟨q, y, rfl, hq, _⟩ := evt_cells k2 hh
      refine ⟨(q, y), hq, fun j hj => ?_⟩
      have := hcell j hj
      rw [add_add] at this
      rw [this]
      exact List.getElem?_eq_getElem hj
    obtain ⟨L, hL, hQ⟩ := list_of n each
    refine ⟨L.map (fun r => r.2), ⟨by rw [List.length_map, hL], (fun e => by cases e), hl, by omega, by omega, L.map (fun r => r.1), fun h0 => ?_, by rw [List.length_map, List.length_map], ?_⟩⟩
    · rw [ev_length, List.length_map] at h0
      have h1 := (hQ 0 _ (List.getElem?_eq_getElem (show 0 < L.length by omega))).2 0 (show 0 < 7 by decide)
      have h2 := World.block_lt_of_cell? W _ h1
      rw [block_add] at h2
      refine ⟨x, rfl, h2, fun j u hu => ?_⟩
      have hj : j < L.length * 7 := by have := (List.getElem?_eq_some_iff.1 hu).1; rwa [ev_length, List.length_map] at this
      have hk : j / 7 < L.length := by omega
      have hg : (L.map (fun r => r.1))[j / 7]? = some (L[j / 7]).1 := by simp [hk]
      have hv := ev_get hg (j % 7) (by omega)
      rw [show j / 7 * 7 + j % 7 = j by omega, hu] at hv
      have hc := (hQ (j / 7) _ (List.getElem?_eq_getElem hk)).2 (j % 7) (show j % 7 < 7 by omega)
      rw [show j / 7 * 7 + j % 7 = j by omega] at hc
      rw [hc, ← List.getElem?_eq_getElem, ← hv]
    · intro k q y hq hy
      rw [List.getElem?_map] at hq hy
      obtain ⟨r, hr, rfl⟩ := Option.map_eq_some_iff.1 hq
      rw [hr] at hy
      cases hy
      exact (hQ k r hr).1
end Go.Proofs.YtmebokpgiehgmaaGreat.Ev

/- What the walks of layer event's laws ask of the program's own functions. -/
namespace Go.Proofs.YtmebokpgiehgmaaGreat.Ev
open Go.ChangeShapes Go.WideShapes Go.ChangeAt Go.RowKit
set_option linter.unusedVariables false
set_option maxRecDepth 4000

/-- dots that may be written: they lie in blocks from B on, nobody has frozen them. -/
def Free (w : World) (B : Nat) (A : Option Addr) (n : Nat) : Prop := ∀ j, j < n → ∃ ad : Addr, A = some ad ∧ B ≤ ad.block ∧ w.frozen? (ad.add (j * 2)) = false ∧ w.frozen? (ad.add (j * 2 + 1)) = false
/-- events whose kills may be written. -/
def FreeKills (w : World) (B : Nat) (A : Option Addr) (n : Nat) : Prop :=
  ∀ k, k < n → ∃ (ad : Addr) (p : EV), A = some ad ∧ B ≤ ad.block ∧ w.cell? (ad.add (k * 7 + 6)) = some (.slice p.adr p.len p.cap) ∧ Free w B p.adr p.len ∧ ∀ a2, p.adr = some a2 → 0 < p.len → a2.block ≠ ad.block
/-- an event of one's own comes out. -/
def OwnPost (w : World) (x : Evt) (e : Ending) (w' : World) : Prop := ∃ q : EV, e = .returned q.val ∧ EventIs w' w'.heap.size q x ∧ Free w' w.heap.size q.adr q.len ∧ Below w.heap.size w w'
/-- events of one's own come out. -/
def OwnsPost (w : World) (l : List Evt) (e : Ending) (w' : World) : Prop := ∃ A n c, e = .returned (.slice A n c) ∧ EventsAt w' w'.heap.size A l n c ∧ FreeKills w' w.heap.size A n ∧ Below w.heap.size w w'
/-- dots of one's own come out. -/
def OwnDots (w : World) (l : List Dt.Dot) (e : Ending) (w' : World) : Prop := ∃ A n c, e = .returned (.slice A n c) ∧ DotsAt w' w'.heap.size A l n c ∧ Free w' w.heap.size A n ∧ Below w.heap.size w w'
/-- how many dots events name. -/
def manyE (l : List Evt) : Nat := (l.map fun x => x.kills.length + 1).sum
/-- the answers of the program's functions. -/
structure PEvent : Prop where
  copy : ∀ (w : World) (p : EV) (x : Evt), EventIs w w.heap.size p x → Calls Tryz.prog 25 #[p.val] w (OwnPost w x)
  sort : ∀ (w : World) (A : Option Addr) (l : List Evt) (n c : Nat), EventsAt w w.heap.size A l n c → n ≤ 1024 → Calls Tryz.prog 26 #[.slice A n c] w (OwnsPost w (sortE l))
  dots : ∀ (w : World) (A : Option Addr) (l : List Evt) (n c : Nat), EventsAt w w.heap.size A l n c → n ≤ 1024 → manyE l ≤ 8796093022208 → Calls Tryz.prog 31 #[.slice A n c] w (OwnDots w (dotsE l))

/-- a call that keeps what was, met later. -/
theorem later {f : FuncId} {args : Array Value} {w W : World} {v : Value} (hW : Below w.heap.size w W) (h : Calls Tryz.prog f args W fun e V => e = .returned v ∧ Below W.heap.size W V) :
    Calls Tryz.prog f args W fun e V => e = .returned v ∧ Below w.heap.size w V := h.mono fun e V ⟨h1, h2⟩ => ⟨h1, hW.trans (h2.mono hW.size)⟩
/-- a row of dots. -/
theorem dots_row {W : World} {g n : Nat} {l : List Dt.Dot} (hn : l.length = n) (hw : n ≤ 8796093022208) (hf : Dt.Fit l) (h0 : 0 < n) (h : ∀ k x, l[k]? = some x → W.cell? ⟨g, k * 2, none⟩ = some (.int .u16 (x.1 : Int)) ∧ W.cell? ⟨g, k * 2 + 1, none⟩ = some (.int .u64 (x.2 : Int))) : DotsAt W W.heap.size (some ⟨g, 0, none⟩) l n n := by
  refine ⟨hn, (fun e => by cases e), Nat.le_refl _, by omega, hw, hf, fun _ => ⟨_, rfl, ?_, fun j u hu => ?_⟩⟩
  · have h1 := (h 0 _ (List.getElem?_eq_getElem (by omega))).1
    exact World.block_lt_of_cell? W _ h1
  · rw [Dt.zero_add]
    have hj := (List.getElem?_eq_some_iff.1 hu).1
    rw [Dt.dv_length] at hj
    have hd : j / 2 < l.length := by omega
    have hg := List.getElem?_eq_getElem hd
    obtain ⟨g1, g2⟩ := Dt.dv_get hg
    obtain ⟨c1, c2⟩ := h _ _ hg
    rcases Nat.mod_two_eq_zero_or_one j with h0 | h0
    · have e : j = j / 2 * 2 := by omega
      rw [← e] at g1 c1
      rw [g1] at hu
      cases hu
      exact c1
    · have e : j = j / 2 * 2 + 1 := by omega
      rw [← e] at g2 c2
      rw [g2] at hu
      cases hu
      exact c2
/-- a row of one event. -/
theorem evt_row {W : World} {g : Nat} {p : EV} {x : Evt} (hp : EventIs W W.heap.size p x) (h : CellsAt W ⟨g, 0, none⟩ p) : EventsAt W W.heap.size (some ⟨g, 0, none⟩) [x] 1 1 := by
  refine ⟨rfl, (fun e => by cases e), Nat.le_refl _, by decide, by decide, [p], fun _ => ⟨_, rfl, World.block_lt_of_cell? W _ h.c0, fun j u hu => ?_⟩, rfl, fun k q y hq hy => ?_⟩
  · rw [Dt.zero_add]
    obtain ⟨c0, c1, c2, c3, c4, c5, c6⟩ := h.all
    have hj : j < 7 := by have := (List.getElem?_eq_some_iff.1 hu).1; simpa [ev] using this
    have h7 : j = 0 ∨ j = 1 ∨ j = 2 ∨ j = 3 ∨ j = 4 ∨ j = 5 ∨ j = 6 := by omega
    rcases h7 with rfl | rfl | rfl | rfl | rfl | rfl | rfl
    · cases hu; exact c0
    · cases hu; exact c1
    · cases hu; exact c2
    · cases hu; exact c3
    · cases hu; exact c4
    · cases hu; exact c5
    · cases hu; exact c6
  · cases k with
    | zero => cases hq; cases hy; exact hp
    | succ k => simp at hq
/-- the chapter's event. -/
def worksE : Evt := ⟨(2, 1), 1, 0, 0, ⟨#[]⟩, [(1, 4), (1, 9)]⟩
theorem works_dots : dotsE [worksE] = [(1, 4), (1, 9), (2, 1)] := by decide
/-- the call of Dots in the chapter's example, whenever it comes. -/
theorem works_call (P : PEvent) {w W : World} {g h : Nat} (hW : Below w.heap.size w W)
    (c0 : W.cell? ⟨g, 0, none⟩ = some (.int .u16 2)) (c1 : W.cell? ⟨g, 1, none⟩ = some (.int .u64 1)) (c2 : W.cell? ⟨g, 2, none⟩ = some (.int .u8 1)) (c3 : W.cell? ⟨g, 3, none⟩ = some (.int .u64 0)) (c4 : W.cell? ⟨g, 4, none⟩ = some (.int .u8 0)) (c5 : W.cell? ⟨g, 5, none⟩ = some (.string ⟨#[]⟩)) (c6 : W.cell? ⟨g, 6, none⟩ = some (.slice (some ⟨h, 0, none⟩) 2 2))
    (d0 : W.cell? ⟨h, 0, none⟩ = some (.int .u16 1)) (d1 : W.cell? ⟨h, 1, none⟩ = some (.int .u64 4)) (d2 : W.cell? ⟨h, 2, none⟩ = some (.int .u16 1)) (d3 : W.cell? ⟨h, 3, none⟩ = some (.int .u64 9)) :
    Calls Tryz.prog 31 #[.slice (some ⟨g, 0, none⟩) 1 1] W fun e V => ∃ A n c, e = .returned (.slice A n c) ∧ DotsAt V V.heap.size A [(1, 4), (1, 9), (2, 1)] n c ∧ Below w.heap.size w V ∧ Below W.heap.size W V := by
  have hk : DotsAt W W.heap.size (some ⟨h, 0, none⟩) [(1, 4), (1, 9)] 2 2 := by
    refine dots_row rfl (by decide) (fun r hr => ?_) (by decide) (fun k x hx => ?_)
    · simp only [List.mem_cons, List.not_mem_nil, or_false] at hr
      rcases hr with rfl | rfl <;> exact ⟨by decide, by decide⟩
    · have h2 : k = 0 ∨ k = 1 := by have := (List.getElem?_eq_some_iff.1 hx).1; simp at this; omega
      rcases h2 with rfl | rfl
      · cases hx; exact ⟨d0, d1⟩
      · cases hx; exact ⟨d2, d3⟩
  have hp : EventIs W W.heap.size ⟨2, 1, 1, 0, 0, ⟨#[]⟩, some ⟨h, 0, none⟩, 2, 2⟩ worksE := ⟨rfl, rfl, rfl, rfl, rfl, rfl, ⟨⟨by decide, by decide⟩, by decide, by decide, by decide, by unfold Short; decide⟩, hk⟩
  refine (P.dots W _ [worksE] 1 1 (evt_row hp ⟨c0, c1, c2, c3, c4, c5, c6⟩) (by decide) (by decide)).mono ?_
  rintro e V ⟨A, n, c, rfl, h1, _, h3⟩
  rw [works_dots] at h1
  exact ⟨A, n, c, rfl, h1, hW.trans (h3.mono hW.size), h3⟩
/-- the comparison in the chapter's example, whenever it comes. -/
theorem works_same {w W : World} {g : Nat} {A : Option Addr} {n c : Nat} (hW : Below w.heap.size w W) (hr : DotsAt W W.heap.size A [(1, 4), (1, 9), (2, 1)] n c)
    (c0 : W.cell? ⟨g, 0, none⟩ = some (.int .u16 1)) (c1 : W.cell? ⟨g, 1, none⟩ = some (.int .u64 4)) (c2 : W.cell? ⟨g, 2, none⟩ = some (.int .u16 1)) (c3 : W.cell? ⟨g, 3, none⟩ = some (.int .u64 9)) (c4 : W.cell? ⟨g, 4, none⟩ = some (.int .u16 2)) (c5 : W.cell? ⟨g, 5, none⟩ = some (.int .u64 1)) :
    Calls Tryz.prog 10 #[.slice A n c, .slice (some ⟨g, 0, none⟩) 3 3] W fun e V => e = .returned (.bool true) ∧ Below w.heap.size w V := by
  have hk : DotsAt W W.heap.size (some ⟨g, 0, none⟩) [(1, 4), (1, 9), (2, 1)] 3 3 := by
    refine dots_row rfl (by decide) (fun r hr => ?_) (by decide) (fun k x hx => ?_)
    · simp only [List.mem_cons, List.not_mem_nil, or_false] at hr
      rcases hr with rfl | rfl | rfl <;> exact ⟨by decide, by decide⟩
    · have h2 : k = 0 ∨ k = 1 ∨ k = 2 := by have := (List.getElem?_eq_some_iff.1 hx).1; simp at this; omega
      rcases h2 with rfl | rfl | rfl
      · cases hx; exact ⟨c0, c1⟩
      · cases hx; exact ⟨c2, c3⟩
      · cases hx; exact ⟨c4, c5⟩
  refine (Dt.rsame_any W W.heap.size W.heap.size A (some ⟨g, 0, none⟩) [(1, 4), (1, 9), (2, 1)] [(1, 4), (1, 9), (2, 1)] n 3 c 3 hr.len rfl hr.dots hk.dots (Nat.le_trans hr.wide (by decide))).mono ?_
  rintro e V ⟨rfl, m, rfl⟩
  exact ⟨by rw [decide_eq_true rfl], bel_drewN hW m⟩

theorem cutp {p q : Prop} (h : p) (g : p → q) : q := g h
/-- a row of the chapter's three dots. -/
structure Row3 (W : World) (g : Nat) : Prop where
  c0 : W.cell? ⟨g, 0, none⟩ = some (.int .u16 1)
  c1 : W.cell? ⟨g, 1, none⟩ = some (.int .u64 4)
  c2 : W.cell? ⟨g, 2, none⟩ = some (.int .u16 1)
  c3 : W.cell? ⟨g, 3, none⟩ = some (.int .u64 9)
  c4 : W.cell? ⟨g, 4, none⟩ = some (.int .u16 2)
  c5 : W.cell? ⟨g, 5, none⟩ = some (.int .u64 1)
theorem Row3.kept {W V : World} {g : Nat} (hb : Below W.heap.size W V) (h : Row3 W g) : Row3 V g := ⟨stays hb h.c0, stays hb h.c1, stays hb h.c2, stays hb h.c3, stays hb h.c4, stays hb h.c5⟩
theorem below_new3 (w : World) (o1 o2 o3 : Obj) : Below w.heap.size w (((w.alloc o1).alloc o2).alloc o3) := (below_new2 w o1 o2).alloc (below_new2 w o1 o2).size o3

end Go.Proofs.YtmebokpgiehgmaaGreat.Ev
