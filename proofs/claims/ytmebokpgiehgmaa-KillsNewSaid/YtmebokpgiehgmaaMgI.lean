/- Words and contracts that the proofs of this seat stand on, part 9 of 18. -/
import Derived.Test.YtmebokpgiehgmaaMgF
import Derived.Shelf.SlSortCmp.QuietGrown
import Derived.Deep.RegionHeld3
import Derived.Test.YtmebokpgiehgmaaMgD
import Derived.Deep.RegionLaw

/- The contract of the document's Of of layer vec. For every list of dots. -/
namespace Go.Proofs.Ytmebokpgiehgmaa.Dt
open Go.ChangeShapes Go.WideShapes Go.ChangeAt Go.RowKit
set_option linter.unusedVariables false

theorem below_grow (V : World) (n : Nat) (os : Array Obj) : Below V.heap.size V (Sort.grow (V.drewN n) os) :=
  ⟨rfl, rfl, rfl, by show V.heap.size ≤ (V.heap ++ os).size; simp, fun i hi => by show (V.heap ++ os)[i]? = V.heap[i]?; exact Array.getElem?_append_left hi⟩
theorem of_next {l : List Dot} {k : Nat} {x : Dot} (d : Nat) (h : l[k]? = some x) : ofV (l.take (k + 1)) d = stepV d (ofV (l.take k) d) x := by
  unfold ofV
  rw [take_next h, List.foldl_append]; rfl
end Go.Proofs.Ytmebokpgiehgmaa.Dt

/- The contract of the document's devs of layer vec: the devices of which two vectors tell, as dots of number one, in order. For every two lists of together at most 2^42 dots. -/
namespace Go.Proofs.Ytmebokpgiehgmaa.Dt
open Go.ChangeShapes Go.WideShapes Go.ChangeAt Go.RowKit
set_option linter.unusedVariables false

/-- a new list without a dot. -/
theorem own_new (w : World) : (w.alloc (.cells #[] 26)).ownsRow w.heap.size 26 2 (.slice (some ⟨w.heap.size, 0, none⟩) 0 0) 0 (dv []) := World.ownsRow_lit w #[] 0 (Nat.le_refl _) (by simp [maxLen]) rfl
/-- one device more. -/
def stepE (o : List Dot) (x : Dot) : List Dot := if mayD x = true then putD o (x.1, 1) else o
def devsD (a b : List Dot) : List Dot := (a ++ b).foldl stepE []
theorem devs_next {l : List Dot} {k : Nat} {x : Dot} (h : l[k]? = some x) : (l.take (k + 1)).foldl stepE [] = stepE ((l.take k).foldl stepE []) x := by
  rw [take_next h, List.foldl_append]; rfl
theorem devs_fit (l : List Dot) (h : Fit l) (k : Nat) : Fit ((l.take k).foldl stepE []) ∧ ((l.take k).foldl stepE []).length ≤ k := by
  induction k with
  | zero => exact ⟨fun r hr => (by cases hr), Nat.le_refl _⟩
  | succ k ih =>
    by_cases hk : k < l.length
    · have hg := List.getElem?_eq_getElem hk
      rw [devs_next hg]
      generalize (l.take k).foldl stepE [] = o at ih ⊢
      by_cases hm : mayD l[k] = true
      · rw [show stepE o l[k] = putD o (l[k].1, 1) from if_pos hm]
        exact ⟨fit_put ih.1 ⟨(h _ (List.getElem_mem hk)).1, by simp⟩, Nat.le_trans (put_length _ _) (by omega)⟩
      · rw [show stepE o l[k] = o from if_neg hm]
        exact ⟨ih.1, by omega⟩
    · have e : l.take (k + 1) = l.take k := by rw [List.take_of_length_le (by omega), List.take_of_length_le (by omega)]
      rw [e]
      exact ⟨ih.1, by omega⟩
end Go.Proofs.Ytmebokpgiehgmaa.Dt

/- What the document's devs of layer vec comes to: plain arithmetic. -/
namespace Go.Proofs.Ytmebokpgiehgmaa.Dt
open Go.ChangeShapes Go.WideShapes Go.ChangeAt Go.RowKit
set_option linter.unusedVariables false

/-- of which devices two vectors tell: nought or one. -/
def anyV (a b : List Dot) (d : Nat) : Nat := min 1 (max (ofV a d) (ofV b d))
theorem tells_any {a b : List Dot} (ha : Fit a) (hb : Fit b) : Tells (anyV a b) := by
  obtain ⟨h1, h2, h3⟩ := tells_join ha hb
  refine ⟨?_, fun d hd => ?_, fun d => ?_⟩
  · simp only at h1; unfold anyV; rw [h1]; rfl
  · have := h2 d hd; simp only at this; unfold anyV; rw [this]; rfl
  · unfold anyV; omega
theorem rise_up {l : List Dot} (h : l.Pairwise (fun a b => a.1 < b.1)) : Ord l := h.imp (fun {a b} h => (ahead_iff a b).2 (.inl h))
theorem devs_from (l o : List Dot) (ho : Ord o) : Ord (l.foldl stepE o) ∧ ∀ x : Dot, x ∈ l.foldl stepE o ↔ x ∈ o ∨ (x.2 = 1 ∧ ∃ y ∈ l, mayD y = true ∧ y.1 = x.1) := by
  induction l generalizing o with
  | nil => exact ⟨ho, fun x => by simp⟩
  | cons d l ih =>
    rw [List.foldl_cons]
    by_cases hm : mayD d = true
    · rw [show stepE o d = putD o (d.1, 1) from if_pos hm]
      obtain ⟨h1, h2⟩ := ih (putD o (d.1, 1)) (put_ord _ ho)
      refine ⟨h1, fun x => ?_⟩
      rw [h2, put_mem]
      constructor
      · rintro ((rfl | h) | ⟨h, y, hy, h3⟩)
        · exact .inr ⟨rfl, d, List.mem_cons_self .., hm, rfl⟩
        · exact .inl h
        · exact .inr ⟨h, y, List.mem_cons_of_mem _ hy, h3⟩
      · rintro (h | ⟨h, y, hy, h3, h4⟩)
        · exact .inl (.inr h)
        · rcases List.mem_cons.1 hy with rfl | hy
          · exact .inl (.inl (Prod.ext h4.symm h))
          · exact .inr ⟨h, y, hy, h3, h4⟩
    · rw [show stepE o d = o from if_neg hm]
      obtain ⟨h1, h2⟩ := ih o ho
      refine ⟨h1, fun x => ?_⟩
      rw [h2]
      constructor
      · rintro (h | ⟨h, y, hy, h3⟩)
        · exact .inl h
        · exact .inr ⟨h, y, List.mem_cons_of_mem _ hy, h3⟩
      · rintro (h | ⟨h, y, hy, h3, h4⟩)
        · exact .inl h
        · rcases List.mem_cons.1 hy with rfl | hy
          · exact absurd h3 hm
          · exact .inr ⟨h, y, hy, h3, h4⟩
theorem told_iff (l : List Dot) (d : Nat) : 0 < ofV l d ↔ ∃ y ∈ l, mayD y = true ∧ y.1 = d := by
  constructor
  · intro h
    obtain ⟨h1, h2⟩ := of_in l d h
    exact ⟨_, h1, h2, rfl⟩
  · rintro ⟨y, hy, hm, rfl⟩
    have h1 := of_most l y hy hm
    have h2 := (may_iff y).1 hm
    omega
theorem devs_eq {a b : List Dot} (ha : Fit a) (hb : Fit b) : devsD a b = listV (anyV a b) := by
  obtain ⟨h1, h2⟩ := devs_from (a ++ b) [] List.Pairwise.nil
  refine ord_uniq h1 (rise_up (list_rise _)) fun x => ?_
  refine (h2 x).trans ?_
  rw [list_mem (tells_any ha hb), ← told_iff, of_append]
  unfold anyV
  simp only [List.not_mem_nil, false_or]
  omega
theorem pick_list {h f : Nat → Nat} (hf : ∀ d, 0 < f d → 0 < h d) : (listV h).filterMap (fun x => oneV f x.1) = listV f := by
  unfold listV
  rw [List.filterMap_filterMap]
  congr 1
  funext d
  unfold oneV
  by_cases h1 : 0 < h d
  · rw [if_pos h1]; rfl
  · rw [if_neg h1, if_neg (fun h2 => h1 (hf d h2))]; rfl
theorem all_list {h : Nat → Nat} {p : Nat → Bool} (hp : ∀ d, p d = false → 0 < h d) : (listV h).all (fun x => p x.1) = (List.range topV).all p := by
  unfold listV
  generalize List.range topV = l
  induction l with
  | nil => rfl
  | cons d l ih =>
    rw [List.filterMap_cons, List.all_cons, ← ih]
    unfold oneV
    by_cases h1 : 0 < h d
    · rw [if_pos h1]; rfl
    · rw [if_neg h1]
      cases h2 : p d with
      | true => rfl
      | false => exact absurd (hp d h2) h1
theorem sum_list {h f : Nat → Nat} (hf : ∀ d, 0 < f d → 0 < h d) : ((listV h).map (fun x => f x.1)).sum = ((List.range topV).map f).sum := by
  unfold listV
  generalize List.range topV = l
  induction l with
  | nil => rfl
  | cons d l ih =>
    rw [List.filterMap_cons, List.map_cons, List.sum_cons, ← ih]
    unfold oneV
    by_cases h1 : 0 < h d
    · rw [if_pos h1]; rfl
    · rw [if_neg h1]
      have : f d = 0 := by
        rcases Nat.eq_zero_or_pos (f d) with h2 | h2
        · exact h2
        · exact absurd (hf d h2) h1
      rw [this, Nat.zero_add]
/-- the greater one of each, or the lesser one. -/
def oneOf (g : Bool) (x y : Nat) : Nat := if g = true then max x y else min x y
def bothV (g : Bool) (a b : List Dot) : List Dot := listV (fun d => oneOf g (ofV a d) (ofV b d))
theorem both_join (a b : List Dot) : bothV true a b = joinV a b := rfl
theorem both_meet (a b : List Dot) : bothV false a b = meetV a b := rfl
theorem both_norm (a : List Dot) : bothV true a [] = normV a := by
  unfold bothV normV oneOf
  congr 1
  funext d
  rw [if_pos rfl, of_nil]
  exact Nat.max_zero _
theorem both_some {g : Bool} {a b : List Dot} (d : Nat) (h : 0 < oneOf g (ofV a d) (ofV b d)) : 0 < anyV a b d := by
  unfold oneOf at h
  unfold anyV
  split at h <;> omega
theorem both_fit {g : Bool} {a b : List Dot} (ha : Fit a) (hb : Fit b) : Fit (bothV g a b) := by
  cases g with
  | true => exact fit_join ha hb
  | false => exact fit_meet ha hb
end Go.Proofs.Ytmebokpgiehgmaa.Dt

/- The contracts of the document's both, Join, Meet and Norm of layer vec. For every two lists of together at most 2^42 dots. -/
namespace Go.Proofs.Ytmebokpgiehgmaa.Dt
open Go.ChangeShapes Go.WideShapes Go.ChangeAt Go.RowKit
set_option linter.unusedVariables false

theorem both_next {g : Bool} {a b l : List Dot} {k : Nat} {x : Dot} (h : l[k]? = some x) : (l.take (k + 1)).filterMap (fun x => oneV (fun d => oneOf g (ofV a d) (ofV b d)) x.1) = (l.take k).filterMap (fun x => oneV (fun d => oneOf g (ofV a d) (ofV b d)) x.1) ++ (if 0 < oneOf g (ofV a x.1) (ofV b x.1) then [(x.1, oneOf g (ofV a x.1) (ofV b x.1))] else []) := by
  rw [take_next h, List.filterMap_append]
  congr 1
  by_cases h1 : 0 < oneOf g (ofV a x.1) (ofV b x.1)
  · rw [if_pos h1, List.filterMap_cons, show oneV (fun d => oneOf g (ofV a d) (ofV b d)) x.1 = some (x.1, oneOf g (ofV a x.1) (ofV b x.1)) from if_pos h1]; rfl
  · rw [if_neg h1, List.filterMap_cons, show oneV (fun d => oneOf g (ofV a d) (ofV b d)) x.1 = none from if_neg h1]; rfl
end Go.Proofs.Ytmebokpgiehgmaa.Dt

/- The contracts of the document's Norm of layer vec. For every two lists of together at most 2^42 dots. -/
namespace Go.Proofs.Ytmebokpgiehgmaa.Dt
open Go.ChangeShapes Go.WideShapes Go.ChangeAt Go.RowKit
set_option linter.unusedVariables false

end Go.Proofs.Ytmebokpgiehgmaa.Dt

/- Words for the claims of layer ctx: slices of parts in memory, each with a slice of runs. -/
namespace Go.Proofs.Ytmebokpgiehgmaa.Cx
open Go.ChangeShapes Go.WideShapes Go.ChangeAt Go.RowKit
set_option linter.unusedVariables false

/-- a part as it stands in memory: its device, and where its runs lie. -/
structure PV where
  dev : Nat
  adr : Option Addr
  len : Nat
  cap : Nat
def cv (ps : List PV) : List Value := ps.flatMap fun p => [.int .u16 (p.dev : Int), .slice p.adr p.len p.cap]
theorem cv_nil : cv [] = [] := rfl
theorem cv_append (l m : List PV) : cv (l ++ m) = cv l ++ cv m := by unfold cv; rw [List.flatMap_append]
theorem cv_length (l : List PV) : (cv l).length = l.length * 2 := by
  induction l with
  | nil => rfl
  | cons r l ih => simp only [cv, List.flatMap_cons, List.length_append, List.length_cons, List.length_nil] at ih ⊢; omega
theorem cv_get {l : List PV} {k : Nat} {r : PV} (h : l[k]? = some r) : (cv l)[k * 2]? = some (.int .u16 (r.dev : Int)) ∧ (cv l)[k * 2 + 1]? = some (.slice r.adr r.len r.cap) := by
  induction l generalizing k with
  | nil => simp at h
  | cons x l ih =>
    cases k with
    | zero => obtain rfl : x = r := by simpa using h
              exact ⟨rfl, rfl⟩
    | succ k =>
      have h2 := ih (k := k) (by simpa using h)
      have e : cv (x :: l) = .int .u16 (x.dev : Int) :: .slice x.adr x.len x.cap :: cv l := rfl
      have e1 : (k + 1) * 2 = k * 2 + 2 := by omega
      rw [e, e1]
      exact ⟨by simpa using h2.1, by simpa using h2.2⟩
theorem cv_one (l : List PV) : ∀ u ∈ cv l, u.oneCell' = true := by
  intro u hu
  obtain ⟨r, _, h⟩ := List.mem_flatMap.1 hu
  simp only [List.mem_cons, List.not_mem_nil, or_false] at h
  rcases h with rfl | rfl <;> rfl
/-- this part in memory is that part. -/
structure PartIs (w : World) (B : Nat) (p : PV) (x : Part) : Prop where
  dev : p.dev = x.1
  fit : x.1 < 65536
  len : x.2.length = p.len
  nil : p.adr = none → p.len = 0 ∧ p.cap = 0
  cap : p.len ≤ p.cap
  max : p.cap ≤ 9223372036854775807
  runs : Ru.Runs w B p.adr x.2
theorem PartIs.up {w W : World} {p : PV} {x : Part} (h : PartIs w w.heap.size p x) (hW : Below w.heap.size w W) : PartIs W W.heap.size p x := ⟨h.dev, h.fit, h.len, h.nil, h.cap, h.max, h.runs.up hW⟩
/-- parts in memory, one for each part. -/
def Match (w : World) (ps : List PV) (c : List Part) : Prop := ps.length = c.length ∧ ∀ (k : Nat) (p : PV) (x : Part), ps[k]? = some p → c[k]? = some x → PartIs w w.heap.size p x
theorem Match.up {w W : World} {ps : List PV} {c : List Part} (h : Match w ps c) (hW : Below w.heap.size w W) : Match W ps c := ⟨h.1, fun k p x hp hx => (h.2 k p x hp hx).up hW⟩
theorem Match.nil_ (w : World) : Match w [] [] := ⟨rfl, fun k p x hp => by simp at hp⟩
theorem Match.snoc {w : World} {ps : List PV} {c : List Part} {p : PV} {x : Part} (h : Match w ps c) (hp : PartIs w w.heap.size p x) : Match w (ps ++ [p]) (c ++ [x]) := by
  refine ⟨by simp [h.1], fun k q y hq hy => ?_⟩
  rcases Nat.lt_or_ge k ps.length with hk | hk
  · rw [List.getElem?_append_left hk] at hq
    rw [List.getElem?_append_left (by rw [← h.1]; exact hk)] at hy
    exact h.2 k q y hq hy
  · rw [List.getElem?_append_right hk] at hq
    rw [List.getElem?_append_right (by rw [← h.1]; exact hk)] at hy
    have hk2 : k - ps.length = 0 := by
      rcases Nat.eq_zero_or_pos (k - ps.length) with h0 | h0
      · exact h0
      · rw [List.getElem?_eq_none (by simp; omega)] at hq; cases hq
    rw [hk2] at hq
    rw [← h.1, hk2] at hy
    simp at hq hy
    subst hq hy
    exact hp
theorem Match.fit {w : World} {ps : List PV} {c : List Part} (h : Match w ps c) : FitC c := fun x hx => by
  obtain ⟨k, hk, rfl⟩ := List.getElem_of_mem hx
  have hk2 : k < ps.length := by rw [h.1]; exact hk
  have hp := h.2 k ps[k] c[k] (List.getElem?_eq_getElem hk2) (List.getElem?_eq_getElem hk)
  exact ⟨hp.fit, hp.runs.1⟩
/-- a slice of the address A that holds this context. -/
structure CtxAt (w : World) (A : Option Addr) (c : List Part) (n cp : Nat) : Prop where
  len : c.length = n
  nil : A = none → n = 0 ∧ cp = 0
  cap : n ≤ cp
  max : cp ≤ 9223372036854775807
  parts : ∃ ps, Dt.Lies w w.heap.size A (cv ps) ∧ Match w ps c
theorem CtxAt.up {w W : World} {A : Option Addr} {c : List Part} {n cp : Nat} (h : CtxAt w A c n cp) (hW : Below w.heap.size w W) : CtxAt W A c n cp := by
  obtain ⟨ps, h1, h2⟩ := h.parts
  exact ⟨h.len, h.nil, h.cap, h.max, ps, (h1.below hW).more hW.size, h2.up hW⟩
theorem CtxAt.fit {w : World} {A : Option Addr} {c : List Part} {n cp : Nat} (h : CtxAt w A c n cp) : FitC c := by
  obtain ⟨ps, _, h2⟩ := h.parts
  exact h2.fit
theorem CtxAt.none_ (w : World) : CtxAt w none [] 0 0 := ⟨rfl, fun _ => ⟨rfl, rfl⟩, Nat.le_refl _, by decide, [], Dt.Lies.none_ _ _ _, Match.nil_ _⟩
/-- what stands at a place. -/
theorem CtxAt.cells {w : World} {A : Option Addr} {c : List Part} {n cp : Nat} (h : CtxAt w A c n cp) {k : Nat} (hk : k < n) :
    ∃ (ad : Addr) (p : PV) (x : Part), A = some ad ∧ ad.block < w.heap.size ∧ c[k]? = some x ∧ PartIs w w.heap.size p x ∧
      ∀ V, Below w.heap.size w V → V.cell? (ad.add (k * 2)) = some (.int .u16 (x.1 : Int)) ∧ V.cell? ⟨(ad.add (k * 2)).block, (ad.add (k * 2)).off + 1, none⟩ = some (.slice p.adr p.len p.cap) := by
  obtain ⟨ps, h1, h2⟩ := h.parts
  have hkc : k < c.length := by rw [h.len]; exact hk
  have hkp : k < ps.length := by rw [h2.1]; exact hkc
  have hx := List.getElem?_eq_getElem hkc
  have hp := List.getElem?_eq_getElem hkp
  have hpi := h2.2 k _ _ hp hx
  obtain ⟨ad, e, hB, hc⟩ := h1 (by rw [cv_length]; omega)
  obtain ⟨g1, g2⟩ := cv_get hp
  refine ⟨ad, ps[k], c[k], e, hB, hx, hpi, fun V hV => ⟨?_, ?_⟩⟩
  · rw [← hpi.dev]
    exact (hV.cell (by rw [Dt.block_add]; exact hB)).trans (hc _ _ g1)
  · rw [Dt.add_next]
    exact (hV.cell (by rw [Dt.block_add]; exact hB)).trans (hc _ _ g2)
/-- few parts, and few runs in all. -/
def Small (c : List Part) : Prop := c.length ≤ 1000 ∧ (c.map (fun x => x.2.length)).sum ≤ 10000
theorem small_sum {c : List Part} (h : ∀ x ∈ c, x.2.length ≤ 100) : (c.map (fun x => x.2.length)).sum ≤ c.length * 100 := by
  induction c with
  | nil => simp
  | cons x c ih =>
    have h1 := h x (List.mem_cons_self ..)
    have h2 := ih (fun y hy => h y (List.mem_cons_of_mem _ hy))
    rw [List.map_cons, List.sum_cons, List.length_cons]
    omega
theorem small_each {c : List Part} (h : c.length ≤ 100) (h2 : ∀ x ∈ c, x.2.length ≤ 100) : Small c := by
  have h3 := small_sum h2
  exact ⟨by omega, by omega⟩
theorem small_one {c : List Part} (h : Small c) {x : Part} (hx : x ∈ c) : x.2.length ≤ 10000 := by
  have h2 : ∀ c : List Part, x ∈ c → x.2.length ≤ (c.map (fun x => x.2.length)).sum := by
    intro c
    induction c with
    | nil => intro h; cases h
    | cons y c ih =>
      intro h
      rw [List.map_cons, List.sum_cons]
      rcases List.mem_cons.1 h with e | h
      · rw [← e]; exact Nat.le_add_right _ _
      · have := ih h; omega
  exact Nat.le_trans (h2 c hx) h.2
theorem small_runs {c : List Part} (h : Small c) (d : Nat) : (runsC c d).length ≤ 10000 := Nat.le_trans (runs_length c d) h.2
theorem sum_take (c : List Part) (k : Nat) : ((c.take k).map (fun x => x.2.length)).sum ≤ (c.map (fun x => x.2.length)).sum := by
  have h : (c.map (fun x => x.2.length)).sum = ((c.take k).map (fun x => x.2.length)).sum + ((c.drop k).map (fun x => x.2.length)).sum := by
    rw [← List.sum_append, ← List.map_append, List.take_append_drop]
  omega
theorem small_take {c : List Part} (h : Small c) (k : Nat) : Small (c.take k) := ⟨by rw [List.length_take]; have := h.1; omega, Nat.le_trans (sum_take c k) h.2⟩
end Go.Proofs.Ytmebokpgiehgmaa.Cx

/- The contract of the document's devs of layer ctx, and what comes of them. -/
namespace Go.Proofs.Ytmebokpgiehgmaa.Cx
open Go.ChangeShapes Go.WideShapes Go.ChangeAt Go.RowKit
set_option linter.unusedVariables false

def stepP (o : List Dot) (x : Part) : List Dot := Dt.putD o (x.1, 1)
def devsC (a b : List Part) : List Dot := b.foldl stepP (a.foldl stepP [])
theorem step_next {c : List Part} {k : Nat} {x : Part} (o : List Dot) (h : c[k]? = some x) : (c.take (k + 1)).foldl stepP o = stepP ((c.take k).foldl stepP o) x := by
  rw [List.take_add_one, h, List.foldl_append]; rfl
theorem step_fit (c : List Part) (hc : FitC c) (o : List Dot) (ho : Dt.Fit o) (k : Nat) : Dt.Fit ((c.take k).foldl stepP o) ∧ ((c.take k).foldl stepP o).length ≤ o.length + k := by
  induction k with
  | zero => exact ⟨ho, Nat.le_refl _⟩
  | succ k ih =>
    by_cases hk : k < c.length
    · have hg := List.getElem?_eq_getElem hk
      rw [step_next o hg]
      exact ⟨Dt.fit_put ih.1 ⟨(hc _ (List.getElem_mem hk)).1, by simp⟩, Nat.le_trans (Dt.put_length _ _) (by omega)⟩
    · have e : c.take (k + 1) = c.take k := by rw [List.take_of_length_le (by omega), List.take_of_length_le (by omega)]
      rw [e]
      exact ⟨ih.1, by omega⟩
theorem step_from (c : List Part) (o : List Dot) (ho : Dt.Ord o) : Dt.Ord (c.foldl stepP o) ∧ ∀ x : Dot, x ∈ c.foldl stepP o ↔ x ∈ o ∨ (x.2 = 1 ∧ ∃ y ∈ c, y.1 = x.1) := by
  induction c generalizing o with
  | nil => exact ⟨ho, fun x => by simp⟩
  | cons d l ih =>
    rw [List.foldl_cons]
    obtain ⟨h1, h2⟩ := ih (stepP o d) (Dt.put_ord _ ho)
    refine ⟨h1, fun x => ?_⟩
    rw [h2, show stepP o d = Dt.putD o (d.1, 1) from rfl, Dt.put_mem]
    constructor
    · rintro ((rfl | h) | ⟨h, y, hy, h3⟩)
      · exact .inr ⟨rfl, d, List.mem_cons_self .., rfl⟩
      · exact .inl h
      · exact .inr ⟨h, y, List.mem_cons_of_mem _ hy, h3⟩
    · rintro (h | ⟨h, y, hy, h3⟩)
      · exact .inl (.inr h)
      · rcases List.mem_cons.1 hy with rfl | hy
        · exact .inl (.inl (Prod.ext h3.symm h))
        · exact .inr ⟨h, y, hy, h3⟩
theorem devs_spec (a b : List Part) : Dt.Ord (devsC a b) ∧ ∀ x : Dot, x ∈ devsC a b ↔ x.2 = 1 ∧ ((∃ y ∈ a, y.1 = x.1) ∨ ∃ y ∈ b, y.1 = x.1) := by
  obtain ⟨h1, h2⟩ := step_from a [] List.Pairwise.nil
  obtain ⟨h3, h4⟩ := step_from b _ h1
  refine ⟨h3, fun x => ?_⟩
  unfold devsC
  rw [h4, h2]
  simp only [List.not_mem_nil, false_or]
  constructor
  · rintro (⟨h, h5⟩ | ⟨h, h5⟩)
    · exact ⟨h, .inl h5⟩
    · exact ⟨h, .inr h5⟩
  · rintro ⟨h, h5 | h5⟩
    · exact .inl ⟨h, h5⟩
    · exact .inr ⟨h, h5⟩
/-- lists that rise by a number, with the same members, are the same. -/
theorem rise_uniq {α : Type} (f : α → Nat) {l m : List α} (hl : l.Pairwise (fun a b => f a < f b)) (hm : m.Pairwise (fun a b => f a < f b)) (h : ∀ x, x ∈ l ↔ x ∈ m) : l = m := by
  induction l generalizing m with
  | nil =>
    cases m with
    | nil => rfl
    | cons b m => exact absurd ((h b).2 (List.mem_cons_self ..)) (by simp)
  | cons a l ih =>
    cases m with
    | nil => exact absurd ((h a).1 (List.mem_cons_self ..)) (by simp)
    | cons b m =>
      obtain ⟨hl1, hl2⟩ := List.pairwise_cons.1 hl
      obtain ⟨hm1, hm2⟩ := List.pairwise_cons.1 hm
      have hab : a = b := by
        rcases List.mem_cons.1 ((h a).1 (List.mem_cons_self ..)) with h1 | h1
        · exact h1
        · rcases List.mem_cons.1 ((h b).2 (List.mem_cons_self ..)) with h2 | h2
          · exact h2.symm
          · have h3 := hm1 a h1
            have h4 := hl1 b h2
            omega
      subst hab
      congr 1
      refine ih hl2 hm2 fun x => ⟨fun hx => ?_, fun hx => ?_⟩
      · rcases List.mem_cons.1 ((h x).1 (List.mem_cons_of_mem _ hx)) with h1 | h1
        · have := hl1 x hx; rw [h1] at this; omega
        · exact h1
      · rcases List.mem_cons.1 ((h x).2 (List.mem_cons_of_mem _ hx)) with h1 | h1
        · have := hm1 x hx; rw [h1] at this; omega
        · exact h1
/-- the parts that the devices of two contexts give. -/
theorem pick_up (f : Nat → List Run) (l : List Dot) (h : l.Pairwise (fun a b => a.1 < b.1)) : (l.filterMap (fun x => oneC f x.1)).Pairwise (fun a b => a.1 < b.1) := by
  induction l with
  | nil => exact List.Pairwise.nil
  | cons d l ih =>
    obtain ⟨h1, h2⟩ := List.pairwise_cons.1 h
    rw [List.filterMap_cons]
    split
    · exact ih h2
    · rename_i x hx
      rw [List.pairwise_cons]
      refine ⟨fun y hy => ?_, ih h2⟩
      obtain ⟨e, he, h3⟩ := List.mem_filterMap.1 hy
      unfold oneC at hx h3
      split at hx
      · cases hx
      · split at h3
        · cases h3
        · cases hx; cases h3; exact h1 e he
theorem devs_up (a b : List Part) : (devsC a b).Pairwise (fun x y => x.1 < y.1) := by
  obtain ⟨h1, h2⟩ := devs_spec a b
  refine List.Pairwise.imp_of_mem ?_ h1
  intro x y hx hy hxy
  have hx2 := ((h2 x).1 hx).1
  have hy2 := ((h2 y).1 hy).1
  have := (Dt.ahead_iff x y).1 hxy
  omega
theorem pick_devs {a b : List Part} {f : Nat → List Run} (hf : Tells f) (h : ∀ d, f d ≠ [] → (∃ y ∈ a, y.1 = d) ∨ ∃ y ∈ b, y.1 = d) : (devsC a b).filterMap (fun x => oneC f x.1) = listC f := by
  refine rise_uniq (fun x : Part => x.1) (pick_up f _ (devs_up a b)) (list_rise f) fun x => ?_
  rw [list_mem hf, List.mem_filterMap]
  obtain ⟨_, hm⟩ := devs_spec a b
  constructor
  · rintro ⟨y, hy, h1⟩
    unfold oneC at h1
    split at h1
    · cases h1
    · rename_i h0
      cases h1
      exact ⟨rfl, fun h2 => h0 (by show (f y.1).length = 0; rw [show f y.1 = [] from h2]; rfl)⟩
  · rintro ⟨h1, h2⟩
    refine ⟨(x.1, 1), (hm _).2 ⟨rfl, h x.1 h2⟩, ?_⟩
    unfold oneC
    rw [if_neg (fun h3 => h2 (List.eq_nil_of_length_eq_zero h3)), ← h1]
theorem set_some {a b : List Part} {how : Int} (d : Nat) (h : Ru.setL (runsC a d) (runsC b d) how ≠ []) : (∃ y ∈ a, y.1 = d) ∨ ∃ y ∈ b, y.1 = d := by
  by_cases ha : ∃ y ∈ a, y.1 = d
  · exact .inl ha
  · by_cases hb : ∃ y ∈ b, y.1 = d
    · exact .inr hb
    · refine absurd ?_ h
      rw [runs_empty (.inr fun x hx e => ha ⟨x, hx, e⟩), runs_empty (.inr fun x hx e => hb ⟨x, hx, e⟩), set_nil]

end Go.Proofs.Ytmebokpgiehgmaa.Cx

/- The contracts of the document's Few, Runs and Eq of layer ctx. -/
namespace Go.Proofs.Ytmebokpgiehgmaa.Cx
open Go.ChangeShapes Go.WideShapes Go.ChangeAt Go.RowKit
set_option linter.unusedVariables false

theorem runs_next {c : List Part} {k : Nat} {x : Part} (d : Nat) (h : c[k]? = some x) : runsC (c.take (k + 1)) d = stepC d (runsC (c.take k) d) x := by
  unfold runsC
  rw [List.take_add_one, h, List.foldl_append]; rfl
theorem ru_less {w : World} {B B' n size : Nat} {e : TypeId} {v : Value} {xs : List Value} (h : w.ownsRow B' e size v n xs) (hB : B ≤ B') : w.ownsRow B e size v n xs := Dt.own_less h hB
end Go.Proofs.Ytmebokpgiehgmaa.Cx

/- Lists of parts of one's own: append of a part to any list of one's own. -/
namespace Go.Proofs.Ytmebokpgiehgmaa.Cx
open Go.ChangeShapes Go.WideShapes Go.ChangeAt Go.RowKit
set_option linter.unusedVariables false

/-- a slice of runs, that lies in this world. -/
structure RunsAt (w : World) (A : Option Addr) (l : List Run) (n c : Nat) : Prop where
  len : l.length = n
  nil : A = none → n = 0 ∧ c = 0
  cap : n ≤ c
  max : c ≤ 9223372036854775807
  runs : Ru.Runs w w.heap.size A l
theorem RunsAt.up {w W : World} {A : Option Addr} {l : List Run} {n c : Nat} (h : RunsAt w A l n c) (hW : Below w.heap.size w W) : RunsAt W A l n c := ⟨h.len, h.nil, h.cap, h.max, h.runs.up hW⟩
theorem runs_grown {w w' : World} {row : Option Nat} (hg : w.grownBy w' row) {A : Option Addr} {l : List Run} (h : Ru.Runs w w.heap.size A l) (hne : ∀ ad, A = some ad → some ad.block ≠ row) : Ru.Runs w' w'.heap.size A l :=
  ⟨h.1, fun hl => by
    obtain ⟨ad, e, hB, hc⟩ := h.2 hl
    refine ⟨ad, e, Nat.lt_of_lt_of_le hB hg.size, fun j u hu => ?_⟩
    have hb := hg.block ad.block hB (hne ad e)
    rw [← hc j u hu]
    unfold World.cell?
    rw [Ru.block_add, hb]⟩
/-- parts whose runs lie apart from this row. -/
def Apart (w : World) (ps : List PV) (row : Option Nat) : Prop := ∀ p ∈ ps, ∃ ad, p.adr = some ad ∧ ad.block < w.heap.size ∧ some ad.block ≠ row
theorem Match.grown {w w' : World} {ps : List PV} {c : List Part} {row : Option Nat} (h : Match w ps c) (hg : w.grownBy w' row) (ha : Apart w ps row) : Match w' ps c :=
  ⟨h.1, fun k p x hp hx => by
    have h1 := h.2 k p x hp hx
    obtain ⟨ad, e, hB, hne⟩ := ha p (List.mem_of_getElem? hp)
    exact ⟨h1.dev, h1.fit, h1.len, h1.nil, h1.cap, h1.max, runs_grown hg h1.runs (fun ad' e' => by rw [e] at e'; cases e'; exact hne)⟩⟩
theorem Apart.up {w w' : World} {ps : List PV} {row : Option Nat} (h : Apart w ps row) (hs : w.heap.size ≤ w'.heap.size) : Apart w' ps row := fun p hp => by
  obtain ⟨ad, e, hB, hne⟩ := h p hp
  exact ⟨ad, e, Nat.lt_of_lt_of_le hB hs, hne⟩
theorem Apart.turn {w : World} {ps : List PV} {row : Option Nat} {r : Nat} (h : Apart w ps row) (hr : w.heap.size ≤ r) : Apart w ps (some r) := fun p hp => by
  obtain ⟨ad, e, hB, _⟩ := h p hp
  exact ⟨ad, e, hB, fun e2 => by cases e2; omega⟩
theorem Apart.snoc {w : World} {ps : List PV} {row : Option Nat} {p : PV} {ad : Addr} (h : Apart w ps row) (e : p.adr = some ad) (hB : ad.block < w.heap.size) (hne : some ad.block ≠ row) : Apart w (ps ++ [p]) row := fun q hq => by
  rcases List.mem_append.1 hq with hq | hq
  · exact h q hq
  · obtain rfl := List.mem_singleton.1 hq
    exact ⟨ad, e, hB, hne⟩
end Go.Proofs.Ytmebokpgiehgmaa.Cx

/- The contract of the document's set of layer ctx: what two contexts come to. For every two contexts of at most 100 parts, of at most 100 runs each (gen-set.py printed it). -/
namespace Go.Proofs.Ytmebokpgiehgmaa.Cx
open Go.ChangeShapes Go.WideShapes Go.ChangeAt Go.RowKit
set_option linter.unusedVariables false

theorem bel_drew {w W : World} (h : Below w.heap.size w W) : Below w.heap.size w W.drew := h.drew
theorem bel_alloc {w W : World} (o : Obj) (h : Below w.heap.size w W) : Below w.heap.size w (W.alloc o) := h.alloc h.size o
theorem pick_next {f : Nat → List Run} {l : List Dot} {k : Nat} {x : Dot} (h : l[k]? = some x) : (l.take (k + 1)).filterMap (fun x => oneC f x.1) = (l.take k).filterMap (fun x => oneC f x.1) ++ (if (f x.1).length = 0 then [] else [(x.1, f x.1)]) := by
  rw [List.take_add_one, h, List.filterMap_append]
  congr 1
  simp only [Option.toList_some]
  by_cases h0 : (f x.1).length = 0
  · rw [if_pos h0, List.filterMap_cons, show oneC f x.1 = none from if_pos h0]; rfl
  · rw [if_neg h0, List.filterMap_cons, show oneC f x.1 = some (x.1, f x.1) from if_neg h0]; rfl
theorem devs_len {a b : List Part} (ha : a.length ≤ 1000) (hb : b.length ≤ 1000) (hfa : FitC a) (hfb : FitC b) : Dt.Fit (devsC a b) ∧ (devsC a b).length ≤ 2000 := by
  have h1 := step_fit a hfa [] (fun r hr => by cases hr) a.length
  rw [List.take_length] at h1
  have h2 := step_fit b hfb (a.foldl stepP []) h1.1 b.length
  rw [List.take_length] at h2
  refine ⟨h2.1, ?_⟩
  have h3 := h1.2
  have h4 := h2.2
  simp only [List.length_nil, Nat.zero_add] at h3
  unfold devsC
  omega
theorem own_block_lt {w : World} {B k m c size : Nat} {e : TypeId} {A : Option Addr} {xs : List Value} (h : w.ownsRow B e size (.slice A m c) k xs) : ∀ r, (Value.slice A m c).ownBlock = some r → B ≤ r ∧ r < w.heap.size := by
  intro r hr
  cases A with
  | none => cases hr
  | some ad =>
    have e2 : ad.block = r := by simpa [Value.ownBlock] using hr
    have := h.lt ad.block rfl
    rw [e2] at this
    exact this

end Go.Proofs.Ytmebokpgiehgmaa.Cx

/- The contracts of the document's Join, Meet, Minus, Norm, Eq, Good, Same and Within of layer ctx. -/
namespace Go.Proofs.Ytmebokpgiehgmaa.Cx
open Go.ChangeShapes Go.WideShapes Go.ChangeAt Go.RowKit
set_option linter.unusedVariables false

theorem small_none : Small [] := small_each (by decide) (fun x hx => by cases hx)
theorem take_more {l m : List Part} {k : Nat} {x : Part} (h : l.take k = m.take k) (h1 : l[k]? = some x) (h2 : m[k]? = some x) : l.take (k + 1) = m.take (k + 1) := by
  rw [List.take_add_one, List.take_add_one, h, h1, h2]
theorem ne_at {l m : List Part} {k : Nat} {x y : Part} (h1 : l[k]? = some x) (h2 : m[k]? = some y) (hn : x ≠ y) : l ≠ m := by
  intro e
  rw [e, h2] at h1
  exact hn (Option.some.inj h1).symm
theorem few_small {a : List Part} {n c : Nat} {w : World} {A : Option Addr} (h : CtxAt w A a n c) : n ≤ 9223372036854775807 := Nat.le_trans h.cap h.max
end Go.Proofs.Ytmebokpgiehgmaa.Cx

/- What the document's Of of layer ctx comes to, and how great contexts grow. Plain arithmetic. -/
namespace Go.Proofs.Ytmebokpgiehgmaa.Cx
set_option linter.unusedVariables false

theorem set_len {a b : List Part} (ha : FitC a) (hb : FitC b) (how : Int) : (setC a b how).length ≤ a.length + b.length := by
  unfold setC
  rw [← pick_devs (tells_both ha hb how) (fun d h => set_some d h)]
  have h1 := step_fit a ha [] (fun r hr => by cases hr) a.length
  rw [List.take_length] at h1
  have h2 := step_fit b hb (a.foldl stepP []) h1.1 b.length
  rw [List.take_length] at h2
  have h3 := h1.2
  have h4 := h2.2
  simp only [List.length_nil, Nat.zero_add] at h3
  refine Nat.le_trans (List.length_filterMap_le _ _) ?_
  unfold devsC
  omega
/-- one dot as a context. -/
def dotC (x : Dot) : List Part := [(x.1, [(x.2, x.2)])]
theorem fit_dot {x : Dot} (h1 : x.1 < 65536) (h2 : x.2 < 18446744073709551616) : FitC (dotC x) := fun y hy => by
  obtain rfl := List.mem_singleton.1 hy
  exact ⟨h1, fun r hr => by obtain rfl := List.mem_singleton.1 hr; exact ⟨h2, h2⟩⟩
def stepO (o : List Part) (x : Dot) : List Part := if Dt.mayD x = true then setC o (dotC x) 0 else o
theorem of_fold (l : List Dot) : ofC l = l.foldl stepO [] := rfl
theorem of_next {l : List Dot} {k : Nat} {x : Dot} (h : l[k]? = some x) : ofC (l.take (k + 1)) = stepO (ofC (l.take k)) x := by
  rw [of_fold, of_fold, List.take_add_one, h, List.foldl_append]; rfl
/-- a context in order, of at most k parts of at most k runs each. -/
structure Most (o : List Part) (k : Nat) : Prop where
  form : ∃ f, Tells f ∧ o = listC f ∧ ∀ d, (f d).length ≤ k
  len : o.length ≤ k
theorem Most.fit {o : List Part} {k : Nat} (h : Most o k) : FitC o := by
  obtain ⟨f, h1, rfl, _⟩ := h.form
  exact list_fit h1
theorem Most.small {o : List Part} {k : Nat} (h : Most o k) (hk : k ≤ 100) : Small o := by
  obtain ⟨f, h1, rfl, h3⟩ := h.form
  refine small_each (Nat.le_trans h.len hk) (fun x hx => ?_)
  obtain ⟨h4, _⟩ := (list_mem h1 x).1 hx
  rw [h4]
  exact Nat.le_trans (h3 _) hk
theorem Most.none_ : Most [] 0 := by
  refine ⟨⟨fun _ => [], ⟨rfl, fun _ _ => rfl, fun _ => Ru.order_nil⟩, ?_, fun _ => Nat.le_refl _⟩, Nat.le_refl _⟩
  unfold listC
  induction List.range Dt.topV with
  | nil => rfl
  | cons d l ih => rw [List.filterMap_cons]; exact ih
theorem Most.more {o : List Part} {k m : Nat} (h : Most o k) (hk : k ≤ m) : Most o m := by
  obtain ⟨f, h1, h2, h3⟩ := h.form
  exact ⟨⟨f, h1, h2, fun d => Nat.le_trans (h3 d) hk⟩, Nat.le_trans h.len hk⟩
theorem Most.step {o : List Part} {k : Nat} (h : Most o k) {x : Dot} (h1 : x.1 < 65536) (h2 : x.2 < 18446744073709551616) : Most (stepO o x) (k + 1) := by
  unfold stepO
  split
  · have hd := fit_dot h1 h2
    refine ⟨⟨fun d => Ru.setL (runsC o d) (runsC (dotC x) d) 0, tells_both h.fit hd 0, rfl, fun d => ?_⟩, Nat.le_trans (set_len h.fit hd 0) ?_⟩
    · obtain ⟨f, h3, h4, h5⟩ := h.form
      have e1 : runsC o d = f d := by rw [h4, runs_list h3]
      have e2 := runs_length (dotC x) d
      have e3 := Ru.set_length0 (runsC o d) (runsC (dotC x) d)
      have e4 := h5 d
      rw [e1] at e3
      have e5 : ((dotC x).map (fun x => x.2.length)).sum = 1 := rfl
      rw [e5] at e2
      show (Ru.setL (runsC o d) (runsC (dotC x) d) 0).length ≤ k + 1
      rw [e1]
      omega
    · have := h.len
      have e : (dotC x).length = 1 := rfl
      omega
  · exact h.more (Nat.le_succ _)
theorem of_most (l : List Dot) (hl : Dt.Fit l) (k : Nat) : Most (ofC (l.take k)) k := by
  induction k with
  | zero => exact Most.none_
  | succ k ih =>
    by_cases hk : k < l.length
    · have hg := List.getElem?_eq_getElem hk
      rw [of_next hg]
      have := hl _ (List.getElem_mem hk)
      exact ih.step this.1 this.2
    · have e : l.take (k + 1) = l.take k := by rw [List.take_of_length_le (by omega), List.take_of_length_le (by omega)]
      rw [e]
      exact ih.more (Nat.le_succ _)
theorem of_whole (l : List Dot) (hl : Dt.Fit l) : Most (ofC l) l.length := by
  have := of_most l hl l.length
  rwa [List.take_length] at this
end Go.Proofs.Ytmebokpgiehgmaa.Cx

/- The contracts of the document's Of, Has and Few of layer ctx. -/
namespace Go.Proofs.Ytmebokpgiehgmaa.Cx
open Go.ChangeShapes Go.WideShapes Go.ChangeAt Go.RowKit
set_option linter.unusedVariables false

theorem CtxAt.drew {w : World} {A : Option Addr} {c : List Part} {n cp : Nat} (h : CtxAt w A c n cp) : CtxAt w.drew A c n cp := h.up ((Below.refl _ _).drew)
/-- the document's answer as a world's context. -/
def CtxHas (w : World) (m : List Part) (e : Ending) (w' : World) : Prop := ∃ A n c, e = .returned (.slice A n c) ∧ CtxAt w' A m n c ∧ Below w.heap.size w w'
end Go.Proofs.Ytmebokpgiehgmaa.Cx

/- The contracts of the document's Has, Few, Only and Size of layer ctx. -/
namespace Go.Proofs.Ytmebokpgiehgmaa.Cx
open Go.ChangeShapes Go.WideShapes Go.ChangeAt Go.RowKit
set_option linter.unusedVariables false

theorem box_at (w : World) (d : Dot) : ∀ V, Below (w.alloc (.cells #[.int .u16 (d.1 : Int), .int .u64 (d.2 : Int)] 26)).heap.size (w.alloc (.cells #[.int .u16 (d.1 : Int), .int .u64 (d.2 : Int)] 26)) V → V.cell? ⟨w.heap.size, 0, none⟩ = some (.int .u16 (d.1 : Int)) ∧ V.cell? ⟨w.heap.size, 1, none⟩ = some (.int .u64 (d.2 : Int)) := by
  intro V hV
  have h1 : (w.alloc (.cells #[.int .u16 (d.1 : Int), .int .u64 (d.2 : Int)] 26)).cell? ⟨w.heap.size, 0, none⟩ = some (.int .u16 (d.1 : Int)) := by simp [go_sem]
  have h2 : (w.alloc (.cells #[.int .u16 (d.1 : Int), .int .u64 (d.2 : Int)] 26)).cell? ⟨w.heap.size, 1, none⟩ = some (.int .u64 (d.2 : Int)) := by simp [go_sem]
  exact ⟨(hV.cell (World.block_lt_of_cell? _ _ h1)).trans h1, (hV.cell (World.block_lt_of_cell? _ _ h2)).trans h2⟩
theorem below_grow (V : World) (n : Nat) (os : Array Obj) : Below V.heap.size V (Sort.grow (V.drewN n) os) :=
  ⟨rfl, rfl, rfl, by show V.heap.size ≤ (V.heap ++ os).size; simp, fun i hi => by show (V.heap ++ os)[i]? = V.heap[i]?; exact Array.getElem?_append_left hi⟩
def fewC (c : List Part) : Bool := decide (c.length ≤ 30 ∧ ∀ x ∈ c, x.2.length ≤ 30)
theorem few_is {c : List Part} (h : fewC c = true) : Small c := by
  obtain ⟨h1, h2⟩ := of_decide_eq_true h
  exact small_each (by omega) (fun x hx => by have := h2 x hx; omega)
end Go.Proofs.Ytmebokpgiehgmaa.Cx

/- What the walks of layer kills ask of the program; the chapter's example. -/
namespace Go.Proofs.Ytmebokpgiehgmaa.Kl
open Go.ChangeShapes Go.WideShapes Go.ChangeAt Go.RowKit
set_option linter.unusedVariables false
set_option maxRecDepth 4000

/-- an event, stripped. -/
def stripE (c : List Cx.Part) (x : Ev.Evt) : Ev.Evt := if Cx.hasC c x.dot = true then ⟨x.dot, x.kind, x.cid, x.fld, x.txt, []⟩ else x
/-- an event comes out. -/
def OnePost (w : World) (x : Ev.Evt) (e : Ending) (w' : World) : Prop := ∃ q : Ev.EV, e = .returned q.val ∧ Ev.EventIs w' w'.heap.size q x ∧ Below w.heap.size w w'
/-- the answers of the program's functions. -/
structure PKl : Prop where
  editF : ∀ (w : World) (A : Option Addr) (l : List Ev.Evt) (n c cid f : Nat), Ev.EventsAt w w.heap.size A l n c → n ≤ 1024 → (∀ x ∈ l, x.kills.length ≤ 1024) → cid < 18446744073709551616 → f < 256 → Calls Try.prog 9 #[.slice A n c, .int .u64 (cid : Int), .int .u8 (f : Int)] w (DotsFar w (Ev.dotsE (l.filter (editB cid f))))
  delF : ∀ (w : World) (A : Option Addr) (l : List Ev.Evt) (n c cid : Nat), Ev.EventsAt w w.heap.size A l n c → n ≤ 1024 → (∀ x ∈ l, x.kills.length ≤ 1024) → cid < 18446744073709551616 → Calls Try.prog 11 #[.slice A n c, .int .u64 (cid : Int)] w (DotsFar w (Ev.dotsE (l.filter (delB cid))))
  dead : ∀ (w : World) (A : Option Addr) (l : List Ev.Evt) (n c : Nat) (d : Dt.Dot), Ev.EventsAt w w.heap.size A l n c → n ≤ 1024 → (∀ x ∈ l, x.kills.length ≤ 1024) → d.1 < 65536 ∧ d.2 < 18446744073709551616 → Calls Try.prog 13 #[.slice A n c, .agg #[.int .u16 (d.1 : Int), .int .u64 (d.2 : Int)]] w fun e w' => e = .returned (.bool (deadB l d)) ∧ Below w.heap.size w w'
  liveF : ∀ (w : World) (A : Option Addr) (l : List Ev.Evt) (n c : Nat), Ev.EventsAt w w.heap.size A l n c → n ≤ 1024 → (∀ x ∈ l, x.kills.length ≤ 65536) → Calls Try.prog 16 #[.slice A n c] w (EvFar w (liveE l))
theorem PKl.edit (P : PKl) : ∀ (w : World) (A : Option Addr) (l : List Ev.Evt) (n c cid f : Nat), Ev.EventsAt w w.heap.size A l n c → n ≤ 1024 → (∀ x ∈ l, x.kills.length ≤ 1024) → cid < 18446744073709551616 → f < 256 → Calls Try.prog 9 #[.slice A n c, .int .u64 (cid : Int), .int .u8 (f : Int)] w (Ev.DPost w (Ev.dotsE (l.filter (editB cid f)))) := fun w  A  l  n c cid f  h0 h1 h2 h3 h4 => (P.editF w  A  l  n c cid f  h0 h1 h2 h3 h4).mono fun e W h => h.post
theorem PKl.del (P : PKl) : ∀ (w : World) (A : Option Addr) (l : List Ev.Evt) (n c cid : Nat), Ev.EventsAt w w.heap.size A l n c → n ≤ 1024 → (∀ x ∈ l, x.kills.length ≤ 1024) → cid < 18446744073709551616 → Calls Try.prog 11 #[.slice A n c, .int .u64 (cid : Int)] w (Ev.DPost w (Ev.dotsE (l.filter (delB cid)))) := fun w  A  l  n c cid  h0 h1 h2 h3 => (P.delF w  A  l  n c cid  h0 h1 h2 h3).mono fun e W h => h.post
theorem PKl.live (P : PKl) : ∀ (w : World) (A : Option Addr) (l : List Ev.Evt) (n c : Nat), Ev.EventsAt w w.heap.size A l n c → n ≤ 1024 → (∀ x ∈ l, x.kills.length ≤ 65536) → Calls Try.prog 16 #[.slice A n c] w (Ev.EvPost w (liveE l)) := fun w  A  l  n c  h0 h1 h2 => (P.liveF w  A  l  n c  h0 h1 h2).mono fun e W h => h.post

/-- the chapter's events. -/
def worksA : Ev.Evt := ⟨(1, 1), 1, 5, 1, ⟨#[]⟩, []⟩
def worksB : Ev.Evt := ⟨(1, 2), 1, 5, 1, ⟨#[]⟩, [(1, 1)]⟩
theorem works_live : liveE [worksA, worksB] = [worksB] := by
  unfold liveE
  rw [Ev.sort_same (by unfold Ev.OrdE; decide)]
  have h1 : liveB [worksA, worksB] worksA = false := by
    unfold liveB
    rw [(dead_iff [worksA, worksB] worksA.dot).2 ⟨worksB, by simp, by simp [worksA, worksB]⟩]
    simp
  have h2 : liveB [worksA, worksB] worksB = true := by
    have h3 : deadB [worksA, worksB] worksB.dot = false := by
      rw [← Bool.not_eq_true, dead_iff]
      rintro ⟨x, hx, hd⟩
      simp only [List.mem_cons, List.not_mem_nil, or_false] at hx
      rcases hx with rfl | rfl
      · simp [worksA] at hd
      · simp [worksB] at hd
    unfold liveB
    rw [h3]
    simp [worksB]
  rw [List.filter_cons_of_neg (by rw [h1]; decide), List.filter_cons_of_pos h2, List.filter_nil]
theorem works_dots : Ev.dotsE ([worksB].filter (editB 5 1)) = [(1, 1), (1, 2)] := by decide

/-- a row of dots. -/
theorem dots_row {W : World} {g n : Nat} {l : List Dt.Dot} (hn : l.length = n) (hw : n ≤ 8796093022208) (hf : Dt.Fit l) (h0 : 0 < n) (h : ∀ k x, l[k]? = some x → W.cell? ⟨g, k * 2, none⟩ = some (.int .u16 (x.1 : Int)) ∧ W.cell? ⟨g, k * 2 + 1, none⟩ = some (.int .u64 (x.2 : Int))) : Ev.DotsAt W W.heap.size (some ⟨g, 0, none⟩) l n n := by
  refine ⟨hn, (fun e => by cases e), Nat.le_refl _, by omega, hw, hf, fun _ => ⟨_, rfl, ?_, fun j u hu => ?_⟩⟩
  · have h1 := (h 0 _ (List.getElem?_eq_getElem (by omega))).1
    exact World.block_lt_of_cell? W _ h1
  · rw [Dt.zero_add]
    have hj := (List.getElem?_eq_some_iff.1 hu).1
    rw [Dt.dv_length] at hj
    have hd : j / 2 < l.length := by omega
    have hg := List.getElem?_eq_getElem hd
    obtain ⟨g1, g2⟩ := Dt.dv_get hg
    obtain ⟨c1, c2⟩ := h _ _ hg
    rcases Nat.mod_two_eq_zero_or_one j with h0 | h0
    · have e : j = j / 2 * 2 := by omega
      rw [← e] at g1 c1
      rw [g1] at hu
      cases hu
      exact c1
    · have e : j = j / 2 * 2 + 1 := by omega
      rw [← e] at g2 c2
      rw [g2] at hu
      cases hu
      exact c2
/-- a row of two events. -/
theorem two_row (V : World) (p q : Ev.EV) {B : Nat} (hB : V.heap.size < B) : Dt.Lies (V.alloc (.cells #[.int .u16 (p.dev : Int), .int .u64 (p.num : Int), .int .u8 (p.kind : Int), .int .u64 (p.cid : Int), .int .u8 (p.fld : Int), .string p.txt, .slice p.adr p.len p.cap, .int .u16 (q.dev : Int), .int .u64 (q.num : Int), .int .u8 (q.kind : Int), .int .u64 (q.cid : Int), .int .u8 (q.fld : Int), .string q.txt, .slice q.adr q.len q.cap] 38)) B (some ⟨V.heap.size, 0, none⟩) (Ev.ev [p, q]) := fun _ => by
  refine ⟨_, rfl, hB, fun j u hu => ?_⟩
  rw [Dt.zero_add, World.cell?_alloc_new]
  have e : Ev.ev [p, q] = p.cells ++ q.cells := by simp [Ev.ev]
  rw [e] at hu
  simpa using hu
/-- a row of the example's two dots. -/
structure Row2 (W : World) (g : Nat) : Prop where
  c0 : W.cell? ⟨g, 0, none⟩ = some (.int .u16 1)
  c1 : W.cell? ⟨g, 1, none⟩ = some (.int .u64 1)
  c2 : W.cell? ⟨g, 2, none⟩ = some (.int .u16 1)
  c3 : W.cell? ⟨g, 3, none⟩ = some (.int .u64 2)
theorem Row2.kept {W V : World} {g : Nat} (hb : Below W.heap.size W V) (h : Row2 W g) : Row2 V g := ⟨Ev.stays hb h.c0, Ev.stays hb h.c1, Ev.stays hb h.c2, Ev.stays hb h.c3⟩
theorem cutp {p q : Prop} (h : p) (g : p → q) : q := g h
/-- the comparison in the chapter's example, whenever it comes. -/
theorem works_same {w W : World} {g : Nat} {A : Option Addr} {n c : Nat} (hW : Below w.heap.size w W) (hr : Ev.DotsAt W W.heap.size A [(1, 1), (1, 2)] n c)
    (c0 : W.cell? ⟨g, 0, none⟩ = some (.int .u16 1)) (c1 : W.cell? ⟨g, 1, none⟩ = some (.int .u64 1)) (c2 : W.cell? ⟨g, 2, none⟩ = some (.int .u16 1)) (c3 : W.cell? ⟨g, 3, none⟩ = some (.int .u64 2)) :
    Calls Try.prog 8 #[.slice A n c, .slice (some ⟨g, 0, none⟩) 2 2] W fun e V => e = .returned (.bool true) ∧ Below w.heap.size w V := by
  have hk : Ev.DotsAt W W.heap.size (some ⟨g, 0, none⟩) [(1, 1), (1, 2)] 2 2 := by
    refine dots_row rfl (by decide) (fun r hr => ?_) (by decide) (fun k x hx => ?_)
    · simp only [List.mem_cons, List.not_mem_nil, or_false] at hr
      rcases hr with rfl | rfl <;> exact ⟨by decide, by decide⟩
    · have h2 : k = 0 ∨ k = 1 := by have := (List.getElem?_eq_some_iff.1 hx).1; simp at this; omega
      rcases h2 with rfl | rfl
      · cases hx; exact ⟨c0, c1⟩
      · cases hx; exact ⟨c2, c3⟩
  refine (Dt.rsame_any W W.heap.size W.heap.size A (some ⟨g, 0, none⟩) [(1, 1), (1, 2)] [(1, 1), (1, 2)] n 2 c 2 hr.len rfl hr.dots hk.dots (Nat.le_trans hr.wide (by decide))).mono ?_
  rintro e V ⟨rfl, m, rfl⟩
  exact ⟨by rw [decide_eq_true rfl], Ev.bel_drewN hW m⟩
/-- the example's list. -/
theorem works_list (w : World) : Ev.EventsAt ((((w.alloc (.cells #[.int .u16 1, .int .u64 1] 26)).alloc (.cells #[.int .u16 1, .int .u64 2] 26)).alloc (.cells #[.int .u16 1, .int .u64 1] 26)).alloc (.cells #[.int .u16 1, .int .u64 1, .int .u8 1, .int .u64 5, .int .u8 1, .string ⟨#[]⟩, .slice none 0 0, .int .u16 1, .int .u64 2, .int .u8 1, .int .u64 5, .int .u8 1, .string ⟨#[]⟩, .slice (some ⟨w.heap.size + 1 + 1, 0, none⟩) 1 1] 38)) ((((w.alloc (.cells #[.int .u16 1, .int .u64 1] 26)).alloc (.cells #[.int .u16 1, .int .u64 2] 26)).alloc (.cells #[.int .u16 1, .int .u64 1] 26)).alloc (.cells #[.int .u16 1, .int .u64 1, .int .u8 1, .int .u64 5, .int .u8 1, .string ⟨#[]⟩, .slice none 0 0, .int .u16 1, .int .u64 2, .int .u8 1, .int .u64 5, .int .u8 1, .string ⟨#[]⟩, .slice (some ⟨w.heap.size + 1 + 1, 0, none⟩) 1 1] 38)).heap.size (some ⟨w.heap.size + 1 + 1 + 1, 0, none⟩) [worksA, worksB] 2 2 ∧ Below w.heap.size w ((((w.alloc (.cells #[.int .u16 1, .int .u64 1] 26)).alloc (.cells #[.int .u16 1, .int .u64 2] 26)).alloc (.cells #[.int .u16 1, .int .u64 1] 26)).alloc (.cells #[.int .u16 1, .int .u64 1, .int .u8 1, .int .u64 5, .int .u8 1, .string ⟨#[]⟩, .slice none 0 0, .int .u16 1, .int .u64 2, .int .u8 1, .int .u64 5, .int .u8 1, .string ⟨#[]⟩, .slice (some ⟨w.heap.size + 1 + 1, 0, none⟩) 1 1] 38)) ∧ ((((w.alloc (.cells #[.int .u16 1, .int .u64 1] 26)).alloc (.cells #[.int .u16 1, .int .u64 2] 26)).alloc (.cells #[.int .u16 1, .int .u64 1] 26)).alloc (.cells #[.int .u16 1, .int .u64 1, .int .u8 1, .int .u64 5, .int .u8 1, .string ⟨#[]⟩, .slice none 0 0, .int .u16 1, .int .u64 2, .int .u8 1, .int .u64 5, .int .u8 1, .string ⟨#[]⟩, .slice (some ⟨w.heap.size + 1 + 1, 0, none⟩) 1 1] 38)).cell? ⟨w.heap.size, 0, none⟩ = some (.int .u16 1) ∧ ((((w.alloc (.cells #[.int .u16 1, .int .u64 1] 26)).alloc (.cells #[.int .u16 1, .int .u64 2] 26)).alloc (.cells #[.int .u16 1, .int .u64 1] 26)).alloc (.cells #[.int .u16 1, .int .u64 1, .int .u8 1, .int .u64 5, .int .u8 1, .string ⟨#[]⟩, .slice none 0 0, .int .u16 1, .int .u64 2, .int .u8 1, .int .u64 5, .int .u8 1, .string ⟨#[]⟩, .slice (some ⟨w.heap.size + 1 + 1, 0, none⟩) 1 1] 38)).cell? ⟨w.heap.size, 1, none⟩ = some (.int .u64 1) ∧ ((((w.alloc (.cells #[.int .u16 1, .int .u64 1] 26)).alloc (.cells #[.int .u16 1, .int .u64 2] 26)).alloc (.cells #[.int .u16 1, .int .u64 1] 26)).alloc (.cells #[.int .u16 1, .int .u64 1, .int .u8 1, .int .u64 5, .int .u8 1, .string ⟨#[]⟩, .slice none 0 0, .int .u16 1, .int .u64 2, .int .u8 1, .int .u64 5, .int .u8 1, .string ⟨#[]⟩, .slice (some ⟨w.heap.size + 1 + 1, 0, none⟩) 1 1] 38)).cell? ⟨w.heap.size + 1, 0, none⟩ = some (.int .u16 1) ∧ ((((w.alloc (.cells #[.int .u16 1, .int .u64 1] 26)).alloc (.cells #[.int .u16 1, .int .u64 2] 26)).alloc (.cells #[.int .u16 1, .int .u64 1] 26)).alloc (.cells #[.int .u16 1, .int .u64 1, .int .u8 1, .int .u64 5, .int .u8 1, .string ⟨#[]⟩, .slice none 0 0, .int .u16 1, .int .u64 2, .int .u8 1, .int .u64 5, .int .u8 1, .string ⟨#[]⟩, .slice (some ⟨w.heap.size + 1 + 1, 0, none⟩) 1 1] 38)).cell? ⟨w.heap.size + 1, 1, none⟩ = some (.int .u64 2) := by
  have hk : Ev.DotsAt ((((w.alloc (.cells #[.int .u16 1, .int .u64 1] 26)).alloc (.cells #[.int .u16 1, .int .u64 2] 26)).alloc (.cells #[.int .u16 1, .int .u64 1] 26)).alloc (.cells #[.int .u16 1, .int .u64 1, .int .u8 1, .int .u64 5, .int .u8 1, .string ⟨#[]⟩, .slice none 0 0, .int .u16 1, .int .u64 2, .int .u8 1, .int .u64 5, .int .u8 1, .string ⟨#[]⟩, .slice (some ⟨w.heap.size + 1 + 1, 0, none⟩) 1 1] 38)) ((((w.alloc (.cells #[.int .u16 1, .int .u64 1] 26)).alloc (.cells #[.int .u16 1, .int .u64 2] 26)).alloc (.cells #[.int .u16 1, .int .u64 1] 26)).alloc (.cells #[.int .u16 1, .int .u64 1, .int .u8 1, .int .u64 5, .int .u8 1, .string ⟨#[]⟩, .slice none 0 0, .int .u16 1, .int .u64 2, .int .u8 1, .int .u64 5, .int .u8 1, .string ⟨#[]⟩, .slice (some ⟨w.heap.size + 1 + 1, 0, none⟩) 1 1] 38)).heap.size (some ⟨w.heap.size + 1 + 1, 0, none⟩) [(1, 1)] 1 1 := by
    refine dots_row rfl (by decide) (fun r hr => ?_) (by decide) (fun k x hx => ?_)
    · simp only [List.mem_cons, List.not_mem_nil, or_false] at hr
      rcases hr with rfl
      exact ⟨by decide, by decide⟩
    · have h2 : k = 0 := by have := (List.getElem?_eq_some_iff.1 hx).1; simp at this; omega
      subst h2
      cases hx
      constructor <;> simp [go_sem]
  refine ⟨⟨rfl, (fun e => by cases e), Nat.le_refl _, by decide, by decide, [⟨1, 1, 1, 5, 1, ⟨#[]⟩, none, 0, 0⟩, ⟨1, 2, 1, 5, 1, ⟨#[]⟩, some ⟨w.heap.size + 1 + 1, 0, none⟩, 1, 1⟩], ?_, rfl, fun k q y hq hy => ?_⟩, ?_, ?_, ?_, ?_, ?_⟩
  · have h := two_row (((w.alloc (.cells #[.int .u16 1, .int .u64 1] 26)).alloc (.cells #[.int .u16 1, .int .u64 2] 26)).alloc (.cells #[.int .u16 1, .int .u64 1] 26)) ⟨1, 1, 1, 5, 1, ⟨#[]⟩, none, 0, 0⟩ ⟨1, 2, 1, 5, 1, ⟨#[]⟩, some ⟨w.heap.size + 1 + 1, 0, none⟩, 1, 1⟩ (Nat.lt_succ_self _)
    rw [show (((w.alloc (.cells #[.int .u16 1, .int .u64 1] 26)).alloc (.cells #[.int .u16 1, .int .u64 2] 26)).alloc (.cells #[.int .u16 1, .int .u64 1] 26)).heap.size = w.heap.size + 1 + 1 + 1 by simp] at h
    rw [show ((((w.alloc (.cells #[.int .u16 1, .int .u64 1] 26)).alloc (.cells #[.int .u16 1, .int .u64 2] 26)).alloc (.cells #[.int .u16 1, .int .u64 1] 26)).alloc (.cells #[.int .u16 1, .int .u64 1, .int .u8 1, .int .u64 5, .int .u8 1, .string ⟨#[]⟩, .slice none 0 0, .int .u16 1, .int .u64 2, .int .u8 1, .int .u64 5, .int .u8 1, .string ⟨#[]⟩, .slice (some ⟨w.heap.size + 1 + 1, 0, none⟩) 1 1] 38)).heap.size = w.heap.size + 1 + 1 + 1 + 1 by simp]
    exact h
  · have hf : Ev.Fits worksA ∧ Ev.Fits worksB := ⟨⟨⟨by decide, by decide⟩, by decide, by decide, by decide, by unfold Ev.Short; decide⟩, ⟨⟨by decide, by decide⟩, by decide, by decide, by decide, by unfold Ev.Short; decide⟩⟩
    have h2 : k = 0 ∨ k = 1 := by have := (List.getElem?_eq_some_iff.1 hq).1; simp at this; omega
    rcases h2 with rfl | rfl
    · cases hq; cases hy
      exact ⟨rfl, rfl, rfl, rfl, rfl, rfl, hf.1, Ev.DotsAt.none_ _ _⟩
    · cases hq; cases hy
      exact ⟨rfl, rfl, rfl, rfl, rfl, rfl, hf.2, hk⟩
  · exact Ev.bel_alloc _ (Ev.bel_alloc _ (Ev.bel_alloc _ (Ev.bel_alloc _ (Below.refl _ _))))
  · simp [go_sem]
  · simp [go_sem]
  · simp [go_sem]
  · simp [go_sem]

set_option maxHeartbeats 8000000 in
/-- the chapter's example. -/
theorem works_any (P : PKl) (w : World) : Calls Try.prog 7 #[] w fun e w' => e = .returned (.bool true) ∧ Below w.heap.size w w' := by
  obtain ⟨hl, hb, k1, k2, k3, k4⟩ := works_list w
  have HL := Lib.hid hl
  have HB := Lib.hid hb
  clear hl hb
  go_enter Try.func7, Try.ntmps7
  go_upto_region 3 with fail
  generalize (((w.alloc (.cells #[.int .u16 1, .int .u64 1] 26)).alloc (.cells #[.int .u16 1, .int .u64 2] 26)).alloc (.cells #[.int .u16 1, .int .u64 1] 26)).alloc (.cells #[.int .u16 1, .int .u64 1, .int .u8 1, .int .u64 5, .int .u8 1, .string ⟨#[]⟩, .slice none 0 0, .int .u16 1, .int .u64 2, .int .u8 1, .int .u64 5, .int .u8 1, .string ⟨#[]⟩, .slice (some ⟨w.heap.size + 1 + 1, 0, none⟩) 1 1] 38) = w4 at *
  have CL := P.live w4 _ _ 2 2 HL.out (by decide) (fun x hx => by
    simp only [List.mem_cons, List.not_mem_nil, or_false] at hx
    rcases hx with rfl | rfl <;> decide)
  rw [works_live] at CL
  clear HL
  go_wp2_with fail
  refine CL.mono ?_
  rintro e w5 ⟨A, n, c, rfl, hx, hb5⟩
  obtain rfl : n = 1 := by have := hx.len; simpa using this.symm
  have HB5 := Lib.hid (HB.out.trans (hb5.mono HB.out.size))
  have HX := Lib.hid hx
  have j1 := Ev.stays hb5 k1
  have j2 := Ev.stays hb5 k2
  have j3 := Ev.stays hb5 k3
  have j4 := Ev.stays hb5 k4
  obtain ⟨ad, q, y, rfl, hB, hy, hq, cq⟩ := HX.out.at_ (k := 0) (by decide)
  obtain rfl : worksB = y := by simpa using hy
  have q1 : (q.dev : Int) = 1 := by rw [hq.dev]; rfl
  have q2 : (q.num : Int) = 2 := by rw [hq.num]; rfl
  have had : ad.add (0 * 7) = ad := by rw [Nat.zero_mul]; rfl
  have c0 := cq.c0
  have c1 := cq.c1
  rw [q1, had] at c0
  rw [q2, had] at c1
  have HK : Hid (∀ V, Below w5.heap.size w5 V → V.cell? ad = some (.int .u16 1) ∧ V.cell? ⟨ad.block, ad.off + 1, none⟩ = some (.int .u64 2) ∧ V.cell? ⟨w.heap.size, 0, none⟩ = some (.int .u16 1) ∧ V.cell? ⟨w.heap.size, 1, none⟩ = some (.int .u64 1) ∧ V.cell? ⟨w.heap.size + 1, 0, none⟩ = some (.int .u16 1) ∧ V.cell? ⟨w.heap.size + 1, 1, none⟩ = some (.int .u64 2)) := Lib.hid (fun V hV => ⟨Ev.stays hV c0, Ev.stays hV c1, Ev.stays hV j1, Ev.stays hV j2, Ev.stays hV j3, Ev.stays hV j4⟩)
  have LE : ∀ W, Below w5.heap.size w5 W → Calls Try.prog 9 #[.slice (some ad) 1 c, .int .u64 5, .int .u8 1] W fun e V => ∃ A n c, e = .returned (.slice A n c) ∧ Ev.DotsAt V V.heap.size A [(1, 1), (1, 2)] n c ∧ Below w5.heap.size w5 V ∧ Below W.heap.size W V := fun W hW => by
    refine (P.edit W (some ad) [worksB] 1 c 5 1 (HX.out.up hW) (by decide) (fun x hx => by
      simp only [List.mem_cons, List.not_mem_nil, or_false] at hx
      subst hx; decide) (by decide) (by decide)).mono ?_
    rintro e V ⟨A, n, c, rfl, h1, h3⟩
    rw [works_dots] at h1
    exact ⟨A, n, c, rfl, h1, hW.trans (h3.mono hW.size), h3⟩
  have LS := fun W g A n c (hW : Below w5.heap.size w5 W) (hr : Ev.DotsAt W W.heap.size A [(1, 1), (1, 2)] n c) => @works_same w5 W g A n c hW hr
  have HS5 := HB5.out.size
  clear k1 k2 k3 k4 hx hb5 CL hq cq hy q1 q2 had c0 c1 j1 j2 j3 j4 HX
  generalize hb2 : w.heap.size + 1 = b2 at *
  generalize hb1 : w.heap.size = b1 at *
  clear hb2
  obtain ⟨c0, c1, j1, j2, j3, j4⟩ := HK.out w5 (Below.refl _ _)
  go_wp2_with fail
  go_region_held3 (fun V => V.cell? ad = some (.int .u16 1) ∧ V.cell? ⟨ad.block, ad.off + 1, none⟩ = some (.int .u64 2) ∧ V.cell? ⟨b1, 0, none⟩ = some (.int .u16 1) ∧ V.cell? ⟨b1, 1, none⟩ = some (.int .u64 1) ∧ V.cell? ⟨b2, 0, none⟩ = some (.int .u16 1) ∧ V.cell? ⟨b2, 1, none⟩ = some (.int .u64 2)) (first | assumption | ((with_reducible refine HK.out _ ?_); (repeat (first | (with_reducible exact Below.refl _ _) | (with_reducible assumption) | (with_reducible apply Ev.bel_drew) | (with_reducible apply Ev.bel_alloc))); done) | go_keep) (first
    | (go_at_call 9; (with_reducible refine (LE _ ?_).mono ?_); (repeat (first | exact Below.refl _ _ | assumption | apply Ev.bel_drew | apply Ev.bel_alloc)); rintro e V ⟨A, n, c, rfl, hr, bv, bw⟩; have hcV := HK.out V bv; (try ((refine cutp (p := Row2 V (w5.heap.size)) ?_ (fun za => ?_)); (focus ((with_reducible refine Row2.kept bw ?_); (refine ⟨?_, ?_, ?_, ?_⟩ <;> (simp [go_sem]; done)))); obtain ⟨za0, za1, za2, za3⟩ := za)))
    | (go_at_call 8; ((with_reducible refine (LS _ _ _ _ _ ?_ ?_ ?_ ?_ ?_ ?_).mono ?_) <;> first | ((show Below _ _ _); (repeat (first | (with_reducible exact Below.refl _ _) | (with_reducible assumption) | (with_reducible apply Ev.bel_drew) | (with_reducible apply Ev.bel_alloc))); done) | ((show Ev.DotsAt _ _ _ _ _ _); (with_reducible refine hr.up ?_); (repeat (first | (with_reducible exact Below.refl _ _) | (with_reducible assumption) | (with_reducible apply Ev.bel_drew) | (with_reducible apply Ev.bel_alloc))); done) | ((show World.cell? _ _ = some _); first | (with_reducible assumption) | (simp [go_sem]; done)) | skip); rintro e V2 ⟨rfl, bv2⟩; have hcV2 := HK.out V2 bv2))
  all_goals
    go_wp2
    go_ret
    exact ⟨rfl, by rw [hb1]; exact HB5.out.trans (bv2.mono HS5)⟩
end Go.Proofs.Ytmebokpgiehgmaa.Kl
