/- Words and contracts that the proofs of this seat stand on, part 8 of 22. -/
import Derived.Test.YtmebokpgiehgmaaGreatMgF
import Derived.Test.YtmebokpgiehgmaaGreatMgE
import Derived.Shelf.SlSortCmp.QuietGrown
import Derived.Deep.RegionHeld3

/- The contract of the document's Of of layer vec. For every list of dots. -/
namespace Go.Proofs.YtmebokpgiehgmaaGreat.Dt
open Go.ChangeShapes Go.WideShapes Go.ChangeAt Go.RowKit
set_option linter.unusedVariables false

theorem below_grow (V : World) (n : Nat) (os : Array Obj) : Below V.heap.size V (Sort.grow (V.drewN n) os) :=
  ⟨rfl, rfl, rfl, by show V.heap.size ≤ (V.heap ++ os).size; simp, fun i hi => by show (V.heap ++ os)[i]? = V.heap[i]?; exact Array.getElem?_append_left hi⟩
theorem rgood_g (W : World) (d : Dot) (b : Bool) (hb : mayD d = b) :
    Calls Tryz.prog 40 #[.agg #[.int .u16 (d.1 : Int), .int .u64 (d.2 : Int)]] W fun e w' => e = .returned (.bool b) ∧ ∃ q os', w' = Sort.grow (W.drewN q) os' :=
  (rgood_any W d.1 d.2).mono fun _ _ ⟨h1, h2⟩ => ⟨by rw [h1, ← hb], 0, _, h2.trans (Sort.alloc_eq_grow _ _)⟩
theorem of_next {l : List Dot} {k : Nat} {x : Dot} (d : Nat) (h : l[k]? = some x) : ofV (l.take (k + 1)) d = stepV d (ofV (l.take k) d) x := by
  unfold ofV
  rw [take_next h, List.foldl_append]; rfl
end Go.Proofs.YtmebokpgiehgmaaGreat.Dt

/- The contract of the document's devs of layer vec: the devices of which two vectors tell, as dots of number one, in order. For every two lists of together at most 2^42 dots. -/
namespace Go.Proofs.YtmebokpgiehgmaaGreat.Dt
open Go.ChangeShapes Go.WideShapes Go.ChangeAt Go.RowKit
set_option linter.unusedVariables false

/-- a new list without a dot. -/
theorem own_new (w : World) : (w.alloc (.cells #[] 28)).ownsRow w.heap.size 28 2 (.slice (some ⟨w.heap.size, 0, none⟩) 0 0) 0 (dv []) := World.ownsRow_lit w #[] 0 (Nat.le_refl _) (by simp [maxLen]) rfl
/-- one device more. -/
def stepE (o : List Dot) (x : Dot) : List Dot := if mayD x = true then putD o (x.1, 1) else o
def devsD (a b : List Dot) : List Dot := (a ++ b).foldl stepE []
theorem devs_next {l : List Dot} {k : Nat} {x : Dot} (h : l[k]? = some x) : (l.take (k + 1)).foldl stepE [] = stepE ((l.take k).foldl stepE []) x := by
  rw [take_next h, List.foldl_append]; rfl
theorem devs_fit (l : List Dot) (h : Fit l) (k : Nat) : Fit ((l.take k).foldl stepE []) ∧ ((l.take k).foldl stepE []).length ≤ k := by
  induction k with
  | zero => exact ⟨fun r hr => (by cases hr), Nat.le_refl _⟩
  | succ k ih =>
    by_cases hk : k < l.length
    · have hg := List.getElem?_eq_getElem hk
      rw [devs_next hg]
      generalize (l.take k).foldl stepE [] = o at ih ⊢
      by_cases hm : mayD l[k] = true
      · rw [show stepE o l[k] = putD o (l[k].1, 1) from if_pos hm]
        exact ⟨fit_put ih.1 ⟨(h _ (List.getElem_mem hk)).1, by simp⟩, Nat.le_trans (put_length _ _) (by omega)⟩
      · rw [show stepE o l[k] = o from if_neg hm]
        exact ⟨ih.1, by omega⟩
    · have e : l.take (k + 1) = l.take k := by rw [List.take_of_length_le (by omega), List.take_of_length_le (by omega)]
      rw [e]
      exact ⟨ih.1, by omega⟩
end Go.Proofs.YtmebokpgiehgmaaGreat.Dt

/- What the document's devs of layer vec comes to: plain arithmetic. -/
namespace Go.Proofs.YtmebokpgiehgmaaGreat.Dt
open Go.ChangeShapes Go.WideShapes Go.ChangeAt Go.RowKit
set_option linter.unusedVariables false

/-- of which devices two vectors tell: nought or one. -/
def anyV (a b : List Dot) (d : Nat) : Nat := min 1 (max (ofV a d) (ofV b d))
theorem tells_any {a b : List Dot} (ha : Fit a) (hb : Fit b) : Tells (anyV a b) := by
  obtain ⟨h1, h2, h3⟩ := tells_join ha hb
  refine ⟨?_, fun d hd => ?_, fun d => ?_⟩
  · simp only at h1; unfold anyV; rw [h1]; rfl
  · have := h2 d hd; simp only at this; unfold anyV; rw [this]; rfl
  · unfold anyV; omega
theorem rise_up {l : List Dot} (h : l.Pairwise (fun a b => a.1 < b.1)) : Ord l := h.imp (fun {a b} h => (ahead_iff a b).2 (.inl h))
theorem devs_from (l o : List Dot) (ho : Ord o) : Ord (l.foldl stepE o) ∧ ∀ x : Dot, x ∈ l.foldl stepE o ↔ x ∈ o ∨ (x.2 = 1 ∧ ∃ y ∈ l, mayD y = true ∧ y.1 = x.1) := by
  induction l generalizing o with
  | nil => exact ⟨ho, fun x => by simp⟩
  | cons d l ih =>
    rw [List.foldl_cons]
    by_cases hm : mayD d = true
    · rw [show stepE o d = putD o (d.1, 1) from if_pos hm]
      obtain ⟨h1, h2⟩ := ih (putD o (d.1, 1)) (put_ord _ ho)
      refine ⟨h1, fun x => ?_⟩
      rw [h2, put_mem]
      constructor
      · rintro ((rfl | h) | ⟨h, y, hy, h3⟩)
        · exact .inr ⟨rfl, d, List.mem_cons_self .., hm, rfl⟩
        · exact .inl h
        · exact .inr ⟨h, y, List.mem_cons_of_mem _ hy, h3⟩
      · rintro (h | ⟨h, y, hy, h3, h4⟩)
        · exact .inl (.inr h)
        · rcases List.mem_cons.1 hy with rfl | hy
          · exact .inl (.inl (Prod.ext h4.symm h))
          · exact .inr ⟨h, y, hy, h3, h4⟩
    · rw [show stepE o d = o from if_neg hm]
      obtain ⟨h1, h2⟩ := ih o ho
      refine ⟨h1, fun x => ?_⟩
      rw [h2]
      constructor
      · rintro (h | ⟨h, y, hy, h3⟩)
        · exact .inl h
        · exact .inr ⟨h, y, List.mem_cons_of_mem _ hy, h3⟩
      · rintro (h | ⟨h, y, hy, h3, h4⟩)
        · exact .inl h
        · rcases List.mem_cons.1 hy with rfl | hy
          · exact absurd h3 hm
          · exact .inr ⟨h, y, hy, h3, h4⟩
theorem told_iff (l : List Dot) (d : Nat) : 0 < ofV l d ↔ ∃ y ∈ l, mayD y = true ∧ y.1 = d := by
  constructor
  · intro h
    obtain ⟨h1, h2⟩ := of_in l d h
    exact ⟨_, h1, h2, rfl⟩
  · rintro ⟨y, hy, hm, rfl⟩
    have h1 := of_most l y hy hm
    have h2 := (may_iff y).1 hm
    omega
theorem devs_eq {a b : List Dot} (ha : Fit a) (hb : Fit b) : devsD a b = listV (anyV a b) := by
  obtain ⟨h1, h2⟩ := devs_from (a ++ b) [] List.Pairwise.nil
  refine ord_uniq h1 (rise_up (list_rise _)) fun x => ?_
  refine (h2 x).trans ?_
  rw [list_mem (tells_any ha hb), ← told_iff, of_append]
  unfold anyV
  simp only [List.not_mem_nil, false_or]
  omega
theorem pick_list {h f : Nat → Nat} (hf : ∀ d, 0 < f d → 0 < h d) : (listV h).filterMap (fun x => oneV f x.1) = listV f := by
  unfold listV
  rw [List.filterMap_filterMap]
  congr 1
  funext d
  unfold oneV
  by_cases h1 : 0 < h d
  · rw [if_pos h1]; rfl
  · rw [if_neg h1, if_neg (fun h2 => h1 (hf d h2))]; rfl
theorem all_list {h : Nat → Nat} {p : Nat → Bool} (hp : ∀ d, p d = false → 0 < h d) : (listV h).all (fun x => p x.1) = (List.range topV).all p := by
  unfold listV
  generalize List.range topV = l
  induction l with
  | nil => rfl
  | cons d l ih =>
    rw [List.filterMap_cons, List.all_cons, ← ih]
    unfold oneV
    by_cases h1 : 0 < h d
    · rw [if_pos h1]; rfl
    · rw [if_neg h1]
      cases h2 : p d with
      | true => rfl
      | false => exact absurd (hp d h2) h1
theorem sum_list {h f : Nat → Nat} (hf : ∀ d, 0 < f d → 0 < h d) : ((listV h).map (fun x => f x.1)).sum = ((List.range topV).map f).sum := by
  unfold listV
  generalize List.range topV = l
  induction l with
  | nil => rfl
  | cons d l ih =>
    rw [List.filterMap_cons, List.map_cons, List.sum_cons, ← ih]
    unfold oneV
    by_cases h1 : 0 < h d
    · rw [if_pos h1]; rfl
    · rw [if_neg h1]
      have : f d = 0 := by
        rcases Nat.eq_zero_or_pos (f d) with h2 | h2
        · exact h2
        · exact absurd (hf d h2) h1
      rw [this, Nat.zero_add]
/-- the greater one of each, or the lesser one. -/
def oneOf (g : Bool) (x y : Nat) : Nat := if g = true then max x y else min x y
def bothV (g : Bool) (a b : List Dot) : List Dot := listV (fun d => oneOf g (ofV a d) (ofV b d))
theorem both_join (a b : List Dot) : bothV true a b = joinV a b := rfl
theorem both_meet (a b : List Dot) : bothV false a b = meetV a b := rfl
theorem both_norm (a : List Dot) : bothV true a [] = normV a := by
  unfold bothV normV oneOf
  congr 1
  funext d
  rw [if_pos rfl, of_nil]
  exact Nat.max_zero _
theorem both_some {g : Bool} {a b : List Dot} (d : Nat) (h : 0 < oneOf g (ofV a d) (ofV b d)) : 0 < anyV a b d := by
  unfold oneOf at h
  unfold anyV
  split at h <;> omega
theorem both_fit {g : Bool} {a b : List Dot} (ha : Fit a) (hb : Fit b) : Fit (bothV g a b) := by
  cases g with
  | true => exact fit_join ha hb
  | false => exact fit_meet ha hb
end Go.Proofs.YtmebokpgiehgmaaGreat.Dt

/- The contracts of the document's both, Join, Meet and Norm of layer vec. For every two lists of together at most 2^42 dots. -/
namespace Go.Proofs.YtmebokpgiehgmaaGreat.Dt
open Go.ChangeShapes Go.WideShapes Go.ChangeAt Go.RowKit
set_option linter.unusedVariables false

theorem both_next {g : Bool} {a b l : List Dot} {k : Nat} {x : Dot} (h : l[k]? = some x) : (l.take (k + 1)).filterMap (fun x => oneV (fun d => oneOf g (ofV a d) (ofV b d)) x.1) = (l.take k).filterMap (fun x => oneV (fun d => oneOf g (ofV a d) (ofV b d)) x.1) ++ (if 0 < oneOf g (ofV a x.1) (ofV b x.1) then [(x.1, oneOf g (ofV a x.1) (ofV b x.1))] else []) := by
  rw [take_next h, List.filterMap_append]
  congr 1
  by_cases h1 : 0 < oneOf g (ofV a x.1) (ofV b x.1)
  · rw [if_pos h1, List.filterMap_cons, show oneV (fun d => oneOf g (ofV a d) (ofV b d)) x.1 = some (x.1, oneOf g (ofV a x.1) (ofV b x.1)) from if_pos h1]; rfl
  · rw [if_neg h1, List.filterMap_cons, show oneV (fun d => oneOf g (ofV a d) (ofV b d)) x.1 = none from if_neg h1]; rfl
end Go.Proofs.YtmebokpgiehgmaaGreat.Dt

/- The contracts of the document's Norm of layer vec. For every two lists of together at most 2^42 dots. -/
namespace Go.Proofs.YtmebokpgiehgmaaGreat.Dt
open Go.ChangeShapes Go.WideShapes Go.ChangeAt Go.RowKit
set_option linter.unusedVariables false

end Go.Proofs.YtmebokpgiehgmaaGreat.Dt

/- Words for the claims of layer ctx: slices of parts in memory, each with a slice of runs. -/
namespace Go.Proofs.YtmebokpgiehgmaaGreat.Cx
open Go.ChangeShapes Go.WideShapes Go.ChangeAt Go.RowKit
set_option linter.unusedVariables false

/-- a part as it stands in memory: its device, and where its runs lie. -/
structure PV where
  dev : Nat
  adr : Option Addr
  len : Nat
  cap : Nat
def cv (ps : List PV) : List Value := ps.flatMap fun p => [.int .u16 (p.dev : Int), .slice p.adr p.len p.cap]
theorem cv_nil : cv [] = [] := rfl
theorem cv_append (l m : List PV) : cv (l ++ m) = cv l ++ cv m := by unfold cv; rw [List.flatMap_append]
theorem cv_length (l : List PV) : (cv l).length = l.length * 2 := by
  induction l with
  | nil => rfl
  | cons r l ih => simp only [cv, List.flatMap_cons, List.length_append, List.length_cons, List.length_nil] at ih ⊢; omega
theorem cv_get {l : List PV} {k : Nat} {r : PV} (h : l[k]? = some r) : (cv l)[k * 2]? = some (.int .u16 (r.dev : Int)) ∧ (cv l)[k * 2 + 1]? = some (.slice r.adr r.len r.cap) := by
  induction l generalizing k with
  | nil => simp at h
  | cons x l ih =>
    cases k with
    | zero => obtain rfl : x = r := by simpa using h
              exact ⟨rfl, rfl⟩
    | succ k =>
      have h2 := ih (k := k) (by simpa using h)
      have e : cv (x :: l) = .int .u16 (x.dev : Int) :: .slice x.adr x.len x.cap :: cv l := rfl
      have e1 : (k + 1) * 2 = k * 2 + 2 := by omega
      rw [e, e1]
      exact ⟨by simpa using h2.1, by simpa using h2.2⟩
theorem cv_one (l : List PV) : ∀ u ∈ cv l, u.oneCell' = true := by
  intro u hu
  obtain ⟨r, _, h⟩ := List.mem_flatMap.1 hu
  simp only [List.mem_cons, List.not_mem_nil, or_false] at h
  rcases h with rfl | rfl <;> rfl
/-- this part in memory is that part. -/
structure PartIs (w : World) (B : Nat) (p : PV) (x : Part) : Prop where
  dev : p.dev = x.1
  fit : x.1 < 65536
  len : x.2.length = p.len
  nil : p.adr = none → p.len = 0 ∧ p.cap = 0
  cap : p.len ≤ p.cap
  max : p.cap ≤ 9223372036854775807
  runs : Ru.Runs w B p.adr x.2
theorem PartIs.up {w W : World} {p : PV} {x : Part} (h : PartIs w w.heap.size p x) (hW : Below w.heap.size w W) : PartIs W W.heap.size p x := ⟨h.dev, h.fit, h.len, h.nil, h.cap, h.max, h.runs.up hW⟩
/-- parts in memory, one for each part. -/
def Match (w : World) (ps : List PV) (c : List Part) : Prop := ps.length = c.length ∧ ∀ (k : Nat) (p : PV) (x : Part), ps[k]? = some p → c[k]? = some x → PartIs w w.heap.size p x
theorem Match.up {w W : World} {ps : List PV} {c : List Part} (h : Match w ps c) (hW : Below w.heap.size w W) : Match W ps c := ⟨h.1, fun k p x hp hx => (h.2 k p x hp hx).up hW⟩
theorem Match.nil_ (w : World) : Match w [] [] := ⟨rfl, fun k p x hp => by simp at hp⟩
theorem Match.snoc {w : World} {ps : List PV} {c : List Part} {p : PV} {x : Part} (h : Match w ps c) (hp : PartIs w w.heap.size p x) : Match w (ps ++ [p]) (c ++ [x]) := by
  refine ⟨by simp [h.1], fun k q y hq hy => ?_⟩
  rcases Nat.lt_or_ge k ps.length with hk | hk
  · rw [List.getElem?_append_left hk] at hq
    rw [List.getElem?_append_left (by rw [← h.1]; exact hk)] at hy
    exact h.2 k q y hq hy
  · rw [List.getElem?_append_right hk] at hq
    rw [List.getElem?_append_right (by rw [← h.1]; exact hk)] at hy
    have hk2 : k - ps.length = 0 := by
      rcases Nat.eq_zero_or_pos (k - ps.length) with h0 | h0
      · exact h0
      · rw [List.getElem?_eq_none (by simp; omega)] at hq; cases hq
    rw [hk2] at hq
    rw [← h.1, hk2] at hy
    simp at hq hy
    subst hq hy
    exact hp
theorem Match.fit {w : World} {ps : List PV} {c : List Part} (h : Match w ps c) : FitC c := fun x hx => by
  obtain ⟨k, hk, rfl⟩ := List.getElem_of_mem hx
  have hk2 : k < ps.length := by rw [h.1]; exact hk
  have hp := h.2 k ps[k] c[k] (List.getElem?_eq_getElem hk2) (List.getElem?_eq_getElem hk)
  exact ⟨hp.fit, hp.runs.1⟩
/-- a slice of the address A that holds this context. -/
structure CtxAt (w : World) (A : Option Addr) (c : List Part) (n cp : Nat) : Prop where
  len : c.length = n
  nil : A = none → n = 0 ∧ cp = 0
  cap : n ≤ cp
  max : cp ≤ 9223372036854775807
  parts : ∃ ps, Dt.Lies w w.heap.size A (cv ps) ∧ Match w ps c
theorem CtxAt.up {w W : World} {A : Option Addr} {c : List Part} {n cp : Nat} (h : CtxAt w A c n cp) (hW : Below w.heap.size w W) : CtxAt W A c n cp := by
  obtain ⟨ps, h1, h2⟩ := h.parts
  exact ⟨h.len, h.nil, h.cap, h.max, ps, (h1.below hW).more hW.size, h2.up hW⟩
theorem CtxAt.fit {w : World} {A : Option Addr} {c : List Part} {n cp : Nat} (h : CtxAt w A c n cp) : FitC c := by
  obtain ⟨ps, _, h2⟩ := h.parts
  exact h2.fit
theorem CtxAt.none_ (w : World) : CtxAt w none [] 0 0 := ⟨rfl, fun _ => ⟨rfl, rfl⟩, Nat.le_refl _, by decide, [], Dt.Lies.none_ _ _ _, Match.nil_ _⟩
/-- what stands at a place. -/
theorem CtxAt.cells {w : World} {A : Option Addr} {c : List Part} {n cp : Nat} (h : CtxAt w A c n cp) {k : Nat} (hk : k < n) :
    ∃ (ad : Addr) (p : PV) (x : Part), A = some ad ∧ ad.block < w.heap.size ∧ c[k]? = some x ∧ PartIs w w.heap.size p x ∧
      ∀ V, Below w.heap.size w V → V.cell? (ad.add (k * 2)) = some (.int .u16 (x.1 : Int)) ∧ V.cell? ⟨(ad.add (k * 2)).block, (ad.add (k * 2)).off + 1, none⟩ = some (.slice p.adr p.len p.cap) := by
  obtain ⟨ps, h1, h2⟩ := h.parts
  have hkc : k < c.length := by rw [h.len]; exact hk
  have hkp : k < ps.length := by rw [h2.1]; exact hkc
  have hx := List.getElem?_eq_getElem hkc
  have hp := List.getElem?_eq_getElem hkp
  have hpi := h2.2 k _ _ hp hx
  obtain ⟨ad, e, hB, hc⟩ := h1 (by rw [cv_length]; omega)
  obtain ⟨g1, g2⟩ := cv_get hp
  refine ⟨ad, ps[k], c[k], e, hB, hx, hpi, fun V hV => ⟨?_, ?_⟩⟩
  · rw [← hpi.dev]
    exact (hV.cell (by rw [Dt.block_add]; exact hB)).trans (hc _ _ g1)
  · rw [Dt.add_next]
    exact (hV.cell (by rw [Dt.block_add]; exact hB)).trans (hc _ _ g2)
theorem part_info : (Tryz.prog.info? 44).map (fun i => (i.zero, i.size, i.bytes)) = some (some (.agg #[.int .u16 0, .slice none 0 0]), 2, 32) := by kernel_rfl
/-- a context comes out. -/
def CtxPost (w : World) (m : List Part) (e : Ending) (w' : World) : Prop := ∃ A n cp ps, e = .returned (.slice A n cp) ∧ m.length = n ∧ w'.ownsRow w.heap.size 44 2 (.slice A n cp) n (cv ps) ∧ Match w' ps m ∧ Below w.heap.size w w'
theorem post_ctx {w w' : World} {m : List Part} {e : Ending} (h : CtxPost w m e w') : ∃ A n cp, e = .returned (.slice A n cp) ∧ CtxAt w' A m n cp ∧ Below w.heap.size w w' := by
  obtain ⟨A, n, cp, ps, rfl, hn, ho, hm, hb⟩ := h
  obtain ⟨h1, h2, h3⟩ := Dt.own_len ho
  exact ⟨A, n, cp, rfl, ⟨hn, h3, h1, h2, ps, Dt.lies_any (by decide) ho, hm⟩, hb⟩
/-- few parts, and few runs in all. -/
def Small (c : List Part) : Prop := c.length ≤ 1000 ∧ (c.map (fun x => x.2.length)).sum ≤ 10000
theorem small_sum {c : List Part} (h : ∀ x ∈ c, x.2.length ≤ 100) : (c.map (fun x => x.2.length)).sum ≤ c.length * 100 := by
  induction c with
  | nil => simp
  | cons x c ih =>
    have h1 := h x (List.mem_cons_self ..)
    have h2 := ih (fun y hy => h y (List.mem_cons_of_mem _ hy))
    rw [List.map_cons, List.sum_cons, List.length_cons]
    omega
theorem small_each {c : List Part} (h : c.length ≤ 100) (h2 : ∀ x ∈ c, x.2.length ≤ 100) : Small c := by
  have h3 := small_sum h2
  exact ⟨by omega, by omega⟩
theorem small_one {c : List Part} (h : Small c) {x : Part} (hx : x ∈ c) : x.2.length ≤ 10000 := by
  have h2 : ∀ c : List Part, x ∈ c → x.2.length ≤ (c.map (fun x => x.2.length)).sum := by
    intro c
    induction c with
    | nil => intro h; cases h
    | cons y c ih =>
      intro h
      rw [List.map_cons, List.sum_cons]
      rcases List.mem_cons.1 h with e | h
      · rw [← e]; exact Nat.le_add_right _ _
      · have := ih h; omega
  exact Nat.le_trans (h2 c hx) h.2
theorem small_runs {c : List Part} (h : Small c) (d : Nat) : (runsC c d).length ≤ 10000 := Nat.le_trans (runs_length c d) h.2
theorem sum_take (c : List Part) (k : Nat) : ((c.take k).map (fun x => x.2.length)).sum ≤ (c.map (fun x => x.2.length)).sum := by
  have h : (c.map (fun x => x.2.length)).sum = ((c.take k).map (fun x => x.2.length)).sum + ((c.drop k).map (fun x => x.2.length)).sum := by
    rw [← List.sum_append, ← List.map_append, List.take_append_drop]
  omega
theorem small_take {c : List Part} (h : Small c) (k : Nat) : Small (c.take k) := ⟨by rw [List.length_take]; have := h.1; omega, Nat.le_trans (sum_take c k) h.2⟩
end Go.Proofs.YtmebokpgiehgmaaGreat.Cx

/- The contract of the document's devs of layer ctx, and what comes of them. -/
namespace Go.Proofs.YtmebokpgiehgmaaGreat.Cx
open Go.ChangeShapes Go.WideShapes Go.ChangeAt Go.RowKit
set_option linter.unusedVariables false

def stepP (o : List Dot) (x : Part) : List Dot := Dt.putD o (x.1, 1)
def devsC (a b : List Part) : List Dot := b.foldl stepP (a.foldl stepP [])
theorem step_next {c : List Part} {k : Nat} {x : Part} (o : List Dot) (h : c[k]? = some x) : (c.take (k + 1)).foldl stepP o = stepP ((c.take k).foldl stepP o) x := by
  rw [List.take_add_one, h, List.foldl_append]; rfl
theorem step_fit (c : List Part) (hc : FitC c) (o : List Dot) (ho : Dt.Fit o) (k : Nat) : Dt.Fit ((c.take k).foldl stepP o) ∧ ((c.take k).foldl stepP o).length ≤ o.length + k := by
  induction k with
  | zero => exact ⟨ho, Nat.le_refl _⟩
  | succ k ih =>
    by_cases hk : k < c.length
    · have hg := List.getElem?_eq_getElem hk
      rw [step_next o hg]
      exact ⟨Dt.fit_put ih.1 ⟨(hc _ (List.getElem_mem hk)).1, by simp⟩, Nat.le_trans (Dt.put_length _ _) (by omega)⟩
    · have e : c.take (k + 1) = c.take k := by rw [List.take_of_length_le (by omega), List.take_of_length_le (by omega)]
      rw [e]
      exact ⟨ih.1, by omega⟩
theorem step_from (c : List Part) (o : List Dot) (ho : Dt.Ord o) : Dt.Ord (c.foldl stepP o) ∧ ∀ x : Dot, x ∈ c.foldl stepP o ↔ x ∈ o ∨ (x.2 = 1 ∧ ∃ y ∈ c, y.1 = x.1) := by
  induction c generalizing o with
  | nil => exact ⟨ho, fun x => by simp⟩
  | cons d l ih =>
    rw [List.foldl_cons]
    obtain ⟨h1, h2⟩ := ih (stepP o d) (Dt.put_ord _ ho)
    refine ⟨h1, fun x => ?_⟩
    rw [h2, show stepP o d = Dt.putD o (d.1, 1) from rfl, Dt.put_mem]
    constructor
    · rintro ((rfl | h) | ⟨h, y, hy, h3⟩)
      · exact .inr ⟨rfl, d, List.mem_cons_self .., rfl⟩
      · exact .inl h
      · exact .inr ⟨h, y, List.mem_cons_of_mem _ hy, h3⟩
    · rintro (h | ⟨h, y, hy, h3⟩)
      · exact .inl (.inr h)
      · rcases List.mem_cons.1 hy with rfl | hy
        · exact .inl (.inl (Prod.ext h3.symm h))
        · exact .inr ⟨h, y, hy, h3⟩
theorem devs_spec (a b : List Part) : Dt.Ord (devsC a b) ∧ ∀ x : Dot, x ∈ devsC a b ↔ x.2 = 1 ∧ ((∃ y ∈ a, y.1 = x.1) ∨ ∃ y ∈ b, y.1 = x.1) := by
  obtain ⟨h1, h2⟩ := step_from a [] List.Pairwise.nil
  obtain ⟨h3, h4⟩ := step_from b _ h1
  refine ⟨h3, fun x => ?_⟩
  unfold devsC
  rw [h4, h2]
  simp only [List.not_mem_nil, false_or]
  constructor
  · rintro (⟨h, h5⟩ | ⟨h, h5⟩)
    · exact ⟨h, .inl h5⟩
    · exact ⟨h, .inr h5⟩
  · rintro ⟨h, h5 | h5⟩
    · exact .inl ⟨h, h5⟩
    · exact .inr ⟨h, h5⟩
/-- lists that rise by a number, with the same members, are the same. -/
theorem rise_uniq {α : Type} (f : α → Nat) {l m : List α} (hl : l.Pairwise (fun a b => f a < f b)) (hm : m.Pairwise (fun a b => f a < f b)) (h : ∀ x, x ∈ l ↔ x ∈ m) : l = m := by
  induction l generalizing m with
  | nil =>
    cases m with
    | nil => rfl
    | cons b m => exact absurd ((h b).2 (List.mem_cons_self ..)) (by simp)
  | cons a l ih =>
    cases m with
    | nil => exact absurd ((h a).1 (List.mem_cons_self ..)) (by simp)
    | cons b m =>
      obtain ⟨hl1, hl2⟩ := List.pairwise_cons.1 hl
      obtain ⟨hm1, hm2⟩ := List.pairwise_cons.1 hm
      have hab : a = b := by
        rcases List.mem_cons.1 ((h a).1 (List.mem_cons_self ..)) with h1 | h1
        · exact h1
        · rcases List.mem_cons.1 ((h b).2 (List.mem_cons_self ..)) with h2 | h2
          · exact h2.symm
          · have h3 := hm1 a h1
            have h4 := hl1 b h2
            omega
      subst hab
      congr 1
      refine ih hl2 hm2 fun x => ⟨fun hx => ?_, fun hx => ?_⟩
      · rcases List.mem_cons.1 ((h x).1 (List.mem_cons_of_mem _ hx)) with h1 | h1
        · have := hl1 x hx; rw [h1] at this; omega
        · exact h1
      · rcases List.mem_cons.1 ((h x).2 (List.mem_cons_of_mem _ hx)) with h1 | h1
        · have := hm1 x hx; rw [h1] at this; omega
        · exact h1
/-- the parts that the devices of two contexts give. -/
theorem pick_up (f : Nat → List Run) (l : List Dot) (h : l.Pairwise (fun a b => a.1 < b.1)) : (l.filterMap (fun x => oneC f x.1)).Pairwise (fun a b => a.1 < b.1) := by
  induction l with
  | nil => exact List.Pairwise.nil
  | cons d l ih =>
    obtain ⟨h1, h2⟩ := List.pairwise_cons.1 h
    rw [List.filterMap_cons]
    split
    · exact ih h2
    · rename_i x hx
      rw [List.pairwise_cons]
      refine ⟨fun y hy => ?_, ih h2⟩
      obtain ⟨e, he, h3⟩ := List.mem_filterMap.1 hy
      unfold oneC at hx h3
      split at hx
      · cases hx
      · split at h3
        · cases h3
        · cases hx; cases h3; exact h1 e he
theorem devs_up (a b : List Part) : (devsC a b).Pairwise (fun x y => x.1 < y.1) := by
  obtain ⟨h1, h2⟩ := devs_spec a b
  refine List.Pairwise.imp_of_mem ?_ h1
  intro x y hx hy hxy
  have hx2 := ((h2 x).1 hx).1
  have hy2 := ((h2 y).1 hy).1
  have := (Dt.ahead_iff x y).1 hxy
  omega
theorem pick_devs {a b : List Part} {f : Nat → List Run} (hf : Tells f) (h : ∀ d, f d ≠ [] → (∃ y ∈ a, y.1 = d) ∨ ∃ y ∈ b, y.1 = d) : (devsC a b).filterMap (fun x => oneC f x.1) = listC f := by
  refine rise_uniq (fun x : Part => x.1) (pick_up f _ (devs_up a b)) (list_rise f) fun x => ?_
  rw [list_mem hf, List.mem_filterMap]
  obtain ⟨_, hm⟩ := devs_spec a b
  constructor
  · rintro ⟨y, hy, h1⟩
    unfold oneC at h1
    split at h1
    · cases h1
    · rename_i h0
      cases h1
      exact ⟨rfl, fun h2 => h0 (by show (f y.1).length = 0; rw [show f y.1 = [] from h2]; rfl)⟩
  · rintro ⟨h1, h2⟩
    refine ⟨(x.1, 1), (hm _).2 ⟨rfl, h x.1 h2⟩, ?_⟩
    unfold oneC
    rw [if_neg (fun h3 => h2 (List.eq_nil_of_length_eq_zero h3)), ← h1]
theorem set_some {a b : List Part} {how : Int} (d : Nat) (h : Ru.setL (runsC a d) (runsC b d) how ≠ []) : (∃ y ∈ a, y.1 = d) ∨ ∃ y ∈ b, y.1 = d := by
  by_cases ha : ∃ y ∈ a, y.1 = d
  · exact .inl ha
  · by_cases hb : ∃ y ∈ b, y.1 = d
    · exact .inr hb
    · refine absurd ?_ h
      rw [runs_empty (.inr fun x hx e => ha ⟨x, hx, e⟩), runs_empty (.inr fun x hx e => hb ⟨x, hx, e⟩), set_nil]

end Go.Proofs.YtmebokpgiehgmaaGreat.Cx

/- The contracts of the document's Few, Runs and Eq of layer ctx. -/
namespace Go.Proofs.YtmebokpgiehgmaaGreat.Cx
open Go.ChangeShapes Go.WideShapes Go.ChangeAt Go.RowKit
set_option linter.unusedVariables false

theorem runs_next {c : List Part} {k : Nat} {x : Part} (d : Nat) (h : c[k]? = some x) : runsC (c.take (k + 1)) d = stepC d (runsC (c.take k) d) x := by
  unfold runsC
  rw [List.take_add_one, h, List.foldl_append]; rfl
theorem ru_less {w : World} {B B' n size : Nat} {e : TypeId} {v : Value} {xs : List Value} (h : w.ownsRow B' e size v n xs) (hB : B ≤ B') : w.ownsRow B e size v n xs := Dt.own_less h hB
set_option maxHeartbeats 4000000 in
theorem rruns_any (w : World) (A0 : Option Addr) (c : List Part) (n cp d : Nat) (h : CtxAt w A0 c n cp) (hs : Small c) :
    Calls Tryz.prog 42 #[.slice A0 n cp, .int .u16 (d : Int)] w (Ru.RunPost w (runsC c d)) := by
  have HC := Lib.hid h
  have HS := Lib.hid hs
  have hn : n ≤ 1000 := by rw [← h.len]; exact hs.1
  clear h hs
  go_enter Tryz.func42, Tryz.ntmps42
  go_wp2_with fail
  go_loopw [5, 6] (fun v i wr => ∃ (k m : Nat) (A : Option Addr) (q : Nat), k ≤ n ∧ i = .int .i64 (k : Int) ∧ v = .slice A m q ∧ (runsC (c.take k) d).length = m ∧ wr.ownsRow w.heap.size 50 2 (.slice A m q) m (Ru.rv (runsC (c.take k) d)) ∧ Below w.heap.size w wr) (fun _ i _ => n - (intOf i).toNat)
  case atStart => exact ⟨0, 0, none, 0, Nat.zero_le _, rfl, rfl, rfl, World.ownsRow_nil _ _ _ _, Below.refl _ _⟩
  case round =>
    obtain ⟨k, m, A, q, hk, rfl, rfl, hm, ho, hw⟩ := hrel
    have HM := Lib.hid hm
    have HO := Lib.hid ho
    have HW := Lib.hid hw
    clear hm ho hw
    by_cases hlt : k < n
    · obtain ⟨ad, p, x, rfl, hB, hx, hp, hcell⟩ := HC.out.cells hlt
      have HN := Lib.hid (runs_next d hx)
      have hxl : x.2.length ≤ 10000 := small_one HS.out (List.mem_of_getElem? hx)
      have HP := Lib.hid (hp.up HW.out)
      obtain ⟨d1, d2⟩ := hcell wr HW.out
      clear hx hp hcell
      have hrl := small_runs (small_take HS.out k) d
      by_cases hxd : x.1 = d
      · by_cases hd0 : d = 0
        · have HE : Hid (runsC (c.take (k + 1)) d = runsC (c.take k) d) := Lib.hid (by rw [HN.out]; exact if_neg (fun h => h.2 hd0))
          subst hd0
          clear HN HP hrl
          go_wp2
          go_roundw
          case rel => exact ⟨k + 1, m, A, q, by omega, by go_num, rfl, by rw [HE.out]; exact HM.out, by rw [HE.out]; exact HO.out, HW.out⟩
          case measure => simp [intOf]; omega
        · have hne : ((d : Int) != 0) = true := by rw [bne_iff_ne]; omega
          have HE : Hid (runsC (c.take (k + 1)) d = Ru.setL (runsC (c.take k) d) x.2 0) := Lib.hid (by rw [HN.out]; exact if_pos ⟨hxd, hd0⟩)
          have hlen := Ru.own_len HO.out
          have HJ := Lib.hid (Ru.join_any wr A p.adr (runsC (c.take k) d) x.2 m p.len q p.cap HM.out HP.out.len hlen.2.2 HP.out.nil (Ru.runs_own HO.out (fit_runs (runs_order _ _))) HP.out.runs (by rw [← HM.out]; omega) (by rw [← HP.out.len]; omega))
          clear HN hrl hlen
          subst hxd
          go_wp2_with fail
          refine HJ.out.mono ?_
          rintro e w2 ⟨A2, m2, q2, rfl, hm2, ho2, hb2⟩
          have HR : Hid (∃ (k' m' : Nat) (A' : Option Addr) (q' : Nat), k' ≤ n ∧ Value.int .i64 ((k : Int) + 1) = .int .i64 (k' : Int) ∧ Value.slice A2 m2 q2 = .slice A' m' q' ∧ (runsC (c.take k') x.1).length = m' ∧ w2.ownsRow w.heap.size 50 2 (.slice A' m' q') m' (Ru.rv (runsC (c.take k') x.1)) ∧ Below w.heap.size w w2) :=
            ⟨k + 1, m2, A2, q2, by omega, by go_num, rfl, by rw [HE.out]; exact hm2, by rw [HE.out]; exact ru_less ho2 HW.out.size, HW.out.trans (hb2.mono HW.out.size)⟩
          clear hm2 ho2 hb2 d1 d2
          go_wp2
          go_roundw
          case rel => exact HR.out
          case measure => simp [intOf]; omega
      · have hne : ((x.1 : Int) == (d : Int)) = false := by rw [beq_eq_false_iff_ne]; omega
        have HE : Hid (runsC (c.take (k + 1)) d = runsC (c.take k) d) := Lib.hid (by rw [HN.out]; exact if_neg (fun h => hxd h.1))
        clear HN HP hrl
        go_wp2
        go_roundw
        case rel => exact ⟨k + 1, m, A, q, by omega, by go_num, rfl, by rw [HE.out]; exact HM.out, by rw [HE.out]; exact HO.out, HW.out⟩
        case measure => simp [intOf]; omega
    · obtain rfl : k = n := by omega
      have e : Hid (c.take k = c) := Lib.hid (List.take_of_length_le (by rw [HC.out.len]; exact Nat.le_refl _))
      rw [e.out] at HM HO
      go_wp2
      go_ret
      exact ⟨A, m, q, rfl, HM.out, HO.out, HW.out⟩
end Go.Proofs.YtmebokpgiehgmaaGreat.Cx

/- Lists of parts of one's own: append of a part to any list of one's own. -/
namespace Go.Proofs.YtmebokpgiehgmaaGreat.Cx
open Go.ChangeShapes Go.WideShapes Go.ChangeAt Go.RowKit
set_option linter.unusedVariables false

/-- a slice of runs, that lies in this world. -/
structure RunsAt (w : World) (A : Option Addr) (l : List Run) (n c : Nat) : Prop where
  len : l.length = n
  nil : A = none → n = 0 ∧ c = 0
  cap : n ≤ c
  max : c ≤ 9223372036854775807
  runs : Ru.Runs w w.heap.size A l
theorem RunsAt.up {w W : World} {A : Option Addr} {l : List Run} {n c : Nat} (h : RunsAt w A l n c) (hW : Below w.heap.size w W) : RunsAt W A l n c := ⟨h.len, h.nil, h.cap, h.max, h.runs.up hW⟩
/-- runs came out, in a block that is new. -/
theorem runs_post {w w' : World} {m : List Run} {e : Ending} (h : Ru.RunPost w m e w') (hm : Ru.InOrder m) : ∃ A n c, e = .returned (.slice A n c) ∧ RunsAt w' A m n c ∧ Below w.heap.size w w' ∧ ∀ ad, A = some ad → w.heap.size ≤ ad.block := by
  obtain ⟨A, n, c, rfl, hn, hA, h1, h2, hR, ho, hb⟩ := Ru.post_runs h (fit_runs hm)
  refine ⟨A, n, c, rfl, ⟨hn, hA, h1, h2, hR⟩, hb, fun ad e => ?_⟩
  subst e
  exact (ho.lt ad.block rfl).1
theorem runs_grown {w w' : World} {row : Option Nat} (hg : w.grownBy w' row) {A : Option Addr} {l : List Run} (h : Ru.Runs w w.heap.size A l) (hne : ∀ ad, A = some ad → some ad.block ≠ row) : Ru.Runs w' w'.heap.size A l :=
  ⟨h.1, fun hl => by
    obtain ⟨ad, e, hB, hc⟩ := h.2 hl
    refine ⟨ad, e, Nat.lt_of_lt_of_le hB hg.size, fun j u hu => ?_⟩
    have hb := hg.block ad.block hB (hne ad e)
    rw [← hc j u hu]
    unfold World.cell?
    rw [Ru.block_add, hb]⟩
/-- parts whose runs lie apart from this row. -/
def Apart (w : World) (ps : List PV) (row : Option Nat) : Prop := ∀ p ∈ ps, ∃ ad, p.adr = some ad ∧ ad.block < w.heap.size ∧ some ad.block ≠ row
theorem Match.grown {w w' : World} {ps : List PV} {c : List Part} {row : Option Nat} (h : Match w ps c) (hg : w.grownBy w' row) (ha : Apart w ps row) : Match w' ps c :=
  ⟨h.1, fun k p x hp hx => by
    have h1 := h.2 k p x hp hx
    obtain ⟨ad, e, hB, hne⟩ := ha p (List.mem_of_getElem? hp)
    exact ⟨h1.dev, h1.fit, h1.len, h1.nil, h1.cap, h1.max, runs_grown hg h1.runs (fun ad' e' => by rw [e] at e'; cases e'; exact hne)⟩⟩
theorem Apart.up {w w' : World} {ps : List PV} {row : Option Nat} (h : Apart w ps row) (hs : w.heap.size ≤ w'.heap.size) : Apart w' ps row := fun p hp => by
  obtain ⟨ad, e, hB, hne⟩ := h p hp
  exact ⟨ad, e, Nat.lt_of_lt_of_le hB hs, hne⟩
theorem Apart.turn {w : World} {ps : List PV} {row : Option Nat} {r : Nat} (h : Apart w ps row) (hr : w.heap.size ≤ r) : Apart w ps (some r) := fun p hp => by
  obtain ⟨ad, e, hB, _⟩ := h p hp
  exact ⟨ad, e, hB, fun e2 => by cases e2; omega⟩
theorem Apart.snoc {w : World} {ps : List PV} {row : Option Nat} {p : PV} {ad : Addr} (h : Apart w ps row) (e : p.adr = some ad) (hB : ad.block < w.heap.size) (hne : some ad.block ≠ row) : Apart w (ps ++ [p]) row := fun q hq => by
  rcases List.mem_append.1 hq with hq | hq
  · exact h q hq
  · obtain rfl := List.mem_singleton.1 hq
    exact ⟨ad, e, hB, hne⟩
theorem part_at (W : World) (p : PV) : ∀ (j : Nat) (u : Value), (cv [p])[j]? = some u → (W.alloc (.cells #[.int .u16 (p.dev : Int), .slice p.adr p.len p.cap] 44)).cell? ((⟨W.heap.size, 0, none⟩ : Addr).add j) = some u := by
  intro j u hu
  rw [Dt.zero_add, World.cell?_alloc_new]
  have e : cv [p] = [.int .u16 (p.dev : Int), .slice p.adr p.len p.cap] := rfl
  rw [e] at hu
  simpa using hu
theorem wpList_part {ops : Array Oper} {rest : List Oper} {o : Oper} {a : Act} {Q : Exit → Act → World → Prop} (hgd : o.guard = none) (s x : Operand) (ho : o.op = .call { callee := .builtin .append, args := #[s, x], argTypes := #[24, 24] }) (hty : o.type = 24)
    (w : World) (B k : Nat) (v : Value) (ps : List PV) (ad : Addr) (p : PV) (hs : a.eval s = v) (hx : a.eval x = .slice (some ad) 1 1) (hw : w.ownsRow B 44 2 v k (cv ps)) (hc : ∀ (j : Nat) (u : Value), (cv [p])[j]? = some u → w.cell? (ad.add j) = some u)
    (hn : k + 1 ≤ 4398046511104) (hB : B ≤ w.heap.size)
    (hK : ∀ A' c' w', w'.ownsRow B 44 2 (.slice A' (k + 1) c') (k + 1) (cv (ps ++ [p])) → w.grownBy w' v.ownBlock → ((Value.slice A' (k + 1) c').ownBlock = v.ownBlock ∨ (Value.slice A' (k + 1) c').ownBlock = some w.heap.size) → wpList Tryz.prog ops Q rest (a.put o.dst (.slice A' (k + 1) c')) w') : wpList Tryz.prog ops Q (o :: rest) a w := by
  refine wpList_plain hgd fun K hQ => ?_
  obtain ⟨i0, hi0, hz0, hz1, hz2⟩ := info_parts part_info
  obtain ⟨v', w', hr, h2, h3, hat, h5⟩ := run_append_own_at (P := Tryz.prog) w B 24 24 44 i0 (.agg #[.int .u16 0, .slice none 0 0]) 2 32 Tryz.underlying24 hi0 hz0 hz1 hz2 rfl (by decide) v k (cv ps) hw ad 1 1 (cv [p]) (by rw [cv_length]; rfl) hc (cv_one [p]) (by simp only [maxLen]; omega) (by omega) hB
  obtain ⟨A', c', rfl⟩ := Dt.own_form h2
  unfold Oper.wp execOp
  simp only [ho, resolve, invoke, builtin, Sem.run_bind, Sem.run_pure, Result.andThen_ok, List.map_toArray, List.map_cons, List.map_nil, hs, hx]
  rw [hty, hr]
  refine hQ _ _ (hK _ _ _ ?_ h3 h5)
  rw [cv_append]; exact h2
end Go.Proofs.YtmebokpgiehgmaaGreat.Cx

/- The contract of the document's set of layer ctx: what two contexts come to. For every two contexts of at most 100 parts, of at most 100 runs each (gen-set.py printed it). -/
namespace Go.Proofs.YtmebokpgiehgmaaGreat.Cx
open Go.ChangeShapes Go.WideShapes Go.ChangeAt Go.RowKit
set_option linter.unusedVariables false

theorem bel_drew {w W : World} (h : Below w.heap.size w W) : Below w.heap.size w W.drew := h.drew
theorem bel_alloc {w W : World} (o : Obj) (h : Below w.heap.size w W) : Below w.heap.size w (W.alloc o) := h.alloc h.size o
/-- a call that makes runs, in a later world. -/
theorem made_runs {w W : World} {f : Nat} {args : Array Value} {m : List Run} (hW : Below w.heap.size w W) (hm : Ru.InOrder m) (h : Calls Tryz.prog f args W (Ru.RunPost W m)) :
    Calls Tryz.prog f args W fun e V => ∃ A n c, e = .returned (.slice A n c) ∧ RunsAt V A m n c ∧ Below w.heap.size w V ∧ Below W.heap.size W V :=
  h.mono fun e V hp => by
    obtain ⟨A, n, c, e1, h1, h2, _⟩ := runs_post hp hm
    exact ⟨A, n, c, e1, h1, hW.trans (h2.mono hW.size), h2⟩
theorem pick_next {f : Nat → List Run} {l : List Dot} {k : Nat} {x : Dot} (h : l[k]? = some x) : (l.take (k + 1)).filterMap (fun x => oneC f x.1) = (l.take k).filterMap (fun x => oneC f x.1) ++ (if (f x.1).length = 0 then [] else [(x.1, f x.1)]) := by
  rw [List.take_add_one, h, List.filterMap_append]
  congr 1
  simp only [Option.toList_some]
  by_cases h0 : (f x.1).length = 0
  · rw [if_pos h0, List.filterMap_cons, show oneC f x.1 = none from if_pos h0]; rfl
  · rw [if_neg h0, List.filterMap_cons, show oneC f x.1 = some (x.1, f x.1) from if_neg h0]; rfl
theorem devs_len {a b : List Part} (ha : a.length ≤ 1000) (hb : b.length ≤ 1000) (hfa : FitC a) (hfb : FitC b) : Dt.Fit (devsC a b) ∧ (devsC a b).length ≤ 2000 := by
  have h1 := step_fit a hfa [] (fun r hr => by cases hr) a.length
  rw [List.take_length] at h1
  have h2 := step_fit b hfb (a.foldl stepP []) h1.1 b.length
  rw [List.take_length] at h2
  refine ⟨h2.1, ?_⟩
  have h3 := h1.2
  have h4 := h2.2
  simp only [List.length_nil, Nat.zero_add] at h3
  unfold devsC
  omega
/-- what a round of set knows. -/
def SRel (w : World) (n : Nat) (g : Nat → List Part) (v i : Value) (wr : World) : Prop :=
  ∃ (k m : Nat) (A : Option Addr) (c : Nat) (ps : List PV), k ≤ n ∧ i = .int .i64 ((k : Nat) : Int) ∧ v = .slice A m c ∧ (g k).length = m ∧ wr.ownsRow w.heap.size 44 2 (.slice A m c) m (cv ps) ∧ Match wr ps (g k) ∧ Apart wr ps (Value.slice A m c).ownBlock ∧ Below w.heap.size w wr
theorem own_block_lt {w : World} {B k m c size : Nat} {e : TypeId} {A : Option Addr} {xs : List Value} (h : w.ownsRow B e size (.slice A m c) k xs) : ∀ r, (Value.slice A m c).ownBlock = some r → B ≤ r ∧ r < w.heap.size := by
  intro r hr
  cases A with
  | none => cases hr
  | some ad =>
    have e2 : ad.block = r := by simpa [Value.ownBlock] using hr
    have := h.lt ad.block rfl
    rw [e2] at this
    exact this

end Go.Proofs.YtmebokpgiehgmaaGreat.Cx

/- The contracts of the document's Join, Meet, Minus, Norm, Eq, Good, Same and Within of layer ctx. -/
namespace Go.Proofs.YtmebokpgiehgmaaGreat.Cx
open Go.ChangeShapes Go.WideShapes Go.ChangeAt Go.RowKit
set_option linter.unusedVariables false

theorem small_none : Small [] := small_each (by decide) (fun x hx => by cases hx)
theorem take_more {l m : List Part} {k : Nat} {x : Part} (h : l.take k = m.take k) (h1 : l[k]? = some x) (h2 : m[k]? = some x) : l.take (k + 1) = m.take (k + 1) := by
  rw [List.take_add_one, List.take_add_one, h, h1, h2]
theorem ne_at {l m : List Part} {k : Nat} {x y : Part} (h1 : l[k]? = some x) (h2 : m[k]? = some y) (hn : x ≠ y) : l ≠ m := by
  intro e
  rw [e, h2] at h1
  exact hn (Option.some.inj h1).symm
theorem few_small {a : List Part} {n c : Nat} {w : World} {A : Option Addr} (h : CtxAt w A a n c) : n ≤ 9223372036854775807 := Nat.le_trans h.cap h.max
end Go.Proofs.YtmebokpgiehgmaaGreat.Cx

/- What the document's Of of layer ctx comes to, and how great contexts grow. Plain arithmetic. -/
namespace Go.Proofs.YtmebokpgiehgmaaGreat.Cx
set_option linter.unusedVariables false

theorem set_len {a b : List Part} (ha : FitC a) (hb : FitC b) (how : Int) : (setC a b how).length ≤ a.length + b.length := by
  unfold setC
  rw [← pick_devs (tells_both ha hb how) (fun d h => set_some d h)]
  have h1 := step_fit a ha [] (fun r hr => by cases hr) a.length
  rw [List.take_length] at h1
  have h2 := step_fit b hb (a.foldl stepP []) h1.1 b.length
  rw [List.take_length] at h2
  have h3 := h1.2
  have h4 := h2.2
  simp only [List.length_nil, Nat.zero_add] at h3
  refine Nat.le_trans (List.length_filterMap_le _ _) ?_
  unfold devsC
  omega
/-- one dot as a context. -/
def dotC (x : Dot) : List Part := [(x.1, [(x.2, x.2)])]
theorem fit_dot {x : Dot} (h1 : x.1 < 65536) (h2 : x.2 < 18446744073709551616) : FitC (dotC x) := fun y hy => by
  obtain rfl := List.mem_singleton.1 hy
  exact ⟨h1, fun r hr => by obtain rfl := List.mem_singleton.1 hr; exact ⟨h2, h2⟩⟩
def stepO (o : List Part) (x : Dot) : List Part := if Dt.mayD x = true then setC o (dotC x) 0 else o
theorem of_fold (l : List Dot) : ofC l = l.foldl stepO [] := rfl
theorem of_next {l : List Dot} {k : Nat} {x : Dot} (h : l[k]? = some x) : ofC (l.take (k + 1)) = stepO (ofC (l.take k)) x := by
  rw [of_fold, of_fold, List.take_add_one, h, List.foldl_append]; rfl
/-- a context in order, of at most k parts of at most k runs each. -/
structure Most (o : List Part) (k : Nat) : Prop where
  form : ∃ f, Tells f ∧ o = listC f ∧ ∀ d, (f d).length ≤ k
  len : o.length ≤ k
theorem Most.fit {o : List Part} {k : Nat} (h : Most o k) : FitC o := by
  obtain ⟨f, h1, rfl, _⟩ := h.form
  exact list_fit h1
theorem Most.small {o : List Part} {k : Nat} (h : Most o k) (hk : k ≤ 100) : Small o := by
  obtain ⟨f, h1, rfl, h3⟩ := h.form
  refine small_each (Nat.le_trans h.len hk) (fun x hx => ?_)
  obtain ⟨h4, _⟩ := (list_mem h1 x).1 hx
  rw [h4]
  exact Nat.le_trans (h3 _) hk
theorem Most.none_ : Most [] 0 := by
  refine ⟨⟨fun _ => [], ⟨rfl, fun _ _ => rfl, fun _ => Ru.order_nil⟩, ?_, fun _ => Nat.le_refl _⟩, Nat.le_refl _⟩
  unfold listC
  induction List.range Dt.topV with
  | nil => rfl
  | cons d l ih => rw [List.filterMap_cons]; exact ih
theorem Most.more {o : List Part} {k m : Nat} (h : Most o k) (hk : k ≤ m) : Most o m := by
  obtain ⟨f, h1, h2, h3⟩ := h.form
  exact ⟨⟨f, h1, h2, fun d => Nat.le_trans (h3 d) hk⟩, Nat.le_trans h.len hk⟩
theorem Most.step {o : List Part} {k : Nat} (h : Most o k) {x : Dot} (h1 : x.1 < 65536) (h2 : x.2 < 18446744073709551616) : Most (stepO o x) (k + 1) := by
  unfold stepO
  split
  · have hd := fit_dot h1 h2
    refine ⟨⟨fun d => Ru.setL (runsC o d) (runsC (dotC x) d) 0, tells_both h.fit hd 0, rfl, fun d => ?_⟩, Nat.le_trans (set_len h.fit hd 0) ?_⟩
    · obtain ⟨f, h3, h4, h5⟩ := h.form
      have e1 : runsC o d = f d := by rw [h4, runs_list h3]
      have e2 := runs_length (dotC x) d
      have e3 := Ru.set_length0 (runsC o d) (runsC (dotC x) d)
      have e4 := h5 d
      rw [e1] at e3
      have e5 : ((dotC x).map (fun x => x.2.length)).sum = 1 := rfl
      rw [e5] at e2
      show (Ru.setL (runsC o d) (runsC (dotC x) d) 0).length ≤ k + 1
      rw [e1]
      omega
    · have := h.len
      have e : (dotC x).length = 1 := rfl
      omega
  · exact h.more (Nat.le_succ _)
theorem of_most (l : List Dot) (hl : Dt.Fit l) (k : Nat) : Most (ofC (l.take k)) k := by
  induction k with
  | zero => exact Most.none_
  | succ k ih =>
    by_cases hk : k < l.length
    · have hg := List.getElem?_eq_getElem hk
      rw [of_next hg]
      have := hl _ (List.getElem_mem hk)
      exact ih.step this.1 this.2
    · have e : l.take (k + 1) = l.take k := by rw [List.take_of_length_le (by omega), List.take_of_length_le (by omega)]
      rw [e]
      exact ih.more (Nat.le_succ _)
theorem of_whole (l : List Dot) (hl : Dt.Fit l) : Most (ofC l) l.length := by
  have := of_most l hl l.length
  rwa [List.take_length] at this
end Go.Proofs.YtmebokpgiehgmaaGreat.Cx

/- The contracts of the document's Of, Has and Few of layer ctx. -/
namespace Go.Proofs.YtmebokpgiehgmaaGreat.Cx
open Go.ChangeShapes Go.WideShapes Go.ChangeAt Go.RowKit
set_option linter.unusedVariables false

/-- a new context of one dot. -/
theorem dot_lit (W : World) (x : Dot) (b1 b2 : Nat) (h1 : b1 = W.heap.size) (h2 : b2 = W.heap.size + 1) (hx : x.1 < 65536) (hx2 : x.2 < 18446744073709551616) :
    CtxAt ((W.alloc (.cells #[.int .u64 (x.2 : Int), .int .u64 (x.2 : Int)] 50)).alloc (.cells #[.int .u16 (x.1 : Int), .slice (some ⟨b1, 0, none⟩) 1 1] 44)) (some ⟨b2, 0, none⟩) (dotC x) 1 1 := by
  subst h1 h2
  have hs : (W.alloc (.cells #[.int .u64 (x.2 : Int), .int .u64 (x.2 : Int)] 50)).heap.size = W.heap.size + 1 := by simp
  refine ⟨rfl, (fun h => by cases h), by decide, by decide, [⟨x.1, some ⟨W.heap.size, 0, none⟩, 1, 1⟩], ?_, rfl, ?_⟩
  · intro _
    refine ⟨_, rfl, by simp, fun j u hu => ?_⟩
    rw [← hs]
    exact part_at _ ⟨x.1, some ⟨W.heap.size, 0, none⟩, 1, 1⟩ j u hu
  · intro k p y hp hy
    have hk : k = 0 := by
      rcases Nat.eq_zero_or_pos k with h | h
      · exact h
      · rw [List.getElem?_eq_none (by simp; omega)] at hp; cases hp
    subst hk
    have e1 : p = ⟨x.1, some ⟨W.heap.size, 0, none⟩, 1, 1⟩ := by simpa using hp.symm
    have e2 : y = (x.1, [(x.2, x.2)]) := by simpa [dotC] using hy.symm
    subst e1 e2
    refine ⟨rfl, hx, rfl, (fun h => by cases h), (by show (1 : Nat) ≤ 1; omega), (by show (1 : Nat) ≤ 9223372036854775807; omega), ⟨fun r hr => by obtain rfl := List.mem_singleton.1 hr; exact ⟨hx2, hx2⟩, fun _ => ⟨_, rfl, by simp; omega, fun j u hu => ?_⟩⟩⟩
    have hB := Dt.below_new (W.alloc (.cells #[.int .u64 (x.2 : Int), .int .u64 (x.2 : Int)] 50)) (.cells #[.int .u16 (x.1 : Int), .slice (some ⟨W.heap.size, 0, none⟩) 1 1] 44)
    have e3 : Ru.rv [(x.2, x.2)] = [.int .u64 (x.2 : Int), .int .u64 (x.2 : Int)] := rfl
    rw [e3] at hu
    have hc : (W.alloc (.cells #[.int .u64 (x.2 : Int), .int .u64 (x.2 : Int)] 50)).cell? ((⟨W.heap.size, 0, none⟩ : Addr).add j) = some u := by
      rw [Dt.zero_add, World.cell?_alloc_new]
      simpa using hu
    rw [← hc]
    exact hB.cell (by rw [Dt.block_add]; simp)
theorem CtxAt.drew {w : World} {A : Option Addr} {c : List Part} {n cp : Nat} (h : CtxAt w A c n cp) : CtxAt w.drew A c n cp := h.up ((Below.refl _ _).drew)
theorem rgood_later {w W : World} (d : Dot) (hW : Below w.heap.size w W) : Calls Tryz.prog 40 #[.agg #[.int .u16 (d.1 : Int), .int .u64 (d.2 : Int)]] W fun e V => e = .returned (.bool (Dt.mayD d)) ∧ Below w.heap.size w V :=
  (Dt.rgood_any W d.1 d.2).mono fun _ _ ⟨h1, h2⟩ => ⟨h1, by rw [h2]; exact hW.trans ((Dt.below_new W _).mono hW.size)⟩
/-- a call that makes a context, in a later world. -/
theorem made_ctx {w W : World} {f : Nat} {args : Array Value} {m : List Part} (hW : Below w.heap.size w W) (h : Calls Tryz.prog f args W (CtxPost W m)) :
    Calls Tryz.prog f args W fun e V => (∃ A n c, e = .returned (.slice A n c) ∧ CtxAt V A m n c) ∧ Below w.heap.size w V ∧ Below W.heap.size W V :=
  h.mono fun e V hp => by
    obtain ⟨A, n, c, e1, h1, h2⟩ := post_ctx hp
    exact ⟨⟨A, n, c, e1, h1⟩, hW.trans (h2.mono hW.size), h2⟩
/-- the document's answer as a world's context. -/
def CtxHas (w : World) (m : List Part) (e : Ending) (w' : World) : Prop := ∃ A n c, e = .returned (.slice A n c) ∧ CtxAt w' A m n c ∧ Below w.heap.size w w'
end Go.Proofs.YtmebokpgiehgmaaGreat.Cx

/- The contracts of the document's Has, Few, Only and Size of layer ctx. -/
namespace Go.Proofs.YtmebokpgiehgmaaGreat.Cx
open Go.ChangeShapes Go.WideShapes Go.ChangeAt Go.RowKit
set_option linter.unusedVariables false

theorem box_at (w : World) (d : Dot) : ∀ V, Below (w.alloc (.cells #[.int .u16 (d.1 : Int), .int .u64 (d.2 : Int)] 28)).heap.size (w.alloc (.cells #[.int .u16 (d.1 : Int), .int .u64 (d.2 : Int)] 28)) V → V.cell? ⟨w.heap.size, 0, none⟩ = some (.int .u16 (d.1 : Int)) ∧ V.cell? ⟨w.heap.size, 1, none⟩ = some (.int .u64 (d.2 : Int)) := by
  intro V hV
  have h1 : (w.alloc (.cells #[.int .u16 (d.1 : Int), .int .u64 (d.2 : Int)] 28)).cell? ⟨w.heap.size, 0, none⟩ = some (.int .u16 (d.1 : Int)) := by simp [go_sem]
  have h2 : (w.alloc (.cells #[.int .u16 (d.1 : Int), .int .u64 (d.2 : Int)] 28)).cell? ⟨w.heap.size, 1, none⟩ = some (.int .u64 (d.2 : Int)) := by simp [go_sem]
  exact ⟨(hV.cell (World.block_lt_of_cell? _ _ h1)).trans h1, (hV.cell (World.block_lt_of_cell? _ _ h2)).trans h2⟩
theorem below_grow (V : World) (n : Nat) (os : Array Obj) : Below V.heap.size V (Sort.grow (V.drewN n) os) :=
  ⟨rfl, rfl, rfl, by show V.heap.size ≤ (V.heap ++ os).size; simp, fun i hi => by show (V.heap ++ os)[i]? = V.heap[i]?; exact Array.getElem?_append_left hi⟩
theorem rgood_g (W : World) (d : Dot) (b : Bool) (hb : Dt.mayD d = b) :
    Calls Tryz.prog 40 #[.agg #[.int .u16 (d.1 : Int), .int .u64 (d.2 : Int)]] W fun e w' => e = .returned (.bool b) ∧ ∃ q os', w' = Sort.grow (W.drewN q) os' :=
  (Dt.rgood_any W d.1 d.2).mono fun _ _ ⟨h1, h2⟩ => ⟨by rw [h1, ← hb], 0, _, h2.trans (Sort.alloc_eq_grow _ _)⟩
set_option maxHeartbeats 8000000 in
theorem rhas_any (w : World) (A1 : Option Addr) (a : List Part) (n1 c1 : Nat) (d : Dot) (h1 : CtxAt w A1 a n1 c1) (s1 : Small a) (hd : d.1 < 65536 ∧ d.2 < 18446744073709551616) :
    Calls Tryz.prog 22 #[.slice A1 n1 c1, .agg #[.int .u16 (d.1 : Int), .int .u64 (d.2 : Int)]] w fun e w' => e = .returned (.bool (hasC a d)) ∧ Below w.heap.size w w' := by
  have HB : Hid (Below w.heap.size w (w.alloc (.cells #[.int .u16 (d.1 : Int), .int .u64 (d.2 : Int)] 28))) := Dt.below_new _ _
  have HX := Lib.hid (box_at w d)
  have H1 := Lib.hid (h1.up HB.out)
  have S1 := Lib.hid s1
  have HD := Lib.hid hd
  clear h1 s1 hd
  cases hm : Dt.mayD d with
  | false =>
    have hh : hasC a d = false := by unfold hasC; rw [hm]; rfl
    rw [hh]
    go_enter Tryz.func22, Tryz.ntmps22
    go_wp2_with fail
    generalize w.alloc (.cells #[.int .u16 (d.1 : Int), .int .u64 (d.2 : Int)] 28) = w0 at HB HX H1 ⊢
    have hmx : Tryz.prog.follows .mixedOrders = true := by kernel_rfl
    have g1 : ∀ n os, (Sort.grow (w0.drewN n) os).cell? ⟨w.heap.size, 0, none⟩ = some (.int .u16 (d.1 : Int)) := fun n os => (HX.out _ (below_grow w0 n os)).1
    have g2 : ∀ n os, (Sort.grow (w0.drewN n) os).cell? ⟨w.heap.size, 1, none⟩ = some (.int .u64 (d.2 : Int)) := fun n os => (HX.out _ (below_grow w0 n os)).2
    have ct := fun W => rgood_g W d false hm
    clear hm hh H1
    refine wp_region_quiet_grown hmx (by kernel_rfl) ?_
    repeat (
      (with_reducible refine wpQuiet_step (fun K hK => ?_))
      go_simp
      first
        | ((with_reducible refine hK _ ?_); clear hK K)
        | ((rw [if_neg (fun h => by cases h)]); (with_reducible refine hK _ ?_); clear hK K)
        | (apply Exists.intro; refine ⟨fun _ => ?_, hK _ ?_⟩; (go_at_call 40; refine Calls.grown_of (ct _)); clear hK K))
    with_reducible refine wpQuiet_nil ?_
    intro _ hw'
    obtain ⟨⟨nq, osq⟩, hw''⟩ := hw'
    subst hw''
    have HE : Hid (Below w.heap.size w (Sort.grow (w0.drewN nq) osq)) := Lib.hid (HB.out.trans ((below_grow w0 nq osq).mono HB.out.size))
    generalize Sort.grow (w0.drewN nq) osq = V at HE ⊢
    clear g1 g2 ct
    go_wp2
    go_ret
    exact ⟨rfl, HE.out⟩
  | true =>
    have hh : hasC a d = Ru.has (runsC a d.1) d.2 := by unfold hasC; rw [hm, Bool.true_and]
    rw [hh]
    clear hh
    obtain ⟨r, hr⟩ : ∃ r, Ru.has (runsC a d.1) d.2 = r := ⟨_, rfl⟩
    rw [hr]
    have HR := Lib.hid hr
    clear hr
    go_enter Tryz.func22, Tryz.ntmps22
    go_wp2_with fail
    generalize w.alloc (.cells #[.int .u16 (d.1 : Int), .int .u64 (d.2 : Int)] 28) = w0 at HB HX H1 ⊢
    have A42 := fun W (hW : Below w0.heap.size w0 W) => rgood_later d hW
    rw [hm] at A42
    have A18 := fun W (hW : Below w0.heap.size w0 W) => made_runs hW (runs_order a d.1) (rruns_any W A1 a n1 c1 d.1 (H1.out.up hW) S1.out)
    have A44 := fun W A n c (hW : Below w0.heap.size w0 W) (h : RunsAt W A (runsC a d.1) n c) => (Ru.has_any W W.heap.size A (runsC a d.1) n c d.2 h.len h.runs (Nat.le_refl _) (Nat.le_trans h.cap h.max) HD.out.2).mono (R' := fun e V => e = .returned (.bool (Ru.has (runsC a d.1) d.2)) ∧ Below w0.heap.size w0 V) (fun _ _ ⟨h1, h2⟩ => ⟨h1, hW.trans (h2.mono hW.size)⟩)
    clear hm
    rw [HR.out] at A44
    clear HR
    obtain ⟨x1, x2⟩ := HX.out _ (Below.refl _ _)
    go_region_held3 (fun V => V.cell? ⟨w.heap.size, 0, none⟩ = some (.int .u16 (d.1 : Int)) ∧ V.cell? ⟨w.heap.size, 1, none⟩ = some (.int .u64 (d.2 : Int))) (first | exact ⟨x1, x2⟩ | assumption | exact HX.out _ (by (repeat (first | exact Below.refl _ _ | assumption | apply bel_drew | apply bel_alloc)))) (first
      | (go_at_call 40; (with_reducible refine (A42 _ ?_).mono ?_); (focus (repeat (first | exact Below.refl _ _ | assumption | apply bel_drew | apply bel_alloc))); rintro e V ⟨rfl, bv⟩; have hcV := HX.out V bv)
      | (go_at_call 42; (with_reducible refine (A18 _ ?_).mono ?_); (focus (repeat (first | exact Below.refl _ _ | assumption | apply bel_drew | apply bel_alloc))); rintro e V ⟨A, n, c, rfl, hA, bv, cv'⟩; have hcV := HX.out V bv)
      | (go_at_call 41; (with_reducible refine (A44 _ _ _ _ ?_ ?_).mono ?_); (focus (repeat (first | exact Below.refl _ _ | assumption | apply bel_drew | apply bel_alloc))); (focus exact hA); rintro e V ⟨rfl, bv⟩; have hcV := HX.out V bv))
    all_goals
      go_wp2
      go_ret
      exact ⟨rfl, HB.out.trans (bv.mono HB.out.size)⟩

def fewC (c : List Part) : Bool := decide (c.length ≤ 30 ∧ ∀ x ∈ c, x.2.length ≤ 30)
theorem few_is {c : List Part} (h : fewC c = true) : Small c := by
  obtain ⟨h1, h2⟩ := of_decide_eq_true h
  exact small_each (by omega) (fun x hx => by have := h2 x hx; omega)
set_option maxHeartbeats 4000000 in
theorem rfew_any (w : World) (A1 : Option Addr) (a : List Part) (n1 c1 : Nat) (h1 : CtxAt w A1 a n1 c1) :
    Calls Tryz.prog 4 #[.slice A1 n1 c1] w fun e w' => e = .returned (.bool (fewC a)) ∧ Below w.heap.size w w' := by
  have H1 := Lib.hid h1
  have hmx := few_small h1
  clear h1
  by_cases h30 : 30 < n1
  · have d1 : decide ((30 : Int) < (n1 : Int)) = true := decide_eq_true (by omega)
    have hh : Hid (fewC a = false) := Lib.hid (decide_eq_false (fun h => by have := h.1; rw [H1.out.len] at this; omega))
    go_enter Tryz.func4, Tryz.ntmps4
    go_wp2
    go_ret
    exact ⟨Dt.ret_bool hh.out.symm, Below.refl _ _⟩
  · have d1 : decide ((30 : Int) < (n1 : Int)) = false := decide_eq_false (by omega)
    go_enter Tryz.func4, Tryz.ntmps4
    go_wp2_with fail
    go_loopw [3] (fun i wr => ∃ k : Nat, k ≤ n1 ∧ i = .int .i64 (k : Int) ∧ (∀ x ∈ a.take k, x.2.length ≤ 30) ∧ Below w.heap.size w wr) (fun i _ => n1 - (intOf i).toNat)
    case atStart => exact ⟨0, Nat.zero_le _, rfl, (fun x hx => by simp at hx), Below.refl _ _⟩
    case round =>
      obtain ⟨k, hk, rfl, ht, hw⟩ := hrel
      have HT := Lib.hid ht
      have HW := Lib.hid hw
      clear ht hw
      by_cases hlt : k < n1
      · obtain ⟨ad, p, x, rfl, hB, hx, hp, hcell⟩ := H1.out.cells hlt
        obtain ⟨x1, x2⟩ := hcell wr HW.out
        have HX := Lib.hid hx
        have hpl := hp.len
        have hpc : p.len ≤ 9223372036854775807 := Nat.le_trans hp.cap hp.max
        clear hx hp hcell
        by_cases hl : 30 < p.len
        · have d2 : decide ((30 : Int) < (p.len : Int)) = true := decide_eq_true (by omega)
          have hh : Hid (fewC a = false) := Lib.hid (decide_eq_false (fun h => by have := h.2 x (List.mem_of_getElem? HX.out); omega))
          clear hpl
          go_wp2
          go_ret
          exact ⟨Dt.ret_bool hh.out.symm, HW.out⟩
        · have d2 : decide ((30 : Int) < (p.len : Int)) = false := decide_eq_false (by omega)
          have HS : Hid (∀ y ∈ a.take (k + 1), y.2.length ≤ 30) := Lib.hid (fun y hy => by
            rw [List.take_add_one, HX.out] at hy
            rcases List.mem_append.1 hy with hy | hy
            · exact HT.out y hy
            · have : y = x := by simpa using hy
              subst this; omega)
          clear hpl
          go_wp2
          go_roundw
          case rel => exact ⟨k + 1, by omega, by go_num, HS.out, HW.out⟩
          case measure => simp [intOf]; omega
      · obtain rfl : k = n1 := by omega
        have hh : Hid (fewC a = true) := Lib.hid (decide_eq_true ⟨by rw [H1.out.len]; omega, fun x hx => HT.out x (by rw [List.take_of_length_le (by rw [H1.out.len]; exact Nat.le_refl _)]; exact hx)⟩)
        go_wp2
        go_ret
        exact ⟨Dt.ret_bool hh.out.symm, HW.out⟩
end Go.Proofs.YtmebokpgiehgmaaGreat.Cx
