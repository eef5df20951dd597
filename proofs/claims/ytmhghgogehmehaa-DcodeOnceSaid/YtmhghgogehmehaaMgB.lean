/- Words and contracts that the proofs of this seat stand on, part 2 of 14. -/
import Derived.Test.YtmhghgogehmehaaProg
import Derived.WalkKit
import Derived.ProofKit
import Derived.OpenShut
import Derived.Lib.Hide
import Derived.Below
import Derived.Outline
import Derived.Laws.OwnMore
import Derived.OwnWalk
import Derived.Laws.AppendOwnNone
import Derived.Maps.AppendAt
import Derived.Deep.AppendLies
import Derived.BigQuiet
import Derived.Deep.QuietTactic
import Derived.KernelRfl
import Derived.Deep.RegionHeld3
import Derived.Laws.IdiomStrings
import Derived.Laws.Concat
import Derived.IntWalk

/- Words for the claims of layer dot: slices of dots in memory. -/
namespace Go.Proofs.Ytmhghgogehmehaa.Dt
open Go.ChangeShapes Go.WideShapes Go.ChangeAt Go.RowKit
set_option linter.unusedVariables false

theorem ret_int {k : IntKind} {a b : Int} (h : a = b) : Ending.returned (.int k a) = .returned (.int k b) := by rw [h]
theorem ret_bool {a b : Bool} (h : a = b) : Ending.returned (.bool a) = .returned (.bool b) := by rw [h]
theorem block_add (a : Addr) (n : Nat) : (a.add n).block = a.block := by unfold Addr.add; split <;> rfl
theorem add_add (a : Addr) (m n : Nat) : (a.add m).add n = a.add (m + n) := by
  unfold Addr.add
  by_cases h1 : m = 0
  · subst h1; simp
  · by_cases h2 : n = 0
    · subst h2; simp
    · have h3 : ¬ m + n = 0 := by omega
      simp [h1, h2, Nat.add_assoc]
theorem zero_add (g j : Nat) : (⟨g, 0, none⟩ : Addr).add j = ⟨g, j, none⟩ := by
  unfold Addr.add; split
  · rename_i hz; rw [hz]
  · simp

/-- a slice of the address A whose cells are these, below block B. -/
def Lies (w : World) (B : Nat) (A : Option Addr) (vs : List Value) : Prop :=
  0 < vs.length → ∃ ad : Addr, A = some ad ∧ ad.block < B ∧ ∀ (j : Nat) (u : Value), vs[j]? = some u → w.cell? (ad.add j) = some u
theorem Lies.below {w w' : World} {B : Nat} {A : Option Addr} {vs : List Value} (h : Lies w B A vs) (hb : Below B w w') : Lies w' B A vs := fun hl => by
  obtain ⟨ad, e, hB, hc⟩ := h hl
  exact ⟨ad, e, hB, fun j u hu => (hb.cell (by rw [block_add]; exact hB)).trans (hc j u hu)⟩
theorem Lies.more {w : World} {B B' : Nat} {A : Option Addr} {vs : List Value} (h : Lies w B A vs) (hB : B ≤ B') : Lies w B' A vs := fun hl => by
  obtain ⟨ad, e, hb, hc⟩ := h hl
  exact ⟨ad, e, by omega, hc⟩
theorem Lies.none_ (w : World) (B : Nat) (A : Option Addr) : Lies w B A [] := fun h => absurd h (by simp)
theorem lies_own {w : World} {B g n cap size : Nat} {e : TypeId} {vs : List Value} (h : w.ownsRow B e size (.slice (some ⟨g, 0, none⟩) n cap) n vs) : Lies w w.heap.size (some ⟨g, 0, none⟩) vs := fun _ => by
  refine ⟨_, rfl, (h.lt g rfl).2, fun j u hj => ?_⟩
  have hjl : j < vs.length := (List.getElem?_eq_some_iff.1 hj).1
  have := h.1
  rw [zero_add, h.cellAt j (by omega), hj]
theorem below_new (w : World) (o : Obj) : Below w.heap.size w (w.alloc o) := (Below.refl _ _).alloc (Nat.le_refl _) o
theorem turn_refl (w : World) (row : Option Nat) : w.grownBy w row := ⟨rfl, rfl, rfl, Nat.le_refl _, fun _ _ _ => rfl⟩
theorem own_shape {w w1 : World} {B n size : Nat} {e : TypeId} {v1 : Value} {xs : List Value} (hown : w1.ownsRow B e size v1 n xs) (hn : 0 < n ∨ ¬ v1 = .slice none 0 0) : ∃ g cap, v1 = .slice (some ⟨g, 0, none⟩) n cap ∧ B ≤ g := by
  rcases hown.2 with ⟨h, hz⟩ | ⟨g, cap, _, e, hg, _⟩
  · rcases hn with hn | hn
    · omega
    · exact absurd h hn
  · exact ⟨g, cap, e, hg⟩

/-- a dot: its device and its number. -/
abbrev Dot := Nat × Nat
def dv (l : List Dot) : List Value := l.flatMap fun r => [.int .u16 (r.1 : Int), .int .u64 (r.2 : Int)]
theorem dv_nil : dv [] = [] := rfl
theorem dv_append (l m : List Dot) : dv (l ++ m) = dv l ++ dv m := by unfold dv; rw [List.flatMap_append]
theorem dv_length (l : List Dot) : (dv l).length = l.length * 2 := by
  induction l with
  | nil => rfl
  | cons r l ih => simp only [dv, List.flatMap_cons, List.length_append, List.length_cons, List.length_nil] at ih ⊢; omega
theorem dv_get {l : List Dot} {k : Nat} {r : Dot} (h : l[k]? = some r) : (dv l)[k * 2]? = some (.int .u16 (r.1 : Int)) ∧ (dv l)[k * 2 + 1]? = some (.int .u64 (r.2 : Int)) := by
  induction l generalizing k with
  | nil => simp at h
  | cons x l ih =>
    cases k with
    | zero => obtain rfl : x = r := by simpa using h
              exact ⟨rfl, rfl⟩
    | succ k =>
      have h2 := ih (k := k) (by simpa using h)
      have e : dv (x :: l) = .int .u16 (x.1 : Int) :: .int .u64 (x.2 : Int) :: dv l := rfl
      have e1 : (k + 1) * 2 = k * 2 + 2 := by omega
      rw [e, e1]
      exact ⟨by simpa using h2.1, by simpa using h2.2⟩
theorem dv_one (l : List Dot) : ∀ u ∈ dv l, u.oneCell' = true := by
  intro u hu
  obtain ⟨r, _, h⟩ := List.mem_flatMap.1 hu
  simp only [List.mem_cons, List.not_mem_nil, or_false] at h
  rcases h with rfl | rfl <;> rfl

def Fit (l : List Dot) : Prop := ∀ r ∈ l, r.1 < 65536 ∧ r.2 < 18446744073709551616
/-- a slice of the address A that holds these dots, below block B. -/
def Dots (w : World) (B : Nat) (A : Option Addr) (l : List Dot) : Prop := Fit l ∧ Lies w B A (dv l)
theorem Dots.below {w w' : World} {B : Nat} {A : Option Addr} {l : List Dot} (h : Dots w B A l) (hb : Below B w w') : Dots w' B A l := ⟨h.1, h.2.below hb⟩
theorem Dots.more {w : World} {B B' : Nat} {A : Option Addr} {l : List Dot} (h : Dots w B A l) (hB : B ≤ B') : Dots w B' A l := ⟨h.1, h.2.more hB⟩
theorem Dots.up {w W : World} {A : Option Addr} {l : List Dot} (h : Dots w w.heap.size A l) (hb : Below w.heap.size w W) : Dots W W.heap.size A l := (h.below hb).more hb.size
theorem Dots.none_ (w : World) (B : Nat) (A : Option Addr) : Dots w B A [] := ⟨fun r hr => (by cases hr), Lies.none_ _ _ _⟩
theorem Dots.at_ {w : World} {B : Nat} {A : Option Addr} {l : List Dot} (h : Dots w B A l) {k : Nat} (hk : k < l.length) :
    ∃ (ad : Addr) (lo hi : Nat), A = some ad ∧ l[k]? = some (lo, hi) ∧ lo < 65536 ∧ hi < 18446744073709551616 ∧ w.cell? (ad.add (k * 2)) = some (.int .u16 (lo : Int)) ∧ w.cell? (ad.add (k * 2 + 1)) = some (.int .u64 (hi : Int)) := by
  obtain ⟨ad, e, _, hc⟩ := h.2 (by rw [dv_length]; omega)
  have hg := List.getElem?_eq_getElem hk
  obtain ⟨h1, h2⟩ := h.1 l[k] (List.getElem_mem hk)
  obtain ⟨g1, g2⟩ := dv_get hg
  exact ⟨ad, l[k].1, l[k].2, e, hg, h1, h2, hc _ _ g1, hc _ _ g2⟩

/-- where a place within memory stands, as the walk reckons it. -/
theorem add_lit (a : Addr) (n : Nat) (h : a.spot = none) : a.add n = ⟨a.block, a.off + n, none⟩ := by
  unfold Addr.add
  split
  · rename_i hz; subst hz; cases a; simp_all
  · rfl

theorem add_next (ad : Addr) (m : Nat) : (⟨(ad.add m).block, (ad.add m).off + 1, none⟩ : Addr) = ad.add (m + 1) := by
  unfold Addr.add
  by_cases h : m = 0
  · subst h; simp
  · simp [h, Nat.add_assoc]
end Go.Proofs.Ytmhghgogehmehaa.Dt

/- The contracts of the document's answers for layer dot on single dots: Good, Cmp, Pack, Split, Unpack. For every dot and number of their types. -/
namespace Go.Proofs.Ytmhghgogehmehaa.Dt
open Go.ChangeShapes Go.WideShapes Go.ChangeAt Go.RowKit
set_option linter.unusedVariables false

theorem below_new3 (w : World) (o1 o2 o3 : Obj) : Below w.heap.size w (((w.alloc o1).alloc o2).alloc o3) := by
  have h1 := below_new w o1
  have h2 := h1.alloc (Nat.le_trans (Nat.le_refl _) h1.size) o2
  exact h2.alloc h2.size o3
/-- may a dot be? -/
def mayD (d : Dot) : Bool := decide (1 ≤ d.1 ∧ 1 ≤ d.2 ∧ d.2 < 281474976710656)
theorem may_iff (d : Dot) : mayD d = true ↔ 1 ≤ d.1 ∧ 1 ≤ d.2 ∧ d.2 < 281474976710656 := decide_eq_true_iff
/-- which dot stands ahead? -/
def aheadD (a b : Dot) : Bool := decide (a.1 < b.1 ∨ (a.1 = b.1 ∧ a.2 < b.2))
def cmpD (a b : Dot) : Int := if a = b then 0 else if aheadD a b = true then -1 else 1
theorem cmp_same (a : Dot) : cmpD a a = 0 := if_pos rfl
theorem cmp_less {a b : Dot} (h : aheadD a b = true) : cmpD a b = -1 := by
  unfold cmpD
  rw [if_neg, if_pos h]
  rintro rfl
  have := of_decide_eq_true h
  omega
theorem cmp_more {a b : Dot} (h : aheadD b a = true) : cmpD a b = 1 := by
  have h2 := of_decide_eq_true h
  unfold cmpD
  rw [if_neg, if_neg]
  · intro h3
    have := of_decide_eq_true h3
    omega
  · rintro rfl
    omega
/-- the dot of a number. -/
def splitD (v : Nat) : Dot := (v / 281474976710656, v % 281474976710656)
def unpackD (v : Nat) : Dot × Bool := if mayD (splitD v) = true then (splitD v, true) else ((0, 0), false)
end Go.Proofs.Ytmhghgogehmehaa.Dt

/- The contracts of the document's answers for layer dot that tell of lists: Same, Has, Rising. For every list. -/
namespace Go.Proofs.Ytmhghgogehmehaa.Dt
open Go.ChangeShapes Go.WideShapes Go.ChangeAt Go.RowKit
set_option linter.unusedVariables false

theorem bel_drewN {B : Nat} {w W : World} (h : Below B w W) (m : Nat) : Below B w (W.drewN m) := h.trans ⟨rfl, rfl, rfl, Nat.le_refl _, fun _ _ => rfl⟩
theorem take_more {l m : List Dot} {k : Nat} {x : Dot} (h : l.take k = m.take k) (h1 : l[k]? = some x) (h2 : m[k]? = some x) : l.take (k + 1) = m.take (k + 1) := by
  rw [List.take_add_one, List.take_add_one, h, h1, h2]
theorem ne_at {l m : List Dot} {k : Nat} {x y : Dot} (h1 : l[k]? = some x) (h2 : m[k]? = some y) (hn : x ≠ y) : l ≠ m := by
  intro e
  rw [e, h2] at h1
  exact hn (Option.some.inj h1).symm
theorem take_next {l : List Dot} {k : Nat} {x : Dot} (h1 : l[k]? = some x) : l.take (k + 1) = l.take k ++ [x] := by
  rw [List.take_add_one, h1]; rfl
end Go.Proofs.Ytmhghgogehmehaa.Dt

/- The contracts of the document's answers for layer dot on texts: Decimal, Text. For every number and dot of their types. -/
namespace Go.Proofs.Ytmhghgogehmehaa.Dt
open Go.ChangeShapes Go.WideShapes Go.ChangeAt Go.RowKit
set_option linter.unusedVariables false

/-- a number's digits. -/
def digB (v : Nat) : UInt8 := UInt8.ofNat (48 + v % 10)
def decB (v : Nat) : List UInt8 := if h : v < 10 then [digB v] else decB (v / 10) ++ [digB v]
termination_by v
decreasing_by omega
theorem decB_small {v : Nat} (h : v < 10) : decB v = [digB v] := by rw [decB, dif_pos h]
theorem decB_more {v : Nat} (h : ¬ v < 10) : decB v = decB (v / 10) ++ [digB v] := by rw [decB, dif_neg h]
theorem decB_long (v k : Nat) (h : v < 10 ^ (k + 1)) : (decB v).length ≤ k + 1 := by
  induction k generalizing v with
  | zero => rw [decB_small (by simpa using h)]; simp
  | succ k ih =>
    by_cases h1 : v < 10
    · rw [decB_small h1]; simp
    · rw [decB_more h1, List.length_append]
      have := ih (v / 10) (by rw [Nat.pow_succ] at h; omega)
      simp; omega
def decA (v : Nat) : ByteArray := ⟨(decB v).toArray⟩
theorem decA_long {v : Nat} (h : v < 18446744073709551616) : (decA v).size ≤ 20 := by
  have := decB_long v 19 (by omega)
  simpa [decA, ByteArray.size] using this

theorem bel_drew {w W : World} (h : Below w.heap.size w W) : Below w.heap.size w W.drew := h.drew
/-- a dot's text. -/
def textA (d : Dot) : ByteArray := decA d.1 ++ ⟨#[46]⟩ ++ decA d.2
end Go.Proofs.Ytmhghgogehmehaa.Dt

/- The contract of the document's Rising of layer dot. For every list. -/
namespace Go.Proofs.Ytmhghgogehmehaa.Dt
open Go.ChangeShapes Go.WideShapes Go.ChangeAt Go.RowKit
set_option linter.unusedVariables false

/-- does each one stand ahead of the next one? -/
def riseB : List Dot → Bool
  | a :: b :: l => aheadD a b && riseB (b :: l)
  | _ => true
theorem riseB_snoc (l : List Dot) (x y : Dot) : riseB (l ++ [x] ++ [y]) = (riseB (l ++ [x]) && aheadD x y) := by
  induction l with
  | nil => simp [riseB]
  | cons a l ih =>
    cases l with
    | nil => simp [riseB]
    | cons b l =>
      simp only [List.cons_append, riseB] at ih ⊢
      rw [ih, Bool.and_assoc]
theorem riseB_part (l m : List Dot) (h : riseB (l ++ m) = true) : riseB l = true := by
  induction l with
  | nil => rfl
  | cons a l ih =>
    cases l with
    | nil => rfl
    | cons b l =>
      simp only [List.cons_append, riseB, Bool.and_eq_true] at ih h ⊢
      exact ⟨h.1, ih h.2⟩
theorem riseB_two {l : List Dot} {j : Nat} {x y : Dot} (hx : l[j]? = some x) (hy : l[j + 1]? = some y) : riseB (l.take (j + 2)) = (riseB (l.take (j + 1)) && aheadD x y) := by
  rw [take_next hy, take_next hx, riseB_snoc]
theorem cmp_sign (a b : Dot) : aheadD a b = false → 0 ≤ cmpD a b := by
  intro h
  unfold cmpD
  split
  · omega
  · rw [h]; simp
theorem Dots.cells {w : World} {B : Nat} {A : Option Addr} {l : List Dot} (h : Dots w B A l) {k : Nat} (hk : k < l.length) :
    ∃ (ad : Addr) (x : Dot), A = some ad ∧ ad.block < B ∧ l[k]? = some x ∧ x.1 < 65536 ∧ x.2 < 18446744073709551616 ∧ ∀ V, Below B w V → V.cell? (ad.add (k * 2)) = some (.int .u16 (x.1 : Int)) ∧ V.cell? ⟨(ad.add (k * 2)).block, (ad.add (k * 2)).off + 1, none⟩ = some (.int .u64 (x.2 : Int)) := by
  obtain ⟨ad, e, hB, _⟩ := h.2 (by rw [dv_length]; omega)
  obtain ⟨ad', lo, hi, e', hl, h1, h2, hc1, hc2⟩ := h.at_ hk
  obtain rfl : ad = ad' := by rw [e] at e'; exact Option.some.inj e'
  refine ⟨ad, (lo, hi), e, hB, hl, h1, h2, fun V hV => ⟨(hV.cell (by rw [block_add]; exact hB)).trans hc1, ?_⟩⟩
  rw [add_next]
  exact (hV.cell (by rw [block_add]; exact hB)).trans hc2

end Go.Proofs.Ytmhghgogehmehaa.Dt

/- Lists of dots of one's own: append of any dots to any list of one's own, nil too. Condition: at most 2^43 dots in all. -/
namespace Go.Proofs.Ytmhghgogehmehaa.Dt
open Go.ChangeShapes Go.WideShapes Go.ChangeAt Go.RowKit
set_option linter.unusedVariables false

theorem own_less {w : World} {B B' n size : Nat} {e : TypeId} {v : Value} {xs : List Value} (h : w.ownsRow B' e size v n xs) (hB : B ≤ B') : w.ownsRow B e size v n xs := by
  refine ⟨h.1, ?_⟩
  rcases h.2 with hz | ⟨g, cap, cur, e, hg, hr⟩
  · exact .inl hz
  · exact .inr ⟨g, cap, cur, e, Nat.le_trans hB hg, hr⟩
theorem own_kept {w V : World} {B n size : Nat} {e : TypeId} {v : Value} {xs : List Value} (h : w.ownsRow B e size v n xs) (hb : Below w.heap.size w V) : V.ownsRow B e size v n xs := by
  refine ⟨h.1, ?_⟩
  rcases h.2 with hz | ⟨g, cap, cur, e, hg, hh, hr⟩
  · exact .inl hz
  · have hlt : g < w.heap.size := by
      rcases Nat.lt_or_ge g w.heap.size with h1 | h1
      · exact h1
      · rw [Array.getElem?_eq_none h1] at hh; cases hh
    exact .inr ⟨g, cap, cur, e, hg, (hb.block g hlt).trans hh, hr⟩
theorem own_len {w : World} {B n size : Nat} {e : TypeId} {A : Option Addr} {c : Nat} {xs : List Value} (h : w.ownsRow B e size (.slice A n c) n xs) : n ≤ c ∧ c ≤ 9223372036854775807 ∧ (A = none → n = 0 ∧ c = 0) := by
  rcases h.2 with ⟨h, hz⟩ | ⟨_, _, _, h, _, _, h1, h2, _⟩
  · cases h; exact ⟨by omega, by omega, fun _ => ⟨rfl, rfl⟩⟩
  · cases h; exact ⟨h1, h2, fun e => by cases e⟩
theorem own_form {w : World} {B n size : Nat} {e : TypeId} {v : Value} {xs : List Value} (h : w.ownsRow B e size v n xs) : ∃ A c, v = .slice A n c := by
  rcases h.2 with ⟨rfl, rfl⟩ | ⟨g, cap, _, rfl, _⟩
  · exact ⟨none, 0, rfl⟩
  · exact ⟨_, cap, rfl⟩
theorem lies_any {w : World} {B n c size : Nat} {e : TypeId} {A : Option Addr} {vs : List Value} (hs : 0 < size) (h : w.ownsRow B e size (.slice A n c) n vs) : Lies w w.heap.size A vs := by
  rcases Nat.eq_zero_or_pos n with h0 | h0
  · have h1 := h.1
    rw [h0, Nat.zero_mul] at h1
    rw [List.eq_nil_of_length_eq_zero h1]
    exact Lies.none_ _ _ _
  · obtain ⟨g, cap, e1, _⟩ := own_shape (w := w) h (.inl h0)
    cases e1
    exact lies_own h
/-- a dot more, in its place. -/
def putD (l : List Dot) (d : Dot) : List Dot := l.filter (fun x => aheadD x d) ++ [d] ++ l.filter (fun x => aheadD d x)
def sortD (l : List Dot) : List Dot := l.foldl putD []
theorem ahead_iff (a b : Dot) : aheadD a b = true ↔ a.1 < b.1 ∨ (a.1 = b.1 ∧ a.2 < b.2) := decide_eq_true_iff
theorem cmp_neg (x d : Dot) : decide (cmpD x d < 0) = aheadD x d := by
  cases h : aheadD x d with
  | true => exact decide_eq_true (by rw [cmp_less h]; omega)
  | false => exact decide_eq_false (by have := cmp_sign x d h; omega)
theorem cmp_pos (x d : Dot) : decide (0 < cmpD x d) = aheadD d x := by
  cases h : aheadD d x with
  | true => exact decide_eq_true (by rw [cmp_more h]; omega)
  | false =>
    apply decide_eq_false
    unfold cmpD
    split
    · omega
    · rename_i hne
      have h2 : aheadD x d = true := by
        rw [ahead_iff]
        have h3 : ¬ (d.1 < x.1 ∨ (d.1 = x.1 ∧ d.2 < x.2)) := fun h' => by rw [(ahead_iff d x).2 h'] at h; exact absurd h (by simp)
        have h4 : ¬ (x.1 = d.1 ∧ x.2 = d.2) := fun h' => hne (Prod.ext h'.1 h'.2)
        omega
      rw [if_pos h2]; omega
theorem filter_next (f : Dot → Bool) {l : List Dot} {k : Nat} {x : Dot} (h : l[k]? = some x) : (l.take (k + 1)).filter f = (l.take k).filter f ++ (if f x = true then [x] else []) := by
  rw [take_next h, List.filter_append]
  by_cases hf : f x = true
  · simp [hf]
  · simp [hf]
theorem fit_put {l : List Dot} {d : Dot} (h : Fit l) (hd : d.1 < 65536 ∧ d.2 < 18446744073709551616) : Fit (putD l d) := by
  intro r hr
  unfold putD at hr
  simp only [List.mem_append, List.mem_filter, List.mem_singleton] at hr
  rcases hr with (hr | rfl) | hr
  · exact h r hr.1
  · exact hd
  · exact h r hr.1
theorem put_length (l : List Dot) (d : Dot) : (putD l d).length ≤ l.length + 1 := by
  have h : ∀ m : List Dot, (m.filter (fun x => aheadD x d)).length + (m.filter (fun x => aheadD d x)).length ≤ m.length := by
    intro m
    induction m with
    | nil => simp
    | cons x m ih =>
      have hx : ¬ (aheadD x d = true ∧ aheadD d x = true) := by
        rintro ⟨h1, h2⟩
        rw [ahead_iff] at h1 h2
        omega
      by_cases h1 : aheadD x d = true
      · have h2 : ¬ aheadD d x = true := fun h => hx ⟨h1, h⟩
        simp [h1, h2]; omega
      · by_cases h2 : aheadD d x = true
        · simp [h1, h2]; omega
        · simp [h1, h2]; omega
  have := h l
  unfold putD
  simp only [List.length_append, List.length_singleton]
  omega
end Go.Proofs.Ytmhghgogehmehaa.Dt

/- The contracts of the document's Put and Sort of layer dot. Put: for every list of at most 2^42 dots. -/
namespace Go.Proofs.Ytmhghgogehmehaa.Dt
open Go.ChangeShapes Go.WideShapes Go.ChangeAt Go.RowKit
set_option linter.unusedVariables false

theorem bel_alloc {w W : World} (o : Obj) (h : Below w.heap.size w W) : Below w.heap.size w (W.alloc o) := h.alloc h.size o
end Go.Proofs.Ytmhghgogehmehaa.Dt

/- The contract of the document's Sort of layer dot. For every list of at most 2^42 dots. -/
namespace Go.Proofs.Ytmhghgogehmehaa.Dt
open Go.ChangeShapes Go.WideShapes Go.ChangeAt Go.RowKit
set_option linter.unusedVariables false

theorem sort_next {l : List Dot} {k : Nat} {x : Dot} (h : l[k]? = some x) : sortD (l.take (k + 1)) = putD (sortD (l.take k)) x := by
  unfold sortD
  rw [take_next h, List.foldl_append]; rfl
theorem sort_fit (l : List Dot) (h : Fit l) (k : Nat) : Fit (sortD (l.take k)) ∧ (sortD (l.take k)).length ≤ k := by
  induction k with
  | zero => exact ⟨fun r hr => (by cases hr), Nat.le_refl _⟩
  | succ k ih =>
    by_cases hk : k < l.length
    · have hg := List.getElem?_eq_getElem hk
      rw [sort_next hg]
      exact ⟨fit_put ih.1 (h _ (List.getElem_mem hk)), Nat.le_trans (put_length _ _) (by omega)⟩
    · have e : l.take (k + 1) = l.take k := by rw [List.take_of_length_le (by omega), List.take_of_length_le (by omega)]
      rw [e]
      exact ⟨ih.1, by omega⟩
/-! The document's list of a list: its dots, each once, in order. Plain arithmetic. -/
theorem ahead_trans {a b c : Dot} (h1 : aheadD a b = true) (h2 : aheadD b c = true) : aheadD a c = true := by
  rw [ahead_iff] at *; omega
theorem ahead_not {a b : Dot} (h1 : aheadD a b = true) : aheadD b a = false := by
  cases h : aheadD b a with
  | false => rfl
  | true => rw [ahead_iff] at *; omega
theorem ahead_irr (a : Dot) : aheadD a a = false := by
  cases h : aheadD a a with
  | false => rfl
  | true => rw [ahead_iff] at h; omega
theorem ahead_all {a b : Dot} (h1 : aheadD a b = false) (h2 : a ≠ b) : aheadD b a = true := by
  rw [ahead_iff]
  have h3 : ¬ (a.1 < b.1 ∨ (a.1 = b.1 ∧ a.2 < b.2)) := fun h' => by rw [(ahead_iff a b).2 h'] at h1; exact absurd h1 (by simp)
  have h4 : ¬ (a.1 = b.1 ∧ a.2 = b.2) := fun h' => h2 (Prod.ext h'.1 h'.2)
  omega
/-- each one ahead of all behind it. -/
def Ord (l : List Dot) : Prop := l.Pairwise (fun a b => aheadD a b = true)
theorem put_mem (l : List Dot) (d x : Dot) : x ∈ putD l d ↔ x = d ∨ x ∈ l := by
  unfold putD
  simp only [List.mem_append, List.mem_filter, List.mem_singleton]
  constructor
  · rintro ((h | h) | h)
    · exact .inr h.1
    · exact .inl h
    · exact .inr h.1
  · rintro (h | h)
    · exact .inl (.inr h)
    · by_cases h1 : aheadD x d = true
      · exact .inl (.inl ⟨h, h1⟩)
      · by_cases h2 : x = d
        · exact .inl (.inr h2)
        · exact .inr ⟨h, ahead_all (by simpa using h1) h2⟩
theorem put_ord {l : List Dot} (d : Dot) (h : Ord l) : Ord (putD l d) := by
  unfold putD Ord
  rw [List.pairwise_append, List.pairwise_append]
  refine ⟨⟨h.filter _, List.pairwise_singleton _ _, ?_⟩, h.filter _, ?_⟩
  · intro a ha b hb
    rw [List.mem_singleton.1 hb]
    exact (List.mem_filter.1 ha).2
  · intro a ha b hb
    have hb2 := (List.mem_filter.1 hb).2
    rcases List.mem_append.1 ha with ha | ha
    · exact ahead_trans (List.mem_filter.1 ha).2 hb2
    · rw [List.mem_singleton.1 ha]; exact hb2
theorem sort_from (l m : List Dot) (h : Ord m) : Ord (l.foldl putD m) ∧ ∀ x, x ∈ l.foldl putD m ↔ x ∈ m ∨ x ∈ l := by
  induction l generalizing m with
  | nil => exact ⟨h, fun x => by simp⟩
  | cons d l ih =>
    obtain ⟨h1, h2⟩ := ih (putD m d) (put_ord d h)
    refine ⟨h1, fun x => ?_⟩
    rw [List.foldl_cons, h2, put_mem, List.mem_cons]
    constructor
    · rintro ((h | h) | h)
      · exact .inr (.inl h)
      · exact .inl h
      · exact .inr (.inr h)
    · rintro (h | h | h)
      · exact .inl (.inr h)
      · exact .inl (.inl h)
      · exact .inr h
theorem sort_ord (l : List Dot) : Ord (sortD l) := (sort_from l [] List.Pairwise.nil).1
theorem sort_mem (l : List Dot) (x : Dot) : x ∈ sortD l ↔ x ∈ l := by rw [show sortD l = l.foldl putD [] from rfl, (sort_from l [] List.Pairwise.nil).2]; simp
/-- two lists in order with the same dots are the same. -/
theorem ord_uniq {l m : List Dot} (hl : Ord l) (hm : Ord m) (h : ∀ x, x ∈ l ↔ x ∈ m) : l = m := by
  induction l generalizing m with
  | nil =>
    cases m with
    | nil => rfl
    | cons b m => exact absurd ((h b).2 (List.mem_cons_self ..)) (by simp)
  | cons a l ih =>
    cases m with
    | nil => exact absurd ((h a).1 (List.mem_cons_self ..)) (by simp)
    | cons b m =>
      obtain ⟨hl1, hl2⟩ := List.pairwise_cons.1 hl
      obtain ⟨hm1, hm2⟩ := List.pairwise_cons.1 hm
      have hab : a = b := by
        rcases List.mem_cons.1 ((h a).1 (List.mem_cons_self ..)) with h1 | h1
        · exact h1
        · rcases List.mem_cons.1 ((h b).2 (List.mem_cons_self ..)) with h2 | h2
          · exact h2.symm
          · have h3 := hm1 a h1
            have h4 := hl1 b h2
            rw [ahead_not h3] at h4
            exact absurd h4 (by simp)
      subst hab
      congr 1
      refine ih hl2 hm2 fun x => ?_
      constructor
      · intro hx
        rcases List.mem_cons.1 ((h x).1 (List.mem_cons_of_mem _ hx)) with h1 | h1
        · have h2 := hl1 x hx
          rw [h1, ahead_irr] at h2
          exact absurd h2 (by simp)
        · exact h1
      · intro hx
        rcases List.mem_cons.1 ((h x).2 (List.mem_cons_of_mem _ hx)) with h1 | h1
        · have h2 := hm1 x hx
          rw [h1, ahead_irr] at h2
          exact absurd h2 (by simp)
        · exact h1
theorem sort_uniq {l m : List Dot} (hm : Ord m) (h : ∀ x, x ∈ m ↔ x ∈ l) : m = sortD l :=
  ord_uniq hm (sort_ord l) (fun x => by rw [h, sort_mem])
theorem rise_ord (l : List Dot) : riseB l = true ↔ Ord l := by
  induction l with
  | nil => simp [riseB, Ord]
  | cons a l ih =>
    cases l with
    | nil => simp [riseB, Ord]
    | cons b l =>
      rw [show riseB (a :: b :: l) = (aheadD a b && riseB (b :: l)) from rfl, Bool.and_eq_true, ih]
      unfold Ord
      rw [List.pairwise_cons (a := a)]
      constructor
      · rintro ⟨h1, h2⟩
        refine ⟨fun x hx => ?_, h2⟩
        rcases List.mem_cons.1 hx with rfl | hx
        · exact h1
        · exact ahead_trans h1 ((List.pairwise_cons.1 h2).1 x hx)
      · rintro ⟨h1, h2⟩
        exact ⟨h1 b (List.mem_cons_self ..), h2⟩
/-- a list in order is its own sorting. -/
theorem sort_same {l : List Dot} (h : Ord l) : sortD l = l := (sort_uniq h (fun x => Iff.rfl)).symm

/-! Numbers of dots. -/
def numD (d : Dot) : Nat := d.1 * 281474976710656 + d.2 % 281474976710656
theorem num_order {a b : Dot} (ha : mayD a = true) (hb : mayD b = true) : numD a < numD b ↔ aheadD a b = true := by
  rw [may_iff] at ha hb
  rw [ahead_iff]
  unfold numD
  omega
theorem num_one {a b : Dot} (ha : mayD a = true) (hb : mayD b = true) : numD a = numD b ↔ a = b := by
  rw [may_iff] at ha hb
  constructor
  · intro h
    unfold numD at h
    exact Prod.ext (by omega) (by omega)
  · rintro rfl; rfl
theorem unpack_num {d : Dot} (h : mayD d = true) (h1 : d.1 < 65536) : unpackD (numD d) = (d, true) := by
  have h2 := (may_iff d).1 h
  have e : splitD (numD d) = d := by unfold splitD numD; exact Prod.ext (by show _ / _ = _; omega) (by show _ % _ = _; omega)
  unfold unpackD
  rw [e, if_pos h]
end Go.Proofs.Ytmhghgogehmehaa.Dt

/- Words for the claims of layer runs: slices of runs and of numbers in memory, appends to a list of one's own. -/
namespace Go.Proofs.Ytmhghgogehmehaa.Ru
open Go.ChangeShapes Go.WideShapes Go.ChangeAt Go.RowKit
set_option linter.unusedVariables false
set_option maxRecDepth 4000

theorem ret_int {k : IntKind} {a b : Int} (h : a = b) : Ending.returned (.int k a) = .returned (.int k b) := by rw [h]
theorem ret_bool {a b : Bool} (h : a = b) : Ending.returned (.bool a) = .returned (.bool b) := by rw [h]
theorem block_add (a : Addr) (n : Nat) : (a.add n).block = a.block := by unfold Addr.add; split <;> rfl
theorem add_add (a : Addr) (m n : Nat) : (a.add m).add n = a.add (m + n) := by
  unfold Addr.add
  by_cases h1 : m = 0
  · subst h1; simp
  · by_cases h2 : n = 0
    · subst h2; simp
    · have h3 : ¬ m + n = 0 := by omega
      simp [h1, h2, Nat.add_assoc]
theorem zero_add (g j : Nat) : (⟨g, 0, none⟩ : Addr).add j = ⟨g, j, none⟩ := by
  unfold Addr.add; split
  · rename_i hz; rw [hz]
  · simp

/-- a slice of the address A whose cells are these, below block B. -/
def Lies (w : World) (B : Nat) (A : Option Addr) (vs : List Value) : Prop :=
  0 < vs.length → ∃ ad : Addr, A = some ad ∧ ad.block < B ∧ ∀ (j : Nat) (u : Value), vs[j]? = some u → w.cell? (ad.add j) = some u
theorem Lies.below {w w' : World} {B : Nat} {A : Option Addr} {vs : List Value} (h : Lies w B A vs) (hb : Below B w w') : Lies w' B A vs := fun hl => by
  obtain ⟨ad, e, hB, hc⟩ := h hl
  exact ⟨ad, e, hB, fun j u hu => (hb.cell (by rw [block_add]; exact hB)).trans (hc j u hu)⟩
theorem Lies.more {w : World} {B B' : Nat} {A : Option Addr} {vs : List Value} (h : Lies w B A vs) (hB : B ≤ B') : Lies w B' A vs := fun hl => by
  obtain ⟨ad, e, hb, hc⟩ := h hl
  exact ⟨ad, e, by omega, hc⟩
theorem Lies.none_ (w : World) (B : Nat) (A : Option Addr) : Lies w B A [] := fun h => absurd h (by simp)
theorem lies_own {w : World} {B g n cap size : Nat} {e : TypeId} {vs : List Value} (h : w.ownsRow B e size (.slice (some ⟨g, 0, none⟩) n cap) n vs) : Lies w w.heap.size (some ⟨g, 0, none⟩) vs := fun _ => by
  refine ⟨_, rfl, (h.lt g rfl).2, fun j u hj => ?_⟩
  have hjl : j < vs.length := (List.getElem?_eq_some_iff.1 hj).1
  have := h.1
  rw [zero_add, h.cellAt j (by omega), hj]
theorem below_new (w : World) (o : Obj) : Below w.heap.size w (w.alloc o) := (Below.refl _ _).alloc (Nat.le_refl _) o
theorem turn_refl (w : World) (row : Option Nat) : w.grownBy w row := ⟨rfl, rfl, rfl, Nat.le_refl _, fun _ _ _ => rfl⟩
theorem own_shape {w w1 : World} {B n size : Nat} {e : TypeId} {v1 : Value} {xs : List Value} (hown : w1.ownsRow B e size v1 n xs) (hn : 0 < n ∨ ¬ v1 = .slice none 0 0) : ∃ g cap, v1 = .slice (some ⟨g, 0, none⟩) n cap ∧ B ≤ g := by
  rcases hown.2 with ⟨h, hz⟩ | ⟨g, cap, _, e, hg, _⟩
  · rcases hn with hn | hn
    · omega
    · exact absurd h hn
  · exact ⟨g, cap, e, hg⟩

/-- a run: its two ends. -/
abbrev Run := Nat × Nat
def rv (l : List Run) : List Value := l.flatMap fun r => [.int .u64 (r.1 : Int), .int .u64 (r.2 : Int)]
def nv (l : List Nat) : List Value := l.map fun x : Nat => .int .u64 (x : Int)
theorem rv_nil : rv [] = [] := rfl
theorem rv_append (l m : List Run) : rv (l ++ m) = rv l ++ rv m := by unfold rv; rw [List.flatMap_append]
theorem nv_append (l m : List Nat) : nv (l ++ m) = nv l ++ nv m := by unfold nv; rw [List.map_append]
theorem rv_length (l : List Run) : (rv l).length = l.length * 2 := by
  induction l with
  | nil => rfl
  | cons r l ih => simp only [rv, List.flatMap_cons, List.length_append, List.length_cons, List.length_nil] at ih ⊢; omega
theorem nv_length (l : List Nat) : (nv l).length = l.length := by unfold nv; simp
theorem rv_get {l : List Run} {k : Nat} {r : Run} (h : l[k]? = some r) : (rv l)[k * 2]? = some (.int .u64 (r.1 : Int)) ∧ (rv l)[k * 2 + 1]? = some (.int .u64 (r.2 : Int)) := by
  induction l generalizing k with
  | nil => simp at h
  | cons x l ih =>
    cases k with
    | zero => obtain rfl : x = r := by simpa using h
              exact ⟨rfl, rfl⟩
    | succ k =>
      have h2 := ih (k := k) (by simpa using h)
      have e : rv (x :: l) = .int .u64 (x.1 : Int) :: .int .u64 (x.2 : Int) :: rv l := rfl
      have e1 : (k + 1) * 2 = k * 2 + 2 := by omega
      rw [e, e1]
      exact ⟨by simpa using h2.1, by simpa using h2.2⟩
theorem nv_get {l : List Nat} (j : Nat) : (nv l)[j]? = l[j]?.map fun x : Nat => Value.int .u64 (x : Int) := by unfold nv; simp
theorem rv_one (l : List Run) : ∀ u ∈ rv l, u.oneCell' = true := by
  intro u hu
  obtain ⟨r, _, h⟩ := List.mem_flatMap.1 hu
  simp only [List.mem_cons, List.not_mem_nil, or_false] at h
  rcases h with rfl | rfl <;> rfl
theorem nv_one (l : List Nat) : ∀ u ∈ nv l, u.oneCell' = true := by
  intro u hu
  obtain ⟨x, _, rfl⟩ := List.mem_map.1 hu
  rfl

def Fit (l : List Run) : Prop := ∀ r ∈ l, r.1 < 18446744073709551616 ∧ r.2 < 18446744073709551616
def FitN (l : List Nat) : Prop := ∀ x ∈ l, x < 18446744073709551616
/-- a slice of the address A that holds these runs, below block B. -/
def Runs (w : World) (B : Nat) (A : Option Addr) (l : List Run) : Prop := Fit l ∧ Lies w B A (rv l)
def Nums (w : World) (B : Nat) (A : Option Addr) (l : List Nat) : Prop := FitN l ∧ Lies w B A (nv l)
theorem Runs.below {w w' : World} {B : Nat} {A : Option Addr} {l : List Run} (h : Runs w B A l) (hb : Below B w w') : Runs w' B A l := ⟨h.1, h.2.below hb⟩
theorem Runs.more {w : World} {B B' : Nat} {A : Option Addr} {l : List Run} (h : Runs w B A l) (hB : B ≤ B') : Runs w B' A l := ⟨h.1, h.2.more hB⟩
theorem Runs.up {w W : World} {A : Option Addr} {l : List Run} (h : Runs w w.heap.size A l) (hb : Below w.heap.size w W) : Runs W W.heap.size A l := (h.below hb).more hb.size
theorem Runs.none_ (w : World) (B : Nat) (A : Option Addr) : Runs w B A [] := ⟨fun r hr => (by cases hr), Lies.none_ _ _ _⟩
theorem Nums.below {w w' : World} {B : Nat} {A : Option Addr} {l : List Nat} (h : Nums w B A l) (hb : Below B w w') : Nums w' B A l := ⟨h.1, h.2.below hb⟩
theorem Nums.more {w : World} {B B' : Nat} {A : Option Addr} {l : List Nat} (h : Nums w B A l) (hB : B ≤ B') : Nums w B' A l := ⟨h.1, h.2.more hB⟩
theorem Nums.up {w W : World} {A : Option Addr} {l : List Nat} (h : Nums w w.heap.size A l) (hb : Below w.heap.size w W) : Nums W W.heap.size A l := (h.below hb).more hb.size
theorem Nums.none_ (w : World) (B : Nat) (A : Option Addr) : Nums w B A [] := ⟨fun r hr => (by cases hr), Lies.none_ _ _ _⟩
theorem Runs.at_ {w : World} {B : Nat} {A : Option Addr} {l : List Run} (h : Runs w B A l) {k : Nat} (hk : k < l.length) :
    ∃ (ad : Addr) (lo hi : Nat), A = some ad ∧ l[k]? = some (lo, hi) ∧ lo < 18446744073709551616 ∧ hi < 18446744073709551616 ∧ w.cell? (ad.add (k * 2)) = some (.int .u64 (lo : Int)) ∧ w.cell? (ad.add (k * 2 + 1)) = some (.int .u64 (hi : Int)) := by
  obtain ⟨ad, e, _, hc⟩ := h.2 (by rw [rv_length]; omega)
  have hg := List.getElem?_eq_getElem hk
  obtain ⟨h1, h2⟩ := h.1 l[k] (List.getElem_mem hk)
  obtain ⟨g1, g2⟩ := rv_get hg
  exact ⟨ad, l[k].1, l[k].2, e, hg, h1, h2, hc _ _ g1, hc _ _ g2⟩
theorem Nums.at_ {w : World} {B : Nat} {A : Option Addr} {l : List Nat} (h : Nums w B A l) {k : Nat} (hk : k < l.length) :
    ∃ (ad : Addr) (x : Nat), A = some ad ∧ l[k]? = some x ∧ x < 18446744073709551616 ∧ w.cell? (ad.add k) = some (.int .u64 (x : Int)) := by
  obtain ⟨ad, e, _, hc⟩ := h.2 (by rw [nv_length]; omega)
  have hg := List.getElem?_eq_getElem hk
  exact ⟨ad, l[k], e, hg, h.1 _ (List.getElem_mem hk), hc _ _ (by rw [nv_get, hg]; rfl)⟩

/-- where a place within memory stands, as the walk reckons it. -/
theorem add_lit (a : Addr) (n : Nat) (h : a.spot = none) : a.add n = ⟨a.block, a.off + n, none⟩ := by
  unfold Addr.add
  split
  · rename_i hz; subst hz; cases a; simp_all
  · rfl

theorem run_info : (Try.prog.info? 35).map (fun i => (i.zero, i.size, i.bytes)) = some (some (.agg #[.int .u64 0, .int .u64 0]), 2, 16) := by kernel_rfl
theorem num_info : (Try.prog.info? 33).map (fun i => (i.zero, i.size, i.bytes)) = some (some (.int .u64 0), 1, 8) := by kernel_rfl

/-- may a run tell something? -/
def mayR (r : Run) : Bool := decide (1 ≤ r.1 ∧ r.1 ≤ r.2 ∧ r.2 ≤ 281474976710655)
/-- is a number told? -/
def has (l : List Run) (n : Nat) : Bool := l.any fun r => mayR r && (decide (r.1 ≤ n) && decide (n ≤ r.2))
theorem has_take {l : List Run} {k : Nat} {r : Run} {n : Nat} (h : l[k]? = some r) : has (l.take (k + 1)) n = (has (l.take k) n || (mayR r && (decide (r.1 ≤ n) && decide (n ≤ r.2)))) := by
  unfold has
  rw [List.take_add_one, h]
  simp
theorem has_hit {l : List Run} {k : Nat} {r : Run} {n : Nat} (h : l[k]? = some r) (ht : (mayR r && (decide (r.1 ≤ n) && decide (n ≤ r.2))) = true) : has l n = true := by
  unfold has
  exact List.any_eq_true.2 ⟨r, List.mem_of_getElem? h, ht⟩
theorem add_next (ad : Addr) (m : Nat) : (⟨(ad.add m).block, (ad.add m).off + 1, none⟩ : Addr) = ad.add (m + 1) := by
  unfold Addr.add
  by_cases h : m = 0
  · subst h; simp
  · simp [h, Nat.add_assoc]

end Go.Proofs.Ytmhghgogehmehaa.Ru

/- The contract of the document's 'put': a number more, in its place. Condition: at most 262144 numbers. -/
namespace Go.Proofs.Ytmhghgogehmehaa.Ru
open Go.ChangeShapes Go.WideShapes Go.ChangeAt Go.RowKit
set_option linter.unusedVariables false
set_option maxRecDepth 4000

/-- one round: what is out, and whether the number is. -/
def putS (n : Nat) (s : List Nat × Bool) (x : Nat) : List Nat × Bool :=
  if s.2 = false ∧ n ≤ x then (if x = n then s.1 ++ [n] else s.1 ++ [n] ++ [x], true) else (if x = n then s.1 else s.1 ++ [x], s.2)
def putF (n : Nat) (l : List Nat) : List Nat × Bool := l.foldl (putS n) ([], false)
def putL (l : List Nat) (n : Nat) : List Nat := if (putF n l).2 = true then (putF n l).1 else (putF n l).1 ++ [n]
theorem putF_take {l : List Nat} {k x n : Nat} (h : l[k]? = some x) : putF n (l.take (k + 1)) = putS n (putF n (l.take k)) x := by
  unfold putF
  rw [List.take_add_one, h]
  simp
def left (d : Bool) : Nat := bif d then 0 else 1
theorem putS_length (n : Nat) (s : List Nat × Bool) (x : Nat) : (putS n s x).1.length + left (putS n s x).2 ≤ s.1.length + left s.2 + 1 := by
  obtain ⟨o, d⟩ := s
  unfold putS
  cases d <;> by_cases h1 : n ≤ x <;> by_cases h2 : x = n <;> simp [h1, h2, left]
theorem putF_length (n : Nat) (l : List Nat) : (putF n l).1.length + left (putF n l).2 ≤ l.length + 1 := by
  suffices h : ∀ (s : List Nat × Bool), (l.foldl (putS n) s).1.length + left (l.foldl (putS n) s).2 ≤ l.length + (s.1.length + left s.2) by
    have h2 := h ([], false)
    unfold putF
    have e : (([], false) : List Nat × Bool).1.length + left (([], false) : List Nat × Bool).2 = 1 := rfl
    rw [e] at h2
    exact h2
  induction l with
  | nil => intro s; simp
  | cons x l ih =>
    intro s
    have h1 := ih (putS n s x)
    have h2 := putS_length n s x
    rw [List.foldl_cons, List.length_cons]
    omega
theorem putL_length (l : List Nat) (n : Nat) : (putL l n).length ≤ l.length + 1 := by
  have h := putF_length n l
  unfold putL
  split
  · omega
  · rename_i hd
    have hd' : (putF n l).2 = false := by simpa using hd
    rw [hd'] at h
    have e : left false = 1 := rfl
    rw [e] at h
    rw [List.length_append, List.length_singleton]
    omega

/-- rising, each once. -/
def Rising (l : List Nat) : Prop := l.Pairwise (· < ·)
/-- a number more, in its place. -/
def ins : List Nat → Nat → List Nat
  | [], n => [n]
  | x :: l, n => if x < n then x :: ins l n else if x = n then x :: l else n :: x :: l
theorem put_done (n : Nat) (l : List Nat) : ∀ o, (∀ x ∈ l, x ≠ n) → l.foldl (putS n) (o, true) = (o ++ l, true) := by
  induction l with
  | nil => intro o _; simp
  | cons x l ih =>
    intro o h
    have hx : x ≠ n := h x (by simp)
    rw [List.foldl_cons]
    have e : putS n (o, true) x = (o ++ [x], true) := by unfold putS; simp [hx]
    rw [e, ih _ (fun y hy => h y (by simp [hy])), List.append_assoc]
    rfl
theorem put_ins (n : Nat) {l : List Nat} (h : Rising l) : putL l n = ins l n := by
  suffices hs : ∀ o, (if (l.foldl (putS n) (o, false)).2 = true then (l.foldl (putS n) (o, false)).1 else (l.foldl (putS n) (o, false)).1 ++ [n]) = o ++ ins l n by
    have := hs []
    rw [List.nil_append] at this
    exact this
  induction l with
  | nil => intro o; simp [ins]
  | cons x l ih =>
    intro o
    have hr : Rising l := (List.pairwise_cons.1 h).2
    have hx : ∀ y ∈ l, x < y := (List.pairwise_cons.1 h).1
    rw [List.foldl_cons]
    by_cases h1 : n ≤ x
    · have h3 : ∀ y ∈ l, y ≠ n := fun y hy => by have := hx y hy; omega
      by_cases h2 : x = n
      · have e : putS n (o, false) x = (o ++ [n], true) := by unfold putS; simp [h2]
        rw [e, put_done n l _ h3]
        simp [ins, h2]
      · have e : putS n (o, false) x = (o ++ [n] ++ [x], true) := by unfold putS; simp [h1, h2]
        have h4 : ¬ x < n := by omega
        rw [e, put_done n l _ h3]
        simp [ins, h2, h4]
    · have h2 : ¬ x = n := by omega
      have h4 : x < n := by omega
      have e : putS n (o, false) x = (o ++ [x], false) := by unfold putS; simp [h1, h2]
      rw [e, ih hr]
      simp [ins, h4]
theorem mem_ins (l : List Nat) (n m : Nat) : m ∈ ins l n ↔ m = n ∨ m ∈ l := by
  induction l with
  | nil => simp [ins]
  | cons x l ih =>
    unfold ins
    split
    · simp only [List.mem_cons, ih]
      constructor
      · rintro (h | h | h) <;> simp [h]
      · rintro (h | h | h) <;> simp [h]
    · split
      · rename_i h; subst h; simp
      · simp
theorem ins_rising {l : List Nat} (h : Rising l) (n : Nat) : Rising (ins l n) := by
  induction l with
  | nil => simp [ins, Rising]
  | cons x l ih =>
    have hr : Rising l := (List.pairwise_cons.1 h).2
    have hx : ∀ y ∈ l, x < y := (List.pairwise_cons.1 h).1
    unfold ins
    split
    · rename_i h1
      refine List.pairwise_cons.2 ⟨fun y hy => ?_, ih hr⟩
      rcases (mem_ins l n y).1 hy with rfl | hy
      · exact h1
      · exact hx y hy
    · split
      · exact h
      · refine List.pairwise_cons.2 ⟨fun y hy => ?_, h⟩
        rcases List.mem_cons.1 hy with rfl | hy
        · omega
        · have := hx y hy; omega

theorem cell_one (w : World) (x : Value) (t : TypeId) : ∀ (j : Nat) (u : Value), [x][j]? = some u → (w.alloc (.cells #[x] t)).cell? ((⟨w.heap.size, 0, none⟩ : Addr).add j) = some u := by
  intro j u hu
  cases j with
  | zero =>
    rw [zero_add, World.cell?_alloc_new]
    simpa using hu
  | succ j => simp at hu

/-- a call that answers a new list of these numbers, or none. -/
def NumPost (w : World) (m : List Nat) (e : Ending) (w' : World) : Prop :=
  ∃ A n c, e = .returned (.slice A n c) ∧ m.length = n ∧ w'.ownsRow w.heap.size 33 1 (.slice A n c) n (nv m) ∧ Below w.heap.size w w'
def PutRel (w : World) (l : List Nat) (n len : Nat) (o d i : Value) (wr : World) : Prop :=
  ∃ (k m : Nat) (A : Option Addr) (c : Nat), k ≤ len ∧ i = .int .i64 (k : Int) ∧ o = .slice A m c ∧ d = .bool (putF n (l.take k)).2 ∧ (putF n (l.take k)).1.length = m ∧ wr.ownsRow w.heap.size 33 1 (.slice A m c) m (nv (putF n (l.take k)).1) ∧ Below w.heap.size w wr

theorem fitN_put {n : Nat} (hn : n < 18446744073709551616) {l : List Nat} (h : FitN l) (o : List Nat) (d : Bool) (ho : FitN o) : FitN (l.foldl (putS n) (o, d)).1 := by
  induction l generalizing o d with
  | nil => exact ho
  | cons x l ih =>
    have hx : x < 18446744073709551616 := h x (by simp)
    rw [List.foldl_cons]
    obtain ⟨o', d', hp⟩ : ∃ o' d', putS n (o, d) x = (o', d') := ⟨_, _, rfl⟩
    rw [hp]
    refine ih (fun y hy => h y (by simp [hy])) o' d' ?_
    have e : o' = (putS n (o, d) x).1 := by rw [hp]
    rw [e]
    unfold putS
    intro y hy
    split at hy <;> split at hy <;> simp at hy
    all_goals (first
      | (rcases hy with hy | rfl | rfl <;> first | exact ho y hy | exact hn | exact hx)
      | (rcases hy with hy | rfl <;> first | exact ho y hy | exact hn | exact hx)
      | exact ho y hy)

theorem put_rel {w wr : World} {l : List Nat} {n len k m : Nat} {A : Option Addr} {c : Nat} {o : List Nat} {d : Bool} (hk : k < len) (hs : putF n (l.take (k + 1)) = (o, d)) (hm : o.length = m) (ho : wr.ownsRow w.heap.size 33 1 (.slice A m c) m (nv o)) (hb : Below w.heap.size w wr) :
    PutRel w l n len (.slice A m c) (.bool d) (.int .i64 ((k : Int) + 1)) wr :=
  ⟨k + 1, m, A, c, hk, by go_num, rfl, by rw [hs], by rw [hs]; exact hm, by rw [hs]; exact ho, hb⟩
theorem num_grown {w wr w2 : World} {v : Value} {m : Nat} {xs : List Value} {o : Obj} (ho : wr.ownsRow w.heap.size 33 1 v m xs) (hb : Below w.heap.size w wr) (hg : (wr.alloc o).grownBy w2 v.ownBlock) : Below w.heap.size w w2 :=
  (hb.alloc hb.size _).grown hg (Nat.le_trans hb.size (by simp)) (fun k hk => (ho.lt k hk).1)

end Go.Proofs.Ytmhghgogehmehaa.Ru

/- The contract of the document's 'points': the numbers at which something may begin, or have ended. Condition: at most 32768 runs on either side. -/
namespace Go.Proofs.Ytmhghgogehmehaa.Ru
open Go.ChangeShapes Go.WideShapes Go.ChangeAt Go.RowKit
set_option linter.unusedVariables false
set_option maxRecDepth 4000

theorem own_less {w : World} {B B' n size : Nat} {e : TypeId} {v : Value} {xs : List Value} (h : w.ownsRow B' e size v n xs) (hB : B ≤ B') : w.ownsRow B e size v n xs := by
  refine ⟨h.1, ?_⟩
  rcases h.2 with hz | ⟨g, cap, cur, e, hg, hr⟩
  · exact .inl hz
  · exact .inr ⟨g, cap, cur, e, Nat.le_trans hB hg, hr⟩
theorem own_kept {w V : World} {B n size : Nat} {e : TypeId} {v : Value} {xs : List Value} (h : w.ownsRow B e size v n xs) (hb : Below w.heap.size w V) : V.ownsRow B e size v n xs := by
  refine ⟨h.1, ?_⟩
  rcases h.2 with hz | ⟨g, cap, cur, e, hg, hh, hr⟩
  · exact .inl hz
  · have hlt : g < w.heap.size := by
      rcases Nat.lt_or_ge g w.heap.size with h1 | h1
      · exact h1
      · rw [Array.getElem?_eq_none h1] at hh; cases hh
    exact .inr ⟨g, cap, cur, e, hg, (hb.block g hlt).trans hh, hr⟩
theorem lies_any {w : World} {B n c size : Nat} {e : TypeId} {A : Option Addr} {vs : List Value} (hs : 0 < size) (h : w.ownsRow B e size (.slice A n c) n vs) : Lies w w.heap.size A vs := by
  rcases Nat.eq_zero_or_pos n with h0 | h0
  · have h1 := h.1
    rw [h0, Nat.zero_mul] at h1
    rw [List.eq_nil_of_length_eq_zero h1]
    exact Lies.none_ _ _ _
  · obtain ⟨g, cap, e1, _⟩ := own_shape (w := w) h (.inl h0)
    cases e1
    exact lies_own h
theorem fit_putL {l : List Nat} {n : Nat} (h : FitN l) (hn : n < 18446744073709551616) : FitN (putL l n) := by
  have h1 := fitN_put hn h [] false (fun x hx => by cases hx)
  unfold putL
  split
  · exact h1
  · intro x hx
    rcases List.mem_append.1 hx with hx | hx
    · exact h1 x hx
    · obtain rfl := List.mem_singleton.1 hx
      exact hn
theorem own_len {w : World} {B n size : Nat} {e : TypeId} {A : Option Addr} {c : Nat} {xs : List Value} (h : w.ownsRow B e size (.slice A n c) n xs) : n ≤ c ∧ c ≤ 9223372036854775807 ∧ (A = none → n = 0 ∧ c = 0) := by
  rcases h.2 with ⟨h, hz⟩ | ⟨_, _, _, h, _, _, h1, h2, _⟩
  · cases h; exact ⟨by omega, by omega, fun _ => ⟨rfl, rfl⟩⟩
  · cases h; exact ⟨h1, h2, fun e => by cases e⟩

/-- append of any runs to a list of one's own. -/
theorem run_runs (w : World) (B h k cap : Nat) (xs : List Run) (A : Option Addr) (m : List Run) (n c : Nat) (ho : w.ownsRow B 35 2 (.slice (some ⟨h, 0, none⟩) k cap) k (rv xs)) (hA : A = none → n = 0 ∧ c = 0) (hb : Lies w w.heap.size A (rv m)) (hl : m.length = n)
    (hn : k + n ≤ 8796093022208) (hB : B ≤ w.heap.size) :
    ∃ g2 cap2 w', (Builtin.append_ #[36, 36] 36 #[.slice (some ⟨h, 0, none⟩) k cap, .slice A n c]).run Try.prog w = .ok (.slice (some ⟨g2, 0, none⟩) (k + n) cap2) w' ∧
      w'.ownsRow B 35 2 (.slice (some ⟨g2, 0, none⟩) (k + n) cap2) (k + n) (rv (xs ++ m)) ∧ w.grownBy w' (some h) ∧ B ≤ g2 := by
  obtain ⟨i0, hi0, hz0, hz1, hz2⟩ := info_parts run_info
  cases A with
  | none =>
    obtain ⟨rfl, rfl⟩ := hA rfl
    obtain rfl := List.eq_nil_of_length_eq_zero hl
    exact ⟨h, cap, w, run_append_owned_none (P := Try.prog) (w := w) B 36 36 35 i0 2 Try.underlying36 hi0 _ k (rv xs) ho, by rw [List.append_nil]; exact ho, turn_refl _ _, (ho.lt h rfl).1⟩
  | some ad =>
    have hc : ∀ j u, (rv m)[j]? = some u → w.cell? (ad.add j) = some u := by
      intro j u hu
      have hjl : j < (rv m).length := (List.getElem?_eq_some_iff.1 hu).1
      obtain ⟨ad', e, hadb, hc⟩ := hb (by omega)
      obtain rfl := Option.some.inj e
      exact hc j u hu
    obtain ⟨v', w', hr, h2, h3, hat, h5⟩ := run_append_own_at (P := Try.prog) w B 36 36 35 i0 (.agg #[.int .u64 0, .int .u64 0]) 2 16 Try.underlying36 hi0 hz0 hz1 hz2 rfl (by decide) _ k (rv xs) ho ad n c (rv m) (by rw [rv_length, hl]) hc (rv_one m) (by simp only [maxLen]; omega) (by omega) hB
    obtain ⟨g2, cap2, rfl, hg2⟩ := own_shape (w := w) h2 (.inr (fun h => by simp at hat; exact hat h))
    exact ⟨g2, cap2, w', hr, by rw [rv_append]; exact h2, h3, hg2⟩
theorem wpList_runs {ops : Array Oper} {rest : List Oper} {o : Oper} {a : Act} {Q : Exit → Act → World → Prop} (hgd : o.guard = none) (s x : Operand) (ho : o.op = .call { callee := .builtin .append, args := #[s, x], argTypes := #[36, 36] }) (hty : o.type = 36)
    (w : World) (B h k cap : Nat) (xs : List Run) (A : Option Addr) (m : List Run) (n c : Nat) (hs : a.eval s = .slice (some ⟨h, 0, none⟩) k cap) (hx : a.eval x = .slice A n c) (hw : w.ownsRow B 35 2 (.slice (some ⟨h, 0, none⟩) k cap) k (rv xs)) (hA : A = none → n = 0 ∧ c = 0) (hb : Lies w w.heap.size A (rv m)) (hl : m.length = n)
    (hn : k + n ≤ 8796093022208) (hB : B ≤ w.heap.size)
    (hK : ∀ g2 cap2 w', w'.ownsRow B 35 2 (.slice (some ⟨g2, 0, none⟩) (k + n) cap2) (k + n) (rv (xs ++ m)) → w.grownBy w' (some h) → B ≤ g2 → wpList Try.prog ops Q rest (a.put o.dst (.slice (some ⟨g2, 0, none⟩) (k + n) cap2)) w') : wpList Try.prog ops Q (o :: rest) a w := by
  refine wpList_plain hgd fun K hQ => ?_
  obtain ⟨g2, cap2, w', hr, h2, h3, h4⟩ := run_runs w B h k cap xs A m n c hw hA hb hl hn hB
  rw [← hty] at hr
  unfold Oper.wp execOp
  simp only [ho, resolve, invoke, builtin, Sem.run_bind, Sem.run_pure, Result.andThen_ok, List.map_toArray, List.map_cons, List.map_nil, hs, hx]
  rw [hty] at hr ⊢
  rw [hr]
  exact hQ _ _ (hK _ _ _ h2 h3 h4)

/-- the points of some runs. -/
def ptS (o : List Nat) (r : Run) : List Nat := if mayR r = true then putL (putL o r.1) (r.2 + 1) else o
def ptL (l : List Run) : List Nat := l.foldl ptS []
theorem ptL_take {l : List Run} {k : Nat} {r : Run} (h : l[k]? = some r) : ptL (l.take (k + 1)) = ptS (ptL (l.take k)) r := by
  unfold ptL
  rw [List.take_add_one, h]
  simp
theorem ptS_length (o : List Nat) (r : Run) : (ptS o r).length ≤ o.length + 2 := by
  unfold ptS
  split
  · have h1 := putL_length o r.1
    have h2 := putL_length (putL o r.1) (r.2 + 1)
    omega
  · omega
theorem ptL_length (l : List Run) (k : Nat) : (ptL (l.take k)).length ≤ 2 * k := by
  induction k with
  | zero => simp [ptL]
  | succ k ih =>
    rcases h : l[k]? with _ | r
    · rw [List.take_add_one, h]
      simp only [Option.toList_none, List.append_nil]
      omega
    · rw [ptL_take h]
      have := ptS_length (ptL (l.take k)) r
      omega
theorem ptS_fit {o : List Nat} {r : Run} (ho : FitN o) (h1 : r.1 < 18446744073709551616) : FitN (ptS o r) := by
  unfold ptS
  split
  · rename_i hm
    have := of_decide_eq_true hm
    exact fit_putL (fit_putL ho h1) (by omega)
  · exact ho

theorem out_new (w : World) : (w.alloc (.cells #[] 35)).ownsRow w.heap.size 35 2 (.slice (some ⟨w.heap.size, 0, none⟩) 0 0) 0 [] := World.ownsRow_lit w #[] 0 (Nat.le_refl _) (by simp [maxLen]) rfl

def PtRel (w : World) (l : List Run) (len : Nat) (o i : Value) (wr : World) : Prop :=
  ∃ (k m : Nat) (A : Option Addr) (c : Nat), k ≤ len ∧ i = .int .i64 (k : Int) ∧ o = .slice A m c ∧ (ptL (l.take k)).length = m ∧ FitN (ptL (l.take k)) ∧ wr.ownsRow w.heap.size 33 1 (.slice A m c) m (nv (ptL (l.take k))) ∧ Below w.heap.size w wr
theorem pt_rel {w wr : World} {l : List Run} {len k m : Nat} {A : Option Addr} {c : Nat} {o : List Nat} (hk : k < len) (hs : ptL (l.take (k + 1)) = o) (hm : o.length = m) (hf : FitN o) (ho : wr.ownsRow w.heap.size 33 1 (.slice A m c) m (nv o)) (hb : Below w.heap.size w wr) :
    PtRel w l len (.slice A m c) (.int .i64 ((k : Int) + 1)) wr :=
  ⟨k + 1, m, A, c, hk, by go_num, rfl, by rw [hs]; exact hm, by rw [hs]; exact hf, by rw [hs]; exact ho, hb⟩

end Go.Proofs.Ytmhghgogehmehaa.Ru

/- What the document's 'set' reckons, as plain functions. No program is walked here. -/
namespace Go.Proofs.Ytmhghgogehmehaa.Ru
set_option linter.unusedVariables false
set_option maxRecDepth 4000

/-- is a place in: 1 what both have, 2 what the first one has alone, else both together. -/
def inB (how : Int) (x y : Bool) : Bool := if how = 1 then x && y else if how = 2 then x && !y else x || y
/-- a stretch more. -/
def addR (o : List Run) (p q : Nat) : List Run :=
  match o.getLast? with
  | some r => if r.2 + 1 = p then o.dropLast ++ [(r.1, q - 1)] else o ++ [(p, q - 1)]
  | none => [(p, q - 1)]
def stS (a b : List Run) (how : Int) (P : List Nat) (o : List Run) (i : Nat) : List Run :=
  if inB how (has a (P.getD i 0)) (has b (P.getD i 0)) = true then addR o (P.getD i 0) (P.getD (i + 1) 0) else o
def stF (a b : List Run) (how : Int) (P : List Nat) (k : Nat) : List Run := (List.range k).foldl (stS a b how P) []
def setL (a b : List Run) (how : Int) : List Run := stF a b how (ptL (a ++ b)) ((ptL (a ++ b)).length - 1)
theorem stF_succ (a b : List Run) (how : Int) (P : List Nat) (k : Nat) : stF a b how P (k + 1) = stS a b how P (stF a b how P k) k := by
  unfold stF
  rw [List.range_succ, List.foldl_append]
  rfl
end Go.Proofs.Ytmhghgogehmehaa.Ru
