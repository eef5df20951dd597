/- The contracts of layer crc's functions at calls that come later than other new memory. They ask that the package's table lies in its variable. -/
import Derived.Test.YtlgfieplapebjaaDoorWalks
import Derived.Deep.RegionHeld3
namespace Go.Proofs.YtlgfieplapebjaaDoor.Cr
open Go.ChangeShapes Go.WideShapes Go.ChangeAt Go.RowKit
set_option linter.unusedVariables false

theorem bel_drew {w W : World} (h : Below w.heap.size w W) : Below w.heap.size w W.drew := h.drew
theorem bel_alloc {w W : World} (h : Below w.heap.size w W) (o : Obj) : Below w.heap.size w (W.alloc o) := h.alloc h.size o

/-- the sum of parts that lie in some block of a later world. -/
theorem of_later (w W : World) (g n c s : Nat) (ps : List Part) (hn : n = ps.length) (hs : Crc.sums 0 (ps.map Part.l) = s) (ht : Tab w) (h : ∀ p ∈ ps, Bytes w w.heap.size p.a p.l ∧ p.l.length ≤ 9223372036854775807) (h63 : ps.length ≤ 9223372036854775807)
    (bel : Below w.heap.size w W) (hc : ∀ (j : Nat) (p : Part), ps[j]? = some p → W.cell? ⟨g, j, none⟩ = some (.slice p.a p.l.length p.c)) :
    Calls Tryd.prog 7 #[.slice (some ⟨g, 0, none⟩) n c] W fun e w' => e = .returned (.int .u32 (s : Int)) ∧ W = w' := by
  subst hn hs
  refine of_any ps _ w.heap.size c W h63 (ht.below bel) ⟨fun p hp => ⟨(h p hp).1.below bel, (h p hp).2⟩, fun _ => ⟨_, rfl, fun j p hj => ?_⟩⟩
  have e : (⟨g, 0, none⟩ : Addr).add j = ⟨g, j, none⟩ := by
    unfold Addr.add; split
    · rename_i hz; rw [hz]
    · simp
  rw [e]
  exact hc j p hj

theorem of_one_later (w W : World) (g s m d : Nat) (A : Option Addr) (l : List Nat) (hm : l.length = m) (hs : Crc.more 0 l = s) (ht : Tab w) (h : Bytes w w.heap.size A l) (hl : m ≤ 9223372036854775807)
    (bel : Below w.heap.size w W) (hc : W.cell? ⟨g, 0, none⟩ = some (.slice A m d)) :
    Calls Tryd.prog 7 #[.slice (some ⟨g, 0, none⟩) 1 1] W fun e w' => e = .returned (.int .u32 (s : Int)) ∧ W = w' := by
  subst hm
  refine of_later w W g 1 1 s [⟨A, d, l⟩] rfl hs ht (fun p hp => by obtain rfl := List.mem_singleton.1 hp; exact ⟨h, hl⟩) (by simp) bel (fun j p hj => ?_)
  match j, hj with
  | 0, hj => obtain rfl : _ = p := by simpa using hj
             exact hc
  | j + 1, hj => simp at hj

theorem of_three_later (w W : World) (g s m1 m2 d1 d2 : Nat) (A1 A2 : Option Addr) (l1 l2 : List Nat) (e1 : l1.length = m1) (e2 : l2.length = m2) (hs : Crc.more (Crc.more (Crc.more 0 l1) []) l2 = s) (ht : Tab w) (h1 : Bytes w w.heap.size A1 l1) (h2 : Bytes w w.heap.size A2 l2)
    (n1 : m1 ≤ 9223372036854775807) (n2 : m2 ≤ 9223372036854775807)
    (bel : Below w.heap.size w W) (hc0 : W.cell? ⟨g, 0, none⟩ = some (.slice A1 m1 d1)) (hc1 : W.cell? ⟨g, 1, none⟩ = some (.slice none 0 0)) (hc2 : W.cell? ⟨g, 2, none⟩ = some (.slice A2 m2 d2)) :
    Calls Tryd.prog 7 #[.slice (some ⟨g, 0, none⟩) 3 3] W fun e w' => e = .returned (.int .u32 (s : Int)) ∧ W = w' := by
  subst e1 e2
  refine of_later w W g 3 3 s [⟨A1, d1, l1⟩, ⟨none, 0, []⟩, ⟨A2, d2, l2⟩] rfl hs ht (fun p hp => ?_) (by simp) bel (fun j p hj => ?_)
  · simp only [List.mem_cons, List.not_mem_nil, or_false] at hp
    rcases hp with rfl | rfl | rfl
    · exact ⟨h1, n1⟩
    · exact ⟨Bytes.none_ _ _ _, by simp⟩
    · exact ⟨h2, n2⟩
  · match j, hj with
    | 0, hj => obtain rfl : _ = p := by simpa using hj
               exact hc0
    | 1, hj => obtain rfl : _ = p := by simpa using hj
               exact hc1
    | 2, hj => obtain rfl : _ = p := by simpa using hj
               exact hc2
    | j + 3, hj => simp at hj

theorem more_later (w W : World) (s s' m d : Nat) (A : Option Addr) (l : List Nat) (hm : l.length = m) (hs : Crc.more s' l = s) (hs' : s' < 4294967296) (ht : Tab w) (h : Bytes w w.heap.size A l) (hl : m ≤ 9223372036854775807) (bel : Below w.heap.size w W) :
    Calls Tryd.prog 9 #[.int .u32 (s' : Int), .slice A m d] W fun e w' => e = .returned (.int .u32 (s : Int)) ∧ W = w' := by
  subst hm hs
  exact more_any s' l A w.heap.size d W hs' hl (ht.below bel) (h.below bel)

theorem works_later (w W : World) (ht : Tab w) (bel : Below w.heap.size w W) :
    Calls Tryd.prog 11 #[] W fun e w' => e = .returned (.bool true) ∧ Below w.heap.size w w' :=
  (works_any W (ht.below bel)).mono fun _ _ ⟨he, hb⟩ => ⟨he, bel.trans (hb.mono bel.size)⟩

theorem Bytes.take {w : World} {B : Nat} {A : Option Addr} {l : List Nat} (h : Bytes w B A l) (k : Nat) : Bytes w B A (l.take k) :=
  ⟨small_take h.1 k, fun h0 => by
    obtain ⟨ad, e, hb, hc⟩ := h.2 (by rw [List.length_take] at h0; omega)
    refine ⟨ad, e, hb, fun j x hj => hc j x ?_⟩
    have hjk : j < k := by
      have := (List.getElem?_eq_some_iff.1 hj).1
      rw [List.length_take] at this
      omega
    rwa [List.getElem?_take_of_lt hjk] at hj⟩
theorem add_add (a : Addr) (i j : Nat) : (a.add i).add j = a.add (i + j) := by
  unfold Addr.add
  by_cases hi : i = 0 <;> by_cases hj : j = 0 <;> simp [hi, hj, Nat.add_assoc]
theorem Bytes.drop {w : World} {B : Nat} {ad : Addr} {l : List Nat} (h : Bytes w B (some ad) l) (k : Nat) : Bytes w B (some (ad.add k)) (l.drop k) :=
  ⟨fun x hx => h.1 x (List.mem_of_mem_drop hx), fun h0 => by
    obtain ⟨ad', e, hb, hc⟩ := h.2 (by rw [List.length_drop] at h0; omega)
    cases e
    refine ⟨ad.add k, rfl, by rw [block_add]; exact hb, fun j x hj => ?_⟩
    rw [add_add]
    exact hc _ x (by rw [← hj, List.getElem?_drop])⟩

end Go.Proofs.YtlgfieplapebjaaDoor.Cr
