/- Layer vec, the document's side: words, and the contracts of the document's functions. -/
import Derived.Test.YtegclhgfibfanaaGreatProg
import Derived.WalkKit
import Derived.ProofKit
import Derived.OpenShut
import Derived.Lib.Hide
import Derived.Below
import Derived.Outline
import Derived.Laws.OwnMore
import Derived.OwnWalk
import Derived.Laws.AppendOwnNone
import Derived.Maps.AppendAt
import Derived.Deep.AppendLies
import Derived.BigQuiet
import Derived.Deep.QuietTactic
import Derived.KernelRfl
import Derived.Deep.RegionHeld3
import Derived.Shelf.SlSortCmp.QuietGrown

/- Words for the claims of layer dot: slices of dots in memory. -/
namespace Go.Proofs.YtegclhgfibfanaaGreat.Dt
open Go.ChangeShapes Go.WideShapes Go.ChangeAt Go.RowKit
set_option linter.unusedVariables false

theorem ret_int {k : IntKind} {a b : Int} (h : a = b) : Ending.returned (.int k a) = .returned (.int k b) := by rw [h]
theorem ret_bool {a b : Bool} (h : a = b) : Ending.returned (.bool a) = .returned (.bool b) := by rw [h]
theorem block_add (a : Addr) (n : Nat) : (a.add n).block = a.block := by unfold Addr.add; split <;> rfl
theorem add_add (a : Addr) (m n : Nat) : (a.add m).add n = a.add (m + n) := by
  unfold Addr.add
  by_cases h1 : m = 0
  · subst h1; simp
  · by_cases h2 : n = 0
    · subst h2; simp
    · have h3 : ¬ m + n = 0 := by omega
      simp [h1, h2, Nat.add_assoc]
theorem zero_add (g j : Nat) : (⟨g, 0, none⟩ : Addr).add j = ⟨g, j, none⟩ := by
  unfold Addr.add; split
  · rename_i hz; rw [hz]
  · simp

/-- a slice of the address A whose cells are these, below block B. -/
def Lies (w : World) (B : Nat) (A : Option Addr) (vs : List Value) : Prop :=
  0 < vs.length → ∃ ad : Addr, A = some ad ∧ ad.block < B ∧ ∀ (j : Nat) (u : Value), vs[j]? = some u → w.cell? (ad.add j) = some u
theorem Lies.below {w w' : World} {B : Nat} {A : Option Addr} {vs : List Value} (h : Lies w B A vs) (hb : Below B w w') : Lies w' B A vs := fun hl => by
  obtain ⟨ad, e, hB, hc⟩ := h hl
  exact ⟨ad, e, hB, fun j u hu => (hb.cell (by rw [block_add]; exact hB)).trans (hc j u hu)⟩
theorem Lies.more {w : World} {B B' : Nat} {A : Option Addr} {vs : List Value} (h : Lies w B A vs) (hB : B ≤ B') : Lies w B' A vs := fun hl => by
  obtain ⟨ad, e, hb, hc⟩ := h hl
  exact ⟨ad, e, by omega, hc⟩
theorem Lies.none_ (w : World) (B : Nat) (A : Option Addr) : Lies w B A [] := fun h => absurd h (by simp)
theorem lies_own {w : World} {B g n cap size : Nat} {e : TypeId} {vs : List Value} (h : w.ownsRow B e size (.slice (some ⟨g, 0, none⟩) n cap) n vs) : Lies w w.heap.size (some ⟨g, 0, none⟩) vs := fun _ => by
  refine ⟨_, rfl, (h.lt g rfl).2, fun j u hj => ?_⟩
  have hjl : j < vs.length := (List.getElem?_eq_some_iff.1 hj).1
  have := h.1
  rw [zero_add, h.cellAt j (by omega), hj]
theorem below_new (w : World) (o : Obj) : Below w.heap.size w (w.alloc o) := (Below.refl _ _).alloc (Nat.le_refl _) o
theorem turn_refl (w : World) (row : Option Nat) : w.grownBy w row := ⟨rfl, rfl, rfl, Nat.le_refl _, fun _ _ _ => rfl⟩
theorem own_shape {w w1 : World} {B n size : Nat} {e : TypeId} {v1 : Value} {xs : List Value} (hown : w1.ownsRow B e size v1 n xs) (hn : 0 < n ∨ ¬ v1 = .slice none 0 0) : ∃ g cap, v1 = .slice (some ⟨g, 0, none⟩) n cap ∧ B ≤ g := by
  rcases hown.2 with ⟨h, hz⟩ | ⟨g, cap, _, e, hg, _⟩
  · rcases hn with hn | hn
    · omega
    · exact absurd h hn
  · exact ⟨g, cap, e, hg⟩

/-- a dot: its device and its number. -/
abbrev Dot := Nat × Nat
def dv (l : List Dot) : List Value := l.flatMap fun r => [.int .u16 (r.1 : Int), .int .u64 (r.2 : Int)]
theorem dv_nil : dv [] = [] := rfl
theorem dv_append (l m : List Dot) : dv (l ++ m) = dv l ++ dv m := by unfold dv; rw [List.flatMap_append]
theorem dv_length (l : List Dot) : (dv l).length = l.length * 2 := by
  induction l with
  | nil => rfl
  | cons r l ih => simp only [dv, List.flatMap_cons, List.length_append, List.length_cons, List.length_nil] at ih ⊢; omega
theorem dv_get {l : List Dot} {k : Nat} {r : Dot} (h : l[k]? = some r) : (dv l)[k * 2]? = some (.int .u16 (r.1 : Int)) ∧ (dv l)[k * 2 + 1]? = some (.int .u64 (r.2 : Int)) := by
  induction l generalizing k with
  | nil => simp at h
  | cons x l ih =>
    cases k with
    | zero => obtain rfl : x = r := by simpa using h
              exact ⟨rfl, rfl⟩
    | succ k =>
      have h2 := ih (k := k) (by simpa using h)
      have e : dv (x :: l) = .int .u16 (x.1 : Int) :: .int .u64 (x.2 : Int) :: dv l := rfl
      have e1 : (k + 1) * 2 = k * 2 + 2 := by omega
      rw [e, e1]
      exact ⟨by simpa using h2.1, by simpa using h2.2⟩
theorem dv_one (l : List Dot) : ∀ u ∈ dv l, u.oneCell' = true := by
  intro u hu
  obtain ⟨r, _, h⟩ := List.mem_flatMap.1 hu
  simp only [List.mem_cons, List.not_mem_nil, or_false] at h
  rcases h with rfl | rfl <;> rfl

def Fit (l : List Dot) : Prop := ∀ r ∈ l, r.1 < 65536 ∧ r.2 < 18446744073709551616
/-- a slice of the address A that holds these dots, below block B. -/
def Dots (w : World) (B : Nat) (A : Option Addr) (l : List Dot) : Prop := Fit l ∧ Lies w B A (dv l)
theorem Dots.below {w w' : World} {B : Nat} {A : Option Addr} {l : List Dot} (h : Dots w B A l) (hb : Below B w w') : Dots w' B A l := ⟨h.1, h.2.below hb⟩
theorem Dots.more {w : World} {B B' : Nat} {A : Option Addr} {l : List Dot} (h : Dots w B A l) (hB : B ≤ B') : Dots w B' A l := ⟨h.1, h.2.more hB⟩
theorem Dots.up {w W : World} {A : Option Addr} {l : List Dot} (h : Dots w w.heap.size A l) (hb : Below w.heap.size w W) : Dots W W.heap.size A l := (h.below hb).more hb.size
theorem Dots.none_ (w : World) (B : Nat) (A : Option Addr) : Dots w B A [] := ⟨fun r hr => (by cases hr), Lies.none_ _ _ _⟩
theorem Dots.at_ {w : World} {B : Nat} {A : Option Addr} {l : List Dot} (h : Dots w B A l) {k : Nat} (hk : k < l.length) :
    ∃ (ad : Addr) (lo hi : Nat), A = some ad ∧ l[k]? = some (lo, hi) ∧ lo < 65536 ∧ hi < 18446744073709551616 ∧ w.cell? (ad.add (k * 2)) = some (.int .u16 (lo : Int)) ∧ w.cell? (ad.add (k * 2 + 1)) = some (.int .u64 (hi : Int)) := by
  obtain ⟨ad, e, _, hc⟩ := h.2 (by rw [dv_length]; omega)
  have hg := List.getElem?_eq_getElem hk
  obtain ⟨h1, h2⟩ := h.1 l[k] (List.getElem_mem hk)
  obtain ⟨g1, g2⟩ := dv_get hg
  exact ⟨ad, l[k].1, l[k].2, e, hg, h1, h2, hc _ _ g1, hc _ _ g2⟩

/-- where a place within memory stands, as the walk reckons it. -/
theorem add_lit (a : Addr) (n : Nat) (h : a.spot = none) : a.add n = ⟨a.block, a.off + n, none⟩ := by
  unfold Addr.add
  split
  · rename_i hz; subst hz; cases a; simp_all
  · rfl

theorem dot_info : (Tryz.prog.info? 28).map (fun i => (i.zero, i.size, i.bytes)) = some (some (.agg #[.int .u16 0, .int .u64 0]), 2, 16) := by kernel_rfl
theorem add_next (ad : Addr) (m : Nat) : (⟨(ad.add m).block, (ad.add m).off + 1, none⟩ : Addr) = ad.add (m + 1) := by
  unfold Addr.add
  by_cases h : m = 0
  · subst h; simp
  · simp [h, Nat.add_assoc]
end Go.Proofs.YtegclhgfibfanaaGreat.Dt

/- The contracts of the document's answers for layer dot on single dots: Good, Cmp. For every dot and number of their types. -/
namespace Go.Proofs.YtegclhgfibfanaaGreat.Dt
open Go.ChangeShapes Go.WideShapes Go.ChangeAt Go.RowKit
set_option linter.unusedVariables false

theorem below_new3 (w : World) (o1 o2 o3 : Obj) : Below w.heap.size w (((w.alloc o1).alloc o2).alloc o3) := by
  have h1 := below_new w o1
  have h2 := h1.alloc (Nat.le_trans (Nat.le_refl _) h1.size) o2
  exact h2.alloc h2.size o3
/-- may a dot be? -/
def mayD (d : Dot) : Bool := decide (1 ≤ d.1 ∧ 1 ≤ d.2 ∧ d.2 < 281474976710656)
theorem may_iff (d : Dot) : mayD d = true ↔ 1 ≤ d.1 ∧ 1 ≤ d.2 ∧ d.2 < 281474976710656 := decide_eq_true_iff
theorem rgood_any (w : World) (a n : Nat) :
    Calls Tryz.prog 43 #[.agg #[.int .u16 (a : Int), .int .u64 (n : Int)]] w fun e w' => e = .returned (.bool (mayD (a, n))) ∧ w' = w.alloc (.cells #[.int .u16 (a : Int), .int .u64 (n : Int)] 28) := by
  by_cases c1 : 1 ≤ a
  · have d1 : decide ((1 : Int) ≤ (a : Int)) = true := decide_eq_true (by omega)
    by_cases c2 : 1 ≤ n
    · have d2 : decide ((1 : Int) ≤ (n : Int)) = true := decide_eq_true (by omega)
      have hd : mayD (a, n) = decide ((n : Int) < 281474976710656) := decide_eq_decide.2 ⟨fun h => by have := h.2.2; simp at this; omega, fun h => ⟨c1, c2, by simp; omega⟩⟩
      rw [hd]
      clear hd
      go_enter Tryz.func43, Tryz.ntmps43
      go_wp2
      go_ret
      exact ⟨rfl, rfl⟩
    · have hd : mayD (a, n) = false := decide_eq_false (fun h => c2 h.2.1)
      have d2 : decide ((1 : Int) ≤ (n : Int)) = false := decide_eq_false (by omega)
      rw [hd]
      clear hd
      go_enter Tryz.func43, Tryz.ntmps43
      go_wp2
      go_ret
      exact ⟨rfl, rfl⟩
  · have hd : mayD (a, n) = false := decide_eq_false (fun h => c1 h.1)
    have d1 : decide ((1 : Int) ≤ (a : Int)) = false := decide_eq_false (by omega)
    rw [hd]
    clear hd
    go_enter Tryz.func43, Tryz.ntmps43
    go_wp2
    go_ret
    exact ⟨rfl, rfl⟩

/-- which dot stands ahead? -/
def aheadD (a b : Dot) : Bool := decide (a.1 < b.1 ∨ (a.1 = b.1 ∧ a.2 < b.2))
def cmpD (a b : Dot) : Int := if a = b then 0 else if aheadD a b = true then -1 else 1
theorem cmp_same (a : Dot) : cmpD a a = 0 := if_pos rfl
theorem cmp_less {a b : Dot} (h : aheadD a b = true) : cmpD a b = -1 := by
  unfold cmpD
  rw [if_neg, if_pos h]
  rintro rfl
  have := of_decide_eq_true h
  omega
theorem cmp_more {a b : Dot} (h : aheadD b a = true) : cmpD a b = 1 := by
  have h2 := of_decide_eq_true h
  unfold cmpD
  rw [if_neg, if_neg]
  · intro h3
    have := of_decide_eq_true h3
    omega
  · rintro rfl
    omega
theorem rcmp_any (w : World) (a b : Dot) :
    Calls Tryz.prog 104 #[.agg #[.int .u16 (a.1 : Int), .int .u64 (a.2 : Int)], .agg #[.int .u16 (b.1 : Int), .int .u64 (b.2 : Int)]] w fun e w' => e = .returned (.int .i64 (cmpD a b)) ∧ Below w.heap.size w w' := by
  obtain ⟨a1, a2⟩ := a
  obtain ⟨b1, b2⟩ := b
  have HB : Hid (Below w.heap.size w ((w.alloc (.cells #[.int .u16 (a1 : Int), .int .u64 (a2 : Int)] 28)).alloc (.cells #[.int .u16 (b1 : Int), .int .u64 (b2 : Int)] 28))) := (below_new w _).trans ((below_new _ _).mono (below_new w _).size)
  by_cases h1 : a1 = b1
  · subst h1
    by_cases h2 : a2 = b2
    · subst h2
      rw [cmp_same]
      go_enter Tryz.func104, Tryz.ntmps104
      go_wp2
      go_ret
      exact ⟨rfl, HB.out⟩
    · have e2 : ((a2 : Int) == (b2 : Int)) = false := by rw [beq_eq_false_iff_ne]; omega
      by_cases h3 : a2 < b2
      · have d3 : decide ((a2 : Int) < (b2 : Int)) = true := decide_eq_true (by omega)
        rw [cmp_less (a := (a1, a2)) (b := (a1, b2)) (decide_eq_true (.inr ⟨rfl, h3⟩))]
        go_enter Tryz.func104, Tryz.ntmps104
        go_wp2
        go_ret
        exact ⟨rfl, HB.out⟩
      · have d3 : decide ((a2 : Int) < (b2 : Int)) = false := decide_eq_false (by omega)
        rw [cmp_more (a := (a1, a2)) (b := (a1, b2)) (decide_eq_true (.inr ⟨rfl, by show b2 < a2; omega⟩))]
        go_enter Tryz.func104, Tryz.ntmps104
        go_wp2
        go_ret
        exact ⟨rfl, HB.out⟩
  · have e1 : ((a1 : Int) == (b1 : Int)) = false := by rw [beq_eq_false_iff_ne]; omega
    by_cases h3 : a1 < b1
    · have d3 : decide ((a1 : Int) < (b1 : Int)) = true := decide_eq_true (by omega)
      rw [cmp_less (a := (a1, a2)) (b := (b1, b2)) (decide_eq_true (.inl h3))]
      go_enter Tryz.func104, Tryz.ntmps104
      go_wp2
      go_ret
      exact ⟨rfl, HB.out⟩
    · have d3 : decide ((a1 : Int) < (b1 : Int)) = false := decide_eq_false (by omega)
      rw [cmp_more (a := (a1, a2)) (b := (b1, b2)) (decide_eq_true (.inl (by show b1 < a1; omega)))]
      go_enter Tryz.func104, Tryz.ntmps104
      go_wp2
      go_ret
      exact ⟨rfl, HB.out⟩

end Go.Proofs.YtegclhgfibfanaaGreat.Dt

/- The contracts of the document's answers for layer dot that tell of lists: Same. For every list. -/
namespace Go.Proofs.YtegclhgfibfanaaGreat.Dt
open Go.ChangeShapes Go.WideShapes Go.ChangeAt Go.RowKit
set_option linter.unusedVariables false

theorem bel_drewN {B : Nat} {w W : World} (h : Below B w W) (m : Nat) : Below B w (W.drewN m) := h.trans ⟨rfl, rfl, rfl, Nat.le_refl _, fun _ _ => rfl⟩
theorem bel_drew {w W : World} (h : Below w.heap.size w W) : Below w.heap.size w W.drew := h.drew
theorem take_more {l m : List Dot} {k : Nat} {x : Dot} (h : l.take k = m.take k) (h1 : l[k]? = some x) (h2 : m[k]? = some x) : l.take (k + 1) = m.take (k + 1) := by
  rw [List.take_add_one, List.take_add_one, h, h1, h2]
theorem ne_at {l m : List Dot} {k : Nat} {x y : Dot} (h1 : l[k]? = some x) (h2 : m[k]? = some y) (hn : x ≠ y) : l ≠ m := by
  intro e
  rw [e, h2] at h1
  exact hn (Option.some.inj h1).symm
theorem rsame_any (w : World) (B1 B2 : Nat) (A1 A2 : Option Addr) (l1 l2 : List Dot) (n1 n2 c1 c2 : Nat) (e1 : l1.length = n1) (e2 : l2.length = n2) (h1 : Dots w B1 A1 l1) (h2 : Dots w B2 A2 l2) (h63 : n1 ≤ 9223372036854775807) :
    Calls Tryz.prog 25 #[.slice A1 n1 c1, .slice A2 n2 c2] w fun e w' => e = .returned (.bool (decide (l1 = l2))) ∧ ∃ m, w' = w.drewN m := by
  have H1 := Lib.hid h1
  have H2 := Lib.hid h2
  have E1 := Lib.hid e1
  have E2 := Lib.hid e2
  clear h1 h2 e1 e2
  by_cases hn : n1 = n2
  · subst hn
    go_enter Tryz.func25, Tryz.ntmps25
    go_wp2
    go_loopw [5] (fun i wr => ∃ k : Nat, k ≤ n1 ∧ i = .int .i64 (k : Int) ∧ l1.take k = l2.take k ∧ ∃ m, wr = w.drewN m) (fun i _ => n1 - (intOf i).toNat)
    case atStart => exact ⟨0, Nat.zero_le _, rfl, by simp, 0, rfl⟩
    case round =>
      obtain ⟨k, hk, rfl, ht, m, rfl⟩ := hrel
      have HT := Lib.hid ht
      clear ht
      by_cases hlt : k < n1
      · obtain ⟨a1, x1, x2, rfl, hlx, hx1, hx2, hc1, hc2⟩ := H1.out.at_ (k := k) (by rw [E1.out]; exact hlt)
        obtain ⟨a2, y1, y2, rfl, hly, hy1, hy2, hd1, hd2⟩ := H2.out.at_ (k := k) (by rw [E2.out]; exact hlt)
        have hc3 : w.cell? ⟨(a1.add (k * 2)).block, (a1.add (k * 2)).off + 1, none⟩ = some (.int .u64 (x2 : Int)) := by rw [add_next]; exact hc2
        have hd3 : w.cell? ⟨(a2.add (k * 2)).block, (a2.add (k * 2)).off + 1, none⟩ = some (.int .u64 (y2 : Int)) := by rw [add_next]; exact hd2
        have LX := Lib.hid hlx
        have LY := Lib.hid hly
        clear hlx hly hc2 hd2
        by_cases hxy : x1 = y1 ∧ x2 = y2
        · obtain ⟨rfl, rfl⟩ := hxy
          have hs := Lib.hid (take_more HT.out LX.out LY.out)
          go_wp2_with fail
          go_quiet (fail)
          go_wp2
          go_roundw
          case rel => exact ⟨k + 1, by omega, by go_num, hs.out, _, rfl⟩
          case measure => simp [intOf]; omega
        · have hd : Hid (decide (l1 = l2) = false) := decide_eq_false (ne_at LX.out LY.out (fun e => hxy (by cases e; exact ⟨rfl, rfl⟩)))
          by_cases hx : x1 = y1
          · subst hx
            have hx2' : ¬ x2 = y2 := fun e => hxy ⟨rfl, e⟩
            have hb2 : ((x2 : Int) == (y2 : Int)) = false := by rw [beq_eq_false_iff_ne]; omega
            clear hxy
            go_wp2_with fail
            go_quiet (fail)
            go_wp2
            go_ret
            exact ⟨ret_bool hd.out.symm, _, World.drewN_drewN ..⟩
          · have hb2 : ((x1 : Int) == (y1 : Int)) = false := by rw [beq_eq_false_iff_ne]; omega
            clear hxy
            go_wp2_with fail
            go_quiet (fail)
            go_wp2
            go_ret
            exact ⟨ret_bool hd.out.symm, _, World.drewN_drewN ..⟩
      · obtain rfl : k = n1 := by omega
        have hd : Hid (l1 = l2) := by
          have h := HT.out
          rw [List.take_of_length_le (by rw [E1.out]; exact Nat.le_refl _), List.take_of_length_le (by rw [E2.out]; exact Nat.le_refl _)] at h
          exact h
        go_wp2
        go_ret
        exact ⟨ret_bool (by rw [decide_eq_true hd.out]), m, rfl⟩
  · have hd : Hid (decide (l1 = l2) = false) := decide_eq_false (fun e => hn (by rw [← E1.out, ← E2.out, e]))
    have hne : ((n1 : Int) != (n2 : Int)) = true := by rw [bne_iff_ne]; omega
    go_enter Tryz.func25, Tryz.ntmps25
    go_wp2
    go_ret
    exact ⟨ret_bool hd.out.symm, 0, rfl⟩

theorem take_next {l : List Dot} {k : Nat} {x : Dot} (h1 : l[k]? = some x) : l.take (k + 1) = l.take k ++ [x] := by
  rw [List.take_add_one, h1]; rfl
theorem rcmp_later (w W : World) (a b : Dot) (hW : Below w.heap.size w W) :
    Calls Tryz.prog 104 #[.agg #[.int .u16 (a.1 : Int), .int .u64 (a.2 : Int)], .agg #[.int .u16 (b.1 : Int), .int .u64 (b.2 : Int)]] W fun e V => e = .returned (.int .i64 (cmpD a b)) ∧ Below w.heap.size w V :=
  (rcmp_any W a b).mono fun _ _ ⟨h1, h2⟩ => ⟨h1, hW.trans (h2.mono hW.size)⟩
theorem cmp_sign (a b : Dot) : aheadD a b = false → 0 ≤ cmpD a b := by
  intro h
  unfold cmpD
  split
  · omega
  · rw [h]; simp
theorem Dots.cells {w : World} {B : Nat} {A : Option Addr} {l : List Dot} (h : Dots w B A l) {k : Nat} (hk : k < l.length) :
    ∃ (ad : Addr) (x : Dot), A = some ad ∧ ad.block < B ∧ l[k]? = some x ∧ x.1 < 65536 ∧ x.2 < 18446744073709551616 ∧ ∀ V, Below B w V → V.cell? (ad.add (k * 2)) = some (.int .u16 (x.1 : Int)) ∧ V.cell? ⟨(ad.add (k * 2)).block, (ad.add (k * 2)).off + 1, none⟩ = some (.int .u64 (x.2 : Int)) := by
  obtain ⟨ad, e, hB, _⟩ := h.2 (by rw [dv_length]; omega)
  obtain ⟨ad', lo, hi, e', hl, h1, h2, hc1, hc2⟩ := h.at_ hk
  obtain rfl : ad = ad' := by rw [e] at e'; exact Option.some.inj e'
  refine ⟨ad, (lo, hi), e, hB, hl, h1, h2, fun V hV => ⟨(hV.cell (by rw [block_add]; exact hB)).trans hc1, ?_⟩⟩
  rw [add_next]
  exact (hV.cell (by rw [block_add]; exact hB)).trans hc2

end Go.Proofs.YtegclhgfibfanaaGreat.Dt

/- Lists of dots of one's own: append of any dots to any list of one's own, nil too. Condition: at most 2^43 dots in all. -/
namespace Go.Proofs.YtegclhgfibfanaaGreat.Dt
open Go.ChangeShapes Go.WideShapes Go.ChangeAt Go.RowKit
set_option linter.unusedVariables false

theorem own_less {w : World} {B B' n size : Nat} {e : TypeId} {v : Value} {xs : List Value} (h : w.ownsRow B' e size v n xs) (hB : B ≤ B') : w.ownsRow B e size v n xs := by
  refine ⟨h.1, ?_⟩
  rcases h.2 with hz | ⟨g, cap, cur, e, hg, hr⟩
  · exact .inl hz
  · exact .inr ⟨g, cap, cur, e, Nat.le_trans hB hg, hr⟩
theorem own_kept {w V : World} {B n size : Nat} {e : TypeId} {v : Value} {xs : List Value} (h : w.ownsRow B e size v n xs) (hb : Below w.heap.size w V) : V.ownsRow B e size v n xs := by
  refine ⟨h.1, ?_⟩
  rcases h.2 with hz | ⟨g, cap, cur, e, hg, hh, hr⟩
  · exact .inl hz
  · have hlt : g < w.heap.size := by
      rcases Nat.lt_or_ge g w.heap.size with h1 | h1
      · exact h1
      · rw [Array.getElem?_eq_none h1] at hh; cases hh
    exact .inr ⟨g, cap, cur, e, hg, (hb.block g hlt).trans hh, hr⟩
theorem own_len {w : World} {B n size : Nat} {e : TypeId} {A : Option Addr} {c : Nat} {xs : List Value} (h : w.ownsRow B e size (.slice A n c) n xs) : n ≤ c ∧ c ≤ 9223372036854775807 ∧ (A = none → n = 0 ∧ c = 0) := by
  rcases h.2 with ⟨h, hz⟩ | ⟨_, _, _, h, _, _, h1, h2, _⟩
  · cases h; exact ⟨by omega, by omega, fun _ => ⟨rfl, rfl⟩⟩
  · cases h; exact ⟨h1, h2, fun e => by cases e⟩
theorem own_form {w : World} {B n size : Nat} {e : TypeId} {v : Value} {xs : List Value} (h : w.ownsRow B e size v n xs) : ∃ A c, v = .slice A n c := by
  rcases h.2 with ⟨rfl, rfl⟩ | ⟨g, cap, _, rfl, _⟩
  · exact ⟨none, 0, rfl⟩
  · exact ⟨_, cap, rfl⟩
theorem lies_any {w : World} {B n c size : Nat} {e : TypeId} {A : Option Addr} {vs : List Value} (hs : 0 < size) (h : w.ownsRow B e size (.slice A n c) n vs) : Lies w w.heap.size A vs := by
  rcases Nat.eq_zero_or_pos n with h0 | h0
  · have h1 := h.1
    rw [h0, Nat.zero_mul] at h1
    rw [List.eq_nil_of_length_eq_zero h1]
    exact Lies.none_ _ _ _
  · obtain ⟨g, cap, e1, _⟩ := own_shape (w := w) h (.inl h0)
    cases e1
    exact lies_own h
theorem dots_own {w : World} {B n c : Nat} {A : Option Addr} {m : List Dot} (h : w.ownsRow B 28 2 (.slice A n c) n (dv m)) (hf : Fit m) : Dots w w.heap.size A m := ⟨hf, lies_any (by decide) h⟩
theorem dot_at (W : World) (r : Dot) : ∀ (j : Nat) (u : Value), (dv [r])[j]? = some u → (W.alloc (.cells #[.int .u16 (r.1 : Int), .int .u64 (r.2 : Int)] 28)).cell? ((⟨W.heap.size, 0, none⟩ : Addr).add j) = some u := by
  intro j u hu
  rw [zero_add, World.cell?_alloc_new]
  have e : dv [r] = [.int .u16 (r.1 : Int), .int .u64 (r.2 : Int)] := rfl
  rw [e] at hu
  simpa using hu
theorem run_any (w : World) (B k : Nat) (v : Value) (xs : List Dot) (A : Option Addr) (m : List Dot) (n c : Nat) (ho : w.ownsRow B 28 2 v k (dv xs)) (hA : A = none → n = 0 ∧ c = 0) (hb : Lies w w.heap.size A (dv m)) (hl : m.length = n)
    (hn : k + n ≤ 8796093022208) (hB : B ≤ w.heap.size) :
    ∃ A' c' w', (Builtin.append_ #[24, 24] 24 #[v, .slice A n c]).run Tryz.prog w = .ok (.slice A' (k + n) c') w' ∧
      w'.ownsRow B 28 2 (.slice A' (k + n) c') (k + n) (dv (xs ++ m)) ∧ w.grownBy w' v.ownBlock := by
  obtain ⟨i0, hi0, hz0, hz1, hz2⟩ := info_parts dot_info
  cases A with
  | none =>
    obtain ⟨rfl, rfl⟩ := hA rfl
    obtain rfl := List.eq_nil_of_length_eq_zero hl
    obtain ⟨A', c', rfl⟩ := own_form ho
    exact ⟨A', c', w, run_append_owned_none (P := Tryz.prog) (w := w) B 24 24 28 i0 2 Tryz.underlying24 hi0 _ k (dv xs) ho, by rw [List.append_nil]; exact ho, turn_refl _ _⟩
  | some ad =>
    have hc : ∀ j u, (dv m)[j]? = some u → w.cell? (ad.add j) = some u := by
      intro j u hu
      have hjl : j < (dv m).length := (List.getElem?_eq_some_iff.1 hu).1
      obtain ⟨ad', e, hadb, hc⟩ := hb (by omega)
      obtain rfl := Option.some.inj e
      exact hc j u hu
    obtain ⟨v', w', hr, h2, h3, hat, h5⟩ := run_append_own_at (P := Tryz.prog) w B 24 24 28 i0 (.agg #[.int .u16 0, .int .u64 0]) 2 16 Tryz.underlying24 hi0 hz0 hz1 hz2 rfl (by decide) v k (dv xs) ho ad n c (dv m) (by rw [dv_length, hl]) hc (dv_one m) (by simp only [maxLen]; omega) (by omega) hB
    obtain ⟨A', c', rfl⟩ := own_form h2
    exact ⟨A', c', w', hr, by rw [dv_append]; exact h2, h3⟩
theorem wpList_any {ops : Array Oper} {rest : List Oper} {o : Oper} {a : Act} {Q : Exit → Act → World → Prop} (hgd : o.guard = none) (s x : Operand) (ho : o.op = .call { callee := .builtin .append, args := #[s, x], argTypes := #[24, 24] }) (hty : o.type = 24)
    (w : World) (B k : Nat) (v : Value) (xs : List Dot) (A : Option Addr) (m : List Dot) (n c : Nat) (hs : a.eval s = v) (hx : a.eval x = .slice A n c) (hw : w.ownsRow B 28 2 v k (dv xs)) (hA : A = none → n = 0 ∧ c = 0) (hb : Lies w w.heap.size A (dv m)) (hl : m.length = n)
    (hn : k + n ≤ 8796093022208) (hB : B ≤ w.heap.size)
    (hK : ∀ A' c' w', w'.ownsRow B 28 2 (.slice A' (k + n) c') (k + n) (dv (xs ++ m)) → w.grownBy w' v.ownBlock → wpList Tryz.prog ops Q rest (a.put o.dst (.slice A' (k + n) c')) w') : wpList Tryz.prog ops Q (o :: rest) a w := by
  refine wpList_plain hgd fun K hQ => ?_
  obtain ⟨A', c', w', hr, h2, h3⟩ := run_any w B k v xs A m n c hw hA hb hl hn hB
  rw [← hty] at hr
  unfold Oper.wp execOp
  simp only [ho, resolve, invoke, builtin, Sem.run_bind, Sem.run_pure, Result.andThen_ok, List.map_toArray, List.map_cons, List.map_nil, hs, hx]
  rw [hty] at hr ⊢
  rw [hr]
  exact hQ _ _ (hK _ _ _ h2 h3)
/-- a list of one's own has grown: what lay, lies. -/
theorem any_grown {w wr w2 : World} {v : Value} {m : Nat} {xs : List Value} (ho : wr.ownsRow w.heap.size 28 2 v m xs) (hb : Below w.heap.size w wr) (hg : wr.grownBy w2 v.ownBlock) : Below w.heap.size w w2 :=
  hb.grown hg hb.size (fun k hk => (ho.lt k hk).1)
/-- a new block that is one dot. -/
theorem lies_one (V : World) (r : Dot) : Lies (V.alloc (.cells #[.int .u16 (r.1 : Int), .int .u64 (r.2 : Int)] 28)) (V.alloc (.cells #[.int .u16 (r.1 : Int), .int .u64 (r.2 : Int)] 28)).heap.size (some ⟨V.heap.size, 0, none⟩) (dv [r]) :=
  fun _ => ⟨_, rfl, by simp, dot_at V r⟩

/-- a list of dots comes out. -/
def DotPost (w : World) (m : List Dot) (e : Ending) (w' : World) : Prop := ∃ A n c, e = .returned (.slice A n c) ∧ m.length = n ∧ w'.ownsRow w.heap.size 28 2 (.slice A n c) n (dv m) ∧ Below w.heap.size w w'
theorem post_dots {w w' : World} {m : List Dot} {e : Ending} (h : DotPost w m e w') (hf : Fit m) : ∃ A n c, e = .returned (.slice A n c) ∧ m.length = n ∧ (A = none → n = 0 ∧ c = 0) ∧ n ≤ c ∧ c ≤ 9223372036854775807 ∧ Dots w' w'.heap.size A m ∧ w'.ownsRow w.heap.size 28 2 (.slice A n c) n (dv m) ∧ Below w.heap.size w w' := by
  obtain ⟨A, n, c, rfl, hn, ho, hb⟩ := h
  obtain ⟨h1, h2, h3⟩ := own_len ho
  exact ⟨A, n, c, rfl, hn, h3, h1, h2, dots_own ho hf, ho, hb⟩

/-- a dot more, in its place. -/
def putD (l : List Dot) (d : Dot) : List Dot := l.filter (fun x => aheadD x d) ++ [d] ++ l.filter (fun x => aheadD d x)
def sortD (l : List Dot) : List Dot := l.foldl putD []
theorem ahead_iff (a b : Dot) : aheadD a b = true ↔ a.1 < b.1 ∨ (a.1 = b.1 ∧ a.2 < b.2) := decide_eq_true_iff
theorem cmp_neg (x d : Dot) : decide (cmpD x d < 0) = aheadD x d := by
  cases h : aheadD x d with
  | true => exact decide_eq_true (by rw [cmp_less h]; omega)
  | false => exact decide_eq_false (by have := cmp_sign x d h; omega)
theorem cmp_pos (x d : Dot) : decide (0 < cmpD x d) = aheadD d x := by
  cases h : aheadD d x with
  | true => exact decide_eq_true (by rw [cmp_more h]; omega)
  | false =>
    apply decide_eq_false
    unfold cmpD
    split
    · omega
    · rename_i hne
      have h2 : aheadD x d = true := by
        rw [ahead_iff]
        have h3 : ¬ (d.1 < x.1 ∨ (d.1 = x.1 ∧ d.2 < x.2)) := fun h' => by rw [(ahead_iff d x).2 h'] at h; exact absurd h (by simp)
        have h4 : ¬ (x.1 = d.1 ∧ x.2 = d.2) := fun h' => hne (Prod.ext h'.1 h'.2)
        omega
      rw [if_pos h2]; omega
theorem filter_next (f : Dot → Bool) {l : List Dot} {k : Nat} {x : Dot} (h : l[k]? = some x) : (l.take (k + 1)).filter f = (l.take k).filter f ++ (if f x = true then [x] else []) := by
  rw [take_next h, List.filter_append]
  by_cases hf : f x = true
  · simp [hf]
  · simp [hf]
theorem fit_put {l : List Dot} {d : Dot} (h : Fit l) (hd : d.1 < 65536 ∧ d.2 < 18446744073709551616) : Fit (putD l d) := by
  intro r hr
  unfold putD at hr
  simp only [List.mem_append, List.mem_filter, List.mem_singleton] at hr
  rcases hr with (hr | rfl) | hr
  · exact h r hr.1
  · exact hd
  · exact h r hr.1
theorem put_length (l : List Dot) (d : Dot) : (putD l d).length ≤ l.length + 1 := by
  have h : ∀ m : List Dot, (m.filter (fun x => aheadD x d)).length + (m.filter (fun x => aheadD d x)).length ≤ m.length := by
    intro m
    induction m with
    | nil => simp
    | cons x m ih =>
      have hx : ¬ (aheadD x d = true ∧ aheadD d x = true) := by
        rintro ⟨h1, h2⟩
        rw [ahead_iff] at h1 h2
        omega
      by_cases h1 : aheadD x d = true
      · have h2 : ¬ aheadD d x = true := fun h => hx ⟨h1, h⟩
        simp [h1, h2]; omega
      · by_cases h2 : aheadD d x = true
        · simp [h1, h2]; omega
        · simp [h1, h2]; omega
  have := h l
  unfold putD
  simp only [List.length_append, List.length_singleton]
  omega
end Go.Proofs.YtegclhgfibfanaaGreat.Dt

/- Lists of dots in order, each once: plain arithmetic. -/
namespace Go.Proofs.YtegclhgfibfanaaGreat.Dt
set_option linter.unusedVariables false

theorem ahead_trans {a b c : Dot} (h1 : aheadD a b = true) (h2 : aheadD b c = true) : aheadD a c = true := by
  rw [ahead_iff] at *; omega
theorem ahead_not {a b : Dot} (h1 : aheadD a b = true) : aheadD b a = false := by
  cases h : aheadD b a with
  | false => rfl
  | true => rw [ahead_iff] at *; omega
theorem ahead_irr (a : Dot) : aheadD a a = false := by
  cases h : aheadD a a with
  | false => rfl
  | true => rw [ahead_iff] at h; omega
theorem ahead_all {a b : Dot} (h1 : aheadD a b = false) (h2 : a ≠ b) : aheadD b a = true := by
  rw [ahead_iff]
  have h3 : ¬ (a.1 < b.1 ∨ (a.1 = b.1 ∧ a.2 < b.2)) := fun h' => by rw [(ahead_iff a b).2 h'] at h1; exact absurd h1 (by simp)
  have h4 : ¬ (a.1 = b.1 ∧ a.2 = b.2) := fun h' => h2 (Prod.ext h'.1 h'.2)
  omega
/-- each one ahead of all behind it. -/
def Ord (l : List Dot) : Prop := l.Pairwise (fun a b => aheadD a b = true)
theorem put_mem (l : List Dot) (d x : Dot) : x ∈ putD l d ↔ x = d ∨ x ∈ l := by
  unfold putD
  simp only [List.mem_append, List.mem_filter, List.mem_singleton]
  constructor
  · rintro ((h | h) | h)
    · exact .inr h.1
    · exact .inl h
    · exact .inr h.1
  · rintro (h | h)
    · exact .inl (.inr h)
    · by_cases h1 : aheadD x d = true
      · exact .inl (.inl ⟨h, h1⟩)
      · by_cases h2 : x = d
        · exact .inl (.inr h2)
        · exact .inr ⟨h, ahead_all (by simpa using h1) h2⟩
theorem put_ord {l : List Dot} (d : Dot) (h : Ord l) : Ord (putD l d) := by
  unfold putD Ord
  rw [List.pairwise_append, List.pairwise_append]
  refine ⟨⟨h.filter _, List.pairwise_singleton _ _, ?_⟩, h.filter _, ?_⟩
  · intro a ha b hb
    rw [List.mem_singleton.1 hb]
    exact (List.mem_filter.1 ha).2
  · intro a ha b hb
    have hb2 := (List.mem_filter.1 hb).2
    rcases List.mem_append.1 ha with ha | ha
    · exact ahead_trans (List.mem_filter.1 ha).2 hb2
    · rw [List.mem_singleton.1 ha]; exact hb2
/-- two lists in order with the same dots are the same. -/
theorem ord_uniq {l m : List Dot} (hl : Ord l) (hm : Ord m) (h : ∀ x, x ∈ l ↔ x ∈ m) : l = m := by
  induction l generalizing m with
  | nil =>
    cases m with
    | nil => rfl
    | cons b m => exact absurd ((h b).2 (List.mem_cons_self ..)) (by simp)
  | cons a l ih =>
    cases m with
    | nil => exact absurd ((h a).1 (List.mem_cons_self ..)) (by simp)
    | cons b m =>
      obtain ⟨hl1, hl2⟩ := List.pairwise_cons.1 hl
      obtain ⟨hm1, hm2⟩ := List.pairwise_cons.1 hm
      have hab : a = b := by
        rcases List.mem_cons.1 ((h a).1 (List.mem_cons_self ..)) with h1 | h1
        · exact h1
        · rcases List.mem_cons.1 ((h b).2 (List.mem_cons_self ..)) with h2 | h2
          · exact h2.symm
          · have h3 := hm1 a h1
            have h4 := hl1 b h2
            rw [ahead_not h3] at h4
            exact absurd h4 (by simp)
      subst hab
      congr 1
      refine ih hl2 hm2 fun x => ?_
      constructor
      · intro hx
        rcases List.mem_cons.1 ((h x).1 (List.mem_cons_of_mem _ hx)) with h1 | h1
        · have h2 := hl1 x hx
          rw [h1, ahead_irr] at h2
          exact absurd h2 (by simp)
        · exact h1
      · intro hx
        rcases List.mem_cons.1 ((h x).2 (List.mem_cons_of_mem _ hx)) with h1 | h1
        · have h2 := hm1 x hx
          rw [h1, ahead_irr] at h2
          exact absurd h2 (by simp)
        · exact h1
end Go.Proofs.YtegclhgfibfanaaGreat.Dt

/- The contracts of the document's Put and Sort of layer dot. Put: for every list of at most 2^42 dots. -/
namespace Go.Proofs.YtegclhgfibfanaaGreat.Dt
open Go.ChangeShapes Go.WideShapes Go.ChangeAt Go.RowKit
set_option linter.unusedVariables false

theorem bel_alloc {w W : World} (o : Obj) (h : Below w.heap.size w W) : Below w.heap.size w (W.alloc o) := h.alloc h.size o
/-- what a round of Put knows: the dots so far, of one's own; the world. -/
def PRel (w1 : World) (n : Nat) (f : Nat → List Dot) (v i : Value) (wr : World) : Prop :=
  ∃ k m A c, k ≤ n ∧ i = .int .i64 ((k : Nat) : Int) ∧ v = .slice A m c ∧ (f k).length = m ∧ wr.ownsRow w1.heap.size 28 2 (.slice A m c) m (dv (f k)) ∧ Below w1.heap.size w1 wr
theorem p_rel {w1 wr : World} {n k m c : Nat} {A : Option Addr} {f : Nat → List Dot} {o : List Dot} (hk : k < n) (hs : f (k + 1) = o) (hm : o.length = m) (ho : wr.ownsRow w1.heap.size 28 2 (.slice A m c) m (dv o)) (hb : Below w1.heap.size w1 wr) : PRel w1 n f (.slice A m c) (.int .i64 ((k : Int) + 1)) wr :=
  ⟨k + 1, m, A, c, hk, by go_num, rfl, by rw [hs]; exact hm, by rw [hs]; exact ho, hb⟩

set_option maxHeartbeats 8000000 in
theorem rput_any (w : World) (A0 : Option Addr) (l : List Dot) (n c0 : Nat) (d : Dot) (hl : l.length = n) (hb : Dots w w.heap.size A0 l) (h42 : n ≤ 4398046511104) :
    Calls Tryz.prog 85 #[.slice A0 n c0, .agg #[.int .u16 (d.1 : Int), .int .u64 (d.2 : Int)]] w (DotPost w (putD l d)) := by
  have HL := Lib.hid hl
  have HB1 : Hid (Below w.heap.size w (w.alloc (.cells #[.int .u16 (d.1 : Int), .int .u64 (d.2 : Int)] 28))) := below_new w _
  have hd0 : (w.alloc (.cells #[.int .u16 (d.1 : Int), .int .u64 (d.2 : Int)] 28)).cell? ⟨w.heap.size, 0, none⟩ = some (.int .u16 (d.1 : Int)) := by rw [World.cell?_alloc_mark]; rfl
  have hd1 : (w.alloc (.cells #[.int .u16 (d.1 : Int), .int .u64 (d.2 : Int)] 28)).cell? ⟨w.heap.size, 1, none⟩ = some (.int .u64 (d.2 : Int)) := by rw [World.cell?_alloc_mark]; rfl
  have H1 := Lib.hid (hb.up (below_new w (.cells #[.int .u16 (d.1 : Int), .int .u64 (d.2 : Int)] 28)))
  clear hb hl
  go_enter Tryz.func85, Tryz.ntmps85
  go_wp2_with fail
  generalize hw1 : w.alloc (.cells #[.int .u16 (d.1 : Int), .int .u64 (d.2 : Int)] 28) = w1 at *
  clear hw1
  have HD : Hid (∀ V, Below w1.heap.size w1 V → V.cell? ⟨w.heap.size, 0, none⟩ = some (.int .u16 (d.1 : Int)) ∧ V.cell? ⟨w.heap.size, 1, none⟩ = some (.int .u64 (d.2 : Int))) := fun V hV => ⟨(hV.cell (World.block_lt_of_cell? w1 _ hd0)).trans hd0, (hV.cell (World.block_lt_of_cell? w1 _ hd1)).trans hd1⟩
  clear hd0 hd1
  obtain ⟨f, hf⟩ : ∃ f : Nat → List Dot, f = fun k => (l.take k).filter (fun x => aheadD x d) := ⟨_, rfl⟩
  have HF : Hid (∀ k, (f k).length ≤ k) := Lib.hid (fun k => by rw [hf]; exact Nat.le_trans (List.length_filter_le _ _) (List.length_take_le _ _))
  have HFE : Hid (∀ k, f k = (l.take k).filter (fun x => aheadD x d)) := Lib.hid (fun k => by rw [hf])
  clear hf
  go_loopw [5, 6] (fun v i wr => PRel w1 n f v i wr) (fun _ i _ => n - (intOf i).toNat)
  case atStart => exact ⟨0, 0, none, 0, Nat.zero_le _, rfl, rfl, by rw [HFE.out]; rfl, by rw [HFE.out]; exact World.ownsRow_nil _ _ _ _, Below.refl _ _⟩
  case round =>
    obtain ⟨k, m, A, c, hk, rfl, rfl, hm, ho, hw⟩ := hrel
    have hmk : m ≤ k := by rw [← hm]; exact HF.out k
    have HM := Lib.hid hm
    have HO := Lib.hid ho
    have HW := Lib.hid hw
    clear hm ho hw
    by_cases hlt : k < n
    · obtain ⟨ad, x, rfl, hB, hlx, hx1, hx2, hcx⟩ := H1.out.cells (k := k) (by rw [HL.out]; exact hlt)
      have HN := Lib.hid (filter_next (fun x => aheadD x d) hlx)
      clear hlx
      have HC : Hid (∀ V, Below wr.heap.size wr V → (V.cell? (ad.add (k * 2)) = some (.int .u16 (x.1 : Int)) ∧ V.cell? ⟨(ad.add (k * 2)).block, (ad.add (k * 2)).off + 1, none⟩ = some (.int .u64 (x.2 : Int))) ∧ V.cell? ⟨w.heap.size, 0, none⟩ = some (.int .u16 (d.1 : Int)) ∧ V.cell? ⟨w.heap.size, 1, none⟩ = some (.int .u64 (d.2 : Int))) := fun V hV =>
        ⟨hcx V (HW.out.trans (hV.mono HW.out.size)), HD.out V (HW.out.trans (hV.mono HW.out.size))⟩
      clear hcx
      obtain ⟨⟨d1, d2⟩, d3, d4⟩ := HC.out wr (Below.refl _ _)
      go_wp2_with fail
      go_region_held3 (fun V => (V.cell? (ad.add (k * 2)) = some (.int .u16 (x.1 : Int)) ∧ V.cell? ⟨(ad.add (k * 2)).block, (ad.add (k * 2)).off + 1, none⟩ = some (.int .u64 (x.2 : Int))) ∧ V.cell? ⟨w.heap.size, 0, none⟩ = some (.int .u16 (d.1 : Int)) ∧ V.cell? ⟨w.heap.size, 1, none⟩ = some (.int .u64 (d.2 : Int))) (first | exact ⟨⟨d1, d2⟩, d3, d4⟩ | assumption | exact HC.out _ (by (repeat (first | exact Below.refl _ _ | assumption | apply bel_drew)))) (first
        | (go_at_call 104; (with_reducible refine (rcmp_later wr _ x d ?_).mono ?_); (repeat (first | exact Below.refl _ _ | assumption | apply bel_drew)); rintro e V ⟨rfl, bv⟩; have hcV := HC.out V bv))
      all_goals
        have HV : Hid (Below w1.heap.size w1 V) := HW.out.trans (bv.mono HW.out.size)
        have HOV := Lib.hid (own_kept HO.out bv)
        obtain ⟨⟨v1, v2⟩, _⟩ := hcV
        clear bv d1 d2 d3 d4
        rw [cmp_neg]
        cases ha : aheadD x d with
        | true =>
          rw [ha] at HN
          have HLO : Hid (m + 1 ≤ 8796093022208) := Lib.hid (by omega)
          have HWA : Hid (Below w1.heap.size w1 (V.alloc (.cells #[.int .u16 (x.1 : Int), .int .u64 (x.2 : Int)] 28))) := bel_alloc _ HV.out
          have HS : Hid (f (k + 1) = f k ++ [x]) := Lib.hid (by rw [HFE.out, HFE.out]; exact HN.out.trans (by rw [if_pos rfl]))
          clear ha
          go_wp2_with (at_builtin; refine wpList_any rfl (.tmp 21) (.tmp 26) rfl rfl _ w1.heap.size m (.slice A m c) (f k) (some ⟨V.heap.size, 0, none⟩) [x] 1 1 rfl rfl (HOV.out.alloc _) (fun h => by cases h) (lies_one V x) rfl HLO.out HWA.out.size ?_; intro A3 c3 V3 ho3 hg3; have HR := Lib.hid (p_rel hlt HS.out (by rw [List.length_append, HM.out]; rfl) ho3 (any_grown (HOV.out.alloc _) HWA.out hg3)); clear ho3 hg3)
          go_roundw
          case rel => exact HR.out
          case measure => simp [intOf]; omega
        | false =>
          rw [ha] at HN
          have HS : Hid (f (k + 1) = f k) := Lib.hid (by rw [HFE.out, HFE.out]; exact HN.out.trans (by rw [if_neg (by simp), List.append_nil]))
          have HR := Lib.hid (p_rel hlt HS.out HM.out HOV.out HV.out)
          clear ha v1 v2
          go_wp2
          go_roundw
          case rel => exact HR.out
          case measure => simp [intOf]; omega
    · obtain rfl : n = k := by omega
      have HE : Hid (f n = l.filter (fun x => aheadD x d)) := Lib.hid (by rw [HFE.out, List.take_of_length_le (by rw [HL.out]; exact Nat.le_refl _)])
      obtain ⟨d3, d4⟩ := HD.out wr HW.out
      have HLO : Hid (m + 1 ≤ 8796093022208) := Lib.hid (by omega)
      have HWA : Hid (Below w1.heap.size w1 (wr.alloc (.cells #[.int .u16 (d.1 : Int), .int .u64 (d.2 : Int)] 28))) := bel_alloc _ HW.out
      go_wp2_with (at_builtin; refine wpList_any rfl (.tmp 28) (.tmp 30) rfl rfl _ w1.heap.size m (.slice A m c) (f n) (some ⟨wr.heap.size, 0, none⟩) [d] 1 1 rfl rfl (HO.out.alloc _) (fun h => by cases h) (lies_one wr d) rfl HLO.out HWA.out.size ?_; intro A3 c3 V3 ho3 hg3; have HO3 := Lib.hid ho3; have HW3 := Lib.hid (any_grown (HO.out.alloc _) HWA.out hg3); clear ho3 hg3)
      obtain ⟨g, hg⟩ : ∃ g : Nat → List Dot, g = fun j => l.filter (fun x => aheadD x d) ++ [d] ++ (l.take j).filter (fun x => aheadD d x) := ⟨_, rfl⟩
      have HGE : Hid (∀ j, g j = l.filter (fun x => aheadD x d) ++ [d] ++ (l.take j).filter (fun x => aheadD d x)) := Lib.hid (fun j => by rw [hg])
      have HG : Hid (∀ j, (g j).length ≤ n + 1) := Lib.hid (fun j => by
        have h1 := put_length l d
        have h2 : ((l.take j).filter (fun x => aheadD d x)).length ≤ (l.filter (fun x => aheadD d x)).length := ((List.take_sublist j l).filter _).length_le
        rw [HL.out] at h1
        rw [HGE.out]
        unfold putD at h1
        simp only [List.length_append] at h1 ⊢
        omega)
      clear hg d3 d4 HLO
      have HS0 : Hid (g 0 = f n ++ [d]) := Lib.hid (by rw [HGE.out, HE.out]; simp)
      have HM0 : Hid ((f n ++ [d]).length = m + 1) := Lib.hid (by rw [List.length_append, HM.out]; rfl)
      clear hmk HF HFE HM HO HW HWA HE hlt hk
      generalize f n = fk at HS0 HM0 HO3
      go_loopw [5, 7] (fun v i wr => PRel w1 n g v i wr) (fun _ i _ => n - (intOf i).toNat)
      case atStart => exact ⟨0, m + 1, A3, c3, Nat.zero_le _, rfl, rfl, by rw [HS0.out]; exact HM0.out, by rw [HS0.out]; exact HO3.out, HW3.out⟩
      case round =>
        clear HS0 HM0 HO3 HW3
        obtain ⟨k, m, A, c, hk, rfl, rfl, hm, ho, hw⟩ := hrel
        have hmk : m ≤ n + 1 := by rw [← hm]; exact HG.out k
        have HM := Lib.hid hm
        have HO := Lib.hid ho
        have HW := Lib.hid hw
        clear hm ho hw
        by_cases hlt : k < n
        · obtain ⟨ad, x, rfl, hB, hlx, hx1, hx2, hcx⟩ := H1.out.cells (k := k) (by rw [HL.out]; exact hlt)
          have HN := Lib.hid (filter_next (fun x => aheadD d x) hlx)
          clear hlx
          have HC : Hid (∀ V, Below wr.heap.size wr V → (V.cell? (ad.add (k * 2)) = some (.int .u16 (x.1 : Int)) ∧ V.cell? ⟨(ad.add (k * 2)).block, (ad.add (k * 2)).off + 1, none⟩ = some (.int .u64 (x.2 : Int))) ∧ V.cell? ⟨w.heap.size, 0, none⟩ = some (.int .u16 (d.1 : Int)) ∧ V.cell? ⟨w.heap.size, 1, none⟩ = some (.int .u64 (d.2 : Int))) := fun V hV =>
            ⟨hcx V (HW.out.trans (hV.mono HW.out.size)), HD.out V (HW.out.trans (hV.mono HW.out.size))⟩
          clear hcx
          obtain ⟨⟨d1, d2⟩, d3, d4⟩ := HC.out wr (Below.refl _ _)
          go_wp2_with fail
          go_region_held3 (fun V => (V.cell? (ad.add (k * 2)) = some (.int .u16 (x.1 : Int)) ∧ V.cell? ⟨(ad.add (k * 2)).block, (ad.add (k * 2)).off + 1, none⟩ = some (.int .u64 (x.2 : Int))) ∧ V.cell? ⟨w.heap.size, 0, none⟩ = some (.int .u16 (d.1 : Int)) ∧ V.cell? ⟨w.heap.size, 1, none⟩ = some (.int .u64 (d.2 : Int))) (first | exact ⟨⟨d1, d2⟩, d3, d4⟩ | assumption | exact HC.out _ (by (repeat (first | exact Below.refl _ _ | assumption | apply bel_drew)))) (first
            | (go_at_call 104; (with_reducible refine (rcmp_later wr _ x d ?_).mono ?_); (repeat (first | exact Below.refl _ _ | assumption | apply bel_drew)); rintro e V ⟨rfl, bv⟩; have hcV := HC.out V bv))
          all_goals
            have HV : Hid (Below w1.heap.size w1 V) := HW.out.trans (bv.mono HW.out.size)
            have HOV := Lib.hid (own_kept HO.out bv)
            obtain ⟨⟨v1, v2⟩, _⟩ := hcV
            clear bv d1 d2 d3 d4
            rw [cmp_pos]
            cases ha : aheadD d x with
            | true =>
              rw [ha] at HN
              have HLO : Hid (m + 1 ≤ 8796093022208) := Lib.hid (by omega)
              have HWA : Hid (Below w1.heap.size w1 (V.alloc (.cells #[.int .u16 (x.1 : Int), .int .u64 (x.2 : Int)] 28))) := bel_alloc _ HV.out
              have HS : Hid (g (k + 1) = g k ++ [x]) := Lib.hid (by rw [HGE.out, HGE.out, List.append_assoc _ _ [x]]; exact congrArg _ (HN.out.trans (by rw [if_pos rfl])))
              clear ha
              go_wp2_with (at_builtin; refine wpList_any rfl (.tmp 45) (.tmp 50) rfl rfl _ w1.heap.size m (.slice A m c) (g k) (some ⟨V.heap.size, 0, none⟩) [x] 1 1 rfl rfl (HOV.out.alloc _) (fun h => by cases h) (lies_one V x) rfl HLO.out HWA.out.size ?_; intro A3 c3 V3 ho3 hg3; have HR := Lib.hid (p_rel hlt HS.out (by rw [List.length_append, HM.out]; rfl) ho3 (any_grown (HOV.out.alloc _) HWA.out hg3)); clear ho3 hg3)
              go_roundw
              case rel => exact HR.out
              case measure => simp [intOf]; omega
            | false =>
              rw [ha] at HN
              have HS : Hid (g (k + 1) = g k) := Lib.hid (by rw [HGE.out, HGE.out]; exact congrArg _ (HN.out.trans (by rw [if_neg (by simp), List.append_nil])))
              have HR := Lib.hid (p_rel hlt HS.out HM.out HOV.out HV.out)
              clear ha v1 v2
              go_wp2
              go_roundw
              case rel => exact HR.out
              case measure => simp [intOf]; omega
        · obtain rfl : n = k := by omega
          have HE2 : Hid (g n = putD l d) := Lib.hid (by rw [HGE.out, List.take_of_length_le (by rw [HL.out]; exact Nat.le_refl _)]; rfl)
          have HWE : Hid (Below w.heap.size w wr) := HB1.out.trans (HW.out.mono HB1.out.size)
          rw [HE2.out] at HM HO
          go_wp2
          go_ret
          exact ⟨A, m, c, rfl, HM.out, own_less HO.out HB1.out.size, HWE.out⟩
end Go.Proofs.YtegclhgfibfanaaGreat.Dt

/- Vectors as what they tell: plain arithmetic. What a vector tells of a device, the vector in order that tells a given thing, and the laws of joining and meeting. No program is named here. -/
namespace Go.Proofs.YtegclhgfibfanaaGreat.Dt
set_option linter.unusedVariables false

/-- what a vector tells of a device: the greatest number of its dots that may be. -/
def stepV (d : Nat) (n : Nat) (x : Dot) : Nat := if x.1 = d ∧ mayD x = true ∧ n < x.2 then x.2 else n
def ofV (v : List Dot) (d : Nat) : Nat := v.foldl (stepV d) 0
theorem step_max (d n : Nat) (x : Dot) : stepV d n x = if x.1 = d ∧ mayD x = true then max n x.2 else n := by
  unfold stepV
  by_cases h1 : x.1 = d ∧ mayD x = true
  · by_cases h2 : n < x.2
    · rw [if_pos ⟨h1.1, h1.2, h2⟩, if_pos h1]; omega
    · rw [if_neg (fun h => h2 h.2.2), if_pos h1]; omega
  · rw [if_neg (fun h => h1 ⟨h.1, h.2.1⟩), if_neg h1]
theorem of_from (v : List Dot) (d n : Nat) : v.foldl (stepV d) n = max n (ofV v d) := by
  unfold ofV
  induction v generalizing n with
  | nil => simp
  | cons x v ih =>
    rw [List.foldl_cons, List.foldl_cons, ih, ih (stepV d 0 x), step_max, step_max]
    split <;> omega
theorem of_nil (d : Nat) : ofV [] d = 0 := rfl
theorem of_cons (x : Dot) (v : List Dot) (d : Nat) : ofV (x :: v) d = max (if x.1 = d ∧ mayD x = true then x.2 else 0) (ofV v d) := by
  rw [show ofV (x :: v) d = v.foldl (stepV d) (stepV d 0 x) from rfl, of_from, step_max]
  split <;> omega
theorem of_append (v m : List Dot) (d : Nat) : ofV (v ++ m) d = max (ofV v d) (ofV m d) := by
  rw [show ofV (v ++ m) d = (v ++ m).foldl (stepV d) 0 from rfl, List.foldl_append, of_from]; rfl
theorem of_one (x : Dot) (d : Nat) : ofV [x] d = if x.1 = d ∧ mayD x = true then x.2 else 0 := by rw [of_cons, of_nil]; omega
/-- what is told is a dot's number; of nothing nought is told. -/
theorem of_in (v : List Dot) (d : Nat) (h : 0 < ofV v d) : (d, ofV v d) ∈ v ∧ mayD (d, ofV v d) = true := by
  induction v with
  | nil => rw [of_nil] at h; omega
  | cons x v ih =>
    rw [of_cons] at h ⊢
    by_cases h1 : x.1 = d ∧ mayD x = true
    · rw [if_pos h1] at h ⊢
      rcases Nat.le_total x.2 (ofV v d) with h2 | h2
      · rw [Nat.max_eq_right h2] at h ⊢
        exact ⟨List.mem_cons_of_mem _ (ih h).1, (ih h).2⟩
      · rw [Nat.max_eq_left h2] at h ⊢
        have e : ((d, x.2) : Dot) = x := by rw [← h1.1]
        rw [e]
        exact ⟨List.mem_cons_self .., h1.2⟩
    · rw [if_neg h1] at h ⊢
      rw [Nat.zero_max] at h ⊢
      exact ⟨List.mem_cons_of_mem _ (ih h).1, (ih h).2⟩
theorem of_most (v : List Dot) (x : Dot) (hx : x ∈ v) (hm : mayD x = true) : x.2 ≤ ofV v x.1 := by
  induction v with
  | nil => cases hx
  | cons y v ih =>
    rw [of_cons]
    rcases List.mem_cons.1 hx with rfl | hx
    · rw [if_pos ⟨rfl, hm⟩]; omega
    · have := ih hx; omega
theorem of_lt (v : List Dot) (d : Nat) : ofV v d < 281474976710656 := by
  rcases Nat.eq_zero_or_pos (ofV v d) with h | h
  · omega
  · exact ((may_iff _).1 (of_in v d h).2).2.2
theorem of_zero (v : List Dot) : ofV v 0 = 0 := by
  rcases Nat.eq_zero_or_pos (ofV v 0) with h | h
  · exact h
  · have := ((may_iff _).1 (of_in v 0 h).2).1
    exact absurd this (by simp)
theorem of_far (v : List Dot) (hv : Fit v) (d : Nat) (hd : 65536 ≤ d) : ofV v d = 0 := by
  rcases Nat.eq_zero_or_pos (ofV v d) with h | h
  · exact h
  · have := (hv _ (of_in v d h).1).1
    exact absurd this (by simp only; omega)

/-- what may be told: nothing of device 0, nor of devices beyond; numbers that may be. -/
def Tells (f : Nat → Nat) : Prop := f 0 = 0 ∧ (∀ d, 65536 ≤ d → f d = 0) ∧ ∀ d, f d < 281474976710656
theorem tells_of {v : List Dot} (hv : Fit v) : Tells (ofV v) := ⟨of_zero v, of_far v hv, of_lt v⟩
theorem tells_max {f g : Nat → Nat} (hf : Tells f) (hg : Tells g) : Tells (fun d => max (f d) (g d)) :=
  ⟨by show max (f 0) (g 0) = 0; rw [hf.1, hg.1]; rfl, fun d hd => by show max (f d) (g d) = 0; rw [hf.2.1 d hd, hg.2.1 d hd]; rfl, fun d => by have := hf.2.2 d; have := hg.2.2 d; show max (f d) (g d) < _; omega⟩
theorem tells_min {f g : Nat → Nat} (hf : Tells f) (hg : Tells g) : Tells (fun d => min (f d) (g d)) :=
  ⟨by show min (f 0) (g 0) = 0; rw [hf.1, hg.1]; rfl, fun d hd => by show min (f d) (g d) = 0; rw [hf.2.1 d hd, hg.2.1 d hd]; rfl, fun d => by have := hf.2.2 d; have := hg.2.2 d; show min (f d) (g d) < _; omega⟩

/-- how many devices there are. -/
@[irreducible] def topV : Nat := 65536
theorem top_eq : topV = 65536 := by unfold topV; rfl
/-- one dot of a device, if it tells something of it. -/
def oneV (f : Nat → Nat) (d : Nat) : Option Dot := if 0 < f d then some (d, f d) else none
theorem one_some {f : Nat → Nat} {d : Nat} {x : Dot} (h : oneV f d = some x) : x = (d, f d) ∧ 0 < f d := by
  unfold oneV at h
  split at h
  · exact ⟨(Option.some.inj h).symm, by assumption⟩
  · cases h
/-- the vector in order that tells this. -/
def listV (f : Nat → Nat) : List Dot := (List.range topV).filterMap (oneV f)
theorem list_mem {f : Nat → Nat} (hf : Tells f) (x : Dot) : x ∈ listV f ↔ 0 < f x.1 ∧ x.2 = f x.1 := by
  unfold listV
  rw [List.mem_filterMap]
  constructor
  · rintro ⟨d, _, h⟩
    obtain ⟨rfl, h2⟩ := one_some h
    exact ⟨h2, rfl⟩
  · rintro ⟨h1, h2⟩
    refine ⟨x.1, ?_, ?_⟩
    · rw [List.mem_range, top_eq]
      rcases Nat.lt_or_ge x.1 65536 with h | h
      · exact h
      · rw [hf.2.1 _ h] at h1; omega
    · unfold oneV
      rw [if_pos h1, ← h2]
theorem range_up (n : Nat) : (List.range n).Pairwise (fun a b => a < b) := List.pairwise_lt_range
theorem list_up (f : Nat → Nat) (l : List Nat) (h : l.Pairwise (fun a b => a < b)) : (l.filterMap (oneV f)).Pairwise (fun a b => a.1 < b.1) := by
  induction l with
  | nil => exact List.Pairwise.nil
  | cons d l ih =>
    obtain ⟨h1, h2⟩ := List.pairwise_cons.1 h
    rw [List.filterMap_cons]
    split
    · exact ih h2
    · rename_i x hx
      rw [List.pairwise_cons]
      refine ⟨fun y hy => ?_, ih h2⟩
      obtain ⟨e, he, h3⟩ := List.mem_filterMap.1 hy
      obtain ⟨rfl, _⟩ := one_some hx
      obtain ⟨rfl, _⟩ := one_some h3
      exact h1 e he
theorem list_rise (f : Nat → Nat) : (listV f).Pairwise (fun a b => a.1 < b.1) := list_up f _ (range_up _)
theorem list_may {f : Nat → Nat} (hf : Tells f) {x : Dot} (hx : x ∈ listV f) : mayD x = true := by
  obtain ⟨h1, h2⟩ := (list_mem hf x).1 hx
  rw [may_iff]
  refine ⟨?_, by omega, by rw [h2]; exact hf.2.2 _⟩
  rcases Nat.eq_zero_or_pos x.1 with h | h
  · rw [h, hf.1] at h1; omega
  · exact h
theorem list_fit {f : Nat → Nat} (hf : Tells f) : Fit (listV f) := by
  intro r hr
  obtain ⟨h1, h2⟩ := (list_mem hf r).1 hr
  have h3 := hf.2.2 r.1
  refine ⟨?_, by omega⟩
  rcases Nat.lt_or_ge r.1 65536 with h | h
  · exact h
  · rw [hf.2.1 _ h] at h1; omega
theorem list_length (f : Nat → Nat) : (listV f).length ≤ 65536 := by
  have := List.length_filterMap_le (oneV f) (List.range topV)
  rw [List.length_range] at this
  exact Nat.le_trans this (Nat.le_of_eq top_eq)
/-- the vector that tells f tells f. -/
theorem of_list {f : Nat → Nat} (hf : Tells f) (d : Nat) : ofV (listV f) d = f d := by
  rcases Nat.eq_zero_or_pos (ofV (listV f) d) with h | h
  · rcases Nat.eq_zero_or_pos (f d) with h1 | h1
    · omega
    · have h2 : (d, f d) ∈ listV f := (list_mem hf _).2 ⟨h1, rfl⟩
      have h3 := of_most _ _ h2 (list_may hf h2)
      simp only at h3
      omega
  · exact ((list_mem hf _).1 (of_in _ _ h).1).2
theorem of_list' {f : Nat → Nat} (hf : Tells f) : ofV (listV f) = f := funext (of_list hf)

/-! The document's words. -/
def normV (v : List Dot) : List Dot := listV (ofV v)
def joinV (a b : List Dot) : List Dot := listV (fun d => max (ofV a d) (ofV b d))
def meetV (a b : List Dot) : List Dot := listV (fun d => min (ofV a d) (ofV b d))
def putV (v : List Dot) (x : Dot) : List Dot := joinV v [x]
def hasV (v : List Dot) (x : Dot) : Bool := mayD x && decide (x.2 ≤ ofV v x.1)
/-- does the first one tell of no device more? -/
def mostV (a b : List Dot) : Bool := (List.range topV).all (fun d => decide (ofV a d ≤ ofV b d))
def orderV (a b : List Dot) : Int := if mostV a b = true ∧ mostV b a = true then 0 else if mostV a b = true then -1 else if mostV b a = true then 1 else 2
def lackV (a b : List Dot) : Nat := ((List.range topV).map (fun d => ofV b d - ofV a d)).sum
theorem most_iff {a b : List Dot} (ha : Fit a) : mostV a b = true ↔ ∀ d, ofV a d ≤ ofV b d := by
  unfold mostV
  rw [List.all_eq_true]
  constructor
  · intro h d
    rcases Nat.lt_or_ge d 65536 with h1 | h1
    · exact of_decide_eq_true (h d (List.mem_range.2 (by rw [top_eq]; exact h1)))
    · rw [of_far a ha d h1]; exact Nat.zero_le _
  · exact fun h d _ => decide_eq_true (h d)
theorem tells_join {a b : List Dot} (ha : Fit a) (hb : Fit b) : Tells (fun d => max (ofV a d) (ofV b d)) := tells_max (tells_of ha) (tells_of hb)
theorem tells_meet {a b : List Dot} (ha : Fit a) (hb : Fit b) : Tells (fun d => min (ofV a d) (ofV b d)) := tells_min (tells_of ha) (tells_of hb)
theorem of_norm {v : List Dot} (hv : Fit v) : ofV (normV v) = ofV v := of_list' (tells_of hv)
theorem of_join {a b : List Dot} (ha : Fit a) (hb : Fit b) : ofV (joinV a b) = fun d => max (ofV a d) (ofV b d) := of_list' (tells_join ha hb)
theorem of_meet {a b : List Dot} (ha : Fit a) (hb : Fit b) : ofV (meetV a b) = fun d => min (ofV a d) (ofV b d) := of_list' (tells_meet ha hb)
theorem fit_norm {v : List Dot} (hv : Fit v) : Fit (normV v) := list_fit (tells_of hv)
theorem fit_join {a b : List Dot} (ha : Fit a) (hb : Fit b) : Fit (joinV a b) := list_fit (tells_join ha hb)
theorem fit_meet {a b : List Dot} (ha : Fit a) (hb : Fit b) : Fit (meetV a b) := list_fit (tells_meet ha hb)
theorem fit_one {x : Dot} (h1 : x.1 < 65536) (h2 : x.2 < 18446744073709551616) : Fit [x] := fun r hr => by rw [List.mem_singleton.1 hr]; exact ⟨h1, h2⟩
theorem of_put {v : List Dot} {x : Dot} (hv : Fit v) (hx : Fit [x]) : ofV (putV v x) = fun d => max (ofV v d) (if x.1 = d ∧ mayD x = true then x.2 else 0) := by
  unfold putV
  rw [of_join hv hx]
  funext d
  rw [of_one]
/-- of a dot that may not be nothing is told. -/
theorem put_bad {v : List Dot} {x : Dot} (h : mayD x = false) : putV v x = normV v := by
  unfold putV joinV normV
  congr 1
  funext d
  rw [of_one, if_neg (fun h' => by rw [h] at h'; exact absurd h'.2 (by simp))]
  exact Nat.max_zero _

/-! The laws. -/
theorem has_join {a b : List Dot} (ha : Fit a) (hb : Fit b) (x : Dot) : hasV (joinV a b) x = (hasV a x || hasV b x) := by
  unfold hasV
  rw [of_join ha hb]
  cases mayD x with
  | false => rfl
  | true =>
    simp only [Bool.true_and]
    by_cases h1 : x.2 ≤ ofV a x.1 <;> by_cases h2 : x.2 ≤ ofV b x.1 <;> simp [h1, h2] <;> omega
theorem has_meet {a b : List Dot} (ha : Fit a) (hb : Fit b) (x : Dot) : hasV (meetV a b) x = (hasV a x && hasV b x) := by
  unfold hasV
  rw [of_meet ha hb]
  cases mayD x with
  | false => rfl
  | true =>
    simp only [Bool.true_and]
    by_cases h1 : x.2 ≤ ofV a x.1 <;> by_cases h2 : x.2 ≤ ofV b x.1 <;> simp [h1, h2] <;> omega
theorem sum_zero (l : List Nat) (f : Nat → Nat) : (l.map f).sum = 0 ↔ ∀ d ∈ l, f d = 0 := by
  induction l with
  | nil => simp
  | cons d l ih => rw [List.map_cons, List.sum_cons, Nat.add_eq_zero_iff, ih]; simp
theorem sum_most (l : List Nat) (f : Nat → Nat) (m : Nat) (h : ∀ d, f d ≤ m) : (l.map f).sum ≤ l.length * m := by
  induction l with
  | nil => simp
  | cons d l ih =>
    have := h d
    rw [List.map_cons, List.sum_cons, List.length_cons, Nat.add_mul]
    omega
theorem lack_zero {a b : List Dot} (hb : Fit b) : lackV a b = 0 ↔ mostV b a = true := by
  unfold lackV
  rw [sum_zero, most_iff hb]
  constructor
  · intro h d
    rcases Nat.lt_or_ge d 65536 with h1 | h1
    · have := h d (List.mem_range.2 (by rw [top_eq]; exact h1)); omega
    · rw [of_far b hb d h1]; exact Nat.zero_le _
  · intro h d _
    have := h d
    omega
theorem lack_lt (a b : List Dot) : lackV a b < 18446744073709551616 := by
  unfold lackV
  have h0 : (List.range topV).map (fun d => ofV b d - ofV a d) = (ofV b 0 - ofV a 0) :: (List.range 65535).map (fun d => ofV b (d + 1) - ofV a (d + 1)) := by
    rw [show topV = 65535 + 1 from top_eq, List.range_succ_eq_map, List.map_cons, List.map_map]; rfl
  rw [h0, List.sum_cons, of_zero, of_zero]
  have := sum_most (List.range 65535) (fun d => ofV b (d + 1) - ofV a (d + 1)) 281474976710655 (fun d => by have := of_lt b (d + 1); omega)
  rw [List.length_range] at this
  omega
theorem order_low {a b : List Dot} : (orderV a b = 0 ∨ orderV a b = -1) ↔ mostV a b = true := by
  unfold orderV
  cases mostV a b <;> cases mostV b a <;> simp
theorem order_high {a b : List Dot} : (orderV a b = 0 ∨ orderV a b = 1) ↔ mostV b a = true := by
  unfold orderV
  cases mostV a b <;> cases mostV b a <;> simp
theorem most_put {a : List Dot} {x : Dot} (ha : Fit a) (hx : Fit [x]) : mostV a (putV a x) = true := by
  rw [most_iff ha, of_put ha hx]
  intro d
  exact Nat.le_max_left _ _
theorem has_put {a : List Dot} {x : Dot} (ha : Fit a) (hx : Fit [x]) : hasV (putV a x) x = mayD x := by
  unfold hasV
  rw [of_put ha hx]
  cases h : mayD x with
  | false => rfl
  | true => simp; omega
theorem join_comm (a b : List Dot) : joinV a b = joinV b a := by
  unfold joinV
  congr 1
  funext d
  exact Nat.max_comm _ _
theorem join_assoc {a b c : List Dot} (ha : Fit a) (hb : Fit b) (hc : Fit c) : joinV (joinV a b) c = joinV a (joinV b c) := by
  show listV (fun d => max (ofV (joinV a b) d) (ofV c d)) = listV (fun d => max (ofV a d) (ofV (joinV b c) d))
  rw [of_join ha hb, of_join hb hc]
  congr 1
  funext d
  exact Nat.max_assoc _ _ _
theorem meet_assoc {a b c : List Dot} (ha : Fit a) (hb : Fit b) (hc : Fit c) : meetV (meetV a b) c = meetV a (meetV b c) := by
  show listV (fun d => min (ofV (meetV a b) d) (ofV c d)) = listV (fun d => min (ofV a d) (ofV (meetV b c) d))
  rw [of_meet ha hb, of_meet hb hc]
  congr 1
  funext d
  exact Nat.min_assoc _ _ _
theorem join_self (a : List Dot) : joinV a a = normV a := by
  unfold joinV normV
  congr 1
  funext d
  exact Nat.max_self _
theorem meet_join {a b : List Dot} (ha : Fit a) (hb : Fit b) : meetV a (joinV a b) = normV a := by
  rw [meetV, of_join ha hb, normV]
  congr 1
  funext d
  simp only
  omega
theorem join_meet {a b : List Dot} (ha : Fit a) (hb : Fit b) : joinV a (meetV a b) = normV a := by
  rw [joinV, of_meet ha hb, normV]
  congr 1
  funext d
  simp only
  omega
theorem norm_norm {a : List Dot} (ha : Fit a) : normV (normV a) = normV a := by
  rw [normV, of_norm ha]; rfl
theorem order_norm {a : List Dot} (ha : Fit a) : orderV a (normV a) = 0 := by
  have h1 : mostV a (normV a) = true := (most_iff ha).2 (fun d => by rw [of_norm ha]; exact Nat.le_refl _)
  have h2 : mostV (normV a) a = true := (most_iff (fit_norm ha)).2 (fun d => by rw [of_norm ha]; exact Nat.le_refl _)
  unfold orderV
  rw [if_pos ⟨h1, h2⟩]
/-- in order: the vector that tells what it tells. -/
def goodV (v : List Dot) : Bool := decide (v = normV v)
theorem good_norm {a : List Dot} (ha : Fit a) : goodV (normV a) = true := decide_eq_true (norm_norm ha).symm
/-- a list that rises by device, of dots that may be, is in order. -/
theorem good_rise {v : List Dot} (hv : Fit v) : goodV v = true ↔ v.Pairwise (fun a b => a.1 < b.1) ∧ ∀ x ∈ v, mayD x = true := by
  unfold goodV
  rw [decide_eq_true_iff]
  constructor
  · intro h
    rw [h]
    exact ⟨list_rise _, fun x hx => list_may (tells_of hv) hx⟩
  · rintro ⟨h1, h2⟩
    have key : ∀ (l m : List Dot), l.Pairwise (fun a b => a.1 < b.1) → m.Pairwise (fun a b => a.1 < b.1) → (∀ x, x ∈ l ↔ x ∈ m) → l = m := by
      intro l
      induction l with
      | nil =>
        intro m _ _ h
        cases m with
        | nil => rfl
        | cons b m => exact absurd ((h b).2 (List.mem_cons_self ..)) (by simp)
      | cons a l ih =>
        intro m hl hm h
        cases m with
        | nil => exact absurd ((h a).1 (List.mem_cons_self ..)) (by simp)
        | cons b m =>
          obtain ⟨hl1, hl2⟩ := List.pairwise_cons.1 hl
          obtain ⟨hm1, hm2⟩ := List.pairwise_cons.1 hm
          have hab : a = b := by
            rcases List.mem_cons.1 ((h a).1 (List.mem_cons_self ..)) with h1 | h1
            · exact h1
            · rcases List.mem_cons.1 ((h b).2 (List.mem_cons_self ..)) with h2 | h2
              · exact h2.symm
              · have h3 := hm1 a h1
                have h4 := hl1 b h2
                omega
          subst hab
          congr 1
          refine ih m hl2 hm2 fun x => ⟨fun hx => ?_, fun hx => ?_⟩
          · rcases List.mem_cons.1 ((h x).1 (List.mem_cons_of_mem _ hx)) with h1 | h1
            · have := hl1 x hx; rw [h1] at this; omega
            · exact h1
          · rcases List.mem_cons.1 ((h x).2 (List.mem_cons_of_mem _ hx)) with h1 | h1
            · have := hm1 x hx; rw [h1] at this; omega
            · exact h1
    refine key v (normV v) h1 (list_rise _) fun x => ?_
    unfold normV
    rw [list_mem (tells_of hv)]
    constructor
    · intro hx
      have hm := h2 x hx
      have h3 := of_most v x hx hm
      have h4 := (may_iff x).1 hm
      refine ⟨by omega, ?_⟩
      have h5 := (of_in v x.1 (by omega)).1
      -- one dot of a device
      have : (x.1, ofV v x.1) = x := by
        have hp : ∀ (l : List Dot), l.Pairwise (fun a b => a.1 < b.1) → ∀ a ∈ l, ∀ b ∈ l, a.1 = b.1 → a = b := by
          intro l hl a ha b hb hab
          induction l with
          | nil => cases ha
          | cons c l ih =>
            obtain ⟨g1, g2⟩ := List.pairwise_cons.1 hl
            rcases List.mem_cons.1 ha with e1 | ha1 <;> rcases List.mem_cons.1 hb with e2 | hb1
            · rw [e1, e2]
            · have := g1 b hb1; rw [← e1] at this; omega
            · have := g1 a ha1; rw [← e2] at this; omega
            · exact ih g2 ha1 hb1
        exact hp v h1 _ h5 x hx rfl
      have h6 := congrArg Prod.snd this
      exact h6.symm
    · rintro ⟨g1, g2⟩
      have h5 := (of_in v x.1 g1).1
      rw [← g2] at h5
      exact h5
end Go.Proofs.YtegclhgfibfanaaGreat.Dt

/- The contract of the document's Of of layer vec. For every list of dots. -/
namespace Go.Proofs.YtegclhgfibfanaaGreat.Dt
open Go.ChangeShapes Go.WideShapes Go.ChangeAt Go.RowKit
set_option linter.unusedVariables false

theorem below_grow (V : World) (n : Nat) (os : Array Obj) : Below V.heap.size V (Sort.grow (V.drewN n) os) :=
  ⟨rfl, rfl, rfl, by show V.heap.size ≤ (V.heap ++ os).size; simp, fun i hi => by show (V.heap ++ os)[i]? = V.heap[i]?; exact Array.getElem?_append_left hi⟩
theorem rgood_g (W : World) (d : Dot) (b : Bool) (hb : mayD d = b) :
    Calls Tryz.prog 43 #[.agg #[.int .u16 (d.1 : Int), .int .u64 (d.2 : Int)]] W fun e w' => e = .returned (.bool b) ∧ ∃ q os', w' = Sort.grow (W.drewN q) os' :=
  (rgood_any W d.1 d.2).mono fun _ _ ⟨h1, h2⟩ => ⟨by rw [h1, ← hb], 0, _, h2.trans (Sort.alloc_eq_grow _ _)⟩
theorem of_next {l : List Dot} {k : Nat} {x : Dot} (d : Nat) (h : l[k]? = some x) : ofV (l.take (k + 1)) d = stepV d (ofV (l.take k) d) x := by
  unfold ofV
  rw [take_next h, List.foldl_append]; rfl
set_option maxHeartbeats 2000000 in
theorem rof_any (w : World) (A : Option Addr) (l : List Dot) (n c : Nat) (d : Nat) (hl : l.length = n) (hb : Dots w w.heap.size A l) (h63 : n ≤ 9223372036854775807) :
    Calls Tryz.prog 93 #[.slice A n c, .int .u16 (d : Int)] w fun e w' => e = .returned (.int .u64 ((ofV l d : Nat) : Int)) ∧ Below w.heap.size w w' := by
  have HL := Lib.hid hl
  have H1 := Lib.hid hb
  clear hb hl
  go_enter Tryz.func93, Tryz.ntmps93
  go_wp2_with fail
  go_loopw [5, 6] (fun v i wr => ∃ k : Nat, k ≤ n ∧ i = .int .i64 (k : Int) ∧ v = .int .u64 ((ofV (l.take k) d : Nat) : Int) ∧ Below w.heap.size w wr) (fun _ i _ => n - (intOf i).toNat)
  case atStart => exact ⟨0, Nat.zero_le _, rfl, rfl, Below.refl _ _⟩
  case round =>
    obtain ⟨k, hk, rfl, rfl, hw⟩ := hrel
    have HW := Lib.hid hw
    clear hw
    by_cases hlt : k < n
    · obtain ⟨ad, x, rfl, hB, hlx, hx1, hx2, hcx⟩ := H1.out.cells (k := k) (by rw [HL.out]; exact hlt)
      have HN := Lib.hid (of_next d hlx)
      clear hlx
      obtain ⟨o, ho⟩ : ∃ o, ofV (l.take k) d = o := ⟨_, rfl⟩
      rw [ho] at HN ⊢
      obtain ⟨x1, x2⟩ := x
      have HC : Hid (∀ V, Below wr.heap.size wr V → V.cell? (ad.add (k * 2)) = some (.int .u16 (x1 : Int)) ∧ V.cell? ⟨(ad.add (k * 2)).block, (ad.add (k * 2)).off + 1, none⟩ = some (.int .u64 (x2 : Int))) := fun V hV =>
        hcx V (HW.out.trans (hV.mono HW.out.size))
      clear hcx ho
      obtain ⟨d1, d2⟩ := HC.out wr (Below.refl _ _)
      by_cases hd : x1 = d
      · subst hd
        obtain ⟨b, hm⟩ : ∃ b, mayD (x1, x2) = b := ⟨_, rfl⟩
        have CG := fun W => rgood_any W x1 x2
        rw [hm] at CG
        have HB1 : Hid (Below wr.heap.size wr (wr.alloc (.cells #[.int .u16 (x1 : Int), .int .u64 (x2 : Int)] 28))) := below_new _ _
        have HW2 : Hid (Below w.heap.size w (wr.alloc (.cells #[.int .u16 (x1 : Int), .int .u64 (x2 : Int)] 28))) := HW.out.trans (HB1.out.mono HW.out.size)
        go_wp2_with fail
        refine (CG _).mono ?_
        rintro e V ⟨rfl, hV⟩
        obtain ⟨v1, v2⟩ := HC.out V (by rw [hV]; exact HB1.out)
        have HV : Hid (Below w.heap.size w V) := Lib.hid (by rw [hV]; exact HW2.out)
        clear hV d1 d2 CG HC HB1 HW2
        cases b with
        | true =>
          by_cases hgt : o < x2
          · have HS : Hid (ofV (l.take (k + 1)) x1 = x2) := Lib.hid (by rw [HN.out]; exact if_pos ⟨rfl, hm, hgt⟩)
            clear hm HN
            go_wp2
            go_roundw
            case rel => exact ⟨k + 1, by omega, by go_num, by rw [HS.out], HV.out⟩
            case measure => simp [intOf]; omega
          · have HS : Hid (ofV (l.take (k + 1)) x1 = o) := Lib.hid (by rw [HN.out]; exact if_neg (fun h => hgt h.2.2))
            clear hm HN
            go_wp2
            go_roundw
            case rel => exact ⟨k + 1, by omega, by go_num, by rw [HS.out], HV.out⟩
            case measure => simp [intOf]; omega
        | false =>
          have HS : Hid (ofV (l.take (k + 1)) x1 = o) := Lib.hid (by rw [HN.out]; exact if_neg (fun h => by have := h.2.1; rw [hm] at this; cases this))
          clear hm HN
          go_wp2
          go_roundw
          case rel => exact ⟨k + 1, by omega, by go_num, by rw [HS.out], HV.out⟩
          case measure => simp [intOf]; omega
      · have hb2 : ((x1 : Int) == (d : Int)) = false := by rw [beq_eq_false_iff_ne]; omega
        have HS : Hid (ofV (l.take (k + 1)) d = o) := Lib.hid (by rw [HN.out]; exact if_neg (fun h => hd h.1))
        clear HC HN
        go_wp2
        go_roundw
        case rel => exact ⟨k + 1, by omega, by go_num, by rw [HS.out], HW.out⟩
        case measure => simp [intOf]; omega
    · obtain rfl : k = n := by omega
      have e : Hid (l.take k = l) := Lib.hid (List.take_of_length_le (by rw [HL.out]; exact Nat.le_refl _))
      rw [e.out]
      go_wp2
      go_ret
      exact ⟨rfl, HW.out⟩
end Go.Proofs.YtegclhgfibfanaaGreat.Dt

/- The contract of the document's devs of layer vec: the devices of which two vectors tell, as dots of number one, in order. For every two lists of together at most 2^42 dots. -/
namespace Go.Proofs.YtegclhgfibfanaaGreat.Dt
open Go.ChangeShapes Go.WideShapes Go.ChangeAt Go.RowKit
set_option linter.unusedVariables false

theorem app_types (w : World) (ty : TypeId) (v x : Value) : (Builtin.append_ #[24, 44] ty #[v, x]).run Tryz.prog w = (Builtin.append_ #[24, 24] ty #[v, x]).run Tryz.prog w := by
  unfold Builtin.append_
  simp only [List.getElem?_toArray, List.getElem?_cons_zero, List.getElem?_cons_succ, Sem.run_bind, run_underlying Tryz.underlying24, Result.andThen_ok]
  cases v with
  | slice base sLen sCap =>
    simp only [Sem.run_bind, run_underlying Tryz.underlying24, run_underlying Tryz.underlying44, Result.andThen_ok, Sem.run_pure]
  | _ => rfl
/-- append of a vector to a list of dots of one's own. -/
theorem wpList_vec {ops : Array Oper} {rest : List Oper} {o : Oper} {a : Act} {Q : Exit → Act → World → Prop} (hgd : o.guard = none) (s x : Operand) (ho : o.op = .call { callee := .builtin .append, args := #[s, x], argTypes := #[24, 44] }) (hty : o.type = 24)
    (w : World) (B k : Nat) (v : Value) (xs : List Dot) (A : Option Addr) (m : List Dot) (n c : Nat) (hs : a.eval s = v) (hx : a.eval x = .slice A n c) (hw : w.ownsRow B 28 2 v k (dv xs)) (hA : A = none → n = 0 ∧ c = 0) (hb : Lies w w.heap.size A (dv m)) (hl : m.length = n)
    (hn : k + n ≤ 8796093022208) (hB : B ≤ w.heap.size)
    (hK : ∀ A' c' w', w'.ownsRow B 28 2 (.slice A' (k + n) c') (k + n) (dv (xs ++ m)) → w.grownBy w' v.ownBlock → wpList Tryz.prog ops Q rest (a.put o.dst (.slice A' (k + n) c')) w') : wpList Tryz.prog ops Q (o :: rest) a w := by
  refine wpList_plain hgd fun K hQ => ?_
  obtain ⟨A', c', w', hr, h2, h3⟩ := run_any w B k v xs A m n c hw hA hb hl hn hB
  rw [← app_types] at hr
  rw [← hty] at hr
  unfold Oper.wp execOp
  simp only [ho, resolve, invoke, builtin, Sem.run_bind, Sem.run_pure, Result.andThen_ok, List.map_toArray, List.map_cons, List.map_nil, hs, hx]
  rw [hty] at hr ⊢
  rw [hr]
  exact hQ _ _ (hK _ _ _ h2 h3)
/-- a new list without a dot. -/
theorem own_new (w : World) : (w.alloc (.cells #[] 28)).ownsRow w.heap.size 28 2 (.slice (some ⟨w.heap.size, 0, none⟩) 0 0) 0 (dv []) := World.ownsRow_lit w #[] 0 (Nat.le_refl _) (by simp [maxLen]) rfl
/-- one device more. -/
def stepE (o : List Dot) (x : Dot) : List Dot := if mayD x = true then putD o (x.1, 1) else o
def devsD (a b : List Dot) : List Dot := (a ++ b).foldl stepE []
theorem devs_next {l : List Dot} {k : Nat} {x : Dot} (h : l[k]? = some x) : (l.take (k + 1)).foldl stepE [] = stepE ((l.take k).foldl stepE []) x := by
  rw [take_next h, List.foldl_append]; rfl
theorem devs_fit (l : List Dot) (h : Fit l) (k : Nat) : Fit ((l.take k).foldl stepE []) ∧ ((l.take k).foldl stepE []).length ≤ k := by
  induction k with
  | zero => exact ⟨fun r hr => (by cases hr), Nat.le_refl _⟩
  | succ k ih =>
    by_cases hk : k < l.length
    · have hg := List.getElem?_eq_getElem hk
      rw [devs_next hg]
      generalize (l.take k).foldl stepE [] = o at ih ⊢
      by_cases hm : mayD l[k] = true
      · rw [show stepE o l[k] = putD o (l[k].1, 1) from if_pos hm]
        exact ⟨fit_put ih.1 ⟨(h _ (List.getElem_mem hk)).1, by simp⟩, Nat.le_trans (put_length _ _) (by omega)⟩
      · rw [show stepE o l[k] = o from if_neg hm]
        exact ⟨ih.1, by omega⟩
    · have e : l.take (k + 1) = l.take k := by rw [List.take_of_length_le (by omega), List.take_of_length_le (by omega)]
      rw [e]
      exact ⟨ih.1, by omega⟩
set_option maxHeartbeats 4000000 in
theorem rdevs_any (w : World) (A1 A2 : Option Addr) (l1 l2 : List Dot) (n1 n2 c1 c2 : Nat) (e1 : l1.length = n1) (e2 : l2.length = n2) (a1 : A1 = none → n1 = 0 ∧ c1 = 0) (a2 : A2 = none → n2 = 0 ∧ c2 = 0) (h1 : Dots w w.heap.size A1 l1) (h2 : Dots w w.heap.size A2 l2) (h42 : n1 + n2 ≤ 4398046511104) :
    Calls Tryz.prog 92 #[.slice A1 n1 c1, .slice A2 n2 c2] w (DotPost w (devsD l1 l2)) := by
  have HA1 := Lib.hid a1
  have HA2 := Lib.hid a2
  have E1 := Lib.hid e1
  have E2 := Lib.hid e2
  have HB0 : Hid (Below w.heap.size w (w.alloc (.cells #[] 28))) := below_new w _
  have HO := Lib.hid (own_new w)
  have H1 := Lib.hid (h1.up (below_new w (.cells #[] 28)))
  have H2 := Lib.hid h2
  have HFT : Hid (Fit (l1 ++ l2)) := fun r hr => by
    rcases List.mem_append.1 hr with hr | hr
    · exact h1.1 r hr
    · exact h2.1 r hr
  have HEL : Hid ((l1 ++ l2).length = n1 + n2) := Lib.hid (by rw [List.length_append, e1, e2])
  clear a1 a2 e1 e2 h1 h2
  obtain ⟨l, hll⟩ : ∃ l, l1 ++ l2 = l := ⟨_, rfl⟩
  rw [hll] at HFT HEL
  rw [show devsD l1 l2 = l.foldl stepE [] from by unfold devsD; rw [hll]]
  have HLL := Lib.hid hll
  clear hll
  go_enter Tryz.func92, Tryz.ntmps92
  go_wp2_with (first
    | (at_builtin
       refine wpList_vec rfl (.tmp 8) (.tmp 9) rfl rfl _ w.heap.size 0 _ [] A1 l1 n1 c1 rfl rfl HO.out HA1.out H1.out.2 E1.out (by omega) (by simp) ?_
       intro A3 c3 w3 ho3 hg3
       rw [Nat.zero_add, List.nil_append] at ho3
       have HB3 : Hid (Below w.heap.size w w3) := HB0.out.grown hg3 (by simp) (fun k e => by cases e; exact Nat.le_refl _)
       have H3 := Lib.hid (H2.out.up HB3.out)
       have HO3 := Lib.hid ho3
       clear hg3 ho3)
    | (at_builtin
       refine wpList_vec rfl (.tmp 10) (.tmp 11) rfl rfl _ w.heap.size n1 _ l1 A2 l2 n2 c2 rfl rfl HO3.out HA2.out H3.out.2 E2.out (by omega) HB3.out.size ?_
       intro A4 c4 w4 ho4 hg4
       have HB4 : Hid (Below w.heap.size w w4) := any_grown HO3.out HB3.out hg4
       have HO4 := Lib.hid ho4
       clear hg4 ho4))
  rw [HLL.out] at HO4
  have HD := Lib.hid (dots_own HO4.out HFT.out)
  have HF := Lib.hid (devs_fit l HFT.out)
  clear HLL HO3 HO4 H1 H2 H3 HB0 HB3 HO E1 E2 HA1 HA2
  generalize n1 + n2 = n at HEL h42 ⊢
  go_loopw [5, 7] (fun v i wr => PRel w4 n (fun k => (l.take k).foldl stepE []) v i wr) (fun _ i _ => n - (intOf i).toNat)
  case atStart => exact ⟨0, 0, none, 0, Nat.zero_le _, rfl, rfl, rfl, World.ownsRow_nil _ _ _ _, Below.refl _ _⟩
  case round =>
    obtain ⟨k, m, A, c, hk, rfl, rfl, hm, ho, hw⟩ := hrel
    have hmk : m ≤ k := by rw [← hm]; exact (HF.out k).2
    have HM := Lib.hid hm
    have HO := Lib.hid ho
    have HW := Lib.hid hw
    clear hm ho hw
    by_cases hlt : k < n
    · obtain ⟨ad, x, rfl, hB, hlx, hx1, hx2, hcx⟩ := HD.out.cells (k := k) (by rw [HEL.out]; exact hlt)
      have HN := Lib.hid (devs_next hlx)
      clear hlx
      obtain ⟨d1, d2⟩ := hcx wr HW.out
      obtain ⟨b, hb⟩ : ∃ b, mayD x = b := ⟨_, rfl⟩
      have CG := fun W => rgood_any W x.1 x.2
      rw [show mayD (x.1, x.2) = b from hb] at CG
      have HB1 : Hid (Below wr.heap.size wr (wr.alloc (.cells #[.int .u16 (x.1 : Int), .int .u64 (x.2 : Int)] 28))) := below_new _ _
      go_wp2_with fail
      refine (CG _).mono ?_
      rintro e V ⟨rfl, hV⟩
      have HV : Hid (Below wr.heap.size wr V) := Lib.hid (by rw [hV]; exact HB1.out)
      have HWV : Hid (Below w4.heap.size w4 V) := HW.out.trans (HV.out.mono HW.out.size)
      clear hV d1 d2 CG HB1
      obtain ⟨d1, d2⟩ := hcx V HWV.out
      cases b with
      | true =>
        have HS : Hid ((l.take (k + 1)).foldl stepE [] = putD ((l.take k).foldl stepE []) (x.1, 1)) := Lib.hid (by rw [HN.out]; exact if_pos hb)
        have HP := Lib.hid (rput_any V A ((l.take k).foldl stepE []) m c (x.1, 1) HM.out (dots_own (own_kept HO.out HV.out) (HF.out k).1) (by omega))
        clear hcx hb HN
        go_wp2_with fail
        refine HP.out.mono ?_
        rintro e V2 ⟨A3, m3, c3, rfl, hm3, ho3, hb3⟩
        have HR := Lib.hid (p_rel (f := fun k => (l.take k).foldl stepE []) hlt HS.out hm3 (own_less ho3 HWV.out.size) (HWV.out.trans (hb3.mono HWV.out.size)))
        clear hm3 ho3 hb3 d1 d2
        go_wp2
        go_roundw
        case rel => exact HR.out
        case measure => simp [intOf]; omega
      | false =>
        have HS : Hid ((l.take (k + 1)).foldl stepE [] = (l.take k).foldl stepE []) := Lib.hid (by rw [HN.out]; exact if_neg (by rw [hb]; simp))
        have HR := Lib.hid (p_rel (f := fun k => (l.take k).foldl stepE []) hlt HS.out HM.out (own_kept HO.out HV.out) HWV.out)
        clear hcx hb HN d1 d2
        go_wp2
        go_roundw
        case rel => exact HR.out
        case measure => simp [intOf]; omega
    · obtain rfl : n = k := by omega
      have e : Hid (l.take n = l) := Lib.hid (List.take_of_length_le (by rw [HEL.out]; exact Nat.le_refl _))
      simp only [e.out] at HM HO
      go_wp2
      go_ret
      exact ⟨A, m, c, rfl, HM.out, own_less HO.out HB4.out.size, HB4.out.trans (HW.out.mono HB4.out.size)⟩
end Go.Proofs.YtegclhgfibfanaaGreat.Dt

/- What the document's devs of layer vec comes to: plain arithmetic. -/
namespace Go.Proofs.YtegclhgfibfanaaGreat.Dt
open Go.ChangeShapes Go.WideShapes Go.ChangeAt Go.RowKit
set_option linter.unusedVariables false

/-- of which devices two vectors tell: nought or one. -/
def anyV (a b : List Dot) (d : Nat) : Nat := min 1 (max (ofV a d) (ofV b d))
theorem tells_any {a b : List Dot} (ha : Fit a) (hb : Fit b) : Tells (anyV a b) := by
  obtain ⟨h1, h2, h3⟩ := tells_join ha hb
  refine ⟨?_, fun d hd => ?_, fun d => ?_⟩
  · simp only at h1; unfold anyV; rw [h1]; rfl
  · have := h2 d hd; simp only at this; unfold anyV; rw [this]; rfl
  · unfold anyV; omega
theorem rise_up {l : List Dot} (h : l.Pairwise (fun a b => a.1 < b.1)) : Ord l := h.imp (fun {a b} h => (ahead_iff a b).2 (.inl h))
theorem devs_from (l o : List Dot) (ho : Ord o) : Ord (l.foldl stepE o) ∧ ∀ x : Dot, x ∈ l.foldl stepE o ↔ x ∈ o ∨ (x.2 = 1 ∧ ∃ y ∈ l, mayD y = true ∧ y.1 = x.1) := by
  induction l generalizing o with
  | nil => exact ⟨ho, fun x => by simp⟩
  | cons d l ih =>
    rw [List.foldl_cons]
    by_cases hm : mayD d = true
    · rw [show stepE o d = putD o (d.1, 1) from if_pos hm]
      obtain ⟨h1, h2⟩ := ih (putD o (d.1, 1)) (put_ord _ ho)
      refine ⟨h1, fun x => ?_⟩
      rw [h2, put_mem]
      constructor
      · rintro ((rfl | h) | ⟨h, y, hy, h3⟩)
        · exact .inr ⟨rfl, d, List.mem_cons_self .., hm, rfl⟩
        · exact .inl h
        · exact .inr ⟨h, y, List.mem_cons_of_mem _ hy, h3⟩
      · rintro (h | ⟨h, y, hy, h3, h4⟩)
        · exact .inl (.inr h)
        · rcases List.mem_cons.1 hy with rfl | hy
          · exact .inl (.inl (Prod.ext h4.symm h))
          · exact .inr ⟨h, y, hy, h3, h4⟩
    · rw [show stepE o d = o from if_neg hm]
      obtain ⟨h1, h2⟩ := ih o ho
      refine ⟨h1, fun x => ?_⟩
      rw [h2]
      constructor
      · rintro (h | ⟨h, y, hy, h3⟩)
        · exact .inl h
        · exact .inr ⟨h, y, List.mem_cons_of_mem _ hy, h3⟩
      · rintro (h | ⟨h, y, hy, h3, h4⟩)
        · exact .inl h
        · rcases List.mem_cons.1 hy with rfl | hy
          · exact absurd h3 hm
          · exact .inr ⟨h, y, hy, h3, h4⟩
theorem told_iff (l : List Dot) (d : Nat) : 0 < ofV l d ↔ ∃ y ∈ l, mayD y = true ∧ y.1 = d := by
  constructor
  · intro h
    obtain ⟨h1, h2⟩ := of_in l d h
    exact ⟨_, h1, h2, rfl⟩
  · rintro ⟨y, hy, hm, rfl⟩
    have h1 := of_most l y hy hm
    have h2 := (may_iff y).1 hm
    omega
theorem devs_eq {a b : List Dot} (ha : Fit a) (hb : Fit b) : devsD a b = listV (anyV a b) := by
  obtain ⟨h1, h2⟩ := devs_from (a ++ b) [] List.Pairwise.nil
  refine ord_uniq h1 (rise_up (list_rise _)) fun x => ?_
  refine (h2 x).trans ?_
  rw [list_mem (tells_any ha hb), ← told_iff, of_append]
  unfold anyV
  simp only [List.not_mem_nil, false_or]
  omega
theorem pick_list {h f : Nat → Nat} (hf : ∀ d, 0 < f d → 0 < h d) : (listV h).filterMap (fun x => oneV f x.1) = listV f := by
  unfold listV
  rw [List.filterMap_filterMap]
  congr 1
  funext d
  unfold oneV
  by_cases h1 : 0 < h d
  · rw [if_pos h1]; rfl
  · rw [if_neg h1, if_neg (fun h2 => h1 (hf d h2))]; rfl
theorem all_list {h : Nat → Nat} {p : Nat → Bool} (hp : ∀ d, p d = false → 0 < h d) : (listV h).all (fun x => p x.1) = (List.range topV).all p := by
  unfold listV
  generalize List.range topV = l
  induction l with
  | nil => rfl
  | cons d l ih =>
    rw [List.filterMap_cons, List.all_cons, ← ih]
    unfold oneV
    by_cases h1 : 0 < h d
    · rw [if_pos h1]; rfl
    · rw [if_neg h1]
      cases h2 : p d with
      | true => rfl
      | false => exact absurd (hp d h2) h1
theorem sum_list {h f : Nat → Nat} (hf : ∀ d, 0 < f d → 0 < h d) : ((listV h).map (fun x => f x.1)).sum = ((List.range topV).map f).sum := by
  unfold listV
  generalize List.range topV = l
  induction l with
  | nil => rfl
  | cons d l ih =>
    rw [List.filterMap_cons, List.map_cons, List.sum_cons, ← ih]
    unfold oneV
    by_cases h1 : 0 < h d
    · rw [if_pos h1]; rfl
    · rw [if_neg h1]
      have : f d = 0 := by
        rcases Nat.eq_zero_or_pos (f d) with h2 | h2
        · exact h2
        · exact absurd (hf d h2) h1
      rw [this, Nat.zero_add]
/-- the greater one of each, or the lesser one. -/
def oneOf (g : Bool) (x y : Nat) : Nat := if g = true then max x y else min x y
def bothV (g : Bool) (a b : List Dot) : List Dot := listV (fun d => oneOf g (ofV a d) (ofV b d))
theorem both_join (a b : List Dot) : bothV true a b = joinV a b := rfl
theorem both_meet (a b : List Dot) : bothV false a b = meetV a b := rfl
theorem both_norm (a : List Dot) : bothV true a [] = normV a := by
  unfold bothV normV oneOf
  congr 1
  funext d
  rw [if_pos rfl, of_nil]
  exact Nat.max_zero _
theorem both_some {g : Bool} {a b : List Dot} (d : Nat) (h : 0 < oneOf g (ofV a d) (ofV b d)) : 0 < anyV a b d := by
  unfold oneOf at h
  unfold anyV
  split at h <;> omega
theorem both_fit {g : Bool} {a b : List Dot} (ha : Fit a) (hb : Fit b) : Fit (bothV g a b) := by
  cases g with
  | true => exact fit_join ha hb
  | false => exact fit_meet ha hb
end Go.Proofs.YtegclhgfibfanaaGreat.Dt

/- The contracts of the document's both, Join, Meet and Norm of layer vec. For every two lists of together at most 2^42 dots. -/
namespace Go.Proofs.YtegclhgfibfanaaGreat.Dt
open Go.ChangeShapes Go.WideShapes Go.ChangeAt Go.RowKit
set_option linter.unusedVariables false

theorem app_types2 (w : World) (ty : TypeId) (v x : Value) : (Builtin.append_ #[44, 44] ty #[v, x]).run Tryz.prog w = (Builtin.append_ #[24, 24] ty #[v, x]).run Tryz.prog w := by
  unfold Builtin.append_
  simp only [List.getElem?_toArray, List.getElem?_cons_zero, List.getElem?_cons_succ, Sem.run_bind, run_underlying Tryz.underlying24, run_underlying Tryz.underlying44, Result.andThen_ok]
  cases v with
  | slice base sLen sCap =>
    simp only [Sem.run_bind, run_underlying Tryz.underlying24, run_underlying Tryz.underlying44, Result.andThen_ok, Sem.run_pure]
  | _ => rfl
/-- append of dots to a vector of one's own. -/
theorem wpList_own {ops : Array Oper} {rest : List Oper} {o : Oper} {a : Act} {Q : Exit → Act → World → Prop} (hgd : o.guard = none) (s x : Operand) (ho : o.op = .call { callee := .builtin .append, args := #[s, x], argTypes := #[44, 44] }) (hty : o.type = 44)
    (w : World) (B k : Nat) (v : Value) (xs : List Dot) (A : Option Addr) (m : List Dot) (n c : Nat) (hs : a.eval s = v) (hx : a.eval x = .slice A n c) (hw : w.ownsRow B 28 2 v k (dv xs)) (hA : A = none → n = 0 ∧ c = 0) (hb : Lies w w.heap.size A (dv m)) (hl : m.length = n)
    (hn : k + n ≤ 8796093022208) (hB : B ≤ w.heap.size)
    (hK : ∀ A' c' w', w'.ownsRow B 28 2 (.slice A' (k + n) c') (k + n) (dv (xs ++ m)) → w.grownBy w' v.ownBlock → wpList Tryz.prog ops Q rest (a.put o.dst (.slice A' (k + n) c')) w') : wpList Tryz.prog ops Q (o :: rest) a w := by
  refine wpList_plain hgd fun K hQ => ?_
  obtain ⟨A', c', w', hr, h2, h3⟩ := run_any w B k v xs A m n c hw hA hb hl hn hB
  have e : (Builtin.append_ #[44, 44] 44 #[v, .slice A n c]).run Tryz.prog w = (Builtin.append_ #[24, 24] 24 #[v, .slice A n c]).run Tryz.prog w := app_types2 w 44 v _
  rw [← e] at hr
  unfold Oper.wp execOp
  simp only [ho, resolve, invoke, builtin, Sem.run_bind, Sem.run_pure, Result.andThen_ok, List.map_toArray, List.map_cons, List.map_nil, hs, hx]
  rw [hty, hr]
  exact hQ _ _ (hK _ _ _ h2 h3)
theorem rof_later (w W : World) (A : Option Addr) (l : List Dot) (n c d : Nat) (hl : l.length = n) (hb : Dots w w.heap.size A l) (h63 : n ≤ 9223372036854775807) (hW : Below w.heap.size w W) :
    Calls Tryz.prog 93 #[.slice A n c, .int .u16 (d : Int)] W fun e V => e = .returned (.int .u64 ((ofV l d : Nat) : Int)) ∧ Below w.heap.size w V :=
  (rof_any W A l n c d hl (hb.up hW) h63).mono fun _ _ ⟨h1, h2⟩ => ⟨h1, hW.trans (h2.mono hW.size)⟩
theorem both_next {g : Bool} {a b l : List Dot} {k : Nat} {x : Dot} (h : l[k]? = some x) : (l.take (k + 1)).filterMap (fun x => oneV (fun d => oneOf g (ofV a d) (ofV b d)) x.1) = (l.take k).filterMap (fun x => oneV (fun d => oneOf g (ofV a d) (ofV b d)) x.1) ++ (if 0 < oneOf g (ofV a x.1) (ofV b x.1) then [(x.1, oneOf g (ofV a x.1) (ofV b x.1))] else []) := by
  rw [take_next h, List.filterMap_append]
  congr 1
  by_cases h1 : 0 < oneOf g (ofV a x.1) (ofV b x.1)
  · rw [if_pos h1, List.filterMap_cons, show oneV (fun d => oneOf g (ofV a d) (ofV b d)) x.1 = some (x.1, oneOf g (ofV a x.1) (ofV b x.1)) from if_pos h1]; rfl
  · rw [if_neg h1, List.filterMap_cons, show oneV (fun d => oneOf g (ofV a d) (ofV b d)) x.1 = none from if_neg h1]; rfl
set_option maxHeartbeats 8000000 in
theorem rboth_any (w : World) (A1 A2 : Option Addr) (l1 l2 : List Dot) (n1 n2 c1 c2 : Nat) (g : Bool) (e1 : l1.length = n1) (e2 : l2.length = n2) (a1 : A1 = none → n1 = 0 ∧ c1 = 0) (a2 : A2 = none → n2 = 0 ∧ c2 = 0) (h1 : Dots w w.heap.size A1 l1) (h2 : Dots w w.heap.size A2 l2) (h42 : n1 + n2 ≤ 4398046511104) :
    Calls Tryz.prog 78 #[.slice A1 n1 c1, .slice A2 n2 c2, .bool g] w (DotPost w (bothV g l1 l2)) := by
  have CD := Lib.hid (rdevs_any w A1 A2 l1 l2 n1 n2 c1 c2 e1 e2 a1 a2 h1 h2 h42)
  have E1 := Lib.hid e1
  have E2 := Lib.hid e2
  have H1 := Lib.hid h1
  have H2 := Lib.hid h2
  have HDE := Lib.hid (devs_eq h1.1 h2.1)
  have HDF := Lib.hid (list_fit (tells_any h1.1 h2.1))
  have HDL := Lib.hid (list_length (anyV l1 l2))
  have HPK := Lib.hid (pick_list (h := anyV l1 l2) (f := fun d => oneOf g (ofV l1 d) (ofV l2 d)) (fun d h => both_some d h))
  clear a1 a2 e1 e2 h1 h2
  obtain ⟨R, hR⟩ : ∃ R, bothV g l1 l2 = R := ⟨_, rfl⟩
  rw [hR]
  go_enter Tryz.func78, Tryz.ntmps78
  go_wp2_with fail
  refine CD.out.mono ?_
  rintro e w1 hpo
  rw [HDE.out] at hpo
  obtain ⟨A4, n, c4, rfl, hn, hA, _, _, hd, _, hb1⟩ := post_dots hpo HDF.out
  rw [hn] at HDL
  have HN := Lib.hid hn
  have HD := Lib.hid hd
  have HB1 := Lib.hid hb1
  have HL1 := HDL.out
  clear hn hA hd hb1 hpo CD HDE HDF
  clear HDL
  rw [show listV (fun d => oneOf g (ofV l1 d) (ofV l2 d)) = R from hR] at HPK
  clear hR
  generalize listV (anyV l1 l2) = L at HN HD HPK
  obtain ⟨f, hf⟩ : ∃ f : Nat → List Dot, f = fun k => (L.take k).filterMap (fun x => oneV (fun d => oneOf g (ofV l1 d) (ofV l2 d)) x.1) := ⟨_, rfl⟩
  have HFE : Hid (∀ k, f k = (L.take k).filterMap (fun x => oneV (fun d => oneOf g (ofV l1 d) (ofV l2 d)) x.1)) := Lib.hid (fun k => by rw [hf])
  have HF : Hid (∀ k, (f k).length ≤ k) := Lib.hid (fun k => by rw [hf]; exact Nat.le_trans (List.length_filterMap_le _ _) (List.length_take_le _ _))
  have HFN : Hid (f n = R) := Lib.hid (by rw [HFE.out, List.take_of_length_le (by rw [HN.out]; exact Nat.le_refl _)]; exact HPK.out)
  clear hf HPK
  go_wp2_with fail
  go_loopw [7, 9] (fun v i wr => PRel w1 n f v i wr) (fun _ i _ => n - (intOf i).toNat)
  case atStart => exact ⟨0, 0, none, 0, Nat.zero_le _, rfl, rfl, by rw [HFE.out]; rfl, by rw [HFE.out]; exact World.ownsRow_nil _ _ _ _, Below.refl _ _⟩
  case round =>
    obtain ⟨k, m, A, c, hk, rfl, rfl, hm, ho, hw⟩ := hrel
    have hmk : m ≤ k := by rw [← hm]; exact HF.out k
    have HM := Lib.hid hm
    have HO := Lib.hid ho
    have HW := Lib.hid hw
    clear hm ho hw
    by_cases hlt : k < n
    · obtain ⟨ad, x, rfl, hB, hlx, hx1, hx2, hcx⟩ := HD.out.cells (k := k) (by rw [HN.out]; exact hlt)
      have HX := both_next (g := g) (a := l1) (b := l2) hlx
      rw [← HFE.out, ← HFE.out] at HX
      obtain ⟨x1, x2⟩ := x
      have HX2 := Lib.hid HX
      clear hlx HX
      have HC : Hid (∀ V, Below wr.heap.size wr V → V.cell? (ad.add (k * 2)) = some (.int .u16 (x1 : Int))) := fun V hV => (hcx V (HW.out.trans (hV.mono HW.out.size))).1
      clear hcx
      have d1 := HC.out wr (Below.refl _ _)
      have HWW : Hid (Below w.heap.size w wr) := HB1.out.trans (HW.out.mono HB1.out.size)
      have HX1 := Lib.hid (H1.out.up HWW.out)
      have HX3 := Lib.hid (H2.out.up HWW.out)
      go_wp2_with fail
      go_region_held3 (fun V => V.cell? (ad.add (k * 2)) = some (.int .u16 (x1 : Int))) (first | exact d1 | assumption | exact HC.out _ (by (repeat (first | exact Below.refl _ _ | assumption | apply bel_drew)))) (first
        | (go_at_call 93; (with_reducible refine (rof_later wr _ A1 l1 n1 c1 x1 E1.out HX1.out (by omega) ?_).mono ?_); (repeat (first | exact Below.refl _ _ | assumption | apply bel_drew)); rintro e V ⟨rfl, bv⟩; have hcV := HC.out V bv)
        | (go_at_call 93; (with_reducible refine (rof_later wr _ A2 l2 n2 c2 x1 E2.out HX3.out (by omega) ?_).mono ?_); (repeat (first | exact Below.refl _ _ | assumption | apply bel_drew)); rintro e V ⟨rfl, bv⟩; have hcV := HC.out V bv))
      have HV : Hid (Below w1.heap.size w1 V) := HW.out.trans (bv.mono HW.out.size)
      have HOV := Lib.hid (own_kept HO.out bv)
      have HLO : Hid (m + 1 ≤ 8796093022208) := Lib.hid (by omega)
      clear bv d1 HC HX1 HX3 HWW
      generalize ofV l1 x1 = o1 at HX2 ⊢
      generalize ofV l2 x1 = o2 at HX2 ⊢
      by_cases hxy : o1 < o2
      · cases g with
        | true =>
          have dxy : decide ((o1 : Int) < (o2 : Int)) = true := decide_eq_true (by omega)
          have hz : oneOf true o1 o2 = o2 := by unfold oneOf; simp; omega
          rw [hz] at HX2
          clear hz
          by_cases hp : 0 < o2
          · have dp : decide ((0 : Int) < (o2 : Int)) = true := decide_eq_true (by omega)
            rw [if_pos hp] at HX2
            have HWA : Hid (Below w1.heap.size w1 (V.alloc (.cells #[.int .u16 (x1 : Int), .int .u64 (o2 : Int)] 28))) := bel_alloc _ HV.out
            go_wp2_with (at_builtin; refine wpList_own rfl (.tmp 43) (.tmp 51) rfl rfl _ w1.heap.size m (.slice A m c) (f k) (some ⟨V.heap.size, 0, none⟩) [(x1, o2)] 1 1 rfl rfl (HOV.out.alloc _) (fun h => by cases h) (lies_one V (x1, o2)) rfl HLO.out HWA.out.size ?_; intro A3 c3 V3 ho3 hg3; have HR := Lib.hid (p_rel hlt HX2.out (by rw [List.length_append, HM.out]; rfl) ho3 (any_grown (HOV.out.alloc _) HWA.out hg3)); clear ho3 hg3)
            go_roundw
            case rel => exact HR.out
            case measure => simp [intOf]; omega
          · have dp : decide ((0 : Int) < (o2 : Int)) = false := decide_eq_false (by omega)
            rw [if_neg hp, List.append_nil] at HX2
            have HR := Lib.hid (p_rel hlt HX2.out HM.out HOV.out HV.out)
            go_wp2
            go_roundw
            case rel => exact HR.out
            case measure => simp [intOf]; omega
        | false =>
          have dxy : decide ((o1 : Int) < (o2 : Int)) = true := decide_eq_true (by omega)
          have hz : oneOf false o1 o2 = o1 := by unfold oneOf; simp; omega
          rw [hz] at HX2
          clear hz
          by_cases hp : 0 < o1
          · have dp : decide ((0 : Int) < (o1 : Int)) = true := decide_eq_true (by omega)
            rw [if_pos hp] at HX2
            have HWA : Hid (Below w1.heap.size w1 (V.alloc (.cells #[.int .u16 (x1 : Int), .int .u64 (o1 : Int)] 28))) := bel_alloc _ HV.out
            go_wp2_with (at_builtin; refine wpList_own rfl (.tmp 43) (.tmp 51) rfl rfl _ w1.heap.size m (.slice A m c) (f k) (some ⟨V.heap.size, 0, none⟩) [(x1, o1)] 1 1 rfl rfl (HOV.out.alloc _) (fun h => by cases h) (lies_one V (x1, o1)) rfl HLO.out HWA.out.size ?_; intro A3 c3 V3 ho3 hg3; have HR := Lib.hid (p_rel hlt HX2.out (by rw [List.length_append, HM.out]; rfl) ho3 (any_grown (HOV.out.alloc _) HWA.out hg3)); clear ho3 hg3)
            go_roundw
            case rel => exact HR.out
            case measure => simp [intOf]; omega
          · have dp : decide ((0 : Int) < (o1 : Int)) = false := decide_eq_false (by omega)
            rw [if_neg hp, List.append_nil] at HX2
            have HR := Lib.hid (p_rel hlt HX2.out HM.out HOV.out HV.out)
            go_wp2
            go_roundw
            case rel => exact HR.out
            case measure => simp [intOf]; omega
      · cases g with
        | true =>
          have dxy : decide ((o1 : Int) < (o2 : Int)) = false := decide_eq_false (by omega)
          have hz : oneOf true o1 o2 = o1 := by unfold oneOf; simp; omega
          rw [hz] at HX2
          clear hz
          by_cases hp : 0 < o1
          · have dp : decide ((0 : Int) < (o1 : Int)) = true := decide_eq_true (by omega)
            rw [if_pos hp] at HX2
            have HWA : Hid (Below w1.heap.size w1 (V.alloc (.cells #[.int .u16 (x1 : Int), .int .u64 (o1 : Int)] 28))) := bel_alloc _ HV.out
            go_wp2_with (at_builtin; refine wpList_own rfl (.tmp 43) (.tmp 51) rfl rfl _ w1.heap.size m (.slice A m c) (f k) (some ⟨V.heap.size, 0, none⟩) [(x1, o1)] 1 1 rfl rfl (HOV.out.alloc _) (fun h => by cases h) (lies_one V (x1, o1)) rfl HLO.out HWA.out.size ?_; intro A3 c3 V3 ho3 hg3; have HR := Lib.hid (p_rel hlt HX2.out (by rw [List.length_append, HM.out]; rfl) ho3 (any_grown (HOV.out.alloc _) HWA.out hg3)); clear ho3 hg3)
            go_roundw
            case rel => exact HR.out
            case measure => simp [intOf]; omega
          · have dp : decide ((0 : Int) < (o1 : Int)) = false := decide_eq_false (by omega)
            rw [if_neg hp, List.append_nil] at HX2
            have HR := Lib.hid (p_rel hlt HX2.out HM.out HOV.out HV.out)
            go_wp2
            go_roundw
            case rel => exact HR.out
            case measure => simp [intOf]; omega
        | false =>
          have dxy : decide ((o1 : Int) < (o2 : Int)) = false := decide_eq_false (by omega)
          have hz : oneOf false o1 o2 = o2 := by unfold oneOf; simp; omega
          rw [hz] at HX2
          clear hz
          by_cases hp : 0 < o2
          · have dp : decide ((0 : Int) < (o2 : Int)) = true := decide_eq_true (by omega)
            rw [if_pos hp] at HX2
            have HWA : Hid (Below w1.heap.size w1 (V.alloc (.cells #[.int .u16 (x1 : Int), .int .u64 (o2 : Int)] 28))) := bel_alloc _ HV.out
            go_wp2_with (at_builtin; refine wpList_own rfl (.tmp 43) (.tmp 51) rfl rfl _ w1.heap.size m (.slice A m c) (f k) (some ⟨V.heap.size, 0, none⟩) [(x1, o2)] 1 1 rfl rfl (HOV.out.alloc _) (fun h => by cases h) (lies_one V (x1, o2)) rfl HLO.out HWA.out.size ?_; intro A3 c3 V3 ho3 hg3; have HR := Lib.hid (p_rel hlt HX2.out (by rw [List.length_append, HM.out]; rfl) ho3 (any_grown (HOV.out.alloc _) HWA.out hg3)); clear ho3 hg3)
            go_roundw
            case rel => exact HR.out
            case measure => simp [intOf]; omega
          · have dp : decide ((0 : Int) < (o2 : Int)) = false := decide_eq_false (by omega)
            rw [if_neg hp, List.append_nil] at HX2
            have HR := Lib.hid (p_rel hlt HX2.out HM.out HOV.out HV.out)
            go_wp2
            go_roundw
            case rel => exact HR.out
            case measure => simp [intOf]; omega
    · obtain rfl : n = k := by omega
      rw [HFN.out] at HM HO
      go_wp2
      go_ret
      exact ⟨A, m, c, rfl, HM.out, own_less HO.out HB1.out.size, HB1.out.trans (HW.out.mono HB1.out.size)⟩
end Go.Proofs.YtegclhgfibfanaaGreat.Dt

/- The contracts of the document's Norm of layer vec. For every two lists of together at most 2^42 dots. -/
namespace Go.Proofs.YtegclhgfibfanaaGreat.Dt
open Go.ChangeShapes Go.WideShapes Go.ChangeAt Go.RowKit
set_option linter.unusedVariables false

theorem rnorm_any (w : World) (A1 : Option Addr) (l1 : List Dot) (n1 c1 : Nat) (e1 : l1.length = n1) (a1 : A1 = none → n1 = 0 ∧ c1 = 0) (h1 : Dots w w.heap.size A1 l1) (h42 : n1 ≤ 4398046511104) :
    Calls Tryz.prog 54 #[.slice A1 n1 c1] w (DotPost w (normV l1)) := by
  have CB := Lib.hid (rboth_any w A1 none l1 [] n1 0 c1 0 true e1 rfl a1 (fun _ => ⟨rfl, rfl⟩) h1 (Dots.none_ _ _ _) (by omega))
  rw [both_norm] at CB
  clear e1 a1 h1
  go_enter Tryz.func54, Tryz.ntmps54
  go_wp2_with fail
  refine CB.out.mono ?_
  rintro e w1 ⟨A, n, c, rfl, hn, ho, hb⟩
  have HN := Lib.hid hn
  have HO := Lib.hid ho
  have HB := Lib.hid hb
  clear hn ho hb
  go_wp2
  go_ret
  exact ⟨A, n, c, rfl, HN.out, HO.out, HB.out⟩

end Go.Proofs.YtegclhgfibfanaaGreat.Dt
