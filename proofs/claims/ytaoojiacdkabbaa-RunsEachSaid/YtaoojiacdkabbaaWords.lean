/- Words for the claims of layer runs: slices of runs and of numbers in memory, appends to a list of one's own. -/
import Derived.Test.YtaoojiacdkabbaaProg
import Derived.WalkKit
import Derived.ProofKit
import Derived.OpenShut
import Derived.Lib.Hide
import Derived.Below
import Derived.Outline
import Derived.Laws.OwnMore
import Derived.OwnWalk
import Derived.Laws.AppendOwnNone
import Derived.Maps.AppendAt
import Derived.Deep.AppendLies
import Derived.BigQuiet
import Derived.Deep.QuietTactic
import Derived.KernelRfl
namespace Go.Proofs.Ytaoojiacdkabbaa.Ru
open Go.ChangeShapes Go.WideShapes Go.ChangeAt Go.RowKit
set_option linter.unusedVariables false

theorem ret_int {k : IntKind} {a b : Int} (h : a = b) : Ending.returned (.int k a) = .returned (.int k b) := by rw [h]
theorem ret_bool {a b : Bool} (h : a = b) : Ending.returned (.bool a) = .returned (.bool b) := by rw [h]
theorem block_add (a : Addr) (n : Nat) : (a.add n).block = a.block := by unfold Addr.add; split <;> rfl
theorem add_add (a : Addr) (m n : Nat) : (a.add m).add n = a.add (m + n) := by
  unfold Addr.add
  by_cases h1 : m = 0
  · subst h1; simp
  · by_cases h2 : n = 0
    · subst h2; simp
    · have h3 : ¬ m + n = 0 := by omega
      simp [h1, h2, Nat.add_assoc]
theorem zero_add (g j : Nat) : (⟨g, 0, none⟩ : Addr).add j = ⟨g, j, none⟩ := by
  unfold Addr.add; split
  · rename_i hz; rw [hz]
  · simp

/-- a slice of the address A whose cells are these, below block B. -/
def Lies (w : World) (B : Nat) (A : Option Addr) (vs : List Value) : Prop :=
  0 < vs.length → ∃ ad : Addr, A = some ad ∧ ad.block < B ∧ ∀ (j : Nat) (u : Value), vs[j]? = some u → w.cell? (ad.add j) = some u
theorem Lies.below {w w' : World} {B : Nat} {A : Option Addr} {vs : List Value} (h : Lies w B A vs) (hb : Below B w w') : Lies w' B A vs := fun hl => by
  obtain ⟨ad, e, hB, hc⟩ := h hl
  exact ⟨ad, e, hB, fun j u hu => (hb.cell (by rw [block_add]; exact hB)).trans (hc j u hu)⟩
theorem Lies.more {w : World} {B B' : Nat} {A : Option Addr} {vs : List Value} (h : Lies w B A vs) (hB : B ≤ B') : Lies w B' A vs := fun hl => by
  obtain ⟨ad, e, hb, hc⟩ := h hl
  exact ⟨ad, e, by omega, hc⟩
theorem Lies.none_ (w : World) (B : Nat) (A : Option Addr) : Lies w B A [] := fun h => absurd h (by simp)
theorem lies_own {w : World} {B g n cap size : Nat} {e : TypeId} {vs : List Value} (h : w.ownsRow B e size (.slice (some ⟨g, 0, none⟩) n cap) n vs) : Lies w w.heap.size (some ⟨g, 0, none⟩) vs := fun _ => by
  refine ⟨_, rfl, (h.lt g rfl).2, fun j u hj => ?_⟩
  have hjl : j < vs.length := (List.getElem?_eq_some_iff.1 hj).1
  have := h.1
  rw [zero_add, h.cellAt j (by omega), hj]
theorem below_new (w : World) (o : Obj) : Below w.heap.size w (w.alloc o) := (Below.refl _ _).alloc (Nat.le_refl _) o
theorem turn_refl (w : World) (row : Option Nat) : w.grownBy w row := ⟨rfl, rfl, rfl, Nat.le_refl _, fun _ _ _ => rfl⟩
theorem own_shape {w w1 : World} {B n size : Nat} {e : TypeId} {v1 : Value} {xs : List Value} (hown : w1.ownsRow B e size v1 n xs) (hn : 0 < n ∨ ¬ v1 = .slice none 0 0) : ∃ g cap, v1 = .slice (some ⟨g, 0, none⟩) n cap ∧ B ≤ g := by
  rcases hown.2 with ⟨h, hz⟩ | ⟨g, cap, _, e, hg, _⟩
  · rcases hn with hn | hn
    · omega
    · exact absurd h hn
  · exact ⟨g, cap, e, hg⟩

/-- a run: its two ends. -/
abbrev Run := Nat × Nat
def rv (l : List Run) : List Value := l.flatMap fun r => [.int .u64 (r.1 : Int), .int .u64 (r.2 : Int)]
def nv (l : List Nat) : List Value := l.map fun x : Nat => .int .u64 (x : Int)
theorem rv_nil : rv [] = [] := rfl
theorem rv_append (l m : List Run) : rv (l ++ m) = rv l ++ rv m := by unfold rv; rw [List.flatMap_append]
theorem nv_append (l m : List Nat) : nv (l ++ m) = nv l ++ nv m := by unfold nv; rw [List.map_append]
theorem rv_length (l : List Run) : (rv l).length = l.length * 2 := by
  induction l with
  | nil => rfl
  | cons r l ih => simp only [rv, List.flatMap_cons, List.length_append, List.length_cons, List.length_nil] at ih ⊢; omega
theorem nv_length (l : List Nat) : (nv l).length = l.length := by unfold nv; simp
theorem rv_get {l : List Run} {k : Nat} {r : Run} (h : l[k]? = some r) : (rv l)[k * 2]? = some (.int .u64 (r.1 : Int)) ∧ (rv l)[k * 2 + 1]? = some (.int .u64 (r.2 : Int)) := by
  induction l generalizing k with
  | nil => simp at h
  | cons x l ih =>
    cases k with
    | zero => obtain rfl : x = r := by simpa using h
              exact ⟨rfl, rfl⟩
    | succ k =>
      have h2 := ih (k := k) (by simpa using h)
      have e : rv (x :: l) = .int .u64 (x.1 : Int) :: .int .u64 (x.2 : Int) :: rv l := rfl
      have e1 : (k + 1) * 2 = k * 2 + 2 := by omega
      rw [e, e1]
      exact ⟨by simpa using h2.1, by simpa using h2.2⟩
theorem nv_get {l : List Nat} (j : Nat) : (nv l)[j]? = l[j]?.map fun x : Nat => Value.int .u64 (x : Int) := by unfold nv; simp
theorem rv_one (l : List Run) : ∀ u ∈ rv l, u.oneCell' = true := by
  intro u hu
  obtain ⟨r, _, h⟩ := List.mem_flatMap.1 hu
  simp only [List.mem_cons, List.not_mem_nil, or_false] at h
  rcases h with rfl | rfl <;> rfl
theorem nv_one (l : List Nat) : ∀ u ∈ nv l, u.oneCell' = true := by
  intro u hu
  obtain ⟨x, _, rfl⟩ := List.mem_map.1 hu
  rfl

def Fit (l : List Run) : Prop := ∀ r ∈ l, r.1 < 18446744073709551616 ∧ r.2 < 18446744073709551616
def FitN (l : List Nat) : Prop := ∀ x ∈ l, x < 18446744073709551616
/-- a slice of the address A that holds these runs, below block B. -/
def Runs (w : World) (B : Nat) (A : Option Addr) (l : List Run) : Prop := Fit l ∧ Lies w B A (rv l)
def Nums (w : World) (B : Nat) (A : Option Addr) (l : List Nat) : Prop := FitN l ∧ Lies w B A (nv l)
theorem Runs.below {w w' : World} {B : Nat} {A : Option Addr} {l : List Run} (h : Runs w B A l) (hb : Below B w w') : Runs w' B A l := ⟨h.1, h.2.below hb⟩
theorem Runs.more {w : World} {B B' : Nat} {A : Option Addr} {l : List Run} (h : Runs w B A l) (hB : B ≤ B') : Runs w B' A l := ⟨h.1, h.2.more hB⟩
theorem Runs.up {w W : World} {A : Option Addr} {l : List Run} (h : Runs w w.heap.size A l) (hb : Below w.heap.size w W) : Runs W W.heap.size A l := (h.below hb).more hb.size
theorem Runs.none_ (w : World) (B : Nat) (A : Option Addr) : Runs w B A [] := ⟨fun r hr => (by cases hr), Lies.none_ _ _ _⟩
theorem Nums.below {w w' : World} {B : Nat} {A : Option Addr} {l : List Nat} (h : Nums w B A l) (hb : Below B w w') : Nums w' B A l := ⟨h.1, h.2.below hb⟩
theorem Nums.more {w : World} {B B' : Nat} {A : Option Addr} {l : List Nat} (h : Nums w B A l) (hB : B ≤ B') : Nums w B' A l := ⟨h.1, h.2.more hB⟩
theorem Nums.up {w W : World} {A : Option Addr} {l : List Nat} (h : Nums w w.heap.size A l) (hb : Below w.heap.size w W) : Nums W W.heap.size A l := (h.below hb).more hb.size
theorem Nums.none_ (w : World) (B : Nat) (A : Option Addr) : Nums w B A [] := ⟨fun r hr => (by cases hr), Lies.none_ _ _ _⟩
theorem Runs.at_ {w : World} {B : Nat} {A : Option Addr} {l : List Run} (h : Runs w B A l) {k : Nat} (hk : k < l.length) :
    ∃ (ad : Addr) (lo hi : Nat), A = some ad ∧ l[k]? = some (lo, hi) ∧ lo < 18446744073709551616 ∧ hi < 18446744073709551616 ∧ w.cell? (ad.add (k * 2)) = some (.int .u64 (lo : Int)) ∧ w.cell? (ad.add (k * 2 + 1)) = some (.int .u64 (hi : Int)) := by
  obtain ⟨ad, e, _, hc⟩ := h.2 (by rw [rv_length]; omega)
  have hg := List.getElem?_eq_getElem hk
  obtain ⟨h1, h2⟩ := h.1 l[k] (List.getElem_mem hk)
  obtain ⟨g1, g2⟩ := rv_get hg
  exact ⟨ad, l[k].1, l[k].2, e, hg, h1, h2, hc _ _ g1, hc _ _ g2⟩
theorem Nums.at_ {w : World} {B : Nat} {A : Option Addr} {l : List Nat} (h : Nums w B A l) {k : Nat} (hk : k < l.length) :
    ∃ (ad : Addr) (x : Nat), A = some ad ∧ l[k]? = some x ∧ x < 18446744073709551616 ∧ w.cell? (ad.add k) = some (.int .u64 (x : Int)) := by
  obtain ⟨ad, e, _, hc⟩ := h.2 (by rw [nv_length]; omega)
  have hg := List.getElem?_eq_getElem hk
  exact ⟨ad, l[k], e, hg, h.1 _ (List.getElem_mem hk), hc _ _ (by rw [nv_get, hg]; rfl)⟩

/-- where a place within memory stands, as the walk reckons it. -/
theorem add_lit (a : Addr) (n : Nat) (h : a.spot = none) : a.add n = ⟨a.block, a.off + n, none⟩ := by
  unfold Addr.add
  split
  · rename_i hz; subst hz; cases a; simp_all
  · rfl

theorem run_info : (Try.prog.info? 31).map (fun i => (i.zero, i.size, i.bytes)) = some (some (.agg #[.int .u64 0, .int .u64 0]), 2, 16) := by kernel_rfl
theorem num_info : (Try.prog.info? 28).map (fun i => (i.zero, i.size, i.bytes)) = some (some (.int .u64 0), 1, 8) := by kernel_rfl

/-- may a run tell something? -/
def mayR (r : Run) : Bool := decide (1 ≤ r.1 ∧ r.1 ≤ r.2 ∧ r.2 ≤ 281474976710655)
theorem may_any (w : World) (lo hi : Nat) (h1 : lo < 18446744073709551616) (h2 : hi < 18446744073709551616) :
    Calls Try.prog 48 #[.agg #[.int .u64 (lo : Int), .int .u64 (hi : Int)]] w fun e w' => e = .returned (.bool (mayR (lo, hi))) ∧ Below w.heap.size w w' := by
  by_cases c1 : 1 ≤ lo
  · by_cases c2 : lo ≤ hi
    · have hd : mayR (lo, hi) = decide ((hi : Int) ≤ 281474976710655) := decide_eq_decide.2 ⟨fun h => by have := h.2.2; simp at this; omega, fun h => ⟨c1, c2, by simp; omega⟩⟩
      rw [hd]
      clear hd
      go_enter Try.func48, Try.ntmps48
      go_wp2
      go_ret
      exact ⟨rfl, below_new w _⟩
    · have hd : mayR (lo, hi) = false := decide_eq_false (fun h => c2 h.2.1)
      have d2 : decide ((lo : Int) ≤ (hi : Int)) = false := decide_eq_false (by omega)
      rw [hd]
      clear hd
      go_enter Try.func48, Try.ntmps48
      go_wp2
      go_ret
      exact ⟨rfl, below_new w _⟩
  · have hd : mayR (lo, hi) = false := decide_eq_false (fun h => c1 h.1)
    have d1 : decide ((1 : Int) ≤ (lo : Int)) = false := decide_eq_false (by omega)
    rw [hd]
    clear hd
    go_enter Try.func48, Try.ntmps48
    go_wp2
    go_ret
    exact ⟨rfl, below_new w _⟩

/-- is a number told? -/
def has (l : List Run) (n : Nat) : Bool := l.any fun r => mayR r && (decide (r.1 ≤ n) && decide (n ≤ r.2))
theorem has_take {l : List Run} {k : Nat} {r : Run} {n : Nat} (h : l[k]? = some r) : has (l.take (k + 1)) n = (has (l.take k) n || (mayR r && (decide (r.1 ≤ n) && decide (n ≤ r.2)))) := by
  unfold has
  rw [List.take_add_one, h]
  simp
theorem has_hit {l : List Run} {k : Nat} {r : Run} {n : Nat} (h : l[k]? = some r) (ht : (mayR r && (decide (r.1 ≤ n) && decide (n ≤ r.2))) = true) : has l n = true := by
  unfold has
  exact List.any_eq_true.2 ⟨r, List.mem_of_getElem? h, ht⟩
theorem add_next (ad : Addr) (m : Nat) : (⟨(ad.add m).block, (ad.add m).off + 1, none⟩ : Addr) = ad.add (m + 1) := by
  unfold Addr.add
  by_cases h : m = 0
  · subst h; simp
  · simp [h, Nat.add_assoc]

theorem has_any (w : World) (B : Nat) (A : Option Addr) (l : List Run) (len c n : Nat) (hl : l.length = len) (hb : Runs w B A l) (hB : B ≤ w.heap.size) (h63 : len ≤ 9223372036854775807) (hn : n < 18446744073709551616) :
    Calls Try.prog 24 #[.slice A len c, .int .u64 (n : Int)] w fun e w' => e = .returned (.bool (has l n)) ∧ Below w.heap.size w w' := by
  have HB := Lib.hid hb
  have HL := Lib.hid hl
  clear hb hl
  go_enter Try.func24, Try.ntmps24
  go_wp2
  go_loopw [5] (fun i wr => ∃ k : Nat, k ≤ len ∧ i = .int .i64 (k : Int) ∧ has (l.take k) n = false ∧ Below w.heap.size w wr) (fun i _ => len - (intOf i).toNat)
  case atStart => exact ⟨0, Nat.zero_le _, rfl, rfl, Below.refl _ _⟩
  case round =>
    obtain ⟨k, hk, rfl, hf, hw⟩ := hrel
    have HF := Lib.hid hf
    have HW := Lib.hid hw
    clear hf hw
    by_cases hlt : k < len
    · obtain ⟨ad, lo, hi, rfl, hlk, h1, h2, hc1, hc2⟩ := (HB.out.below ⟨HW.out.os, HW.out.tape, HW.out.output, HW.out.size, fun i hi => HW.out.block i (Nat.lt_of_lt_of_le hi hB)⟩).at_ (k := k) (by rw [HL.out]; exact hlt)
      have LK := Lib.hid hlk
      have hc3 : wr.cell? ⟨(ad.add (k * 2)).block, (ad.add (k * 2)).off + 1, none⟩ = some (.int .u64 (hi : Int)) := by rw [add_next]; exact hc2
      have HM : Hid (∀ W, Below w.heap.size w W → W.cell? (ad.add (k * 2)) = some (.int .u64 (lo : Int)) ∧ W.cell? ⟨(ad.add (k * 2)).block, (ad.add (k * 2)).off + 1, none⟩ = some (.int .u64 (hi : Int))) := fun W hW => by
        obtain ⟨ad', lo', hi', e, hlk', _, _, d1, d2⟩ := (HB.out.below ⟨hW.os, hW.tape, hW.output, hW.size, fun i hi => hW.block i (Nat.lt_of_lt_of_le hi hB)⟩).at_ (k := k) (by rw [HL.out]; exact hlt)
        cases e
        rw [LK.out] at hlk'
        cases hlk'
        exact ⟨d1, by rw [add_next]; exact d2⟩
      clear hlk hc2
      go_wp2_with fail
      refine (may_any wr lo hi h1 h2).mono ?_
      rintro e w2 ⟨rfl, hb2⟩
      have HW2 : Hid (Below w.heap.size w w2) := HW.out.trans (hb2.mono HW.out.size)
      obtain ⟨d1, d3⟩ := HM.out w2 HW2.out
      clear hb2 hc1 hc3
      have HK : Hid ((mayR (lo, hi) && (decide (lo ≤ n) && decide (n ≤ hi))) = true → has l n = true) := fun h => has_hit LK.out h
      have HN : Hid ((mayR (lo, hi) && (decide (lo ≤ n) && decide (n ≤ hi))) = false → has (l.take (k + 1)) n = false) := fun h => by rw [has_take LK.out, HF.out, h]; rfl
      by_cases c1 : mayR (lo, hi) = true
      · by_cases c2 : lo ≤ n
        · by_cases c3 : n ≤ hi
          · have e : Hid (has l n = true) := HK.out (by simp [c1, c2, c3])
            rw [c1]
            go_wp2
            go_ret
            exact ⟨ret_bool e.out.symm, HW2.out⟩
          · have e : Hid (has (l.take (k + 1)) n = false) := HN.out (by simp [c3])
            have c3' : decide ((n : Int) ≤ (hi : Int)) = false := decide_eq_false (by omega)
            rw [c1]
            go_wp2
            go_roundw
            case rel => exact ⟨k + 1, by omega, by go_num, e.out, HW2.out⟩
            case measure => simp [intOf]; omega
        · have e : Hid (has (l.take (k + 1)) n = false) := HN.out (by simp [c2])
          have c2' : decide ((lo : Int) ≤ (n : Int)) = false := decide_eq_false (by omega)
          rw [c1]
          go_wp2
          go_roundw
          case rel => exact ⟨k + 1, by omega, by go_num, e.out, HW2.out⟩
          case measure => simp [intOf]; omega
      · have c1' : mayR (lo, hi) = false := by simpa using c1
        have e : Hid (has (l.take (k + 1)) n = false) := HN.out (by simp [c1'])
        rw [c1']
        go_wp2
        go_roundw
        case rel => exact ⟨k + 1, by omega, by go_num, e.out, HW2.out⟩
        case measure => simp [intOf]; omega
    · obtain rfl : k = len := by omega
      have e : Hid (has l n = false) := by
        have h := HF.out
        rw [List.take_of_length_le (by rw [HL.out]; exact Nat.le_refl _)] at h
        exact h
      go_wp2
      go_ret
      exact ⟨ret_bool e.out.symm, HW.out⟩
end Go.Proofs.Ytaoojiacdkabbaa.Ru
