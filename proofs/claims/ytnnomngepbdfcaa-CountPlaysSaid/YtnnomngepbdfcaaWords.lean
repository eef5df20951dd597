/- Words for the claims of layer count: a slice of numbers in memory, a block that is just these cells, a counter in a block; and the plain functions that say what a counter tells. No program is walked here. -/
import Derived.Test.YtnnomngepbdfcaaProg
import Derived.WalkKit
import Derived.ProofKit
import Derived.OpenShut
import Derived.Lib.Hide
import Derived.Below
import Derived.Outline
import Derived.Laws.OwnMore
import Derived.OwnWalk
import Derived.Deep.AppendLies
import Derived.BigQuiet
import Derived.Deep.QuietTactic
import Derived.KernelRfl
namespace Go.Proofs.Ytnnomngepbdfcaa.Co
open Go.ChangeShapes Go.WideShapes Go.ChangeAt Go.RowKit
set_option linter.unusedVariables false

theorem ret_bool {a b : Bool} (h : a = b) : Ending.returned (.bool a) = .returned (.bool b) := by rw [h]
theorem block_add (a : Addr) (n : Nat) : (a.add n).block = a.block := by unfold Addr.add; split <;> rfl

/-- a slice of the address A whose cells are these, below block B. -/
def Lies (w : World) (B : Nat) (A : Option Addr) (vs : List Value) : Prop :=
  0 < vs.length → ∃ ad : Addr, A = some ad ∧ ad.block < B ∧ ∀ (j : Nat) (u : Value), vs[j]? = some u → w.cell? (ad.add j) = some u
theorem Lies.below {w w' : World} {B : Nat} {A : Option Addr} {vs : List Value} (h : Lies w B A vs) (hb : Below B w w') : Lies w' B A vs := fun hl => by
  obtain ⟨ad, e, hB, hc⟩ := h hl
  exact ⟨ad, e, hB, fun j u hu => (hb.cell (by rw [block_add]; exact hB)).trans (hc j u hu)⟩
theorem Lies.none_ (w : World) (B : Nat) (A : Option Addr) : Lies w B A [] := fun h => absurd h (by simp)
theorem below_new (w : World) (o : Obj) : Below w.heap.size w (w.alloc o) := (Below.refl _ _).alloc (Nat.le_refl _) o

theorem below_drewN (B : Nat) (w : World) (n : Nat) : Below B w (w.drewN n) := ⟨rfl, rfl, rfl, Nat.le_refl _, fun _ _ => rfl⟩
def nv (l : List Nat) : List Value := l.map fun x : Nat => .int .u64 (x : Int)
theorem nv_length (l : List Nat) : (nv l).length = l.length := by unfold nv; simp
theorem nv_get {l : List Nat} (j : Nat) : (nv l)[j]? = l[j]?.map fun x : Nat => Value.int .u64 (x : Int) := by unfold nv; simp
def FitN (l : List Nat) : Prop := ∀ x ∈ l, x < 18446744073709551616
/-- a slice of the address A that holds these numbers, below block B. -/
def Nums (w : World) (B : Nat) (A : Option Addr) (l : List Nat) : Prop := FitN l ∧ Lies w B A (nv l)
theorem Nums.below {w w' : World} {B : Nat} {A : Option Addr} {l : List Nat} (h : Nums w B A l) (hb : Below B w w') : Nums w' B A l := ⟨h.1, h.2.below hb⟩
theorem Nums.none_ (w : World) (B : Nat) (A : Option Addr) : Nums w B A [] := ⟨fun r hr => (by cases hr), Lies.none_ _ _ _⟩
theorem Nums.at_ {w : World} {B : Nat} {A : Option Addr} {l : List Nat} (h : Nums w B A l) {k : Nat} (hk : k < l.length) :
    ∃ (ad : Addr) (x : Nat), A = some ad ∧ l[k]? = some x ∧ x < 18446744073709551616 ∧ ad.block < B ∧ w.cell? (ad.add k) = some (.int .u64 (x : Int)) := by
  obtain ⟨ad, e, hB, hc⟩ := h.2 (by rw [nv_length]; omega)
  have hg := List.getElem?_eq_getElem hk
  exact ⟨ad, l[k], e, hg, h.1 _ (List.getElem_mem hk), hB, hc _ _ (by rw [nv_get, hg]; rfl)⟩

theorem Nums.cell {w : World} {B : Nat} {ad : Addr} {l : List Nat} (h : Nums w B (some ad) l) {k x : Nat} (hk : l[k]? = some x) :
    w.cell? (ad.add k) = some (.int .u64 (x : Int)) := by
  obtain ⟨hl, _⟩ := List.getElem?_eq_some_iff.1 hk
  obtain ⟨a, e, _, hc⟩ := h.2 (by rw [nv_length]; omega)
  cases e
  exact hc _ _ (by rw [nv_get, hk]; rfl)

/-- block g is these cells, of the type t, and may be written. -/
def At (w : World) (g : Nat) (t : TypeId) (cs : Array Value) : Prop := w.heap[g]? = some (.cells cs t (0, 0))
theorem At.lt {w : World} {g : Nat} {t : TypeId} {cs : Array Value} (h : At w g t cs) : g < w.heap.size := by
  rcases Nat.lt_or_ge g w.heap.size with hl | hl
  · exact hl
  · unfold At at h; rw [Array.getElem?_eq_none hl] at h; cases h
theorem At.cell {w : World} {g : Nat} {t : TypeId} {cs : Array Value} (h : At w g t cs) (i : Nat) : w.cell? ⟨g, i, none⟩ = cs[i]? := cell_of_row w g i cs t (0, 0) h
theorem At.frozen {w : World} {g : Nat} {t : TypeId} {cs : Array Value} (h : At w g t cs) (i : Nat) : w.frozen? ⟨g, i, none⟩ = false := by
  unfold At at h
  simp [World.frozen?, h]
theorem At.new (w : World) (t : TypeId) (cs : Array Value) : At (w.alloc (.cells cs t)) w.heap.size t cs := heap_alloc_new w _
theorem At.below {w w' : World} {g B : Nat} {t : TypeId} {cs : Array Value} (h : At w g t cs) (hb : Below B w w') (hg : g < B) : At w' g t cs := (hb.block g hg).trans h
theorem At.up {w w' : World} {g : Nat} {t : TypeId} {cs : Array Value} (h : At w g t cs) (hb : Below w.heap.size w w') : At w' g t cs := h.below hb h.lt
theorem At.set {w : World} {g : Nat} {t : TypeId} {cs : Array Value} (h : At w g t cs) (i : Nat) (u : Value) : At (w.setCell ⟨g, i, none⟩ u) g t (cs.setIfInBounds i u) := by
  unfold At at h ⊢
  simp [World.setCell, Array.getElem?_modify, h]
theorem At.other {w : World} {g : Nat} {t : TypeId} {cs : Array Value} (h : At w g t cs) (k i : Nat) (u : Value) (hne : g ≠ k) : At (w.setCell ⟨k, i, none⟩ u) g t cs := by
  unfold At at h ⊢
  simp [World.setCell, Array.getElem?_modify, h, Ne.symm hne]

theorem At.kept {w w' : World} {g : Nat} {t : TypeId} {cs : Array Value} {row : Option Nat} (h : At w g t cs) (hg : w.grownBy w' row) (hne : some g ≠ row) : At w' g t cs := (hg.block g h.lt hne).trans h
theorem turn_refl (w : World) (row : Option Nat) : w.grownBy w row := ⟨rfl, rfl, rfl, Nat.le_refl _, fun _ _ _ => rfl⟩
theorem turn_drewN (w : World) (n : Nat) (row : Option Nat) : w.grownBy (w.drewN n) row := ⟨rfl, rfl, rfl, Nat.le_refl _, fun _ _ _ => rfl⟩
theorem turn_drew (w : World) (row : Option Nat) : w.grownBy w.drew row := ⟨rfl, rfl, rfl, Nat.le_refl _, fun _ _ _ => rfl⟩
theorem At.drew {w : World} {g : Nat} {t : TypeId} {cs : Array Value} (h : At w g t cs) : At w.drew g t cs := h
theorem At.drewN {w : World} {g : Nat} {t : TypeId} {cs : Array Value} (h : At w g t cs) (n : Nat) : At (w.drewN n) g t cs := h
theorem turn_set (w : World) (g i : Nat) (u : Value) : w.grownBy (w.setCell ⟨g, i, none⟩ u) (some g) :=
  ⟨rfl, rfl, rfl, by simp [World.setCell], fun k _ hne => Below.heap_setCell w ⟨g, i, none⟩ u k (fun e => hne (by rw [e]))⟩
theorem turn_below {w w' : World} (h : Below w.heap.size w w') (row : Option Nat) : w.grownBy w' row := ⟨h.os, h.tape, h.output, h.size, fun i hi _ => h.block i hi⟩
/-- a counter that New made, in block g: the last number, and the limit. -/
def PC (w : World) (g m k : Nat) : Prop := At w g 42 #[.int .u64 (m : Int), .int .u64 (k : Int), .bool true]
/-- the document's counter, as a value. -/
def rc (m k : Nat) : Value := .agg #[.int .u64 (k : Int), .int .u64 (m : Int)]

/-- a number above MaxCount counts as that. -/
def capN (n : Nat) : Nat := if n < 281474976710656 then n else 281474976710655
theorem capN_lt (n : Nat) : capN n < 281474976710656 := by unfold capN; split <;> omega
theorem capN_le {n : Nat} (h : n < 281474976710656) : capN n = n := if_pos h
theorem capN_gt {n : Nat} (h : ¬ n < 281474976710656) : capN n = 281474976710655 := if_neg h
/-- what Raise leaves, what Next answers and leaves. -/
def riseM (m n : Nat) : Nat := if m < capN n then capN n else m
theorem riseM_int (m n : Nat) : (if m < capN n then ((capN n : Nat) : Int) else (m : Int)) = ((riseM m n : Nat) : Int) := by unfold riseM; split <;> rfl
def leftM (m k : Nat) : Nat := k - m
def nextN (m k : Nat) : Nat := if m < k then m + 1 else 0
def nextE (m k : Nat) : Nat := if m < k then 0 else 9
def nextM (m k : Nat) : Nat := if m < k then m + 1 else m
theorem riseM_lt {m n : Nat} (h : m < 281474976710656) : riseM m n < 281474976710656 := by
  have := capN_lt n
  unfold riseM; split <;> omega
theorem nextM_lt {m k : Nat} (h : m < 281474976710656) (hk : k < 281474976710656) : nextM m k < 281474976710656 := by
  unfold nextM; split <;> omega
end Go.Proofs.Ytnnomngepbdfcaa.Co
