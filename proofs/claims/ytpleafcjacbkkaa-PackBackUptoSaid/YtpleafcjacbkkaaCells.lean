/- Words for the memory that the claims of layer pack speak of: a block that is just these cells, a world in which one block alone has turned; and the plain functions that say what a reader tells and what is left to it. No program is walked here. -/
import Derived.Test.YtpleafcjacbkkaaRead2
import Derived.Test.YtpleafcjacbkkaaAppend
import Derived.Deep.AppendLies
namespace Go.Proofs.Ytpleafcjacbkkaa.Nu
open Go.ChangeShapes Go.WideShapes Go.ChangeAt Go.RowKit
set_option linter.unusedVariables false

/-- block g is these cells, of the type t, and may be written. -/
def At (w : World) (g : Nat) (t : TypeId) (cs : Array Value) : Prop := w.heap[g]? = some (.cells cs t (0, 0))
theorem At.lt {w : World} {g : Nat} {t : TypeId} {cs : Array Value} (h : At w g t cs) : g < w.heap.size := by
  rcases Nat.lt_or_ge g w.heap.size with hl | hl
  · exact hl
  · unfold At at h; rw [Array.getElem?_eq_none hl] at h; cases h
theorem At.cell {w : World} {g : Nat} {t : TypeId} {cs : Array Value} (h : At w g t cs) (i : Nat) : w.cell? ⟨g, i, none⟩ = cs[i]? := cell_of_row w g i cs t (0, 0) h
theorem At.frozen {w : World} {g : Nat} {t : TypeId} {cs : Array Value} (h : At w g t cs) (i : Nat) : w.frozen? ⟨g, i, none⟩ = false := by
  unfold At at h
  simp [World.frozen?, h]
theorem At.new (w : World) (t : TypeId) (cs : Array Value) : At (w.alloc (.cells cs t)) w.heap.size t cs := heap_alloc_new w _
theorem At.kept {w w' : World} {g : Nat} {t : TypeId} {cs : Array Value} {row : Option Nat} (h : At w g t cs) (hg : w.grownBy w' row) (hne : some g ≠ row) : At w' g t cs := (hg.block g h.lt hne).trans h
theorem At.below {w w' : World} {g B : Nat} {t : TypeId} {cs : Array Value} (h : At w g t cs) (hb : Below B w w') (hg : g < B) : At w' g t cs := (hb.block g hg).trans h
theorem At.set {w : World} {g : Nat} {t : TypeId} {cs : Array Value} (h : At w g t cs) (i : Nat) (u : Value) : At (w.setCell ⟨g, i, none⟩ u) g t (cs.setIfInBounds i u) := by
  unfold At at h ⊢
  simp [World.setCell, Array.getElem?_modify, h]

theorem turn_refl (w : World) (row : Option Nat) : w.grownBy w row := ⟨rfl, rfl, rfl, Nat.le_refl _, fun _ _ _ => rfl⟩
theorem turn_drewN (w : World) (n : Nat) (row : Option Nat) : w.grownBy (w.drewN n) row := ⟨rfl, rfl, rfl, Nat.le_refl _, fun _ _ _ => rfl⟩
theorem turn_set (w : World) (g i : Nat) (u : Value) : w.grownBy (w.setCell ⟨g, i, none⟩ u) (some g) :=
  ⟨rfl, rfl, rfl, by simp [World.setCell], fun k _ hne => Below.heap_setCell w ⟨g, i, none⟩ u k (fun e => hne (by rw [e]))⟩
theorem turn_below {w w' : World} (h : Below w.heap.size w w') (row : Option Nat) : w.grownBy w' row := ⟨h.os, h.tape, h.output, h.size, fun i hi _ => h.block i hi⟩
theorem Bytes.kept {w w' : World} {B : Nat} {A : Option Addr} {l : List Nat} {row : Option Nat} (h : Bytes w B A l) (hg : w.grownBy w' row) (hB : B ≤ w.heap.size) (hr : ∀ k, row = some k → B ≤ k) : Bytes w' B A l :=
  h.below ((Below.refl B w).grown hg hB hr)

/-- the first error stays. -/
def stopE (e f : Nat) : Nat := if e = 0 then f else e
theorem stop_zero (f : Nat) : stopE 0 f = f := if_pos rfl
theorem stop_some {e : Nat} (h : e ≠ 0) (f : Nat) : stopE e f = e := if_neg h
/-- the number that stands ahead, what is behind it, and the error. -/
def numV : List Nat → Nat
  | [] => 0
  | x :: r => if form x r = true ∧ x ≤ r.length then val (r.take x) else 0
def numL : List Nat → List Nat
  | [] => []
  | x :: r => if form x r = true ∧ x ≤ r.length then r.drop x else []
def numE : List Nat → Nat
  | [] => 2
  | x :: r => if form x r = true then (if x ≤ r.length then 0 else 2) else 4
def uptoV (m : Nat) (l : List Nat) : Nat := if m < numV l then 0 else numV l
def uptoL (m : Nat) (l : List Nat) : List Nat := if m < numV l then [] else numL l
def uptoE (m : Nat) (l : List Nat) (e : Nat) : Nat := if m < numV l then stopE (stopE e (numE l)) 4 else stopE e (numE l)
def takeV (k : Nat) (l : List Nat) : List Nat := if k ≤ l.length then l.take k else []
def takeL (k : Nat) (l : List Nat) : List Nat := if k ≤ l.length then l.drop k else []
def takeE (k : Nat) (l : List Nat) (e : Nat) : Nat := if k ≤ l.length then e else stopE e 2
def byteV : List Nat → Nat
  | [] => 0
  | x :: _ => x
def byteL : List Nat → List Nat
  | [] => []
  | _ :: r => r
def byteE (l : List Nat) (e : Nat) : Nat := if l = [] then stopE e 2 else e
def flagV (l : List Nat) : Bool := decide (byteV l = 1)
def flagL (l : List Nat) : List Nat := if byteV l ≤ 1 then byteL l else []
def flagE (l : List Nat) (e : Nat) : Nat := if byteV l ≤ 1 then byteE l e else stopE (byteE l e) 4
def textV (m : Int) (l : List Nat) : List Nat := if m.toNat < numV l then [] else takeV (numV l) (numL l)
def textL (m : Int) (l : List Nat) : List Nat := if m.toNat < numV l then [] else takeL (numV l) (numL l)
def textE (m : Int) (l : List Nat) (e : Nat) : Nat := if m.toNat < numV l then stopE (stopE e (numE l)) 3 else takeE (numV l) (numL l) (stopE e (numE l))
def endE (l : List Nat) (e : Nat) : Nat := if l = [] then e else stopE e 4

theorem numV_cons (x : Nat) (r : List Nat) : numV (x :: r) = if form x r = true ∧ x ≤ r.length then val (r.take x) else 0 := rfl
theorem numL_cons (x : Nat) (r : List Nat) : numL (x :: r) = if form x r = true ∧ x ≤ r.length then r.drop x else [] := rfl
theorem numE_cons (x : Nat) (r : List Nat) : numE (x :: r) = if form x r = true then (if x ≤ r.length then 0 else 2) else 4 := rfl
theorem what_num {x : Nat} {r : List Nat} {a v y f : Nat} (h : What x r a v y f) : numV (x :: r) = v ∧ numE (x :: r) = f ∧ (f = 0 → form x r = true ∧ x ≤ r.length ∧ y = a + 1 + x ∧ numL (x :: r) = r.drop x) ∧ (f ≠ 0 → v = 0 ∧ numL (x :: r) = []) := by
  rw [numV_cons, numE_cons, numL_cons]
  cases h with
  | form h => simp [h]
  | short h hl =>
    have : ¬ x ≤ r.length := by omega
    simp [h, this]
  | ok h hl => simp [h, hl]
theorem numV_lt {l : List Nat} (hs : Small l) : numV l < 18446744073709551616 := by
  cases l with
  | nil => decide
  | cons x r =>
    rw [numV_cons]
    by_cases h : form x r = true ∧ x ≤ r.length
    · rw [if_pos h]
      have hx : x ≤ 8 := (form_true h.1).1
      have h1 := val_lt (small_take (fun y hy => hs y (List.mem_cons_of_mem _ hy) : Small r) x)
      have h2 : 256 ^ (r.take x).length ≤ 256 ^ 8 := Nat.pow_le_pow_right (by decide) (by rw [List.length_take]; omega)
      exact Nat.lt_of_lt_of_le h1 h2
    · rw [if_neg h]; decide
theorem numE_le (l : List Nat) : numE l ≤ 4 := by
  cases l with
  | nil => decide
  | cons x r =>
    rw [numE_cons]
    split
    · split <;> omega
    · omega
theorem numL_bad {l : List Nat} (h : numE l ≠ 0) : numL l = [] ∧ numV l = 0 := by
  cases l with
  | nil => exact ⟨rfl, rfl⟩
  | cons x r =>
    have hn : ¬ (form x r = true ∧ x ≤ r.length) := by
      rintro ⟨a, b⟩
      exact h (by rw [numE_cons, if_pos a, if_pos b])
    rw [numL_cons, numV_cons, if_neg hn, if_neg hn]
    exact ⟨rfl, rfl⟩
theorem byteV_lt {l : List Nat} (hs : Small l) : byteV l < 256 := by
  cases l with
  | nil => decide
  | cons x r => exact hs x List.mem_cons_self
end Go.Proofs.Ytpleafcjacbkkaa.Nu
