/- What the walks of layer card's laws ask of the program's own functions. -/
import Derived.Test.YtlndhooiapomlaaKLine
namespace Go.Proofs.Ytlndhooiapomlaa.Kd
open Go.ChangeShapes Go.WideShapes Go.ChangeAt Go.RowKit
set_option linter.unusedVariables false

/-- texts that may be written: they lie in blocks from B on, nobody has frozen them. -/
def Free (w : World) (B : Nat) (A : Option Addr) (n : Nat) : Prop := ∀ j, j < n → ∃ ad : Addr, A = some ad ∧ B ≤ ad.block ∧ w.frozen? (ad.add j) = false
/-- a line of one's own comes out. -/
def OwnLine (w : World) (x : Option Ln) (e : Ending) (w' : World) : Prop :=
  ∃ p : LV, e = .returned (.tuple #[p.val, .bool x.isSome]) ∧ LineIs w' w'.heap.size p (x.getD noLine) ∧ Free w' w.heap.size p.adr p.len ∧ Below w.heap.size w w'
/-- lines that may be written, each in its texts too, which lie elsewhere. -/
def FreeLines (w : World) (B : Nat) (A : Option Addr) (n : Nat) : Prop :=
  ∀ k, k < n → ∃ (ad : Addr) (p : LV), A = some ad ∧ B ≤ ad.block ∧ w.frozen? (ad.add (k * 3 + 1)) = false ∧ w.cell? (ad.add (k * 3 + 2)) = some (.slice p.adr p.len p.cap) ∧ Free w B p.adr p.len ∧ ∀ ad2, p.adr = some ad2 → 0 < p.len → ad2.block ≠ ad.block
/-- a card of one's own comes out. -/
def CopyPost (w : World) (x : Crd) (e : Ending) (w' : World) : Prop :=
  ∃ q : CV, e = .returned q.val ∧ CardIs w' w'.heap.size q x ∧ FreeLines w' w.heap.size q.adr q.len ∧ Below w.heap.size w w'
/-- the answers of the program's functions. -/
structure PCard : Prop where
  good : ∀ (w : World) (p : CV) (x : Crd), CardIs w w.heap.size p x → Calls Try.prog 7 #[p.val] w fun e w' => e = .returned (.bool (goodC x)) ∧ Below w.heap.size w w'
  same : ∀ (w : World) (p q : CV) (x y : Crd), CardIs w w.heap.size p x → CardIs w w.heap.size q y → Calls Try.prog 15 #[p.val, q.val] w fun e w' => e = .returned (.bool (decide (x = y))) ∧ Below w.heap.size w w'
  all : ∀ (w : World) (A1 A2 : Option Addr) (l1 l2 : List Crd) (n1 n2 c1 c2 : Nat), CardsAt w w.heap.size A1 l1 n1 c1 → CardsAt w w.heap.size A2 l2 n2 c2 → Calls Try.prog 17 #[.slice A1 n1 c1, .slice A2 n2 c2] w fun e w' => e = .returned (.bool (decide (l1 = l2))) ∧ Below w.heap.size w w'
  copy : ∀ (w : World) (p : CV) (x : Crd), CardIs w w.heap.size p x → Calls Try.prog 19 #[p.val] w (CopyPost w x)
  line : ∀ (w : World) (p : CV) (x : Crd) (f : Nat), f < 256 → CardIs w w.heap.size p x → Calls Try.prog 5 #[p.val, .int .u8 (f : Int)] w (OwnLine w (lineC x.2 f))
  title : ∀ (w : World) (p : CV) (x : Crd), CardIs w w.heap.size p x → Calls Try.prog 10 #[p.val] w fun e w' => e = .returned (.string (titleC x.2)) ∧ Below w.heap.size w w'
  odds : ∀ (w : World) (p : CV) (x : Crd), CardIs w w.heap.size p x → Calls Try.prog 12 #[p.val] w fun e w' => e = .returned (.int .i64 (oddsC x.2 : Int)) ∧ Below w.heap.size w w'

theorem bel_drew {B : Nat} {w W : World} (h : Below B w W) : Below B w W.drew := h.drew
theorem bel_alloc {w W : World} (o : Obj) (h : Below w.heap.size w W) : Below w.heap.size w (W.alloc o) := h.alloc h.size o
/-- a call that keeps what was, met later. -/
theorem later {f : FuncId} {args : Array Value} {w W : World} {v : Value} (hW : Below w.heap.size w W) (h : Calls Try.prog f args W fun e V => e = .returned v ∧ Below W.heap.size W V) :
    Calls Try.prog f args W fun e V => e = .returned v ∧ Below w.heap.size w V := h.mono fun e V ⟨h1, h2⟩ => ⟨h1, hW.trans (h2.mono hW.size)⟩
/-- a row of one line. -/
theorem line_one {w W : World} {g : Nat} {p : LV} {x : Ln} (hp : LineIs w w.heap.size p x) (hW : Below w.heap.size w W) (c0 : W.cell? ⟨g, 0, none⟩ = some (.int .u8 (p.fld : Int))) (c1 : W.cell? ⟨g, 1, none⟩ = some (.string p.txt)) (c2 : W.cell? ⟨g, 2, none⟩ = some (.slice p.adr p.len p.cap)) :
    LinesAt W W.heap.size (some ⟨g, 0, none⟩) [x] 1 1 := by
  refine ⟨rfl, (fun e => by cases e), Nat.le_refl _, by decide, by decide, [p], fun _ => ⟨_, rfl, World.block_lt_of_cell? W _ c0, fun j u hu => ?_⟩, rfl, fun k q y hq hy => ?_⟩
  · have hj : j < 3 := by have := (List.getElem?_eq_some_iff.1 hu).1; simpa [lv] using this
    have h3 : j = 0 ∨ j = 1 ∨ j = 2 := by omega
    rcases h3 with rfl | rfl | rfl
    · cases hu; exact c0
    · cases hu; exact c1
    · cases hu; exact c2
  · cases k with
    | zero => cases hq; cases hy; exact (hp.below hW).more_ hW.size
    | succ k => simp at hq
/-- the document's Lines at two rows of the same line. -/
theorem lines_later {w W : World} {g h : Nat} {p q : LV} {x : Ln} (hp : LineIs w w.heap.size p x) (hq : LineIs w w.heap.size q x) (hW : Below w.heap.size w W)
    (c0 : W.cell? ⟨g, 0, none⟩ = some (.int .u8 (p.fld : Int))) (c1 : W.cell? ⟨g, 1, none⟩ = some (.string p.txt)) (c2 : W.cell? ⟨g, 2, none⟩ = some (.slice p.adr p.len p.cap))
    (d0 : W.cell? ⟨h, 0, none⟩ = some (.int .u8 (q.fld : Int))) (d1 : W.cell? ⟨h, 1, none⟩ = some (.string q.txt)) (d2 : W.cell? ⟨h, 2, none⟩ = some (.slice q.adr q.len q.cap)) :
    Calls Try.prog 9 #[.slice (some ⟨g, 0, none⟩) 1 1, .slice (some ⟨h, 0, none⟩) 1 1] W fun e V => e = .returned (.bool true) ∧ Below w.heap.size w V := by
  refine (rlines_any W W.heap.size W.heap.size _ _ [x] [x] 1 1 1 1 (line_one hp hW c0 c1 c2) (line_one hq hW d0 d1 d2)).mono ?_
  rintro e V ⟨rfl, m, rfl⟩
  exact ⟨by rw [decide_eq_true rfl], bel_drewN hW m⟩

theorem works_card (w : World) : CardIs (w.alloc (.cells #[.int .u8 1, .string ⟨#[]⟩, .slice none 0 0, .int .u8 3, .string ⟨#[97]⟩, .slice none 0 0] 28)) (w.alloc (.cells #[.int .u8 1, .string ⟨#[]⟩, .slice none 0 0, .int .u8 3, .string ⟨#[97]⟩, .slice none 0 0] 28)).heap.size ⟨0, some ⟨w.heap.size, 0, none⟩, 2, 2⟩ (0, [(1, ⟨#[]⟩, []), (3, ⟨#[97]⟩, [])]) := by
  refine ⟨rfl, by decide, rfl, (fun e => by cases e), Nat.le_refl _, (by show (2 : Nat) ≤ 9223372036854775807; omega), (by show (2 : Nat) ≤ 4398046511104; omega), [⟨1, ⟨#[]⟩, none, 0, 0⟩, ⟨3, ⟨#[97]⟩, none, 0, 0⟩], fun _ => ⟨_, rfl, by simp, fun j u hu => ?_⟩, rfl, fun k q y hq hy => ?_⟩
  · rw [Fd.zero_add, World.cell?_alloc_new]
    simpa [lv] using hu
  · have h2 : k = 0 ∨ k = 1 := by have := (List.getElem?_eq_some_iff.1 hq).1; simp at this; omega
    rcases h2 with rfl | rfl
    · cases hq; cases hy
      exact ⟨rfl, by decide, rfl, by unfold Short; decide, TextsAt.none_ _ _⟩
    · cases hq; cases hy
      exact ⟨rfl, by decide, rfl, by unfold Short; decide, TextsAt.none_ _ _⟩
/-- the chapter's example. -/
theorem works_any (P : PCard) (w : World) : Calls Try.prog 14 #[] w fun e w' => e = .returned (.bool true) ∧ Below w.heap.size w w' := by
  have HC := Lib.hid (works_card w)
  have ht : titleC [(1, ⟨#[]⟩, []), (3, ⟨#[97]⟩, [])] = ⟨#[97]⟩ := by decide
  have HT := P.title _ _ _ HC.out
  simp only at HT
  rw [ht] at HT
  have HB := Lib.hid (below_new w (.cells #[.int .u8 1, .string ⟨#[]⟩, .slice none 0 0, .int .u8 3, .string ⟨#[97]⟩, .slice none 0 0] 28))
  clear ht
  go_enter Try.func14, Try.ntmps14
  go_wp2_with fail
  refine HT.mono ?_
  rintro e w2 ⟨rfl, hb⟩
  have HB2 : Hid (Below w.heap.size w w2) := Lib.hid (HB.out.trans (hb.mono HB.out.size))
  clear hb HT
  go_wp2
  go_ret
  exact ⟨rfl, HB2.out⟩
end Go.Proofs.Ytlndhooiapomlaa.Kd
