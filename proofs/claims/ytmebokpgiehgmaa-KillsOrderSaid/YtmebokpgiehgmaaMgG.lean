/- Words and contracts that the proofs of this seat stand on, part 7 of 18. -/
import Derived.Test.YtmebokpgiehgmaaMgC
import Derived.Test.YtmebokpgiehgmaaMgA
import Derived.Laws.BitsAllLaws
import Derived.WalkSmall
import Derived.Test.YtmebokpgiehgmaaMgB
import Derived.Lib.SlicesCompact
import Derived.Lib.SliceRun

/- What the walks of layer event's laws ask of the program's own functions. -/
namespace Go.Proofs.Ytmebokpgiehgmaa.Ev
open Go.ChangeShapes Go.WideShapes Go.ChangeAt Go.RowKit
set_option linter.unusedVariables false
set_option maxRecDepth 4000

/-- dots that may be written: they lie in blocks from B on, nobody has frozen them. -/
def Free (w : World) (B : Nat) (A : Option Addr) (n : Nat) : Prop := ∀ j, j < n → ∃ ad : Addr, A = some ad ∧ B ≤ ad.block ∧ w.frozen? (ad.add (j * 2)) = false ∧ w.frozen? (ad.add (j * 2 + 1)) = false
/-- events whose kills may be written. -/
def FreeKills (w : World) (B : Nat) (A : Option Addr) (n : Nat) : Prop :=
  ∀ k, k < n → ∃ (ad : Addr) (p : EV), A = some ad ∧ B ≤ ad.block ∧ w.cell? (ad.add (k * 7 + 6)) = some (.slice p.adr p.len p.cap) ∧ Free w B p.adr p.len ∧ ∀ a2, p.adr = some a2 → 0 < p.len → a2.block ≠ ad.block
/-- an event of one's own comes out. -/
def OwnPost (w : World) (x : Evt) (e : Ending) (w' : World) : Prop := ∃ q : EV, e = .returned q.val ∧ EventIs w' w'.heap.size q x ∧ Free w' w.heap.size q.adr q.len ∧ Below w.heap.size w w'
/-- events of one's own come out. -/
def OwnsPost (w : World) (l : List Evt) (e : Ending) (w' : World) : Prop := ∃ A n c, e = .returned (.slice A n c) ∧ EventsAt w' w'.heap.size A l n c ∧ FreeKills w' w.heap.size A n ∧ Below w.heap.size w w'
/-- dots of one's own come out. -/
def OwnDots (w : World) (l : List Dt.Dot) (e : Ending) (w' : World) : Prop := ∃ A n c, e = .returned (.slice A n c) ∧ DotsAt w' w'.heap.size A l n c ∧ Free w' w.heap.size A n ∧ Below w.heap.size w w'
/-- how many dots events name. -/
def manyE (l : List Evt) : Nat := (l.map fun x => x.kills.length + 1).sum
/-- the answers of the program's functions. -/
structure PEvent : Prop where
  kills : ∀ (w : World) (p : EV) (x : Evt) (d : Dt.Dot), EventIs w w.heap.size p x → Calls Try.prog 28 #[p.val, .agg #[.int .u16 (d.1 : Int), .int .u64 (d.2 : Int)]] w fun e w' => e = .returned (.bool (decide (d ∈ x.kills))) ∧ Below w.heap.size w w'
  copy : ∀ (w : World) (p : EV) (x : Evt), EventIs w w.heap.size p x → Calls Try.prog 43 #[p.val] w (OwnPost w x)
  sort : ∀ (w : World) (A : Option Addr) (l : List Evt) (n c : Nat), EventsAt w w.heap.size A l n c → n ≤ 1024 → Calls Try.prog 30 #[.slice A n c] w (OwnsPost w (sortE l))
  dots : ∀ (w : World) (A : Option Addr) (l : List Evt) (n c : Nat), EventsAt w w.heap.size A l n c → n ≤ 1024 → manyE l ≤ 8796093022208 → Calls Try.prog 23 #[.slice A n c] w (OwnDots w (dotsE l))

/-- a call that keeps what was, met later. -/
theorem later {f : FuncId} {args : Array Value} {w W : World} {v : Value} (hW : Below w.heap.size w W) (h : Calls Try.prog f args W fun e V => e = .returned v ∧ Below W.heap.size W V) :
    Calls Try.prog f args W fun e V => e = .returned v ∧ Below w.heap.size w V := h.mono fun e V ⟨h1, h2⟩ => ⟨h1, hW.trans (h2.mono hW.size)⟩
/-- a row of dots. -/
theorem dots_row {W : World} {g n : Nat} {l : List Dt.Dot} (hn : l.length = n) (hw : n ≤ 8796093022208) (hf : Dt.Fit l) (h0 : 0 < n) (h : ∀ k x, l[k]? = some x → W.cell? ⟨g, k * 2, none⟩ = some (.int .u16 (x.1 : Int)) ∧ W.cell? ⟨g, k * 2 + 1, none⟩ = some (.int .u64 (x.2 : Int))) : DotsAt W W.heap.size (some ⟨g, 0, none⟩) l n n := by
  refine ⟨hn, (fun e => by cases e), Nat.le_refl _, by omega, hw, hf, fun _ => ⟨_, rfl, ?_, fun j u hu => ?_⟩⟩
  · have h1 := (h 0 _ (List.getElem?_eq_getElem (by omega))).1
    exact World.block_lt_of_cell? W _ h1
  · rw [Dt.zero_add]
    have hj := (List.getElem?_eq_some_iff.1 hu).1
    rw [Dt.dv_length] at hj
    have hd : j / 2 < l.length := by omega
    have hg := List.getElem?_eq_getElem hd
    obtain ⟨g1, g2⟩ := Dt.dv_get hg
    obtain ⟨c1, c2⟩ := h _ _ hg
    rcases Nat.mod_two_eq_zero_or_one j with h0 | h0
    · have e : j = j / 2 * 2 := by omega
      rw [← e] at g1 c1
      rw [g1] at hu
      cases hu
      exact c1
    · have e : j = j / 2 * 2 + 1 := by omega
      rw [← e] at g2 c2
      rw [g2] at hu
      cases hu
      exact c2
/-- a row of one event. -/
theorem evt_row {W : World} {g : Nat} {p : EV} {x : Evt} (hp : EventIs W W.heap.size p x) (h : CellsAt W ⟨g, 0, none⟩ p) : EventsAt W W.heap.size (some ⟨g, 0, none⟩) [x] 1 1 := by
  refine ⟨rfl, (fun e => by cases e), Nat.le_refl _, by decide, by decide, [p], fun _ => ⟨_, rfl, World.block_lt_of_cell? W _ h.c0, fun j u hu => ?_⟩, rfl, fun k q y hq hy => ?_⟩
  · rw [Dt.zero_add]
    obtain ⟨c0, c1, c2, c3, c4, c5, c6⟩ := h.all
    have hj : j < 7 := by have := (List.getElem?_eq_some_iff.1 hu).1; simpa [ev] using this
    have h7 : j = 0 ∨ j = 1 ∨ j = 2 ∨ j = 3 ∨ j = 4 ∨ j = 5 ∨ j = 6 := by omega
    rcases h7 with rfl | rfl | rfl | rfl | rfl | rfl | rfl
    · cases hu; exact c0
    · cases hu; exact c1
    · cases hu; exact c2
    · cases hu; exact c3
    · cases hu; exact c4
    · cases hu; exact c5
    · cases hu; exact c6
  · cases k with
    | zero => cases hq; cases hy; exact hp
    | succ k => simp at hq
/-- the chapter's event. -/
def worksE : Evt := ⟨(2, 1), 1, 0, 0, ⟨#[]⟩, [(1, 4), (1, 9)]⟩
theorem works_dots : dotsE [worksE] = [(1, 4), (1, 9), (2, 1)] := by decide
/-- the call of Dots in the chapter's example, whenever it comes. -/
theorem works_call (P : PEvent) {w W : World} {g h : Nat} (hW : Below w.heap.size w W)
    (c0 : W.cell? ⟨g, 0, none⟩ = some (.int .u16 2)) (c1 : W.cell? ⟨g, 1, none⟩ = some (.int .u64 1)) (c2 : W.cell? ⟨g, 2, none⟩ = some (.int .u8 1)) (c3 : W.cell? ⟨g, 3, none⟩ = some (.int .u64 0)) (c4 : W.cell? ⟨g, 4, none⟩ = some (.int .u8 0)) (c5 : W.cell? ⟨g, 5, none⟩ = some (.string ⟨#[]⟩)) (c6 : W.cell? ⟨g, 6, none⟩ = some (.slice (some ⟨h, 0, none⟩) 2 2))
    (d0 : W.cell? ⟨h, 0, none⟩ = some (.int .u16 1)) (d1 : W.cell? ⟨h, 1, none⟩ = some (.int .u64 4)) (d2 : W.cell? ⟨h, 2, none⟩ = some (.int .u16 1)) (d3 : W.cell? ⟨h, 3, none⟩ = some (.int .u64 9)) :
    Calls Try.prog 23 #[.slice (some ⟨g, 0, none⟩) 1 1] W fun e V => ∃ A n c, e = .returned (.slice A n c) ∧ DotsAt V V.heap.size A [(1, 4), (1, 9), (2, 1)] n c ∧ Below w.heap.size w V ∧ Below W.heap.size W V := by
  have hk : DotsAt W W.heap.size (some ⟨h, 0, none⟩) [(1, 4), (1, 9)] 2 2 := by
    refine dots_row rfl (by decide) (fun r hr => ?_) (by decide) (fun k x hx => ?_)
    · simp only [List.mem_cons, List.not_mem_nil, or_false] at hr
      rcases hr with rfl | rfl <;> exact ⟨by decide, by decide⟩
    · have h2 : k = 0 ∨ k = 1 := by have := (List.getElem?_eq_some_iff.1 hx).1; simp at this; omega
      rcases h2 with rfl | rfl
      · cases hx; exact ⟨d0, d1⟩
      · cases hx; exact ⟨d2, d3⟩
  have hp : EventIs W W.heap.size ⟨2, 1, 1, 0, 0, ⟨#[]⟩, some ⟨h, 0, none⟩, 2, 2⟩ worksE := ⟨rfl, rfl, rfl, rfl, rfl, rfl, ⟨⟨by decide, by decide⟩, by decide, by decide, by decide, by unfold Short; decide⟩, hk⟩
  refine (P.dots W _ [worksE] 1 1 (evt_row hp ⟨c0, c1, c2, c3, c4, c5, c6⟩) (by decide) (by decide)).mono ?_
  rintro e V ⟨A, n, c, rfl, h1, _, h3⟩
  rw [works_dots] at h1
  exact ⟨A, n, c, rfl, h1, hW.trans (h3.mono hW.size), h3⟩
/-- the comparison in the chapter's example, whenever it comes. -/
theorem works_same {w W : World} {g : Nat} {A : Option Addr} {n c : Nat} (hW : Below w.heap.size w W) (hr : DotsAt W W.heap.size A [(1, 4), (1, 9), (2, 1)] n c)
    (c0 : W.cell? ⟨g, 0, none⟩ = some (.int .u16 1)) (c1 : W.cell? ⟨g, 1, none⟩ = some (.int .u64 4)) (c2 : W.cell? ⟨g, 2, none⟩ = some (.int .u16 1)) (c3 : W.cell? ⟨g, 3, none⟩ = some (.int .u64 9)) (c4 : W.cell? ⟨g, 4, none⟩ = some (.int .u16 2)) (c5 : W.cell? ⟨g, 5, none⟩ = some (.int .u64 1)) :
    Calls Try.prog 8 #[.slice A n c, .slice (some ⟨g, 0, none⟩) 3 3] W fun e V => e = .returned (.bool true) ∧ Below w.heap.size w V := by
  have hk : DotsAt W W.heap.size (some ⟨g, 0, none⟩) [(1, 4), (1, 9), (2, 1)] 3 3 := by
    refine dots_row rfl (by decide) (fun r hr => ?_) (by decide) (fun k x hx => ?_)
    · simp only [List.mem_cons, List.not_mem_nil, or_false] at hr
      rcases hr with rfl | rfl | rfl <;> exact ⟨by decide, by decide⟩
    · have h2 : k = 0 ∨ k = 1 ∨ k = 2 := by have := (List.getElem?_eq_some_iff.1 hx).1; simp at this; omega
      rcases h2 with rfl | rfl | rfl
      · cases hx; exact ⟨c0, c1⟩
      · cases hx; exact ⟨c2, c3⟩
      · cases hx; exact ⟨c4, c5⟩
  refine (Dt.rsame_any W W.heap.size W.heap.size A (some ⟨g, 0, none⟩) [(1, 4), (1, 9), (2, 1)] [(1, 4), (1, 9), (2, 1)] n 3 c 3 hr.len rfl hr.dots hk.dots (Nat.le_trans hr.wide (by decide))).mono ?_
  rintro e V ⟨rfl, m, rfl⟩
  exact ⟨by rw [decide_eq_true rfl], bel_drewN hW m⟩

theorem cutp {p q : Prop} (h : p) (g : p → q) : q := g h
/-- a row of the chapter's three dots. -/
structure Row3 (W : World) (g : Nat) : Prop where
  c0 : W.cell? ⟨g, 0, none⟩ = some (.int .u16 1)
  c1 : W.cell? ⟨g, 1, none⟩ = some (.int .u64 4)
  c2 : W.cell? ⟨g, 2, none⟩ = some (.int .u16 1)
  c3 : W.cell? ⟨g, 3, none⟩ = some (.int .u64 9)
  c4 : W.cell? ⟨g, 4, none⟩ = some (.int .u16 2)
  c5 : W.cell? ⟨g, 5, none⟩ = some (.int .u64 1)
theorem Row3.kept {W V : World} {g : Nat} (hb : Below W.heap.size W V) (h : Row3 W g) : Row3 V g := ⟨stays hb h.c0, stays hb h.c1, stays hb h.c2, stays hb h.c3, stays hb h.c4, stays hb h.c5⟩
theorem below_new3 (w : World) (o1 o2 o3 : Obj) : Below w.heap.size w (((w.alloc o1).alloc o2).alloc o3) := (below_new2 w o1 o2).alloc (below_new2 w o1 o2).size o3

end Go.Proofs.Ytmebokpgiehgmaa.Ev

/- The contracts of the program's functions of layer dot on single dots: Good, ahead, Cmp, ifGood, Unpack; and of shift's Split. For every dot and number of their types. -/
namespace Go.Proofs.Ytmebokpgiehgmaa.Dt
open Go.ChangeShapes Go.WideShapes Go.ChangeAt Go.RowKit
set_option linter.unusedVariables false

theorem below_new2 (w : World) (o1 o2 : Obj) : Below w.heap.size w ((w.alloc o1).alloc o2) := (below_new w o1).alloc (below_new w o1).size o2
/-- a dot of its types. -/
def FitD (d : Dot) : Prop := d.1 < 65536 ∧ d.2 < 18446744073709551616
/-- the world with two dots more. -/
def two (w : World) (a b : Dot) : World := (w.alloc (.cells #[.int .u16 (a.1 : Int), .int .u64 (a.2 : Int)] 26)).alloc (.cells #[.int .u16 (b.1 : Int), .int .u64 (b.2 : Int)] 26)
theorem pahead_two (w : World) (a b : Dot) :
    Calls Try.prog 52 #[.agg #[.int .u16 (a.1 : Int), .int .u64 (a.2 : Int)], .agg #[.int .u16 (b.1 : Int), .int .u64 (b.2 : Int)]] w fun e w' => e = .returned (.bool (aheadD a b)) ∧ w' = two w a b := by
  obtain ⟨a1, a2⟩ := a
  obtain ⟨b1, b2⟩ := b
  by_cases h1 : a1 = b1
  · subst h1
    have hd : aheadD (a1, a2) (a1, b2) = decide (a2 < b2) := decide_eq_decide.2 ⟨fun h => by simp at h; omega, fun h => .inr ⟨rfl, by simp; omega⟩⟩
    rw [hd]
    clear hd
    go_enter Try.func52, Try.ntmps52
    go_wp2
    go_ret
    exact ⟨rfl, rfl⟩
  · have e1 : ((a1 : Int) != (b1 : Int)) = true := by rw [bne_iff_ne]; omega
    have hd : aheadD (a1, a2) (b1, b2) = decide (a1 < b1) := decide_eq_decide.2 ⟨fun h => by simp at h; omega, fun h => .inl (by simp; omega)⟩
    rw [hd]
    clear hd
    go_enter Try.func52, Try.ntmps52
    go_wp2
    go_ret
    exact ⟨rfl, rfl⟩
theorem pahead_any (w : World) (a b : Dot) :
    Calls Try.prog 52 #[.agg #[.int .u16 (a.1 : Int), .int .u64 (a.2 : Int)], .agg #[.int .u16 (b.1 : Int), .int .u64 (b.2 : Int)]] w fun e w' => e = .returned (.bool (aheadD a b)) ∧ Below w.heap.size w w' :=
  (pahead_two w a b).mono fun _ _ ⟨h1, h2⟩ => ⟨h1, by rw [h2]; exact below_new2 w _ _⟩
/-- what Cmp leaves: the two dots, laid once or twice. -/
def Left (w : World) (a b : Dot) (w' : World) : Prop := w' = two w a b ∨ w' = two (two w a b) a b
theorem pcmp_left (w : World) (a b : Dot) :
    Calls Try.prog 46 #[.agg #[.int .u16 (a.1 : Int), .int .u64 (a.2 : Int)], .agg #[.int .u16 (b.1 : Int), .int .u64 (b.2 : Int)]] w fun e w' => e = .returned (.int .i64 (cmpD a b)) ∧ Left w a b w' := by
  have CA := fun W => pahead_two W a b
  obtain ⟨a1, a2⟩ := a
  obtain ⟨b1, b2⟩ := b
  by_cases h : a1 = b1 ∧ a2 = b2
  · obtain ⟨rfl, rfl⟩ := h
    clear CA
    rw [cmp_same]
    go_enter Try.func46, Try.ntmps46
    go_wp2
    go_ret
    exact ⟨rfl, .inl rfl⟩
  · have hc : cmpD (a1, a2) (b1, b2) = if aheadD (a1, a2) (b1, b2) = true then -1 else 1 := if_neg (fun e => h (by cases e; exact ⟨rfl, rfl⟩))
    rw [hc]
    clear hc
    have hne : ((a1 : Int) == (b1 : Int)) = false ∨ (a1 = b1 ∧ ((a2 : Int) == (b2 : Int)) = false) := by
      by_cases e : a1 = b1
      · refine .inr ⟨by omega, ?_⟩; rw [beq_eq_false_iff_ne]; omega
      · refine .inl ?_; rw [beq_eq_false_iff_ne]; omega
    clear h
    rcases hne with q | ⟨rfl, q⟩
    all_goals
      generalize aheadD _ _ = ah at CA ⊢
      cases ah
      all_goals
        go_enter Try.func46, Try.ntmps46
        go_wp2_with fail
        refine (CA _).mono ?_
        rintro e w1 ⟨rfl, rfl⟩
        go_wp2
        go_ret
        exact ⟨rfl, .inr rfl⟩
theorem pcmp_any (w : World) (a b : Dot) :
    Calls Try.prog 46 #[.agg #[.int .u16 (a.1 : Int), .int .u64 (a.2 : Int)], .agg #[.int .u16 (b.1 : Int), .int .u64 (b.2 : Int)]] w fun e w' => e = .returned (.int .i64 (cmpD a b)) ∧ Below w.heap.size w w' :=
  (pcmp_left w a b).mono fun _ _ ⟨h1, h2⟩ => ⟨h1, by
    have h3 : Below w.heap.size w (two w a b) := below_new2 w _ _
    rcases h2 with rfl | rfl
    · exact h3
    · exact h3.trans (Below.mono (below_new2 (two w a b) _ _) h3.size)⟩
theorem wraps_u64 (n : Int) (h₀ : 0 ≤ n) (h₁ : n < 2 ^ 64) : IntKind.u64.wrap n = n := by rw [IntKind.wrap_u64]; omega
/-- a dot that may be, or none. -/
def keepD (d : Dot) : Dot × Bool := if mayD d = true then (d, true) else ((0, 0), false)
/-- a new block for a dot that comes out: in every later world it may be written. -/
theorem new_cells (w : World) : ∀ V, Below (w.alloc (.cells #[.int .u16 0, .int .u64 0] 26)).heap.size (w.alloc (.cells #[.int .u16 0, .int .u64 0] 26)) V → (V.cell? ⟨w.heap.size, 0, none⟩ = some (.int .u16 0) ∧ V.cell? ⟨w.heap.size, 1, none⟩ = some (.int .u64 0)) ∧ V.frozen? ⟨w.heap.size, 0, none⟩ = false ∧ V.frozen? ⟨w.heap.size, 1, none⟩ = false := by
  intro V hV
  have hc1 : (w.alloc (.cells #[.int .u16 0, .int .u64 0] 26)).cell? ⟨w.heap.size, 0, none⟩ = some (.int .u16 0) := by simp [go_sem]
  have hc2 : (w.alloc (.cells #[.int .u16 0, .int .u64 0] 26)).cell? ⟨w.heap.size, 1, none⟩ = some (.int .u64 0) := by simp [go_sem]
  exact ⟨⟨(hV.cell (World.block_lt_of_cell? _ _ hc1)).trans hc1, (hV.cell (World.block_lt_of_cell? _ _ hc2)).trans hc2⟩, (hV.frozen (World.block_lt_of_cell? _ _ hc1)).trans (World.frozen?_alloc_new _ _ _ _), (hV.frozen (World.block_lt_of_cell? _ _ hc2)).trans (World.frozen?_alloc_new _ _ _ _)⟩
end Go.Proofs.Ytmebokpgiehgmaa.Dt

/- The contracts of the program's Same and Has of layer dot. For every list. -/
namespace Go.Proofs.Ytmebokpgiehgmaa.Dt
open Go.ChangeShapes Go.WideShapes Go.ChangeAt Go.RowKit
set_option linter.unusedVariables false

set_option maxHeartbeats 1000000 in
theorem pindex_any (w : World) (A : Option Addr) (l : List Dot) (n c : Nat) (d : Dot) (e1 : l.length = n) (h1 : Dots w w.heap.size A l) (h63 : n ≤ 9223372036854775807) :
    Calls Try.prog 53 #[.slice A n c, .agg #[.int .u16 (d.1 : Int), .int .u64 (d.2 : Int)]] w fun e w' => ∃ r : Int, e = .returned (.int .i64 r) ∧ decide (0 ≤ r) = decide (d ∈ l) ∧ Below w.heap.size w w' := by
  obtain ⟨d1, d2⟩ := d
  have H1 := Lib.hid (h1.below (below_new w (.cells #[.int .u16 (d1 : Int), .int .u64 (d2 : Int)] 26)))
  have E1 := Lib.hid e1
  have HB : Hid (Below w.heap.size w (w.alloc (.cells #[.int .u16 (d1 : Int), .int .u64 (d2 : Int)] 26))) := below_new w _
  have hd0 : (w.alloc (.cells #[.int .u16 (d1 : Int), .int .u64 (d2 : Int)] 26)).cell? ⟨w.heap.size, 0, none⟩ = some (.int .u16 (d1 : Int)) := by rw [World.cell?_alloc_mark]; rfl
  have hd1 : (w.alloc (.cells #[.int .u16 (d1 : Int), .int .u64 (d2 : Int)] 26)).cell? ⟨w.heap.size, 1, none⟩ = some (.int .u64 (d2 : Int)) := by rw [World.cell?_alloc_mark]; rfl
  clear h1 e1
  go_enter Try.func53, Try.ntmps53
  go_wp2
  generalize hw1 : w.alloc (.cells #[.int .u16 (d1 : Int), .int .u64 (d2 : Int)] 26) = w1 at *
  clear hw1
  go_loopw [8] (fun i wr => ∃ k : Nat, k ≤ n ∧ i = .int .i64 (k : Int) ∧ ((d1, d2) ∉ l.take k) ∧ ∃ m, wr = w1.drewN m) (fun i _ => n - (intOf i).toNat)
  case atStart => exact ⟨0, Nat.zero_le _, rfl, by simp, 0, rfl⟩
  case round =>
    obtain ⟨k, hk, rfl, ht, m, rfl⟩ := hrel
    have HT := Lib.hid ht
    clear ht
    by_cases hlt : k < n
    · obtain ⟨a1, x1, x2, rfl, hlx, hx1, hx2, hc1, hc2⟩ := H1.out.at_ (k := k) (by rw [E1.out]; exact hlt)
      have hc3 : w1.cell? ⟨(a1.add (k * 2)).block, (a1.add (k * 2)).off + 1, none⟩ = some (.int .u64 (x2 : Int)) := by rw [add_next]; exact hc2
      have LX := Lib.hid hlx
      clear hlx hc2
      by_cases hxy : x1 = d1 ∧ x2 = d2
      · obtain ⟨rfl, rfl⟩ := hxy
        have hs : Hid (decide ((x1, x2) ∈ l) = true) := Lib.hid (decide_eq_true (List.mem_of_getElem? LX.out))
        go_wp2_with fail
        go_quiet (fail)
        go_wp2
        go_ret
        exact ⟨_, rfl, by rw [hs.out]; simp, bel_drewN (bel_drewN HB.out _) _⟩
      · have hs : Hid ((d1, d2) ∉ l.take (k + 1)) := Lib.hid (by
          rw [take_next LX.out, List.mem_append, List.mem_singleton]
          rintro (h | h)
          · exact HT.out h
          · cases h; exact hxy ⟨rfl, rfl⟩)
        by_cases hx : x1 = d1
        · subst hx
          have hx2' : ¬ x2 = d2 := fun e => hxy ⟨rfl, e⟩
          have hb2 : ((x2 : Int) == (d2 : Int)) = false := by rw [beq_eq_false_iff_ne]; omega
          clear hxy
          go_wp2_with fail
          go_quiet (fail)
          go_wp2
          go_roundw
          case rel => exact ⟨k + 1, by omega, by go_num, hs.out, _, rfl⟩
          case measure => simp [intOf]; omega
        · have hb2 : ((x1 : Int) == (d1 : Int)) = false := by rw [beq_eq_false_iff_ne]; omega
          clear hxy
          go_wp2_with fail
          go_quiet (fail)
          go_wp2
          go_roundw
          case rel => exact ⟨k + 1, by omega, by go_num, hs.out, _, rfl⟩
          case measure => simp [intOf]; omega
    · obtain rfl : k = n := by omega
      have hs : Hid (decide ((d1, d2) ∈ l) = false) := Lib.hid (decide_eq_false (by
        have h := HT.out
        rw [List.take_of_length_le (by rw [E1.out]; exact Nat.le_refl _)] at h
        exact h))
      go_wp2
      go_ret
      exact ⟨_, rfl, by rw [hs.out]; simp, bel_drewN HB.out _⟩

theorem pcontains_any (w : World) (A : Option Addr) (l : List Dot) (n c : Nat) (d : Dot) (e1 : l.length = n) (h1 : Dots w w.heap.size A l) (h63 : n ≤ 9223372036854775807) :
    Calls Try.prog 48 #[.slice A n c, .agg #[.int .u16 (d.1 : Int), .int .u64 (d.2 : Int)]] w fun e w' => e = .returned (.bool (decide (d ∈ l))) ∧ Below w.heap.size w w' := by
  obtain ⟨d1, d2⟩ := d
  have HB := Lib.hid (below_new w (.cells #[.int .u16 (d1 : Int), .int .u64 (d2 : Int)] 26))
  have CI := pindex_any (w.alloc (.cells #[.int .u16 (d1 : Int), .int .u64 (d2 : Int)] 26)) A l n c (d1, d2) e1 (h1.up HB.out) h63
  generalize decide ((d1, d2) ∈ l) = b at CI ⊢
  clear e1 h1 h63
  go_enter Try.func48, Try.ntmps48
  go_wp2_with fail
  refine CI.mono ?_
  rintro e w1 ⟨r, rfl, hr, hb⟩
  have HB1 : Hid (Below w.heap.size w w1) := HB.out.trans (hb.mono HB.out.size)
  clear hb
  go_wp2
  go_ret
  exact ⟨rfl, HB1.out⟩
theorem phas_any (w : World) (A : Option Addr) (l : List Dot) (n c : Nat) (d : Dot) (e1 : l.length = n) (h1 : Dots w w.heap.size A l) (h63 : n ≤ 9223372036854775807) :
    Calls Try.prog 37 #[.slice A n c, .agg #[.int .u16 (d.1 : Int), .int .u64 (d.2 : Int)]] w fun e w' => e = .returned (.bool (decide (d ∈ l))) ∧ Below w.heap.size w w' := by
  obtain ⟨d1, d2⟩ := d
  have HB := Lib.hid (below_new w (.cells #[.int .u16 (d1 : Int), .int .u64 (d2 : Int)] 26))
  have CI := pcontains_any (w.alloc (.cells #[.int .u16 (d1 : Int), .int .u64 (d2 : Int)] 26)) A l n c (d1, d2) e1 (h1.up HB.out) h63
  generalize decide ((d1, d2) ∈ l) = b at CI ⊢
  clear e1 h1 h63
  go_enter Try.func37, Try.ntmps37
  go_wp2_with fail
  refine CI.mono ?_
  rintro e w1 ⟨rfl, hb⟩
  have HB1 : Hid (Below w.heap.size w w1) := HB.out.trans (hb.mono HB.out.size)
  clear hb
  go_wp2
  go_ret
  exact ⟨rfl, HB1.out⟩
end Go.Proofs.Ytmebokpgiehgmaa.Dt

/- The contract of the program's Rising of layer dot. For every list. -/
namespace Go.Proofs.Ytmebokpgiehgmaa.Dt
open Go.ChangeShapes Go.WideShapes Go.ChangeAt Go.RowKit
set_option linter.unusedVariables false

theorem pahead_later (w W : World) (a b : Dot) (hW : Below w.heap.size w W) :
    Calls Try.prog 52 #[.agg #[.int .u16 (a.1 : Int), .int .u64 (a.2 : Int)], .agg #[.int .u16 (b.1 : Int), .int .u64 (b.2 : Int)]] W fun e V => e = .returned (.bool (aheadD a b)) ∧ Below w.heap.size w V :=
  (pahead_any W a b).mono fun _ _ ⟨h1, h2⟩ => ⟨h1, hW.trans (h2.mono hW.size)⟩
theorem one_dot' (w : World) (d : Dot) : ∀ V, Below (w.alloc (.cells #[.int .u16 (d.1 : Int), .int .u64 (d.2 : Int)] 26)).heap.size (w.alloc (.cells #[.int .u16 (d.1 : Int), .int .u64 (d.2 : Int)] 26)) V → V.cell? ⟨w.heap.size, 0, none⟩ = some (.int .u16 (d.1 : Int)) ∧ V.cell? ⟨w.heap.size, 1, none⟩ = some (.int .u64 (d.2 : Int)) := by
  intro V hV
  have hc1 : (w.alloc (.cells #[.int .u16 (d.1 : Int), .int .u64 (d.2 : Int)] 26)).cell? ⟨w.heap.size, 0, none⟩ = some (.int .u16 (d.1 : Int)) := by simp [go_sem]
  have hc2 : (w.alloc (.cells #[.int .u16 (d.1 : Int), .int .u64 (d.2 : Int)] 26)).cell? ⟨w.heap.size, 1, none⟩ = some (.int .u64 (d.2 : Int)) := by simp [go_sem]
  exact ⟨(hV.cell (World.block_lt_of_cell? _ _ hc1)).trans hc1, (hV.cell (World.block_lt_of_cell? _ _ hc2)).trans hc2⟩
theorem rise_one (l : List Dot) (k : Nat) (h : k ≤ 1) : riseB (l.take k) = true := by
  rcases l with _ | ⟨a, l⟩
  · simp [riseB]
  · obtain rfl | rfl : k = 0 ∨ k = 1 := by omega
    · rfl
    · simp [riseB]

end Go.Proofs.Ytmebokpgiehgmaa.Dt

/- The contract of slices.Compact at dots. For every list of one's own. -/
namespace Go.Proofs.Ytmebokpgiehgmaa.Dt
open Go.ChangeShapes Go.WideShapes Go.ChangeAt Go.RowKit Go.Lib
set_option linter.unusedVariables false

theorem dv_set {l : List Dot} {k : Nat} (r : Dot) : dv (l.set k r) = ((dv l).set (k * 2) (.int .u16 (r.1 : Int))).set (k * 2 + 1) (.int .u64 (r.2 : Int)) := by
  induction l generalizing k with
  | nil => simp [dv]
  | cons x l ih =>
    cases k with
    | zero => rfl
    | succ k =>
      have e : ∀ (y : Dot) (m : List Dot), dv (y :: m) = .int .u16 (y.1 : Int) :: .int .u64 (y.2 : Int) :: dv m := fun _ _ => rfl
      have e1 : (k + 1) * 2 = k * 2 + 2 := by omega
      rw [List.set_cons_succ, e, e, ih, e1]
      rfl
theorem dv_at {l : List Dot} {k : Nat} (hk : k < l.length) : (dv l)[k * 2]? = some (.int .u16 ((l.toArray[k]!).1 : Int)) ∧ (dv l)[k * 2 + 1]? = some (.int .u64 ((l.toArray[k]!).2 : Int)) := by
  have e : l.toArray[k]! = l[k] := by rw [getElem!_pos _ _ (by simpa using hk)]; simp
  rw [e]
  exact dv_get (List.getElem?_eq_getElem hk)
/-- the cells of a row of dots, and that they may be written. -/
theorem row_at {w : World} {B g n cap : Nat} {d : List Dot} (h : w.ownsRow B 26 2 (.slice (some ⟨g, 0, none⟩) n cap) n (dv d)) (hd : d.length = n) {k : Nat} (hk : k < n) :
    (w.cell? ⟨g, k * 2, none⟩ = some (.int .u16 ((d.toArray[k]!).1 : Int)) ∧ w.cell? ⟨g, k * 2 + 1, none⟩ = some (.int .u64 ((d.toArray[k]!).2 : Int))) ∧ w.frozen? ⟨g, k * 2, none⟩ = false ∧ w.frozen? ⟨g, k * 2 + 1, none⟩ = false := by
  obtain ⟨h1, h2⟩ := dv_at (l := d) (k := k) (by omega)
  exact ⟨⟨(h.cellAt _ (by omega)).trans h1, (h.cellAt _ (by omega)).trans h2⟩, h.frozenAt _, h.frozenAt _⟩

theorem dv_cons (y : Dot) (m : List Dot) : dv (y :: m) = .int .u16 (y.1 : Int) :: .int .u64 (y.2 : Int) :: dv m := rfl
theorem dv_take (l : List Dot) (k : Nat) : (dv l).take (k * 2) = dv (l.take k) := by
  induction l generalizing k with
  | nil => simp [dv]
  | cons x l ih =>
    cases k with
    | zero => simp [dv]
    | succ k =>
      have e1 : (k + 1) * 2 = k * 2 + 2 := by omega
      rw [List.take_succ_cons, dv_cons, dv_cons, e1, List.take_succ_cons, List.take_succ_cons, ih]
/-- a row of one's own, cut. -/
theorem own_take {w : World} {B g n cap k : Nat} {xs : List Value} (h : w.ownsRow B 26 2 (.slice (some ⟨g, 0, none⟩) n cap) n xs) (hk : k ≤ n) : w.ownsRow B 26 2 (.slice (some ⟨g, 0, none⟩) k cap) k (xs.take (k * 2)) := by
  refine ⟨by rw [List.length_take, h.1]; omega, ?_⟩
  rcases h.2 with ⟨h', _⟩ | ⟨g', cap', cur, h', hb, hg, hnc, hcm, hcs, htake⟩
  · simp at h'
  · simp only [Value.slice.injEq, Option.some.injEq, Addr.mk.injEq, and_true, true_and] at h'
    obtain ⟨rfl, rfl⟩ := h'
    exact .inr ⟨g, cap, cur, rfl, hb, hg, by omega, hcm, hcs, by rw [← htake, List.take_take]; congr 1; omega⟩
/-- cells written into a row from a place on: what lies ahead of it stays. -/
theorem own_cells {w : World} {B g n cap : Nat} {xs : List Value} (o : Nat) (vs : List Value) (h : w.ownsRow B 26 2 (.slice (some ⟨g, 0, none⟩) n cap) n xs) : ∃ ys : List Value, (w.setCells g o vs).ownsRow B 26 2 (.slice (some ⟨g, 0, none⟩) n cap) n ys ∧ ys.take o = xs.take o ∧ w.grownBy (w.setCells g o vs) (some g) := by
  induction vs generalizing w xs o with
  | nil => exact ⟨xs, h, rfl, turn_refl _ _⟩
  | cons v vs ih =>
    obtain ⟨h1, h2⟩ := h.stored o v
    obtain ⟨ys, h3, h4, h5⟩ := ih (o + 1) h1
    refine ⟨ys, h3, ?_, h2.trans h5⟩
    have h6 := congrArg (List.take o) h4
    rw [List.take_take, List.take_take, show min o (o + 1) = o by omega] at h6
    rw [h6, List.take_set_of_le (Nat.le_refl _)]
theorem zeros_len (m : Nat) : (Builtin.zeroCells #[.int .u16 0, .int .u64 0] m).size = m * 2 := by simp [Builtin.zeroCells]
theorem zeros_one (m : Nat) : ∀ v ∈ (Builtin.zeroCells #[.int .u16 0, .int .u64 0] m).toList, v.oneCell' = true := by
  intro v hv
  simp [Builtin.zeroCells] at hv
  obtain ⟨i, _, rfl⟩ := hv
  rcases Nat.mod_two_eq_zero_or_one i with h | h <;> simp [h] <;> rfl
/-- clear of the end of a row of one's own. -/
theorem run_clear {w : World} {B g n cap k : Nat} {xs : List Value} (h : w.ownsRow B 26 2 (.slice (some ⟨g, 0, none⟩) n cap) n xs) (hk : k < n) (c' : Nat) (ty : TypeId) :
    (Builtin.clear_ #[30] ty #[.slice (some ⟨g, k * 2, none⟩) (n - k) c']).run Try.prog w = .ok (.tuple #[]) (w.setCells g (k * 2) (Builtin.zeroCells #[.int .u16 0, .int .u64 0] (n - k)).toList) := by
  have hl : (Builtin.zeroCells #[.int .u16 0, .int .u64 0] (n - k)).toList.length = (n - k) * 2 := by rw [Array.length_toList, zeros_len]
  have hst := run_storeCells_cells (P := Try.prog) g (k * 2) (Builtin.zeroCells #[.int .u16 0, .int .u64 0] (n - k)).toList 0 w
    (fun j hj => by
      rw [hl] at hj
      have h1 := h.1
      rw [h.cellAt _ (by omega), List.getElem?_eq_getElem (by omega)]; rfl)
    (fun j hj => h.frozenAt _) (zeros_one _)
  simp only [Nat.add_zero] at hst
  obtain ⟨m, hm⟩ : ∃ m, n - k = m + 1 := ⟨n - k - 1, by omega⟩
  rw [hm] at hst ⊢
  simp [Builtin.clear_, run_underlying Try.underlying30, Value.cells, hst]

theorem comp_take {d : Array Dot} {n kk : Nat} {dk : List Dot} (h : CompInv d n kk dk.toArray) (hk : kk ≤ dk.length) : dk.take kk = compactUpTo d n := by
  apply List.ext_getElem?
  intro j
  rw [List.getElem?_take]
  by_cases hj : j < kk
  · rw [if_pos hj, h.low j hj, getElem!_pos dk.toArray j (by simpa using Nat.lt_of_lt_of_le hj hk), List.getElem?_eq_getElem (by omega)]
    simp
  · rw [if_neg hj, List.getElem?_eq_none (by rw [h.len]; omega)]
theorem grown_drew {w wr : World} {r : Option Nat} (h : w.grownBy wr r) (q : Nat) : w.grownBy (wr.drewN q) r := h.trans ⟨rfl, rfl, rfl, Nat.le_refl _, fun _ _ _ => rfl⟩
set_option maxHeartbeats 4000000 in
theorem pcompact_any (w : World) (B g cap n : Nat) (d : List Dot) (hn : d.length = n) (h62 : n < 4611686018427387904) (h : w.ownsRow B 26 2 (.slice (some ⟨g, 0, none⟩) n cap) n (dv d)) :
    Calls Try.prog 47 #[.slice (some ⟨g, 0, none⟩) n cap] w fun e w' => ∃ k, e = .returned (.slice (some ⟨g, 0, none⟩) k cap) ∧ k = (compactUpTo d.toArray n).length ∧ w'.ownsRow B 26 2 (.slice (some ⟨g, 0, none⟩) k cap) k (dv (compactUpTo d.toArray n)) ∧ w.grownBy w' (some g) := by
  have H := Lib.hid h
  have HN := Lib.hid hn
  have hcap := (own_len h).1
  clear h hn
  by_cases h2 : n < 2
  · have d2 : decide ((n : Int) < 2) = true := decide_eq_true (by omega)
    have e : compactUpTo d.toArray n = d := by
      rw [compactUpTo_all d.toArray n (fun j hj => keeps_lt_one _ j (by omega))]
      have := range_map_get d.toArray
      simp only [List.size_toArray, HN.out] at this
      rw [this]
    rw [e]
    go_enter Try.func47, Try.ntmps47
    go_wp2
    go_ret
    exact ⟨n, rfl, HN.out.symm, H.out, turn_refl _ _⟩
  · have d2 : decide ((n : Int) < 2) = false := decide_eq_false (by omega)
    go_enter Try.func47, Try.ntmps47
    go_wp2
    go_loopw [3] (fun i wr => ∃ k q : Nat, i = .int .i64 (k : Int) ∧ 1 ≤ k ∧ k ≤ n ∧ wr = w.drewN q ∧ ∀ j, j < k → keeps d.toArray j = true) (fun i _ => n - (intOf i).toNat)
    case atStart => exact ⟨1, 0, rfl, Nat.le_refl _, by omega, rfl, keeps_lt_one _⟩
    case round =>
      obtain ⟨k, q, rfl, hk1, hk, rfl, hall⟩ := hrel
      have A := Lib.hid hall
      clear hall
      by_cases hlt : k < n
      · obtain ⟨⟨c1, c2⟩, _, _⟩ := row_at H.out HN.out hlt
        obtain ⟨⟨c3, c4⟩, _, _⟩ := row_at H.out HN.out (k := k - 1) (by omega)
        generalize hx : d.toArray[k]! = x at c1 c2
        generalize hy : d.toArray[k - 1]! = y at c3 c4
        obtain ⟨x1, x2⟩ := x
        obtain ⟨y1, y2⟩ := y
        have BB := Lib.hid (And.intro hx hy)
        clear hx hy
        obtain ⟨i, rfl⟩ : ∃ i, k = i + 1 := ⟨k - 1, by omega⟩
        have ei : i + 1 - 1 = i := by omega
        rw [ei] at c3 c4
        clear ei
        by_cases hxy : x1 = y1 ∧ x2 = y2
        · obtain ⟨rfl, rfl⟩ := hxy
          have HS := Lib.hid (CompInv.start A.out (keeps_neg (d := d.toArray) (m := i + 1) (by omega) (by rw [BB.out.1, BB.out.2])))
          have hcap1 : i + 1 < cap := by omega
          have HCap := Lib.hid hcap
          clear hk1 hk hcap
          go_wp2_with fail
          go_quiet (fail)
          clear c1 c2 c3 c4
          go_wp2
          go_loopw [3, 5] (fun s3 s5 wr => ∃ (kk j : Nat) (dk : List Dot), s3 = .int .i64 (kk : Int) ∧ s5 = .int .i64 ((j : Int) + 1) ∧ i + 1 + (j + 1) ≤ n ∧ wr.ownsRow B 26 2 (.slice (some ⟨g, 0, none⟩) n cap) n (dv dk) ∧ dk.length = n ∧ CompInv d.toArray (i + 1 + (j + 1)) kk dk.toArray ∧ w.grownBy wr (some g)) (fun _ s5 _ => n - (intOf s5).toNat)
          case atStart => exact ⟨i + 1, 0, d, rfl, rfl, by omega, H.out, HN.out, HS.out, ⟨rfl, rfl, rfl, Nat.le_refl _, fun _ _ _ => rfl⟩⟩
          case round =>
            obtain ⟨kk, j, dk, rfl, rfl, hle, hw, hl, hI, hg⟩ := hrel
            have hkk := hI.lt
            have W := Lib.hid hw
            have L := Lib.hid hl
            have I := Lib.hid hI
            have G := Lib.hid hg
            clear hw hl hI hg
            by_cases hlt2 : i + 1 + (j + 1) < n
            · obtain ⟨⟨a1, a2⟩, _, _⟩ := row_at W.out L.out hlt2
              obtain ⟨⟨a3, a4⟩, _, _⟩ := row_at W.out L.out (k := i + 1 + j) (by omega)
              obtain ⟨⟨a5, a6⟩, f5, f6⟩ := row_at W.out L.out (k := kk) (by omega)
              rw [I.out.high (i + 1 + (j + 1)) (by omega), show (i + 1 + (j + 1)) * 2 = (i + 1) * 2 + (j + 1) * 2 by omega] at a1 a2
              rw [I.out.high (i + 1 + j) (by omega), show (i + 1 + j) * 2 = (i + 1) * 2 + j * 2 by omega] at a3 a4
              generalize hu : d.toArray[i + 1 + (j + 1)]! = u at a1 a2
              generalize hv : d.toArray[i + 1 + j]! = v at a3 a4
              generalize dk.toArray[kk]! = old at a5 a6
              have C := Lib.hid (And.intro hu hv)
              clear hu hv
              obtain ⟨u1, u2⟩ := u
              obtain ⟨v1, v2⟩ := v
              by_cases huv : u1 = v1 ∧ u2 = v2
              · obtain ⟨rfl, rfl⟩ := huv
                go_wp2_with fail
                go_quiet (fail)
                go_wp2
                go_roundw
                case rel => exact ⟨kk, j + 1, dk, rfl, by go_num, by omega, W.out, L.out, I.out.skip (keeps_neg (by omega) (by rw [C.out.1]; exact C.out.2.symm)), grown_drew G.out _⟩
                case measure => simp [intOf]; omega
              · have HK : Hid (CompInv d.toArray (i + 1 + (j + 1 + 1)) (kk + 1) (dk.set kk (u1, u2)).toArray) := by
                  have h1 := I.out.keep (by simp only [List.size_toArray]; rw [HN.out]; exact hlt2) (keeps_pos (by
                    rw [C.out.1]
                    intro e
                    have h2 := C.out.2
                    rw [show i + 1 + (j + 1) - 1 = i + 1 + j by omega] at e
                    rw [h2] at e
                    cases e
                    exact huv ⟨rfl, rfl⟩))
                  rw [C.out.1] at h1
                  have h3 : (dk.set kk (u1, u2)).toArray = dk.toArray.setIfInBounds kk (u1, u2) := by simp
                  rw [h3]
                  exact h1
                have HW : Hid (∀ q, ∃ V, V = ((wr.drewN q).setCell ⟨g, kk * 2, none⟩ (.int .u16 (u1 : Int))).setCell ⟨g, kk * 2 + 1, none⟩ (.int .u64 (u2 : Int)) ∧ V.ownsRow B 26 2 (.slice (some ⟨g, 0, none⟩) n cap) n (dv (dk.set kk (u1, u2))) ∧ w.grownBy V (some g)) := fun q => by
                  have h0 : (wr.drewN q).ownsRow B 26 2 (.slice (some ⟨g, 0, none⟩) n cap) n (dv dk) := W.out
                  obtain ⟨h1, g1⟩ := h0.stored (kk * 2) (.int .u16 (u1 : Int))
                  obtain ⟨h2, g2⟩ := h1.stored (kk * 2 + 1) (.int .u64 (u2 : Int))
                  exact ⟨_, rfl, by rw [dv_set]; exact h2, ((grown_drew G.out q).trans g1).trans g2⟩
                have hkn : kk < n := by omega
                have key : ((u1 : Int) == (v1 : Int)) = false ∨ (u1 = v1 ∧ ((u2 : Int) == (v2 : Int)) = false) := by
                  by_cases e : u1 = v1
                  · refine .inr ⟨e, ?_⟩; rw [beq_eq_false_iff_ne]; intro e2; exact huv ⟨e, by omega⟩
                  · refine .inl ?_; rw [beq_eq_false_iff_ne]; omega
                clear huv C hkk
                rcases key with k1 | ⟨rfl, k1⟩
                all_goals
                  go_wp2_with fail
                  go_quiet (fail)
                  go_wp2
                  go_roundw
                  case rel =>
                    obtain ⟨V, rfl, h1, h2⟩ := HW.out nq
                    exact ⟨kk + 1, j + 1, dk.set kk (u1, u2), by go_num, by go_num, by omega, h1, by rw [List.length_set]; exact L.out, HK.out, h2⟩
                  case measure => simp [intOf]; omega
            · have hend : i + 1 + (j + 1) = n := by omega
              have hkn : kk < n := by omega
              have hkc : kk < cap := Nat.lt_of_lt_of_le hkn HCap.out
              have hI := I.out
              rw [hend] at hI
              have HT := Lib.hid (comp_take hI (by rw [L.out]; omega))
              have HL := Lib.hid hI.len
              have hcl := fun ty => run_clear W.out hkn (cap - kk) ty
              obtain ⟨ys, hy1, hy2, hy3⟩ := own_cells (kk * 2) (Builtin.zeroCells #[.int .u16 0, .int .u64 0] (n - kk)).toList W.out
              have HY : Hid ((wr.setCells g (kk * 2) (Builtin.zeroCells #[.int .u16 0, .int .u64 0] (n - kk)).toList).ownsRow B 26 2 (.slice (some ⟨g, 0, none⟩) kk cap) kk (dv (compactUpTo d.toArray n))) := by
                have h1 := own_take hy1 (k := kk) (by omega)
                rw [hy2, dv_take, HT.out] at h1
                exact h1
              have HG := Lib.hid (G.out.trans hy3)
              clear hI hy1 hy2 hy3 hkk
              generalize wr.setCells g (kk * 2) (Builtin.zeroCells #[.int .u16 0, .int .u64 0] (n - kk)).toList = wz at hcl HY HG
              go_wp2
              go_ret
              exact ⟨kk, rfl, HL.out.symm, HY.out, HG.out⟩
        · have key : ((x1 : Int) == (y1 : Int)) = false ∨ (x1 = y1 ∧ ((x2 : Int) == (y2 : Int)) = false) := by
            by_cases e : x1 = y1
            · refine .inr ⟨e, ?_⟩; rw [beq_eq_false_iff_ne]; intro e2; exact hxy ⟨e, by omega⟩
            · refine .inl ?_; rw [beq_eq_false_iff_ne]; omega
          have HK : Hid (∀ j, j < i + 1 + 1 → keeps d.toArray j = true) := fun j hj => by
            by_cases e : j = i + 1
            · subst e
              refine keeps_pos ?_
              rw [BB.out.1, BB.out.2]
              intro e
              cases e
              exact hxy ⟨rfl, rfl⟩
            · exact A.out j (by omega)
          clear hxy hcap
          rcases key with k1 | ⟨rfl, k1⟩
          all_goals
            go_wp2_with fail
            go_quiet (fail)
            go_wp2
            go_roundw
            case rel => exact ⟨i + 1 + 1, _, by go_num, by omega, by omega, rfl, HK.out⟩
            case measure => simp [intOf]; omega
      · have e : compactUpTo d.toArray n = d := by
          obtain rfl : k = n := by omega
          rw [compactUpTo_all d.toArray k A.out]
          have := range_map_get d.toArray
          simp only [List.size_toArray, HN.out] at this
          rw [this]
        have E := Lib.hid e
        clear e
        go_wp2
        go_ret
        rw [E.out]
        exact ⟨n, rfl, HN.out.symm, H.out, ⟨rfl, rfl, rfl, Nat.le_refl _, fun _ _ _ => rfl⟩⟩
end Go.Proofs.Ytmebokpgiehgmaa.Dt
