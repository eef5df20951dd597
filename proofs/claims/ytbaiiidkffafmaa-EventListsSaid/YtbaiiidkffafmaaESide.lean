/- What the walks of layer event's laws ask of the program's own functions. -/
import Derived.Test.YtbaiiidkffafmaaEDots
namespace Go.Proofs.Ytbaiiidkffafmaa.Ev
open Go.ChangeShapes Go.WideShapes Go.ChangeAt Go.RowKit
set_option linter.unusedVariables false

/-- dots that may be written: they lie in blocks from B on, nobody has frozen them. -/
def Free (w : World) (B : Nat) (A : Option Addr) (n : Nat) : Prop := ∀ j, j < n → ∃ ad : Addr, A = some ad ∧ B ≤ ad.block ∧ w.frozen? (ad.add (j * 2)) = false ∧ w.frozen? (ad.add (j * 2 + 1)) = false
/-- events whose kills may be written. -/
def FreeKills (w : World) (B : Nat) (A : Option Addr) (n : Nat) : Prop :=
  ∀ k, k < n → ∃ (ad : Addr) (p : EV), A = some ad ∧ B ≤ ad.block ∧ w.cell? (ad.add (k * 7 + 6)) = some (.slice p.adr p.len p.cap) ∧ Free w B p.adr p.len ∧ ∀ a2, p.adr = some a2 → 0 < p.len → a2.block ≠ ad.block
/-- an event of one's own comes out. -/
def OwnPost (w : World) (x : Evt) (e : Ending) (w' : World) : Prop := ∃ q : EV, e = .returned q.val ∧ EventIs w' w'.heap.size q x ∧ Free w' w.heap.size q.adr q.len ∧ Below w.heap.size w w'
/-- events of one's own come out. -/
def OwnsPost (w : World) (l : List Evt) (e : Ending) (w' : World) : Prop := ∃ A n c, e = .returned (.slice A n c) ∧ EventsAt w' w'.heap.size A l n c ∧ FreeKills w' w.heap.size A n ∧ Below w.heap.size w w'
/-- dots of one's own come out. -/
def OwnDots (w : World) (l : List Dt.Dot) (e : Ending) (w' : World) : Prop := ∃ A n c, e = .returned (.slice A n c) ∧ DotsAt w' w'.heap.size A l n c ∧ Free w' w.heap.size A n ∧ Below w.heap.size w w'
/-- how many dots events name. -/
def manyE (l : List Evt) : Nat := (l.map fun x => x.kills.length + 1).sum
/-- the answers of the program's functions. -/
structure PEvent : Prop where
  good : ∀ (w : World) (p : EV) (x : Evt), EventIs w w.heap.size p x → Calls Try.prog 8 #[p.val] w fun e w' => e = .returned (.bool (goodE x)) ∧ Below w.heap.size w w'
  same : ∀ (w : World) (p q : EV) (x y : Evt), EventIs w w.heap.size p x → EventIs w w.heap.size q y → Calls Try.prog 10 #[p.val, q.val] w fun e w' => e = .returned (.bool (decide (x = y))) ∧ Below w.heap.size w w'
  all : ∀ (w : World) (A1 A2 : Option Addr) (l1 l2 : List Evt) (n1 n2 c1 c2 : Nat), EventsAt w w.heap.size A1 l1 n1 c1 → EventsAt w w.heap.size A2 l2 n2 c2 → Calls Try.prog 22 #[.slice A1 n1 c1, .slice A2 n2 c2] w fun e w' => e = .returned (.bool (decide (l1 = l2))) ∧ Below w.heap.size w w'
  clashes : ∀ (w : World) (p q : EV) (x y : Evt), EventIs w w.heap.size p x → EventIs w w.heap.size q y → Calls Try.prog 12 #[p.val, q.val] w fun e w' => e = .returned (.bool (decide (x.dot = y.dot) && !decide (x = y))) ∧ Below w.heap.size w w'
  kills : ∀ (w : World) (p : EV) (x : Evt) (d : Dt.Dot), EventIs w w.heap.size p x → Calls Try.prog 13 #[p.val, .agg #[.int .u16 (d.1 : Int), .int .u64 (d.2 : Int)]] w fun e w' => e = .returned (.bool (decide (d ∈ x.kills))) ∧ Below w.heap.size w w'
  copy : ∀ (w : World) (p : EV) (x : Evt), EventIs w w.heap.size p x → Calls Try.prog 23 #[p.val] w (OwnPost w x)
  sort : ∀ (w : World) (A : Option Addr) (l : List Evt) (n c : Nat), EventsAt w w.heap.size A l n c → n ≤ 1024 → Calls Try.prog 15 #[.slice A n c] w (OwnsPost w (sortE l))
  dots : ∀ (w : World) (A : Option Addr) (l : List Evt) (n c : Nat), EventsAt w w.heap.size A l n c → n ≤ 1024 → manyE l ≤ 8796093022208 → Calls Try.prog 20 #[.slice A n c] w (OwnDots w (dotsE l))

/-- a call that keeps what was, met later. -/
theorem later {f : FuncId} {args : Array Value} {w W : World} {v : Value} (hW : Below w.heap.size w W) (h : Calls Try.prog f args W fun e V => e = .returned v ∧ Below W.heap.size W V) :
    Calls Try.prog f args W fun e V => e = .returned v ∧ Below w.heap.size w V := h.mono fun e V ⟨h1, h2⟩ => ⟨h1, hW.trans (h2.mono hW.size)⟩
/-- a row of dots. -/
theorem dots_row {W : World} {g n : Nat} {l : List Dt.Dot} (hn : l.length = n) (hw : n ≤ 8796093022208) (hf : Dt.Fit l) (h0 : 0 < n) (h : ∀ k x, l[k]? = some x → W.cell? ⟨g, k * 2, none⟩ = some (.int .u16 (x.1 : Int)) ∧ W.cell? ⟨g, k * 2 + 1, none⟩ = some (.int .u64 (x.2 : Int))) : DotsAt W W.heap.size (some ⟨g, 0, none⟩) l n n := by
  refine ⟨hn, (fun e => by cases e), Nat.le_refl _, by omega, hw, hf, fun _ => ⟨_, rfl, ?_, fun j u hu => ?_⟩⟩
  · have h1 := (h 0 _ (List.getElem?_eq_getElem (by omega))).1
    exact World.block_lt_of_cell? W _ h1
  · rw [Dt.zero_add]
    have hj := (List.getElem?_eq_some_iff.1 hu).1
    rw [Dt.dv_length] at hj
    have hd : j / 2 < l.length := by omega
    have hg := List.getElem?_eq_getElem hd
    obtain ⟨g1, g2⟩ := Dt.dv_get hg
    obtain ⟨c1, c2⟩ := h _ _ hg
    rcases Nat.mod_two_eq_zero_or_one j with h0 | h0
    · have e : j = j / 2 * 2 := by omega
      rw [← e] at g1 c1
      rw [g1] at hu
      cases hu
      exact c1
    · have e : j = j / 2 * 2 + 1 := by omega
      rw [← e] at g2 c2
      rw [g2] at hu
      cases hu
      exact c2
/-- a row of one event. -/
theorem evt_row {W : World} {g : Nat} {p : EV} {x : Evt} (hp : EventIs W W.heap.size p x) (h : CellsAt W ⟨g, 0, none⟩ p) : EventsAt W W.heap.size (some ⟨g, 0, none⟩) [x] 1 1 := by
  refine ⟨rfl, (fun e => by cases e), Nat.le_refl _, by decide, by decide, [p], fun _ => ⟨_, rfl, World.block_lt_of_cell? W _ h.c0, fun j u hu => ?_⟩, rfl, fun k q y hq hy => ?_⟩
  · rw [Dt.zero_add]
    obtain ⟨c0, c1, c2, c3, c4, c5, c6⟩ := h.all
    have hj : j < 7 := by have := (List.getElem?_eq_some_iff.1 hu).1; simpa [ev] using this
    have h7 : j = 0 ∨ j = 1 ∨ j = 2 ∨ j = 3 ∨ j = 4 ∨ j = 5 ∨ j = 6 := by omega
    rcases h7 with rfl | rfl | rfl | rfl | rfl | rfl | rfl
    · cases hu; exact c0
    · cases hu; exact c1
    · cases hu; exact c2
    · cases hu; exact c3
    · cases hu; exact c4
    · cases hu; exact c5
    · cases hu; exact c6
  · cases k with
    | zero => cases hq; cases hy; exact hp
    | succ k => simp at hq
/-- the chapter's event. -/
def worksE : Evt := ⟨(2, 1), 1, 0, 0, ⟨#[]⟩, [(1, 4), (1, 9)]⟩
theorem works_dots : dotsE [worksE] = [(1, 4), (1, 9), (2, 1)] := by decide
/-- the call of Dots in the chapter's example, whenever it comes. -/
theorem works_call (P : PEvent) {w W : World} {g h : Nat} (hW : Below w.heap.size w W)
    (c0 : W.cell? ⟨g, 0, none⟩ = some (.int .u16 2)) (c1 : W.cell? ⟨g, 1, none⟩ = some (.int .u64 1)) (c2 : W.cell? ⟨g, 2, none⟩ = some (.int .u8 1)) (c3 : W.cell? ⟨g, 3, none⟩ = some (.int .u64 0)) (c4 : W.cell? ⟨g, 4, none⟩ = some (.int .u8 0)) (c5 : W.cell? ⟨g, 5, none⟩ = some (.string ⟨#[]⟩)) (c6 : W.cell? ⟨g, 6, none⟩ = some (.slice (some ⟨h, 0, none⟩) 2 2))
    (d0 : W.cell? ⟨h, 0, none⟩ = some (.int .u16 1)) (d1 : W.cell? ⟨h, 1, none⟩ = some (.int .u64 4)) (d2 : W.cell? ⟨h, 2, none⟩ = some (.int .u16 1)) (d3 : W.cell? ⟨h, 3, none⟩ = some (.int .u64 9)) :
    Calls Try.prog 20 #[.slice (some ⟨g, 0, none⟩) 1 1] W fun e V => ∃ A n c, e = .returned (.slice A n c) ∧ DotsAt V V.heap.size A [(1, 4), (1, 9), (2, 1)] n c ∧ Below w.heap.size w V ∧ Below W.heap.size W V := by
  have hk : DotsAt W W.heap.size (some ⟨h, 0, none⟩) [(1, 4), (1, 9)] 2 2 := by
    refine dots_row rfl (by decide) (fun r hr => ?_) (by decide) (fun k x hx => ?_)
    · simp only [List.mem_cons, List.not_mem_nil, or_false] at hr
      rcases hr with rfl | rfl <;> exact ⟨by decide, by decide⟩
    · have h2 : k = 0 ∨ k = 1 := by have := (List.getElem?_eq_some_iff.1 hx).1; simp at this; omega
      rcases h2 with rfl | rfl
      · cases hx; exact ⟨d0, d1⟩
      · cases hx; exact ⟨d2, d3⟩
  have hp : EventIs W W.heap.size ⟨2, 1, 1, 0, 0, ⟨#[]⟩, some ⟨h, 0, none⟩, 2, 2⟩ worksE := ⟨rfl, rfl, rfl, rfl, rfl, rfl, ⟨⟨by decide, by decide⟩, by decide, by decide, by decide, by unfold Short; decide⟩, hk⟩
  refine (P.dots W _ [worksE] 1 1 (evt_row hp ⟨c0, c1, c2, c3, c4, c5, c6⟩) (by decide) (by decide)).mono ?_
  rintro e V ⟨A, n, c, rfl, h1, _, h3⟩
  rw [works_dots] at h1
  exact ⟨A, n, c, rfl, h1, hW.trans (h3.mono hW.size), h3⟩
/-- the comparison in the chapter's example, whenever it comes. -/
theorem works_same {w W : World} {g : Nat} {A : Option Addr} {n c : Nat} (hW : Below w.heap.size w W) (hr : DotsAt W W.heap.size A [(1, 4), (1, 9), (2, 1)] n c)
    (c0 : W.cell? ⟨g, 0, none⟩ = some (.int .u16 1)) (c1 : W.cell? ⟨g, 1, none⟩ = some (.int .u64 4)) (c2 : W.cell? ⟨g, 2, none⟩ = some (.int .u16 1)) (c3 : W.cell? ⟨g, 3, none⟩ = some (.int .u64 9)) (c4 : W.cell? ⟨g, 4, none⟩ = some (.int .u16 2)) (c5 : W.cell? ⟨g, 5, none⟩ = some (.int .u64 1)) :
    Calls Try.prog 19 #[.slice A n c, .slice (some ⟨g, 0, none⟩) 3 3] W fun e V => e = .returned (.bool true) ∧ Below w.heap.size w V := by
  have hk : DotsAt W W.heap.size (some ⟨g, 0, none⟩) [(1, 4), (1, 9), (2, 1)] 3 3 := by
    refine dots_row rfl (by decide) (fun r hr => ?_) (by decide) (fun k x hx => ?_)
    · simp only [List.mem_cons, List.not_mem_nil, or_false] at hr
      rcases hr with rfl | rfl | rfl <;> exact ⟨by decide, by decide⟩
    · have h2 : k = 0 ∨ k = 1 ∨ k = 2 := by have := (List.getElem?_eq_some_iff.1 hx).1; simp at this; omega
      rcases h2 with rfl | rfl | rfl
      · cases hx; exact ⟨c0, c1⟩
      · cases hx; exact ⟨c2, c3⟩
      · cases hx; exact ⟨c4, c5⟩
  refine (Dt.rsame_any W W.heap.size W.heap.size A (some ⟨g, 0, none⟩) [(1, 4), (1, 9), (2, 1)] [(1, 4), (1, 9), (2, 1)] n 3 c 3 hr.len rfl hr.dots hk.dots (Nat.le_trans hr.wide (by decide))).mono ?_
  rintro e V ⟨rfl, m, rfl⟩
  exact ⟨by rw [decide_eq_true rfl], bel_drewN hW m⟩

theorem cutp {p q : Prop} (h : p) (g : p → q) : q := g h
/-- a row of the chapter's three dots. -/
structure Row3 (W : World) (g : Nat) : Prop where
  c0 : W.cell? ⟨g, 0, none⟩ = some (.int .u16 1)
  c1 : W.cell? ⟨g, 1, none⟩ = some (.int .u64 4)
  c2 : W.cell? ⟨g, 2, none⟩ = some (.int .u16 1)
  c3 : W.cell? ⟨g, 3, none⟩ = some (.int .u64 9)
  c4 : W.cell? ⟨g, 4, none⟩ = some (.int .u16 2)
  c5 : W.cell? ⟨g, 5, none⟩ = some (.int .u64 1)
theorem Row3.kept {W V : World} {g : Nat} (hb : Below W.heap.size W V) (h : Row3 W g) : Row3 V g := ⟨stays hb h.c0, stays hb h.c1, stays hb h.c2, stays hb h.c3, stays hb h.c4, stays hb h.c5⟩
theorem below_new3 (w : World) (o1 o2 o3 : Obj) : Below w.heap.size w (((w.alloc o1).alloc o2).alloc o3) := (below_new2 w o1 o2).alloc (below_new2 w o1 o2).size o3

set_option maxHeartbeats 8000000 in
/-- the chapter's example. -/
theorem works_any (P : PEvent) (w : World) : Calls Try.prog 7 #[] w fun e w' => e = .returned (.bool true) ∧ Below w.heap.size w w' := by
  have HB := Lib.hid (below_new3 w (.cells #[.int .u16 1, .int .u64 4] 25) (.cells #[.int .u16 1, .int .u64 9] 25) (.cells #[.int .u16 2, .int .u64 1] 25))
  have h1 : (((w.alloc (.cells #[.int .u16 1, .int .u64 4] 25)).alloc (.cells #[.int .u16 1, .int .u64 9] 25)).alloc (.cells #[.int .u16 2, .int .u64 1] 25)).cell? ⟨w.heap.size, 0, none⟩ = some (.int .u16 1) ∧ (((w.alloc (.cells #[.int .u16 1, .int .u64 4] 25)).alloc (.cells #[.int .u16 1, .int .u64 9] 25)).alloc (.cells #[.int .u16 2, .int .u64 1] 25)).cell? ⟨w.heap.size, 1, none⟩ = some (.int .u64 4) := by constructor <;> simp [go_sem]
  have h2 : (((w.alloc (.cells #[.int .u16 1, .int .u64 4] 25)).alloc (.cells #[.int .u16 1, .int .u64 9] 25)).alloc (.cells #[.int .u16 2, .int .u64 1] 25)).cell? ⟨w.heap.size + 1, 0, none⟩ = some (.int .u16 1) ∧ (((w.alloc (.cells #[.int .u16 1, .int .u64 4] 25)).alloc (.cells #[.int .u16 1, .int .u64 9] 25)).alloc (.cells #[.int .u16 2, .int .u64 1] 25)).cell? ⟨w.heap.size + 1, 1, none⟩ = some (.int .u64 9) := by constructor <;> simp [go_sem]
  have h3 : (((w.alloc (.cells #[.int .u16 1, .int .u64 4] 25)).alloc (.cells #[.int .u16 1, .int .u64 9] 25)).alloc (.cells #[.int .u16 2, .int .u64 1] 25)).cell? ⟨w.heap.size + 1 + 1, 0, none⟩ = some (.int .u16 2) ∧ (((w.alloc (.cells #[.int .u16 1, .int .u64 4] 25)).alloc (.cells #[.int .u16 1, .int .u64 9] 25)).alloc (.cells #[.int .u16 2, .int .u64 1] 25)).cell? ⟨w.heap.size + 1 + 1, 1, none⟩ = some (.int .u64 1) := by constructor <;> simp [go_sem]
  go_enter Try.func7, Try.ntmps7
  go_wp2_with fail
  generalize ((w.alloc (.cells #[.int .u16 1, .int .u64 4] 25)).alloc (.cells #[.int .u16 1, .int .u64 9] 25)).alloc (.cells #[.int .u16 2, .int .u64 1] 25) = w3 at *
  generalize w.heap.size + 1 + 1 = b3 at *
  generalize w.heap.size + 1 = b2 at *
  generalize hb1 : w.heap.size = b1 at h1 ⊢
  clear hb1
  have HK : Hid (∀ V, Below w3.heap.size w3 V → V.cell? ⟨b1, 0, none⟩ = some (.int .u16 1) ∧ V.cell? ⟨b1, 1, none⟩ = some (.int .u64 4) ∧ V.cell? ⟨b2, 0, none⟩ = some (.int .u16 1) ∧ V.cell? ⟨b2, 1, none⟩ = some (.int .u64 9) ∧ V.cell? ⟨b3, 0, none⟩ = some (.int .u16 2) ∧ V.cell? ⟨b3, 1, none⟩ = some (.int .u64 1)) := Lib.hid (fun V hV => ⟨stays hV h1.1, stays hV h1.2, stays hV h2.1, stays hV h2.2, stays hV h3.1, stays hV h3.2⟩)
  clear h1 h2 h3
  obtain ⟨k1, k2, k3, k4, k5, k6⟩ := HK.out w3 (Below.refl _ _)
  have LD := fun W g (hW : Below w3.heap.size w3 W) => @works_call P w3 W g w3.heap.size hW
  have LS := fun W g A n c (hW : Below w3.heap.size w3 W) (hr : DotsAt W W.heap.size A [(1, 4), (1, 9), (2, 1)] n c) => @works_same w3 W g A n c hW hr
  have LE := fun W g (hW : Below w3.heap.size w3 W) => @works_call P w3 W g (w3.heap.size + 1) hW
  go_region_held3 (fun V => V.cell? ⟨b1, 0, none⟩ = some (.int .u16 1) ∧ V.cell? ⟨b1, 1, none⟩ = some (.int .u64 4) ∧ V.cell? ⟨b2, 0, none⟩ = some (.int .u16 1) ∧ V.cell? ⟨b2, 1, none⟩ = some (.int .u64 9) ∧ V.cell? ⟨b3, 0, none⟩ = some (.int .u16 2) ∧ V.cell? ⟨b3, 1, none⟩ = some (.int .u64 1)) (first | assumption | ((with_reducible refine HK.out _ ?_); (repeat (first | (with_reducible exact Below.refl _ _) | (with_reducible assumption) | (with_reducible apply bel_drew) | (with_reducible apply bel_alloc))); done) | go_keep) (first
    | (go_at_call 20; (with_reducible refine (LD _ _ ?_ ?_ ?_ ?_ ?_ ?_ ?_ ?_ ?_ ?_ ?_ ?_).mono ?_); (repeat (first | exact Below.refl _ _ | assumption | apply bel_drew | apply bel_alloc)); (focus (simp [go_sem]; done)); (focus (simp [go_sem]; done)); (focus (simp [go_sem]; done)); (focus (simp [go_sem]; done)); (focus (simp [go_sem]; done)); (focus (simp [go_sem]; done)); (focus (simp [go_sem]; done)); (focus (simp [go_sem]; done)); (focus (simp [go_sem]; done)); (focus (simp [go_sem]; done)); (focus (simp [go_sem]; done)); rintro e V ⟨A, n, c, rfl, hr, bv, bw⟩; have hcV := HK.out V bv; (try ((refine cutp (p := Row3 V (w3.heap.size)) ?_ (fun za => ?_)); (focus ((with_reducible refine Row3.kept bw ?_); (refine ⟨?_, ?_, ?_, ?_, ?_, ?_⟩ <;> (simp [go_sem]; done)))); obtain ⟨za0, za1, za2, za3, za4, za5⟩ := za)); (try ((refine cutp (p := Row3 V (w3.heap.size + 1)) ?_ (fun zb => ?_)); (focus ((with_reducible refine Row3.kept bw ?_); (refine ⟨?_, ?_, ?_, ?_, ?_, ?_⟩ <;> (simp [go_sem]; done)))); obtain ⟨zb0, zb1, zb2, zb3, zb4, zb5⟩ := zb)); (try ((refine cutp (p := Row3 V (w3.heap.size + 1 + 1)) ?_ (fun zc => ?_)); (focus ((with_reducible refine Row3.kept bw ?_); (refine ⟨?_, ?_, ?_, ?_, ?_, ?_⟩ <;> (simp [go_sem]; done)))); obtain ⟨zc0, zc1, zc2, zc3, zc4, zc5⟩ := zc)))
    | (go_at_call 20; (with_reducible refine (LE _ _ ?_ ?_ ?_ ?_ ?_ ?_ ?_ ?_ ?_ ?_ ?_ ?_).mono ?_); (repeat (first | exact Below.refl _ _ | assumption | apply bel_drew | apply bel_alloc)); (focus (simp [go_sem]; done)); (focus (simp [go_sem]; done)); (focus (simp [go_sem]; done)); (focus (simp [go_sem]; done)); (focus (simp [go_sem]; done)); (focus (simp [go_sem]; done)); (focus (simp [go_sem]; done)); (focus (simp [go_sem]; done)); (focus (simp [go_sem]; done)); (focus (simp [go_sem]; done)); (focus (simp [go_sem]; done)); rintro e V ⟨A, n, c, rfl, hr, bv, bw⟩; have hcV := HK.out V bv; (try ((refine cutp (p := Row3 V (w3.heap.size)) ?_ (fun za => ?_)); (focus ((with_reducible refine Row3.kept bw ?_); (refine ⟨?_, ?_, ?_, ?_, ?_, ?_⟩ <;> (simp [go_sem]; done)))); obtain ⟨za0, za1, za2, za3, za4, za5⟩ := za)); (try ((refine cutp (p := Row3 V (w3.heap.size + 1)) ?_ (fun zb => ?_)); (focus ((with_reducible refine Row3.kept bw ?_); (refine ⟨?_, ?_, ?_, ?_, ?_, ?_⟩ <;> (simp [go_sem]; done)))); obtain ⟨zb0, zb1, zb2, zb3, zb4, zb5⟩ := zb)); (try ((refine cutp (p := Row3 V (w3.heap.size + 1 + 1)) ?_ (fun zc => ?_)); (focus ((with_reducible refine Row3.kept bw ?_); (refine ⟨?_, ?_, ?_, ?_, ?_, ?_⟩ <;> (simp [go_sem]; done)))); obtain ⟨zc0, zc1, zc2, zc3, zc4, zc5⟩ := zc)))
    | (go_at_call 19; ((with_reducible refine (LS _ _ _ _ _ ?_ ?_ ?_ ?_ ?_ ?_ ?_ ?_).mono ?_) <;> first | ((show Below _ _ _); (repeat (first | (with_reducible exact Below.refl _ _) | (with_reducible assumption) | (with_reducible apply bel_drew) | (with_reducible apply bel_alloc))); done) | ((show DotsAt _ _ _ _ _ _); (with_reducible refine hr.up ?_); (repeat (first | (with_reducible exact Below.refl _ _) | (with_reducible assumption) | (with_reducible apply bel_drew) | (with_reducible apply bel_alloc))); done) | ((show World.cell? _ _ = some _); first | (with_reducible assumption) | (simp [go_sem]; done)) | skip); rintro e V2 ⟨rfl, bv2⟩; have hcV2 := HK.out V2 bv2))
  all_goals
    go_wp2
    go_ret
    exact ⟨rfl, HB.out.trans (bv2.mono HB.out.size)⟩
end Go.Proofs.Ytbaiiidkffafmaa.Ev
