/- Words and contracts that the proofs of this seat stand on, part 2 of 39. -/
import Derived.Test.YtgaegfddobpomaaGreatOrA
import Derived.Deep.RegionHeld3
import Derived.Laws.Cover1
import Derived.StillTailTactics

namespace Go.Proofs.YtgaegfddobpomaaGreat.Ev
open Go.ChangeShapes Go.WideShapes Go.ChangeAt Go.RowKit
set_option linter.unusedVariables false
set_option maxRecDepth 4000
theorem add_add (a : Addr) (m n : Nat) : (a.add m).add n = a.add (m + n) := Dt.add_add a m n
theorem block_add (a : Addr) (n : Nat) : (a.add n).block = a.block := Dt.block_add a n
theorem bel_drewN {B : Nat} {w W : World} (h : Below B w W) (m : Nat) : Below B w (W.drewN m) := h.trans ⟨rfl, rfl, rfl, Nat.le_refl _, fun _ _ => rfl⟩
theorem below_new (w : World) (o : Obj) : Below w.heap.size w (w.alloc o) := (Below.refl _ _).alloc (Nat.le_refl _) o
theorem below_new2 (w : World) (o1 o2 : Obj) : Below w.heap.size w ((w.alloc o1).alloc o2) := (below_new w o1).alloc (below_new w o1).size o2
theorem alloc_size (w : World) (o : Obj) : (w.alloc o).heap.size = w.heap.size + 1 := by simp
theorem ret_bool {a b : Bool} (h : a = b) : Ending.returned (.bool a) = .returned (.bool b) := by rw [h]
theorem take_more {α : Type} {l m : List α} {k : Nat} {x : α} (h : l.take k = m.take k) (h1 : l[k]? = some x) (h2 : m[k]? = some x) : l.take (k + 1) = m.take (k + 1) := by
 rw [List.take_add_one, List.take_add_one, h, h1, h2]
theorem ne_at {α : Type} {l m : List α} {k : Nat} {x y : α} (h1 : l[k]? = some x) (h2 : m[k]? = some y) (hn : x ≠ y) : l ≠ m := by
 intro e
 rw [e, h2] at h1
 exact hn (Option.some.inj h1).symm
theorem beq_nat {a b : Nat} (h : ¬ a = b) : ((a : Int) == (b : Int)) = false := by rw [beq_eq_false_iff_ne]; omega
theorem eq_texts (s t : ByteArray) : (s.toList == t.toList) = decide (s = t) := by
 rw [Bool.eq_iff_iff, beq_iff_eq, decide_eq_true_iff]
 constructor
 · intro h
   rw [ByteArray.toList_eq, ByteArray.toList_eq] at h
   have := congrArg Fd.ba h
   rwa [Fd.ba_list, Fd.ba_list] at this
 · intro h
   rw [h]
def Short (s : ByteArray) : Prop := s.size ≤ 140737488355328
structure DotsAt (w : World) (B : Nat) (A : Option Addr) (l : List Dt.Dot) (n c : Nat) : Prop where
 len : l.length = n
 nil : A = none → n = 0 ∧ c = 0
 cap : n ≤ c
 max : c ≤ 9223372036854775807
 wide : n ≤ 8796093022208
 dots : Dt.Dots w B A l
theorem DotsAt.below {w W : World} {B : Nat} {A : Option Addr} {l : List Dt.Dot} {n c : Nat} (h : DotsAt w B A l n c) (hb : Below B w W) : DotsAt W B A l n c := ⟨h.len, h.nil, h.cap, h.max, h.wide, h.dots.below hb⟩
theorem DotsAt.more {w : World} {B B' : Nat} {A : Option Addr} {l : List Dt.Dot} {n c : Nat} (h : DotsAt w B A l n c) (hB : B ≤ B') : DotsAt w B' A l n c := ⟨h.len, h.nil, h.cap, h.max, h.wide, h.dots.more hB⟩
theorem DotsAt.up {w W : World} {A : Option Addr} {l : List Dt.Dot} {n c : Nat} (h : DotsAt w w.heap.size A l n c) (hb : Below w.heap.size w W) : DotsAt W W.heap.size A l n c := (h.below hb).more hb.size
theorem DotsAt.none_ (w : World) (B : Nat) : DotsAt w B none [] 0 0 := ⟨rfl, fun _ => ⟨rfl, rfl⟩, Nat.le_refl _, by decide, by decide, Dt.Dots.none_ _ _ _⟩
structure Evt where
 dot : Dt.Dot
 kind : Nat
 cid : Nat
 fld : Nat
 txt : ByteArray
 kills : List Dt.Dot
noncomputable instance : DecidableEq Evt := fun a b => Classical.propDecidable (a = b)
structure EV where
 dev : Nat
 num : Nat
 kind : Nat
 cid : Nat
 fld : Nat
 txt : ByteArray
 adr : Option Addr
 len : Nat
 cap : Nat
abbrev EV.cells (p : EV) : List Value := [.int .u16 (p.dev : Int), .int .u64 (p.num : Int), .int .u8 (p.kind : Int), .int .u64 (p.cid : Int), .int .u8 (p.fld : Int), .string p.txt, .slice p.adr p.len p.cap]
abbrev EV.val (p : EV) : Value := .agg #[.int .u16 (p.dev : Int), .int .u64 (p.num : Int), .int .u8 (p.kind : Int), .int .u64 (p.cid : Int), .int .u8 (p.fld : Int), .string p.txt, .slice p.adr p.len p.cap]
abbrev EV.box (p : EV) : Obj := .cells #[.int .u16 (p.dev : Int), .int .u64 (p.num : Int), .int .u8 (p.kind : Int), .int .u64 (p.cid : Int), .int .u8 (p.fld : Int), .string p.txt, .slice p.adr p.len p.cap] 38
structure Fits (x : Evt) : Prop where
 dot : x.dot.1 < 65536 ∧ x.dot.2 < 18446744073709551616
 kind : x.kind < 256
 cid : x.cid < 18446744073709551616
 fld : x.fld < 256
 txt : Short x.txt
structure EventIs (w : World) (B : Nat) (p : EV) (x : Evt) : Prop where
 dev : p.dev = x.dot.1
 num : p.num = x.dot.2
 kind : p.kind = x.kind
 cid : p.cid = x.cid
 fld : p.fld = x.fld
 txt : p.txt = x.txt
 fits : Fits x
 kills : DotsAt w B p.adr x.kills p.len p.cap
theorem EventIs.below {w W : World} {B : Nat} {p : EV} {x : Evt} (h : EventIs w B p x) (hb : Below B w W) : EventIs W B p x := ⟨h.dev, h.num, h.kind, h.cid, h.fld, h.txt, h.fits, h.kills.below hb⟩
theorem EventIs.more {w : World} {B B' : Nat} {p : EV} {x : Evt} (h : EventIs w B p x) (hB : B ≤ B') : EventIs w B' p x := ⟨h.dev, h.num, h.kind, h.cid, h.fld, h.txt, h.fits, h.kills.more hB⟩
theorem EventIs.up {w W : World} {p : EV} {x : Evt} (h : EventIs w w.heap.size p x) (hb : Below w.heap.size w W) : EventIs W W.heap.size p x := (h.below hb).more hb.size
theorem EventIs.eq {w : World} {B : Nat} {p : EV} {x : Evt} (h : EventIs w B p x) : x = ⟨(p.dev, p.num), p.kind, p.cid, p.fld, p.txt, x.kills⟩ := by
 obtain ⟨⟨d, n⟩, k, c, f, t, l⟩ := x
 have h1 := h.dev
 have h2 := h.num
 have h3 := h.kind
 have h4 := h.cid
 have h5 := h.fld
 have h6 := h.txt
 simp only at h1 h2 h3 h4 h5 h6
 subst h1 h2 h3 h4 h5 h6
 rfl
def ev (ps : List EV) : List Value := ps.flatMap EV.cells
theorem ev_append (l m : List EV) : ev (l ++ m) = ev l ++ ev m := by unfold ev; rw [List.flatMap_append]
theorem ev_length (l : List EV) : (ev l).length = l.length * 7 := by
 induction l with
 | nil => rfl
 | cons r l ih => simp only [ev, List.flatMap_cons, List.length_append, List.length_cons, List.length_nil] at ih ⊢; omega
theorem ev_get {l : List EV} {k : Nat} {r : EV} (h : l[k]? = some r) (j : Nat) (hj : j < 7) : (ev l)[k * 7 + j]? = r.cells[j]? := by
 induction l generalizing k with
 | nil => simp at h
 | cons x l ih =>
   have e : ev (x :: l) = x.cells ++ ev l := rfl
   cases k with
   | zero =>
     obtain rfl : x = r := by simpa using h
     rw [e, Nat.zero_mul, Nat.zero_add, List.getElem?_append_left (by simpa using hj)]
   | succ k =>
     rw [e, List.getElem?_append_right (by simp; omega), show (k + 1) * 7 + j - x.cells.length = k * 7 + j by simp; omega]
     exact ih (by simpa using h)
theorem ev_one (l : List EV) : ∀ u ∈ ev l, u.oneCell' = true := by
 intro u hu
 obtain ⟨r, _, h⟩ := List.mem_flatMap.1 hu
 simp only [List.mem_cons, List.not_mem_nil, or_false] at h
 rcases h with rfl | rfl | rfl | rfl | rfl | rfl | rfl <;> rfl
def Match (w : World) (B : Nat) (ps : List EV) (l : List Evt) : Prop := ps.length = l.length ∧ ∀ (k : Nat) (p : EV) (x : Evt), ps[k]? = some p → l[k]? = some x → EventIs w B p x
theorem Match.below {w W : World} {B : Nat} {ps : List EV} {c : List Evt} (h : Match w B ps c) (hb : Below B w W) : Match W B ps c := ⟨h.1, fun k p x hp hx => (h.2 k p x hp hx).below hb⟩
theorem Match.more {w : World} {B B' : Nat} {ps : List EV} {c : List Evt} (h : Match w B ps c) (hB : B ≤ B') : Match w B' ps c := ⟨h.1, fun k p x hp hx => (h.2 k p x hp hx).more hB⟩
theorem Match.nil_ (w : World) (B : Nat) : Match w B [] [] := ⟨rfl, fun k p x hp => by simp at hp⟩
theorem Match.snoc {w : World} {B : Nat} {ps : List EV} {c : List Evt} {p : EV} {x : Evt} (h : Match w B ps c) (hp : EventIs w B p x) : Match w B (ps ++ [p]) (c ++ [x]) := by
 refine ⟨by simp [h.1], fun k q y hq hy => ?_⟩
 rcases Nat.lt_or_ge k ps.length with hk | hk
 · rw [List.getElem?_append_left hk] at hq
   rw [List.getElem?_append_left (by rw [← h.1]; exact hk)] at hy
   exact h.2 k q y hq hy
 · rw [List.getElem?_append_right hk] at hq
   rw [List.getElem?_append_right (by rw [← h.1]; exact hk)] at hy
   have hk2 : k - ps.length = 0 := by
     rcases Nat.eq_zero_or_pos (k - ps.length) with h0 | h0
     · exact h0
     · rw [List.getElem?_eq_none (by simp; omega)] at hq; cases hq
   rw [hk2] at hq
   rw [← h.1, hk2] at hy
   simp at hq hy
   subst hq hy
   exact hp
structure EventsAt (w : World) (B : Nat) (A : Option Addr) (l : List Evt) (n c : Nat) : Prop where
 len : l.length = n
 nil : A = none → n = 0 ∧ c = 0
 cap : n ≤ c
 max : c ≤ 9223372036854775807
 wide : n ≤ 2199023255552
 evts : ∃ ps, Dt.Lies w B A (ev ps) ∧ Match w B ps l
theorem EventsAt.below {w W : World} {B : Nat} {A : Option Addr} {c : List Evt} {n cp : Nat} (h : EventsAt w B A c n cp) (hb : Below B w W) : EventsAt W B A c n cp := by
 obtain ⟨ps, h1, h2⟩ := h.evts
 exact ⟨h.len, h.nil, h.cap, h.max, h.wide, ps, h1.below hb, h2.below hb⟩
theorem EventsAt.more {w : World} {B B' : Nat} {A : Option Addr} {c : List Evt} {n cp : Nat} (h : EventsAt w B A c n cp) (hB : B ≤ B') : EventsAt w B' A c n cp := by
 obtain ⟨ps, h1, h2⟩ := h.evts
 exact ⟨h.len, h.nil, h.cap, h.max, h.wide, ps, h1.more hB, h2.more hB⟩
theorem EventsAt.up {w W : World} {A : Option Addr} {l : List Evt} {n c : Nat} (h : EventsAt w w.heap.size A l n c) (hb : Below w.heap.size w W) : EventsAt W W.heap.size A l n c := (h.below hb).more hb.size
theorem EventsAt.none_ (w : World) (B : Nat) : EventsAt w B none [] 0 0 := ⟨rfl, fun _ => ⟨rfl, rfl⟩, Nat.le_refl _, by decide, by decide, [], Dt.Lies.none_ _ _ _, Match.nil_ _ _⟩
structure CellsAt (w : World) (a : Addr) (p : EV) : Prop where
 c0 : w.cell? a = some (.int .u16 (p.dev : Int))
 c1 : w.cell? ⟨a.block, a.off + 1, none⟩ = some (.int .u64 (p.num : Int))
 c2 : w.cell? ⟨a.block, a.off + 2, none⟩ = some (.int .u8 (p.kind : Int))
 c3 : w.cell? ⟨a.block, a.off + 3, none⟩ = some (.int .u64 (p.cid : Int))
 c4 : w.cell? ⟨a.block, a.off + 4, none⟩ = some (.int .u8 (p.fld : Int))
 c5 : w.cell? ⟨a.block, a.off + 5, none⟩ = some (.string p.txt)
 c6 : w.cell? ⟨a.block, a.off + 6, none⟩ = some (.slice p.adr p.len p.cap)
theorem stays {W V : World} {a : Addr} {v : Value} (hb : Below W.heap.size W V) (h : W.cell? a = some v) : V.cell? a = some v := (hb.cell (World.block_lt_of_cell? W _ h)).trans h
theorem CellsAt.kept {w W : World} {a : Addr} {p : EV} (h : CellsAt w a p) (hb : Below w.heap.size w W) : CellsAt W a p := ⟨stays hb h.c0, stays hb h.c1, stays hb h.c2, stays hb h.c3, stays hb h.c4, stays hb h.c5, stays hb h.c6⟩
theorem add_k (a : Addr) (n k : Nat) : (⟨(a.add n).block, (a.add n).off + k, none⟩ : Addr) = a.add (n + k) ∨ k = 0 := by
 by_cases hk : k = 0
 · exact .inr hk
 · left
   rw [← add_add]
   show _ = Addr.add (a.add n) k
   rw [show (a.add n).add k = if k = 0 then a.add n else ⟨(a.add n).block, (a.add n).off + k, none⟩ from rfl, if_neg hk]
theorem add_eq (a : Addr) (n k : Nat) (hk : 0 < k) : (⟨(a.add n).block, (a.add n).off + k, none⟩ : Addr) = a.add (n + k) := by
 rcases add_k a n k with h | h
 · exact h
 · omega
theorem EventsAt.at_ {w : World} {B : Nat} {A : Option Addr} {l : List Evt} {n cp : Nat} (h : EventsAt w B A l n cp) {k : Nat} (hk : k < n) :
   ∃ (ad : Addr) (p : EV) (x : Evt), A = some ad ∧ ad.block < B ∧ l[k]? = some x ∧ EventIs w B p x ∧ CellsAt w (ad.add (k * 7)) p := by
 obtain ⟨ps, h1, h2⟩ := h.evts
 have hkc : k < l.length := by rw [h.len]; exact hk
 have hkp : k < ps.length := by rw [h2.1]; exact hkc
 have hx := List.getElem?_eq_getElem hkc
 have hp := List.getElem?_eq_getElem hkp
 obtain ⟨ad, e, hB, hc⟩ := h1 (by rw [ev_length]; omega)
 have g := fun j hj => ev_get hp j hj
 refine ⟨ad, ps[k], l[k], e, hB, hx, h2.2 k _ _ hp hx, ⟨hc _ _ (g 0 (by omega)), ?_, ?_, ?_, ?_, ?_, ?_⟩⟩
 · rw [add_eq _ _ _ (by omega)]; exact hc _ _ (g 1 (by omega))
 · rw [add_eq _ _ _ (by omega)]; exact hc _ _ (g 2 (by omega))
 · rw [add_eq _ _ _ (by omega)]; exact hc _ _ (g 3 (by omega))
 · rw [add_eq _ _ _ (by omega)]; exact hc _ _ (g 4 (by omega))
 · rw [add_eq _ _ _ (by omega)]; exact hc _ _ (g 5 (by omega))
 · rw [add_eq _ _ _ (by omega)]; exact hc _ _ (g 6 (by omega))
theorem box_new (w : World) (p : EV) (V : World) (hb : Below (w.heap.size + 1) (w.alloc p.box) V) : CellsAt V ⟨w.heap.size, 0, none⟩ p :=
 ⟨(hb.cell (Nat.lt_succ_self _)).trans (by rw [World.cell?_alloc_mark]; rfl), (hb.cell (p := ⟨w.heap.size, 1, none⟩) (Nat.lt_succ_self _)).trans (by rw [World.cell?_alloc_mark]; rfl), (hb.cell (p := ⟨w.heap.size, 2, none⟩) (Nat.lt_succ_self _)).trans (by rw [World.cell?_alloc_mark]; rfl), (hb.cell (p := ⟨w.heap.size, 3, none⟩) (Nat.lt_succ_self _)).trans (by rw [World.cell?_alloc_mark]; rfl), (hb.cell (p := ⟨w.heap.size, 4, none⟩) (Nat.lt_succ_self _)).trans (by rw [World.cell?_alloc_mark]; rfl), (hb.cell (p := ⟨w.heap.size, 5, none⟩) (Nat.lt_succ_self _)).trans (by rw [World.cell?_alloc_mark]; rfl), (hb.cell (p := ⟨w.heap.size, 6, none⟩) (Nat.lt_succ_self _)).trans (by rw [World.cell?_alloc_mark]; rfl)⟩
theorem CellsAt.all {w : World} {g : Nat} {p : EV} (h : CellsAt w ⟨g, 0, none⟩ p) : w.cell? ⟨g, 0, none⟩ = some (.int .u16 (p.dev : Int)) ∧ w.cell? ⟨g, 1, none⟩ = some (.int .u64 (p.num : Int)) ∧ w.cell? ⟨g, 2, none⟩ = some (.int .u8 (p.kind : Int)) ∧ w.cell? ⟨g, 3, none⟩ = some (.int .u64 (p.cid : Int)) ∧ w.cell? ⟨g, 4, none⟩ = some (.int .u8 (p.fld : Int)) ∧ w.cell? ⟨g, 5, none⟩ = some (.string p.txt) ∧ w.cell? ⟨g, 6, none⟩ = some (.slice p.adr p.len p.cap) := by
 have h1 := h.c1
 have h2 := h.c2
 have h3 := h.c3
 have h4 := h.c4
 have h5 := h.c5
 have h6 := h.c6
 simp only [Nat.zero_add] at h1 h2 h3 h4 h5 h6
 exact ⟨h.c0, h1, h2, h3, h4, h5, h6⟩
theorem box_last (w : World) (o : Obj) (p : EV) : CellsAt ((w.alloc o).alloc p.box) ⟨w.heap.size + 1, 0, none⟩ p := by
 have h := box_new (w.alloc o) p _ (Below.refl _ _)
 rw [alloc_size] at h
 exact h
theorem box_first (w : World) (p : EV) (o : Obj) : CellsAt ((w.alloc p.box).alloc o) ⟨w.heap.size, 0, none⟩ p :=
 box_new w p _ (by have := below_new (w.alloc p.box) o; rw [alloc_size] at this; exact this)
end Go.Proofs.YtgaegfddobpomaaGreat.Ev

namespace Go.Proofs.YtgaegfddobpomaaGreat.Ev
open Go.ChangeShapes Go.WideShapes Go.ChangeAt Go.RowKit
set_option linter.unusedVariables false
set_option maxRecDepth 4000
set_option maxHeartbeats 8000000 in
theorem rsame_any (w : World) (p q : EV) (x y : Evt) (h1 : EventIs w w.heap.size p x) (h2 : EventIs w w.heap.size q y) :
   Calls Tryz.prog 14 #[p.val, q.val] w fun e w' => e = .returned (.bool (decide (x = y))) ∧ Below w.heap.size w w' := by
 have hx := h1.eq
 have hy := h2.eq
 have HB := Lib.hid (below_new2 w p.box q.box)
 have CE := fun (_ : Unit) => Dt.rsame_any ((w.alloc p.box).alloc q.box) w.heap.size w.heap.size p.adr q.adr x.kills y.kills p.len q.len p.cap q.cap h1.kills.len h2.kills.len (h1.kills.dots.below HB.out) (h2.kills.dots.below HB.out) (Nat.le_trans h1.kills.wide (by decide))
 generalize x.kills = xl at hx CE
 generalize y.kills = yl at hy CE
 subst hx hy
 clear h1 h2
 obtain ⟨p1, p2, p3, p4, p5, p6, pA, pn, pc⟩ := p
 obtain ⟨q1, q2, q3, q4, q5, q6, qA, qn, qc⟩ := q
 have hb1 := box_first w ⟨p1, p2, p3, p4, p5, p6, pA, pn, pc⟩ (EV.box ⟨q1, q2, q3, q4, q5, q6, qA, qn, qc⟩)
 have hb2 := box_last w (EV.box ⟨p1, p2, p3, p4, p5, p6, pA, pn, pc⟩) ⟨q1, q2, q3, q4, q5, q6, qA, qn, qc⟩
 obtain ⟨a0, a1, a2, a3, a4, a5, a6⟩ := hb1
 obtain ⟨b0, b1, b2, b3, b4, b5, b6⟩ := hb2
 simp only [EV.val]
 simp only [EV.box, Nat.zero_add] at HB CE a0 a1 a2 a3 a4 a5 a6 b0 b1 b2 b3 b4 b5 b6
 have hs := eq_texts p6 q6
 by_cases e1 : p1 = q1
 · subst e1
   by_cases e2 : p2 = q2
   · subst e2
     by_cases e3 : p3 = q3
     · subst e3
       by_cases e4 : p4 = q4
       · subst e4
         by_cases e5 : p5 = q5
         · subst e5
           by_cases e6 : p6 = q6
           · subst e6
             have hd : Hid (decide ((⟨(p1, p2), p3, p4, p5, p6, xl⟩ : Evt) = ⟨(p1, p2), p3, p4, p5, p6, yl⟩) = decide (xl = yl)) := Lib.hid (by rw [Bool.eq_iff_iff]; simp)
             rw [hd.out]
             rw [decide_eq_true rfl] at hs
             clear hd
             generalize decide (xl = yl) = ans at CE ⊢
             go_enter Tryz.func14, Tryz.ntmps14
             go_wp2_with fail
             refine (CE ()).mono ?_
             rintro e w' ⟨rfl, m, rfl⟩
             go_wp2
             go_ret
             exact ⟨rfl, bel_drewN HB.out _⟩
           · have hd : Hid (decide ((⟨(p1, p2), p3, p4, p5, p6, xl⟩ : Evt) = ⟨(p1, p2), p3, p4, p5, q6, yl⟩) = false) := Lib.hid (decide_eq_false (fun e => e6 (by injection e)))
             rw [hd.out]
             rw [decide_eq_false e6] at hs
             clear hd e6 CE
             go_enter Tryz.func14, Tryz.ntmps14
             go_wp2
             go_ret
             exact ⟨rfl, HB.out⟩
         · have hd : Hid (decide ((⟨(p1, p2), p3, p4, p5, p6, xl⟩ : Evt) = ⟨(p1, p2), p3, p4, q5, q6, yl⟩) = false) := Lib.hid (decide_eq_false (fun e => e5 (by injection e)))
           have hb := beq_nat e5
           rw [hd.out]
           clear hd e5 CE hs
           go_enter Tryz.func14, Tryz.ntmps14
           go_wp2
           go_ret
           exact ⟨rfl, HB.out⟩
       · have hd : Hid (decide ((⟨(p1, p2), p3, p4, p5, p6, xl⟩ : Evt) = ⟨(p1, p2), p3, q4, q5, q6, yl⟩) = false) := Lib.hid (decide_eq_false (fun e => e4 (by injection e)))
         have hb := beq_nat e4
         rw [hd.out]
         clear hd e4 CE hs
         go_enter Tryz.func14, Tryz.ntmps14
         go_wp2
         go_ret
         exact ⟨rfl, HB.out⟩
     · have hd : Hid (decide ((⟨(p1, p2), p3, p4, p5, p6, xl⟩ : Evt) = ⟨(p1, p2), q3, q4, q5, q6, yl⟩) = false) := Lib.hid (decide_eq_false (fun e => e3 (by injection e)))
       have hb := beq_nat e3
       rw [hd.out]
       clear hd e3 CE hs
       go_enter Tryz.func14, Tryz.ntmps14
       go_wp2
       go_ret
       exact ⟨rfl, HB.out⟩
   · have hd : Hid (decide ((⟨(p1, p2), p3, p4, p5, p6, xl⟩ : Evt) = ⟨(p1, q2), q3, q4, q5, q6, yl⟩) = false) := Lib.hid (decide_eq_false (fun e => e2 (by injection e with e _; injection e)))
     have hb := beq_nat e2
     rw [hd.out]
     clear hd e2 CE hs
     go_enter Tryz.func14, Tryz.ntmps14
     go_wp2
     go_ret
     exact ⟨rfl, HB.out⟩
 · have hd : Hid (decide ((⟨(p1, p2), p3, p4, p5, p6, xl⟩ : Evt) = ⟨(q1, q2), q3, q4, q5, q6, yl⟩) = false) := Lib.hid (decide_eq_false (fun e => e1 (by injection e with e _; injection e)))
   have hb := beq_nat e1
   rw [hd.out]
   clear hd e1 CE hs
   go_enter Tryz.func14, Tryz.ntmps14
   go_wp2
   go_ret
   exact ⟨rfl, HB.out⟩
set_option maxHeartbeats 8000000 in
theorem rall_any (w : World) (A1 A2 : Option Addr) (l1 l2 : List Evt) (n1 n2 c1 c2 : Nat) (h1 : EventsAt w w.heap.size A1 l1 n1 c1) (h2 : EventsAt w w.heap.size A2 l2 n2 c2) :
   Calls Tryz.prog 22 #[.slice A1 n1 c1, .slice A2 n2 c2] w fun e w' => e = .returned (.bool (decide (l1 = l2))) ∧ Below w.heap.size w w' := by
 have H1 := Lib.hid h1
 have H2 := Lib.hid h2
 have h63 : n1 ≤ 2199023255552 := h1.wide
 clear h1 h2
 by_cases hn : n1 = n2
 · subst hn
   go_enter Tryz.func22, Tryz.ntmps22
   go_wp2
   go_loopw [5] (fun i wr => ∃ k : Nat, k ≤ n1 ∧ i = .int .i64 (k : Int) ∧ l1.take k = l2.take k ∧ Below w.heap.size w wr) (fun i _ => n1 - (intOf i).toNat)
   case atStart => exact ⟨0, Nat.zero_le _, rfl, by simp, Below.refl _ _⟩
   case round =>
     obtain ⟨k, hk, rfl, ht, hw⟩ := hrel
     have HT := Lib.hid ht
     have HW := Lib.hid hw
     have HA1 : Hid (EventsAt wr wr.heap.size A1 l1 n1 c1) := Lib.hid (H1.out.up hw)
     have HA2 : Hid (EventsAt wr wr.heap.size A2 l2 n1 c2) := Lib.hid (H2.out.up hw)
     clear ht hw
     by_cases hlt : k < n1
     · obtain ⟨a1, p, x, rfl, _, hlx, hp, cp⟩ := HA1.out.at_ hlt
       obtain ⟨a2, q, y, rfl, _, hly, hq, cq⟩ := HA2.out.at_ hlt
       have CT := rsame_any wr.drew p q x y (hp.up (Below.refl _ _).drew) (hq.up (Below.refl _ _).drew)
       simp only [EV.val] at CT
       obtain ⟨x0, x1, x2, x3, x4, x5, x6⟩ := cp
       obtain ⟨y0, y1, y2, y3, y4, y5, y6⟩ := cq
       clear hp hq
       by_cases hxy : x = y
       · have HS := Lib.hid (take_more HT.out hlx (by rw [hly, hxy]))
         rw [decide_eq_true hxy] at CT
         clear hlx hly hxy
         go_wp2_with fail
         go_still_tail 8, (by kernel_rfl)
         go_wp2_with fail
         refine CT.mono ?_
         rintro e w2 ⟨rfl, hb⟩
         have HW2 : Hid (Below w.heap.size w w2) := Lib.hid (HW.out.trans (((Below.refl _ wr).drew.trans hb).mono HW.out.size))
         clear hb
         go_wp2
         go_roundw
         case rel => exact ⟨k + 1, by omega, by go_num, HS.out, HW2.out⟩
         case measure => simp [intOf]; omega
       · have hd : Hid (decide (l1 = l2) = false) := decide_eq_false (ne_at hlx hly hxy)
         rw [decide_eq_false hxy] at CT
         clear hlx hly hxy
         go_wp2_with fail
         go_still_tail 8, (by kernel_rfl)
         go_wp2_with fail
         refine CT.mono ?_
         rintro e w2 ⟨rfl, hb⟩
         have HW2 : Hid (Below w.heap.size w w2) := Lib.hid (HW.out.trans (((Below.refl _ wr).drew.trans hb).mono HW.out.size))
         clear hb
         go_wp2
         go_ret
         exact ⟨ret_bool hd.out.symm, HW2.out⟩
     · obtain rfl : k = n1 := by omega
       have hd : Hid (l1 = l2) := by
         have h := HT.out
         rw [List.take_of_length_le (by rw [H1.out.len]; exact Nat.le_refl _), List.take_of_length_le (by rw [H2.out.len]; exact Nat.le_refl _)] at h
         exact h
       go_wp2
       go_ret
       exact ⟨ret_bool (by rw [decide_eq_true hd.out]), HW.out⟩
 · have hd : Hid (decide (l1 = l2) = false) := decide_eq_false (fun e => hn (by rw [← H1.out.len, ← H2.out.len, e]))
   have hne : ((n1 : Int) != (n2 : Int)) = true := by rw [bne_iff_ne]; omega
   go_enter Tryz.func22, Tryz.ntmps22
   go_wp2
   go_ret
   exact ⟨ret_bool hd.out.symm, Below.refl _ _⟩
def fewE (x : Evt) : Bool := decide (x.kills.length ≤ 300) && decide (x.txt.size ≤ 200)
def fewB (l : List Evt) (m : Nat) : Bool := decide (l.length ≤ m) && l.all fewE
def AllFew (l : List Evt) (k : Nat) : Prop := (l.take k).all fewE = true
theorem few_next {l : List Evt} {k : Nat} {x : Evt} (h : AllFew l k) (hx : l[k]? = some x) (hf : fewE x = true) : AllFew l (k + 1) := by
 unfold AllFew at *
 rw [List.take_add_one, hx, List.all_append, h]
 simp [hf]
theorem few_bad {l : List Evt} {k : Nat} {x : Evt} (m : Nat) (hx : l[k]? = some x) (hf : fewE x = false) : fewB l m = false := by
 unfold fewB
 rw [Bool.and_eq_false_iff]
 right
 rw [List.all_eq_false]
 exact ⟨x, List.mem_of_getElem? hx, by rw [hf]; simp⟩
set_option maxHeartbeats 8000000 in
theorem rfew_any (w : World) (A : Option Addr) (l : List Evt) (n c m : Nat) (hm : m ≤ 2147483647) (h : EventsAt w w.heap.size A l n c) :
   Calls Tryz.prog 26 #[.slice A n c, .int .i64 (m : Int)] w fun e w' => e = .returned (.bool (fewB l m)) ∧ w' = w := by
 have H := Lib.hid h
 have h63 : n ≤ 2199023255552 := h.wide
 clear h
 by_cases hn : n ≤ m
 · have hd1 : decide ((m : Int) < (n : Int)) = false := decide_eq_false (by omega)
   go_enter Tryz.func26, Tryz.ntmps26
   go_wp2
   go_loop [5] (fun i => ∃ k : Nat, k ≤ n ∧ i = .int .i64 (k : Int) ∧ AllFew l k) (fun i => n - (intOf i).toNat)
   case atStart => exact ⟨0, Nat.zero_le _, rfl, by simp [AllFew]⟩
   case round =>
     obtain ⟨k, hk, rfl, ht⟩ := hrel
     have HT := Lib.hid ht
     clear ht
     by_cases hlt : k < n
     · obtain ⟨ad, p, x, rfl, _, hlx, hp, cp⟩ := H.out.at_ hlt
       obtain ⟨x0, x1, x2, x3, x4, x5, x6⟩ := cp
       have hkl : x.kills.length = p.len := hp.kills.len
       have hkw : p.len ≤ 8796093022208 := hp.kills.wide
       have htx : p.txt = x.txt := hp.txt
       have hsh : p.txt.size ≤ 140737488355328 := by rw [htx]; exact hp.fits.txt
       have HE : Hid (fewE x = (decide (p.len ≤ 300) && decide (p.txt.size ≤ 200))) := Lib.hid (by unfold fewE; rw [hkl, htx])
       clear hp hkl htx
       by_cases h3 : p.len ≤ 300
       · by_cases h4 : p.txt.size ≤ 200
         · have HS := Lib.hid (few_next HT.out hlx (by rw [HE.out, decide_eq_true h3, decide_eq_true h4]; rfl))
           clear hlx HE
           go_wp2
           go_round
           case rel => exact ⟨k + 1, by omega, by go_num, HS.out⟩
           case measure => simp [intOf]; omega
         · have HS := Lib.hid (few_bad m hlx (by rw [HE.out, decide_eq_false h4]; simp))
           have h5 : 200 < p.txt.size := by omega
           clear hlx HE h4
           go_wp2
           go_ret
           exact ⟨ret_bool HS.out.symm, rfl⟩
       · have HS := Lib.hid (few_bad m hlx (by rw [HE.out, decide_eq_false h3]; rfl))
         have h5 : 300 < p.len := by omega
         clear hlx HE h3
         go_wp2
         go_ret
         exact ⟨ret_bool HS.out.symm, rfl⟩
     · obtain rfl : k = n := by omega
       have HS : Hid (fewB l m = true) := Lib.hid (by
         have h := HT.out
         unfold AllFew at h
         rw [List.take_of_length_le (by rw [H.out.len]; exact Nat.le_refl _)] at h
         unfold fewB
         rw [h, decide_eq_true (by rw [H.out.len]; exact hn)]; rfl)
       go_wp2
       go_ret
       exact ⟨ret_bool HS.out.symm, rfl⟩
 · have hd1 : decide ((m : Int) < (n : Int)) = true := decide_eq_true (by omega)
   have HS : Hid (fewB l m = false) := Lib.hid (by unfold fewB; rw [decide_eq_false (by rw [H.out.len]; exact hn)]; rfl)
   go_enter Tryz.func26, Tryz.ntmps26
   go_wp2
   go_ret
   exact ⟨ret_bool HS.out.symm, rfl⟩
end Go.Proofs.YtgaegfddobpomaaGreat.Ev
