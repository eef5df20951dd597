/- Words and contracts that the proofs of this seat stand on, part 7 of 28. -/
import Derived.Test.YtgaegfddobpomaaGreatFrC
import Derived.Test.YtgaegfddobpomaaGreatFrA
import Derived.Laws.BitsAllLaws
import Derived.WalkSmall
import Derived.Test.YtgaegfddobpomaaGreatFrB
import Derived.Lib.SlicesCompact
import Derived.Lib.SliceRun

namespace Go.Proofs.YtgaegfddobpomaaGreat.Ev
open Go.ChangeShapes Go.WideShapes Go.ChangeAt Go.RowKit
set_option linter.unusedVariables false
set_option maxRecDepth 4000
def Free (w : World) (B : Nat) (A : Option Addr) (n : Nat) : Prop := ∀ j, j < n → ∃ ad : Addr, A = some ad ∧ B ≤ ad.block ∧ w.frozen? (ad.add (j * 2)) = false ∧ w.frozen? (ad.add (j * 2 + 1)) = false
def FreeKills (w : World) (B : Nat) (A : Option Addr) (n : Nat) : Prop :=
 ∀ k, k < n → ∃ (ad : Addr) (p : EV), A = some ad ∧ B ≤ ad.block ∧ w.cell? (ad.add (k * 7 + 6)) = some (.slice p.adr p.len p.cap) ∧ Free w B p.adr p.len ∧ ∀ a2, p.adr = some a2 → 0 < p.len → a2.block ≠ ad.block
def OwnPost (w : World) (x : Evt) (e : Ending) (w' : World) : Prop := ∃ q : EV, e = .returned q.val ∧ EventIs w' w'.heap.size q x ∧ Free w' w.heap.size q.adr q.len ∧ Below w.heap.size w w'
def OwnsPost (w : World) (l : List Evt) (e : Ending) (w' : World) : Prop := ∃ A n c, e = .returned (.slice A n c) ∧ EventsAt w' w'.heap.size A l n c ∧ FreeKills w' w.heap.size A n ∧ Below w.heap.size w w'
def OwnDots (w : World) (l : List Dt.Dot) (e : Ending) (w' : World) : Prop := ∃ A n c, e = .returned (.slice A n c) ∧ DotsAt w' w'.heap.size A l n c ∧ Free w' w.heap.size A n ∧ Below w.heap.size w w'
def manyE (l : List Evt) : Nat := (l.map fun x => x.kills.length + 1).sum
structure PEvent : Prop where
 good : ∀ (w : World) (p : EV) (x : Evt), EventIs w w.heap.size p x → Calls Tryz.prog 45 #[p.val] w fun e w' => e = .returned (.bool (goodE x)) ∧ Below w.heap.size w w'
 same : ∀ (w : World) (p q : EV) (x y : Evt), EventIs w w.heap.size p x → EventIs w w.heap.size q y → Calls Tryz.prog 104 #[p.val, q.val] w fun e w' => e = .returned (.bool (decide (x = y))) ∧ Below w.heap.size w w'
 all : ∀ (w : World) (A1 A2 : Option Addr) (l1 l2 : List Evt) (n1 n2 c1 c2 : Nat), EventsAt w w.heap.size A1 l1 n1 c1 → EventsAt w w.heap.size A2 l2 n2 c2 → Calls Tryz.prog 60 #[.slice A1 n1 c1, .slice A2 n2 c2] w fun e w' => e = .returned (.bool (decide (l1 = l2))) ∧ Below w.heap.size w w'
 copy : ∀ (w : World) (p : EV) (x : Evt), EventIs w w.heap.size p x → Calls Tryz.prog 94 #[p.val] w (OwnPost w x)
 sort : ∀ (w : World) (A : Option Addr) (l : List Evt) (n c : Nat), EventsAt w w.heap.size A l n c → n ≤ 1024 → Calls Tryz.prog 63 #[.slice A n c] w (OwnsPost w (sortE l))
 dots : ∀ (w : World) (A : Option Addr) (l : List Evt) (n c : Nat), EventsAt w w.heap.size A l n c → n ≤ 1024 → manyE l ≤ 8796093022208 → Calls Tryz.prog 48 #[.slice A n c] w (OwnDots w (dotsE l))
def worksE : Evt := ⟨(2, 1), 1, 0, 0, ⟨#[]⟩, [(1, 4), (1, 9)]⟩
structure Row3 (W : World) (g : Nat) : Prop where
 c0 : W.cell? ⟨g, 0, none⟩ = some (.int .u16 1)
 c1 : W.cell? ⟨g, 1, none⟩ = some (.int .u64 4)
 c2 : W.cell? ⟨g, 2, none⟩ = some (.int .u16 1)
 c3 : W.cell? ⟨g, 3, none⟩ = some (.int .u64 9)
 c4 : W.cell? ⟨g, 4, none⟩ = some (.int .u16 2)
 c5 : W.cell? ⟨g, 5, none⟩ = some (.int .u64 1)
end Go.Proofs.YtgaegfddobpomaaGreat.Ev

namespace Go.Proofs.YtgaegfddobpomaaGreat.Dt
open Go.ChangeShapes Go.WideShapes Go.ChangeAt Go.RowKit
set_option linter.unusedVariables false
theorem below_new2 (w : World) (o1 o2 : Obj) : Below w.heap.size w ((w.alloc o1).alloc o2) := (below_new w o1).alloc (below_new w o1).size o2
def FitD (d : Dot) : Prop := d.1 < 65536 ∧ d.2 < 18446744073709551616
theorem pgood_any (w : World) (a n : Nat) :
   Calls Tryz.prog 87 #[.agg #[.int .u16 (a : Int), .int .u64 (n : Int)]] w fun e w' => e = .returned (.bool (mayD (a, n))) ∧ Below w.heap.size w w' := by
 have HB : Hid (Below w.heap.size w (w.alloc (.cells #[.int .u16 (a : Int), .int .u64 (n : Int)] 35))) := below_new w _
 by_cases c1 : 1 ≤ a
 · have d1 : ((a : Int) != 0) = true := by rw [bne_iff_ne]; omega
   by_cases c2 : 1 ≤ n
   · have d2 : ((n : Int) != 0) = true := by rw [bne_iff_ne]; omega
     have hd : mayD (a, n) = decide ((n : Int) ≤ 281474976710655) := decide_eq_decide.2 ⟨fun h => by have := h.2.2; simp at this; omega, fun h => ⟨c1, c2, by simp; omega⟩⟩
     rw [hd]
     clear hd
     go_enter Tryz.func87, Tryz.ntmps87
     go_wp2
     go_ret
     exact ⟨rfl, HB.out⟩
   · have hd : mayD (a, n) = false := decide_eq_false (fun h => c2 h.2.1)
     have d2 : ((n : Int) != 0) = false := by rw [bne_eq_false_iff_eq]; omega
     rw [hd]
     clear hd
     go_enter Tryz.func87, Tryz.ntmps87
     go_wp2
     go_ret
     exact ⟨rfl, HB.out⟩
 · have hd : mayD (a, n) = false := decide_eq_false (fun h => c1 h.1)
   have d1 : ((a : Int) != 0) = false := by rw [bne_eq_false_iff_eq]; omega
   rw [hd]
   clear hd
   go_enter Tryz.func87, Tryz.ntmps87
   go_wp2
   go_ret
   exact ⟨rfl, HB.out⟩
def two (w : World) (a b : Dot) : World := (w.alloc (.cells #[.int .u16 (a.1 : Int), .int .u64 (a.2 : Int)] 35)).alloc (.cells #[.int .u16 (b.1 : Int), .int .u64 (b.2 : Int)] 35)
theorem pahead_two (w : World) (a b : Dot) :
   Calls Tryz.prog 147 #[.agg #[.int .u16 (a.1 : Int), .int .u64 (a.2 : Int)], .agg #[.int .u16 (b.1 : Int), .int .u64 (b.2 : Int)]] w fun e w' => e = .returned (.bool (aheadD a b)) ∧ w' = two w a b := by
 obtain ⟨a1, a2⟩ := a
 obtain ⟨b1, b2⟩ := b
 by_cases h1 : a1 = b1
 · subst h1
   have hd : aheadD (a1, a2) (a1, b2) = decide (a2 < b2) := decide_eq_decide.2 ⟨fun h => by simp at h; omega, fun h => .inr ⟨rfl, by simp; omega⟩⟩
   rw [hd]
   clear hd
   go_enter Tryz.func147, Tryz.ntmps147
   go_wp2
   go_ret
   exact ⟨rfl, rfl⟩
 · have e1 : ((a1 : Int) != (b1 : Int)) = true := by rw [bne_iff_ne]; omega
   have hd : aheadD (a1, a2) (b1, b2) = decide (a1 < b1) := decide_eq_decide.2 ⟨fun h => by simp at h; omega, fun h => .inl (by simp; omega)⟩
   rw [hd]
   clear hd
   go_enter Tryz.func147, Tryz.ntmps147
   go_wp2
   go_ret
   exact ⟨rfl, rfl⟩
theorem pahead_any (w : World) (a b : Dot) :
   Calls Tryz.prog 147 #[.agg #[.int .u16 (a.1 : Int), .int .u64 (a.2 : Int)], .agg #[.int .u16 (b.1 : Int), .int .u64 (b.2 : Int)]] w fun e w' => e = .returned (.bool (aheadD a b)) ∧ Below w.heap.size w w' :=
 (pahead_two w a b).mono fun _ _ ⟨h1, h2⟩ => ⟨h1, by rw [h2]; exact below_new2 w _ _⟩
def Left (w : World) (a b : Dot) (w' : World) : Prop := w' = two w a b ∨ w' = two (two w a b) a b
theorem pcmp_left (w : World) (a b : Dot) :
   Calls Tryz.prog 134 #[.agg #[.int .u16 (a.1 : Int), .int .u64 (a.2 : Int)], .agg #[.int .u16 (b.1 : Int), .int .u64 (b.2 : Int)]] w fun e w' => e = .returned (.int .i64 (cmpD a b)) ∧ Left w a b w' := by
 have CA := fun W => pahead_two W a b
 obtain ⟨a1, a2⟩ := a
 obtain ⟨b1, b2⟩ := b
 by_cases h : a1 = b1 ∧ a2 = b2
 · obtain ⟨rfl, rfl⟩ := h
   clear CA
   rw [cmp_same]
   go_enter Tryz.func134, Tryz.ntmps134
   go_wp2
   go_ret
   exact ⟨rfl, .inl rfl⟩
 · have hc : cmpD (a1, a2) (b1, b2) = if aheadD (a1, a2) (b1, b2) = true then -1 else 1 := if_neg (fun e => h (by cases e; exact ⟨rfl, rfl⟩))
   rw [hc]
   clear hc
   have hne : ((a1 : Int) == (b1 : Int)) = false ∨ (a1 = b1 ∧ ((a2 : Int) == (b2 : Int)) = false) := by
     by_cases e : a1 = b1
     · refine .inr ⟨by omega, ?_⟩; rw [beq_eq_false_iff_ne]; omega
     · refine .inl ?_; rw [beq_eq_false_iff_ne]; omega
   clear h
   rcases hne with q | ⟨rfl, q⟩
   all_goals
     generalize aheadD _ _ = ah at CA ⊢
     cases ah
     all_goals
       go_enter Tryz.func134, Tryz.ntmps134
       go_wp2_with fail
       refine (CA _).mono ?_
       rintro e w1 ⟨rfl, rfl⟩
       go_wp2
       go_ret
       exact ⟨rfl, .inr rfl⟩
theorem low_any (v : Int) (w : World) (h0 : 0 ≤ v) (h1 : v < 18446744073709551616) :
   Calls Tryz.prog 155 #[.int .u64 v] w fun e w' => e = .returned (.int .u64 (v % 281474976710656)) ∧ w' = w := by
 go_enter Tryz.func155, Tryz.ntmps155
 go_wp2
 go_ret
 exact ⟨ret_int (by rw [IntKind.wrap_u64]; omega), rfl⟩
theorem ssplit_any (v : Int) (w : World) (h0 : 0 ≤ v) (h1 : v < 18446744073709551616) :
   Calls Tryz.prog 123 #[.int .u64 v] w fun e w' => e = .returned (.tuple #[.int .u16 (v / 281474976710656), .int .u64 (v % 281474976710656)]) ∧ w' = w := by
 go_enter Tryz.func123, Tryz.ntmps123
 go_wp2_with (go_at_call 155; refine (low_any _ _ (by omega) (by omega)).mono ?_; rintro e w' ⟨rfl, rfl⟩)
 go_ret2
 exact ⟨rfl, rfl⟩
def keepD (d : Dot) : Dot × Bool := if mayD d = true then (d, true) else ((0, 0), false)
theorem new_cells (w : World) : ∀ V, Below (w.alloc (.cells #[.int .u16 0, .int .u64 0] 35)).heap.size (w.alloc (.cells #[.int .u16 0, .int .u64 0] 35)) V → (V.cell? ⟨w.heap.size, 0, none⟩ = some (.int .u16 0) ∧ V.cell? ⟨w.heap.size, 1, none⟩ = some (.int .u64 0)) ∧ V.frozen? ⟨w.heap.size, 0, none⟩ = false ∧ V.frozen? ⟨w.heap.size, 1, none⟩ = false := by
 intro V hV
 have hc1 : (w.alloc (.cells #[.int .u16 0, .int .u64 0] 35)).cell? ⟨w.heap.size, 0, none⟩ = some (.int .u16 0) := by simp [go_sem]
 have hc2 : (w.alloc (.cells #[.int .u16 0, .int .u64 0] 35)).cell? ⟨w.heap.size, 1, none⟩ = some (.int .u64 0) := by simp [go_sem]
 exact ⟨⟨(hV.cell (World.block_lt_of_cell? _ _ hc1)).trans hc1, (hV.cell (World.block_lt_of_cell? _ _ hc2)).trans hc2⟩, (hV.frozen (World.block_lt_of_cell? _ _ hc1)).trans (World.frozen?_alloc_new _ _ _ _), (hV.frozen (World.block_lt_of_cell? _ _ hc2)).trans (World.frozen?_alloc_new _ _ _ _)⟩
theorem pif_any (w : World) (d : Dot) :
   Calls Tryz.prog 124 #[.agg #[.int .u16 (d.1 : Int), .int .u64 (d.2 : Int)]] w fun e w' => e = .returned (.tuple #[.agg #[.int .u16 ((keepD d).1.1 : Int), .int .u64 ((keepD d).1.2 : Int)], .bool (keepD d).2]) ∧ Below w.heap.size w w' := by
 obtain ⟨a, n⟩ := d
 have CG := fun W => pgood_any W a n
 have HB : Hid (Below w.heap.size w ((w.alloc (.cells #[.int .u16 (a : Int), .int .u64 (n : Int)] 35)).alloc (.cells #[.int .u16 0, .int .u64 0] 35))) := below_new2 w _ _
 have hd0 : ∀ V, Below ((w.alloc (.cells #[.int .u16 (a : Int), .int .u64 (n : Int)] 35)).alloc (.cells #[.int .u16 0, .int .u64 0] 35)).heap.size ((w.alloc (.cells #[.int .u16 (a : Int), .int .u64 (n : Int)] 35)).alloc (.cells #[.int .u16 0, .int .u64 0] 35)) V → V.cell? ⟨w.heap.size, 0, none⟩ = some (.int .u16 (a : Int)) ∧ V.cell? ⟨w.heap.size, 1, none⟩ = some (.int .u64 (n : Int)) := fun V hV => by
   have hc1 : ((w.alloc (.cells #[.int .u16 (a : Int), .int .u64 (n : Int)] 35)).alloc (.cells #[.int .u16 0, .int .u64 0] 35)).cell? ⟨w.heap.size, 0, none⟩ = some (.int .u16 (a : Int)) := by simp [go_sem]
   have hc2 : ((w.alloc (.cells #[.int .u16 (a : Int), .int .u64 (n : Int)] 35)).alloc (.cells #[.int .u16 0, .int .u64 0] 35)).cell? ⟨w.heap.size, 1, none⟩ = some (.int .u64 (n : Int)) := by simp [go_sem]
   exact ⟨(hV.cell (World.block_lt_of_cell? _ _ hc1)).trans hc1, (hV.cell (World.block_lt_of_cell? _ _ hc2)).trans hc2⟩
 have HC := Lib.hid hd0
 have HN := Lib.hid (new_cells (w.alloc (.cells #[.int .u16 (a : Int), .int .u64 (n : Int)] 35)))
 have hs : (w.alloc (.cells #[.int .u16 (a : Int), .int .u64 (n : Int)] 35)).heap.size = w.heap.size + 1 := by simp
 rw [hs] at HN
 clear hd0 hs
 unfold keepD
 cases hm : mayD (a, n) with
 | true =>
   rw [hm] at CG
   rw [if_pos rfl]
   clear hm
   go_enter Tryz.func124, Tryz.ntmps124
   go_wp2_with fail
   refine (CG _).mono ?_
   rintro e w1 ⟨rfl, hb1⟩
   obtain ⟨x1, x2⟩ := HC.out _ hb1
   obtain ⟨⟨y1, y2⟩, z1, z2⟩ := HN.out _ hb1
   have HB1 : Hid (Below w.heap.size w w1) := HB.out.trans (hb1.mono HB.out.size)
   clear hb1 CG HC HN
   go_wp2
   refine bodyPost_ret (v := .tuple #[.agg #[.int .u16 (a : Int), .int .u64 (n : Int)], .bool true]) ?_ rfl ?_
   · simp [results, Tryz.f124, go_sem, y1, y2]
   · exact ⟨rfl, (HB1.out.setCell (by simp) _).setCell (by simp) _⟩
 | false =>
   rw [hm] at CG
   rw [if_neg (by simp)]
   clear hm
   go_enter Tryz.func124, Tryz.ntmps124
   go_wp2_with fail
   refine (CG _).mono ?_
   rintro e w1 ⟨rfl, hb1⟩
   obtain ⟨⟨y1, y2⟩, z1, z2⟩ := HN.out _ hb1
   have HB1 : Hid (Below w.heap.size w w1) := HB.out.trans (hb1.mono HB.out.size)
   clear hb1 CG HC HN
   go_wp2
   refine bodyPost_ret (v := .tuple #[.agg #[.int .u16 0, .int .u64 0], .bool false]) ?_ rfl ?_
   · simp [results, Tryz.f124, go_sem, y1, y2]
   · exact ⟨rfl, (HB1.out.setCell (by simp) _).setCell (by simp) _⟩
theorem punpack_any (w : World) (v : Nat) (h1 : v < 18446744073709551616) :
   Calls Tryz.prog 86 #[.int .u64 (v : Int)] w fun e w' => e = .returned (.tuple #[.agg #[.int .u16 ((unpackD v).1.1 : Int), .int .u64 ((unpackD v).1.2 : Int)], .bool (unpackD v).2]) ∧ Below w.heap.size w w' := by
 have hk : unpackD v = keepD (splitD v) := rfl
 rw [hk]
 have CS := fun W => ssplit_any (v : Int) W (by omega) (by omega)
 have e1 : (v : Int) / 281474976710656 = ((splitD v).1 : Int) := by unfold splitD; simp only; omega
 have e2 : (v : Int) % 281474976710656 = ((splitD v).2 : Int) := by unfold splitD; simp only; omega
 have CI := fun W => pif_any W (splitD v)
 rw [e1, e2] at CS
 clear hk e1 e2 h1
 generalize keepD (splitD v) = u at CI ⊢
 generalize ((splitD v).1 : Int) = x at CS CI
 generalize ((splitD v).2 : Int) = y at CS CI
 go_enter Tryz.func86, Tryz.ntmps86
 go_wp2_with fail
 refine (CS _).mono ?_
 rintro e w1 ⟨rfl, rfl⟩
 go_wp2_with fail
 refine (CI _).mono ?_
 rintro e w2 ⟨rfl, hb2⟩
 have HB2 : Hid (Below w.heap.size w w2) := (below_new w _).trans (hb2.mono (below_new w _).size)
 obtain ⟨⟨y1, y2⟩, z1, z2⟩ := new_cells w _ hb2
 clear hb2
 go_wp2
 refine bodyPost_ret (v := .tuple #[.agg #[.int .u16 (u.1.1 : Int), .int .u64 (u.1.2 : Int)], .bool u.2]) ?_ rfl ?_
 · simp [results, Tryz.f86, go_sem, y1, y2]
 · exact ⟨rfl, (HB2.out.setCell (by simp) _).setCell (by simp) _⟩
theorem pequal_any (w : World) (B1 B2 : Nat) (A1 A2 : Option Addr) (l1 l2 : List Dot) (n1 n2 c1 c2 : Nat) (e1 : l1.length = n1) (e2 : l2.length = n2) (h1 : Dots w B1 A1 l1) (h2 : Dots w B2 A2 l2) (h63 : n1 ≤ 9223372036854775807) :
   Calls Tryz.prog 168 #[.slice A1 n1 c1, .slice A2 n2 c2] w fun e w' => e = .returned (.bool (decide (l1 = l2))) ∧ ∃ m, w' = w.drewN m := by
 have H1 := Lib.hid h1
 have H2 := Lib.hid h2
 have E1 := Lib.hid e1
 have E2 := Lib.hid e2
 clear h1 h2 e1 e2
 by_cases hn : n1 = n2
 · subst hn
   go_enter Tryz.func168, Tryz.ntmps168
   go_wp2
   go_loopw [13] (fun i wr => ∃ k : Nat, k ≤ n1 ∧ i = .int .i64 (k : Int) ∧ l1.take k = l2.take k ∧ ∃ m, wr = w.drewN m) (fun i _ => n1 - (intOf i).toNat)
   case atStart => exact ⟨0, Nat.zero_le _, rfl, by simp, 0, rfl⟩
   case round =>
     obtain ⟨k, hk, rfl, ht, m, rfl⟩ := hrel
     have HT := Lib.hid ht
     clear ht
     by_cases hlt : k < n1
     · obtain ⟨a1, x1, x2, rfl, hlx, hx1, hx2, hc1, hc2⟩ := H1.out.at_ (k := k) (by rw [E1.out]; exact hlt)
       obtain ⟨a2, y1, y2, rfl, hly, hy1, hy2, hd1, hd2⟩ := H2.out.at_ (k := k) (by rw [E2.out]; exact hlt)
       have hc3 : w.cell? ⟨(a1.add (k * 2)).block, (a1.add (k * 2)).off + 1, none⟩ = some (.int .u64 (x2 : Int)) := by rw [add_next]; exact hc2
       have hd3 : w.cell? ⟨(a2.add (k * 2)).block, (a2.add (k * 2)).off + 1, none⟩ = some (.int .u64 (y2 : Int)) := by rw [add_next]; exact hd2
       have LX := Lib.hid hlx
       have LY := Lib.hid hly
       clear hlx hly hc2 hd2
       by_cases hxy : x1 = y1 ∧ x2 = y2
       · obtain ⟨rfl, rfl⟩ := hxy
         have hs := Lib.hid (take_more HT.out LX.out LY.out)
         go_wp2_with fail
         go_quiet (fail)
         go_wp2
         go_roundw
         case rel => exact ⟨k + 1, by omega, by go_num, hs.out, _, rfl⟩
         case measure => simp [intOf]; omega
       · have hd : Hid (decide (l1 = l2) = false) := decide_eq_false (ne_at LX.out LY.out (fun e => hxy (by cases e; exact ⟨rfl, rfl⟩)))
         by_cases hx : x1 = y1
         · subst hx
           have hx2' : ¬ x2 = y2 := fun e => hxy ⟨rfl, e⟩
           have hb2 : ((x2 : Int) == (y2 : Int)) = false := by rw [beq_eq_false_iff_ne]; omega
           clear hxy
           go_wp2_with fail
           go_quiet (fail)
           go_wp2
           go_ret
           exact ⟨ret_bool hd.out.symm, _, World.drewN_drewN ..⟩
         · have hb2 : ((x1 : Int) == (y1 : Int)) = false := by rw [beq_eq_false_iff_ne]; omega
           clear hxy
           go_wp2_with fail
           go_quiet (fail)
           go_wp2
           go_ret
           exact ⟨ret_bool hd.out.symm, _, World.drewN_drewN ..⟩
     · obtain rfl : k = n1 := by omega
       have hd : Hid (l1 = l2) := by
         have h := HT.out
         rw [List.take_of_length_le (by rw [E1.out]; exact Nat.le_refl _), List.take_of_length_le (by rw [E2.out]; exact Nat.le_refl _)] at h
         exact h
       go_wp2
       go_ret
       exact ⟨ret_bool (by rw [decide_eq_true hd.out]), m, rfl⟩
 · have hd : Hid (decide (l1 = l2) = false) := decide_eq_false (fun e => hn (by rw [← E1.out, ← E2.out, e]))
   have hne : ((n1 : Int) != (n2 : Int)) = true := by rw [bne_iff_ne]; omega
   go_enter Tryz.func168, Tryz.ntmps168
   go_wp2
   go_ret
   exact ⟨ret_bool hd.out.symm, 0, rfl⟩
theorem psame_any (w : World) (B1 B2 : Nat) (A1 A2 : Option Addr) (l1 l2 : List Dot) (n1 n2 c1 c2 : Nat) (e1 : l1.length = n1) (e2 : l2.length = n2) (h1 : Dots w B1 A1 l1) (h2 : Dots w B2 A2 l2) (h63 : n1 ≤ 9223372036854775807) :
   Calls Tryz.prog 143 #[.slice A1 n1 c1, .slice A2 n2 c2] w fun e w' => e = .returned (.bool (decide (l1 = l2))) ∧ Below w.heap.size w w' := by
 have CE := pequal_any w B1 B2 A1 A2 l1 l2 n1 n2 c1 c2 e1 e2 h1 h2 h63
 generalize decide (l1 = l2) = b at CE ⊢
 clear e1 e2 h1 h2 h63
 go_enter Tryz.func143, Tryz.ntmps143
 go_wp2_with fail
 refine CE.mono ?_
 rintro e w1 ⟨rfl, m, rfl⟩
 have HB := Lib.hid (bel_drewN (Below.refl w.heap.size w) m)
 go_wp2
 go_ret
 exact ⟨rfl, HB.out⟩
theorem pahead_later (w W : World) (a b : Dot) (hW : Below w.heap.size w W) :
   Calls Tryz.prog 147 #[.agg #[.int .u16 (a.1 : Int), .int .u64 (a.2 : Int)], .agg #[.int .u16 (b.1 : Int), .int .u64 (b.2 : Int)]] W fun e V => e = .returned (.bool (aheadD a b)) ∧ Below w.heap.size w V :=
 (pahead_any W a b).mono fun _ _ ⟨h1, h2⟩ => ⟨h1, hW.trans (h2.mono hW.size)⟩
theorem one_dot' (w : World) (d : Dot) : ∀ V, Below (w.alloc (.cells #[.int .u16 (d.1 : Int), .int .u64 (d.2 : Int)] 35)).heap.size (w.alloc (.cells #[.int .u16 (d.1 : Int), .int .u64 (d.2 : Int)] 35)) V → V.cell? ⟨w.heap.size, 0, none⟩ = some (.int .u16 (d.1 : Int)) ∧ V.cell? ⟨w.heap.size, 1, none⟩ = some (.int .u64 (d.2 : Int)) := by
 intro V hV
 have hc1 : (w.alloc (.cells #[.int .u16 (d.1 : Int), .int .u64 (d.2 : Int)] 35)).cell? ⟨w.heap.size, 0, none⟩ = some (.int .u16 (d.1 : Int)) := by simp [go_sem]
 have hc2 : (w.alloc (.cells #[.int .u16 (d.1 : Int), .int .u64 (d.2 : Int)] 35)).cell? ⟨w.heap.size, 1, none⟩ = some (.int .u64 (d.2 : Int)) := by simp [go_sem]
 exact ⟨(hV.cell (World.block_lt_of_cell? _ _ hc1)).trans hc1, (hV.cell (World.block_lt_of_cell? _ _ hc2)).trans hc2⟩
theorem rise_one (l : List Dot) (k : Nat) (h : k ≤ 1) : riseB (l.take k) = true := by
 rcases l with _ | ⟨a, l⟩
 · simp [riseB]
 · obtain rfl | rfl : k = 0 ∨ k = 1 := by omega
   · rfl
   · simp [riseB]
set_option maxHeartbeats 4000000 in
theorem prising_any (w : World) (A : Option Addr) (l : List Dot) (n c : Nat) (e1 : l.length = n) (h1 : Dots w w.heap.size A l) (h63 : n ≤ 9223372036854775806) :
   Calls Tryz.prog 111 #[.slice A n c] w fun e w' => e = .returned (.bool (riseB l)) ∧ Below w.heap.size w w' := by
 have H1 := Lib.hid h1
 have E1 := Lib.hid e1
 clear h1 e1
 go_enter Tryz.func111, Tryz.ntmps111
 go_wp2
 go_loopw [7] (fun i wr => ∃ j : Nat, i = .int .i64 (j : Int) ∧ j ≤ n ∧ riseB (l.take j) = true ∧ Below w.heap.size w wr) (fun i _ => n - (intOf i).toNat)
 case atStart => exact ⟨0, rfl, Nat.zero_le _, by simp [riseB], Below.refl _ _⟩
 case round =>
   obtain ⟨j, rfl, hj, ht, hw⟩ := hrel
   have HT := Lib.hid ht
   have HW := Lib.hid hw
   clear ht hw
   by_cases hlt : j < n
   · obtain ⟨ad, y, rfl, hB, hly, hy1, hy2, hcy⟩ := H1.out.cells (k := j) (by rw [E1.out]; omega)
     obtain ⟨d1, d2⟩ := hcy wr HW.out
     obtain ⟨y1, y2⟩ := y
     have HX := Lib.hid (one_dot' wr (y1, y2))
     have HB4 : Hid (Below w.heap.size w (wr.alloc (.cells #[.int .u16 (y1 : Int), .int .u64 (y2 : Int)] 35))) := HW.out.trans ((below_new _ _).mono HW.out.size)
     obtain rfl | ⟨i, rfl⟩ : j = 0 ∨ ∃ i, j = i + 1 := by
       rcases j with _ | i
       · exact .inl rfl
       · exact .inr ⟨i, rfl⟩
     · have e0 : ad.add (0 * 2) = ad := by unfold Addr.add; simp
       rw [e0] at d1 d2
       clear hcy e0 hy1 hy2 HX
       have hr := Lib.hid (rise_one l 1 (Nat.le_refl _))
       go_wp2_with fail
       go_quiet (fail)
       go_wp2
       go_roundw
       case rel => exact ⟨1, by go_num, by omega, hr.out, bel_drewN HB4.out _⟩
       case measure => simp [intOf]; omega
     · obtain ⟨ad', x, e', _, hlx, hx1, hx2, hcx⟩ := H1.out.cells (k := i) (by rw [E1.out]; omega)
       obtain rfl : ad = ad' := Option.some.inj e'
       obtain ⟨x1, x2⟩ := x
       have R2 := riseB_two hlx hly
       rw [HT.out, Bool.true_and] at R2
       have RR := Lib.hid R2
       clear e' R2 hlx hly hx1 hx2 hy1 hy2
       have HC : Hid (∀ V, Below (wr.alloc (.cells #[.int .u16 (y1 : Int), .int .u64 (y2 : Int)] 35)).heap.size (wr.alloc (.cells #[.int .u16 (y1 : Int), .int .u64 (y2 : Int)] 35)) V → (V.cell? (ad.add (i * 2)) = some (.int .u16 (x1 : Int)) ∧ V.cell? ⟨(ad.add (i * 2)).block, (ad.add (i * 2)).off + 1, none⟩ = some (.int .u64 (x2 : Int))) ∧ V.cell? ⟨wr.heap.size, 0, none⟩ = some (.int .u16 (y1 : Int)) ∧ V.cell? ⟨wr.heap.size, 1, none⟩ = some (.int .u64 (y2 : Int))) := fun V hV =>
         ⟨hcx V (HB4.out.trans (hV.mono HB4.out.size)), HX.out V hV⟩
       clear hcx hcy HX
       have s1 : IntKind.i64.wrap ((i : Int) + 1 - 1) = (i : Int) := by rw [IntWalk.i64_in _ (by omega)]; omega
       have s0 : IntKind.i64.wrap (i : Int) = (i : Int) := IntWalk.i64_in _ (by omega)
       have s2 : (0 : Int) < (i : Int) + 1 := by omega
       have s3 : (0 : Int) ≤ (i : Int) := by omega
       have s4 : ((i : Int) + 1).toNat = i + 1 := by omega
       have s5 : (i : Int) < (n : Int) := by omega
       have s6 : (i : Int) + 1 < (n : Int) := by omega
       have s7 : (0 : Int) ≤ (i : Int) + 1 := by omega
       go_wp2_with fail
       generalize wr.alloc (.cells #[.int .u16 (y1 : Int), .int .u64 (y2 : Int)] 35) = W4 at HC HB4 ⊢
       obtain ⟨⟨f1, f2⟩, f3, f4⟩ := HC.out W4 (Below.refl _ _)
       go_region_held3 (fun V => (V.cell? (ad.add (i * 2)) = some (.int .u16 (x1 : Int)) ∧ V.cell? ⟨(ad.add (i * 2)).block, (ad.add (i * 2)).off + 1, none⟩ = some (.int .u64 (x2 : Int))) ∧ V.cell? ⟨wr.heap.size, 0, none⟩ = some (.int .u16 (y1 : Int)) ∧ V.cell? ⟨wr.heap.size, 1, none⟩ = some (.int .u64 (y2 : Int))) (first | exact ⟨⟨f1, f2⟩, f3, f4⟩ | assumption | exact HC.out _ (by (repeat (first | exact Below.refl _ _ | assumption | apply bel_drew)))) (first
         | (go_at_call 147; (with_reducible refine (pahead_later W4 _ (x1, x2) (y1, y2) ?_).mono ?_); (repeat (first | exact Below.refl _ _ | assumption | apply bel_drew)); rintro e V ⟨rfl, bv⟩; have hcV := HC.out V bv))
       all_goals
         have HV : Hid (Below w.heap.size w V) := HB4.out.trans (bv.mono HB4.out.size)
         clear hcV bv f1 f2 f3 f4 s1 s0
         cases ha : aheadD (x1, x2) (y1, y2) with
         | true =>
           rw [ha] at RR
           clear ha s2 s3 s4 s5 s6
           go_wp2
           go_roundw
           case rel => exact ⟨i + 2, by go_num, by omega, RR.out, HV.out⟩
           case measure => simp [intOf]; omega
         | false =>
           rw [ha] at RR
           have hf : Hid (riseB l = false) := Lib.hid (by
             cases hr : riseB l with
             | false => rfl
             | true =>
               have := riseB_part (l.take (i + 2)) (l.drop (i + 2)) (by rw [List.take_append_drop]; exact hr)
               rw [RR.out] at this
               exact absurd this (by simp))
           clear ha s2 s3 s4 s5 s6
           go_wp2
           go_ret
           exact ⟨ret_bool hf.out.symm, HV.out⟩
   · have hf : Hid (riseB l = true) := Lib.hid (by
       have := HT.out
       rw [List.take_of_length_le (by rw [E1.out]; omega)] at this
       exact this)
     go_wp2
     go_ret
     exact ⟨ret_bool hf.out.symm, HW.out⟩
end Go.Proofs.YtgaegfddobpomaaGreat.Dt

namespace Go.Proofs.YtgaegfddobpomaaGreat.Dt
open Go.ChangeShapes Go.WideShapes Go.ChangeAt Go.RowKit Go.Lib
set_option linter.unusedVariables false
theorem dv_set {l : List Dot} {k : Nat} (r : Dot) : dv (l.set k r) = ((dv l).set (k * 2) (.int .u16 (r.1 : Int))).set (k * 2 + 1) (.int .u64 (r.2 : Int)) := by
 induction l generalizing k with
 | nil => simp [dv]
 | cons x l ih =>
   cases k with
   | zero => rfl
   | succ k =>
     have e : ∀ (y : Dot) (m : List Dot), dv (y :: m) = .int .u16 (y.1 : Int) :: .int .u64 (y.2 : Int) :: dv m := fun _ _ => rfl
     have e1 : (k + 1) * 2 = k * 2 + 2 := by omega
     rw [List.set_cons_succ, e, e, ih, e1]
     rfl
theorem dv_at {l : List Dot} {k : Nat} (hk : k < l.length) : (dv l)[k * 2]? = some (.int .u16 ((l.toArray[k]!).1 : Int)) ∧ (dv l)[k * 2 + 1]? = some (.int .u64 ((l.toArray[k]!).2 : Int)) := by
 have e : l.toArray[k]! = l[k] := by rw [getElem!_pos _ _ (by simpa using hk)]; simp
 rw [e]
 exact dv_get (List.getElem?_eq_getElem hk)
theorem row_at {w : World} {B g n cap : Nat} {d : List Dot} (h : w.ownsRow B 35 2 (.slice (some ⟨g, 0, none⟩) n cap) n (dv d)) (hd : d.length = n) {k : Nat} (hk : k < n) :
   (w.cell? ⟨g, k * 2, none⟩ = some (.int .u16 ((d.toArray[k]!).1 : Int)) ∧ w.cell? ⟨g, k * 2 + 1, none⟩ = some (.int .u64 ((d.toArray[k]!).2 : Int))) ∧ w.frozen? ⟨g, k * 2, none⟩ = false ∧ w.frozen? ⟨g, k * 2 + 1, none⟩ = false := by
 obtain ⟨h1, h2⟩ := dv_at (l := d) (k := k) (by omega)
 exact ⟨⟨(h.cellAt _ (by omega)).trans h1, (h.cellAt _ (by omega)).trans h2⟩, h.frozenAt _, h.frozenAt _⟩
theorem dv_cons (y : Dot) (m : List Dot) : dv (y :: m) = .int .u16 (y.1 : Int) :: .int .u64 (y.2 : Int) :: dv m := rfl
theorem dv_take (l : List Dot) (k : Nat) : (dv l).take (k * 2) = dv (l.take k) := by
 induction l generalizing k with
 | nil => simp [dv]
 | cons x l ih =>
   cases k with
   | zero => simp [dv]
   | succ k =>
     have e1 : (k + 1) * 2 = k * 2 + 2 := by omega
     rw [List.take_succ_cons, dv_cons, dv_cons, e1, List.take_succ_cons, List.take_succ_cons, ih]
theorem own_take {w : World} {B g n cap k : Nat} {xs : List Value} (h : w.ownsRow B 35 2 (.slice (some ⟨g, 0, none⟩) n cap) n xs) (hk : k ≤ n) : w.ownsRow B 35 2 (.slice (some ⟨g, 0, none⟩) k cap) k (xs.take (k * 2)) := by
 refine ⟨by rw [List.length_take, h.1]; omega, ?_⟩
 rcases h.2 with ⟨h', _⟩ | ⟨g', cap', cur, h', hb, hg, hnc, hcm, hcs, htake⟩
 · simp at h'
 · simp only [Value.slice.injEq, Option.some.injEq, Addr.mk.injEq, and_true, true_and] at h'
   obtain ⟨rfl, rfl⟩ := h'
   exact .inr ⟨g, cap, cur, rfl, hb, hg, by omega, hcm, hcs, by rw [← htake, List.take_take]; congr 1; omega⟩
theorem own_cells {w : World} {B g n cap : Nat} {xs : List Value} (o : Nat) (vs : List Value) (h : w.ownsRow B 35 2 (.slice (some ⟨g, 0, none⟩) n cap) n xs) : ∃ ys : List Value, (w.setCells g o vs).ownsRow B 35 2 (.slice (some ⟨g, 0, none⟩) n cap) n ys ∧ ys.take o = xs.take o ∧ w.grownBy (w.setCells g o vs) (some g) := by
 induction vs generalizing w xs o with
 | nil => exact ⟨xs, h, rfl, turn_refl _ _⟩
 | cons v vs ih =>
   obtain ⟨h1, h2⟩ := h.stored o v
   obtain ⟨ys, h3, h4, h5⟩ := ih (o + 1) h1
   refine ⟨ys, h3, ?_, h2.trans h5⟩
   have h6 := congrArg (List.take o) h4
   rw [List.take_take, List.take_take, show min o (o + 1) = o by omega] at h6
   rw [h6, List.take_set_of_le (Nat.le_refl _)]
theorem zeros_len (m : Nat) : (Builtin.zeroCells #[.int .u16 0, .int .u64 0] m).size = m * 2 := by simp [Builtin.zeroCells]
theorem zeros_one (m : Nat) : ∀ v ∈ (Builtin.zeroCells #[.int .u16 0, .int .u64 0] m).toList, v.oneCell' = true := by
 intro v hv
 simp [Builtin.zeroCells] at hv
 obtain ⟨i, _, rfl⟩ := hv
 rcases Nat.mod_two_eq_zero_or_one i with h | h <;> simp [h] <;> rfl
theorem run_clear {w : World} {B g n cap k : Nat} {xs : List Value} (h : w.ownsRow B 35 2 (.slice (some ⟨g, 0, none⟩) n cap) n xs) (hk : k < n) (c' : Nat) (ty : TypeId) :
   (Builtin.clear_ #[36] ty #[.slice (some ⟨g, k * 2, none⟩) (n - k) c']).run Tryz.prog w = .ok (.tuple #[]) (w.setCells g (k * 2) (Builtin.zeroCells #[.int .u16 0, .int .u64 0] (n - k)).toList) := by
 have hl : (Builtin.zeroCells #[.int .u16 0, .int .u64 0] (n - k)).toList.length = (n - k) * 2 := by rw [Array.length_toList, zeros_len]
 have hst := run_storeCells_cells (P := Tryz.prog) g (k * 2) (Builtin.zeroCells #[.int .u16 0, .int .u64 0] (n - k)).toList 0 w
   (fun j hj => by
     rw [hl] at hj
     have h1 := h.1
     rw [h.cellAt _ (by omega), List.getElem?_eq_getElem (by omega)]; rfl)
   (fun j hj => h.frozenAt _) (zeros_one _)
 simp only [Nat.add_zero] at hst
 obtain ⟨m, hm⟩ : ∃ m, n - k = m + 1 := ⟨n - k - 1, by omega⟩
 rw [hm] at hst ⊢
 simp [Builtin.clear_, run_underlying Tryz.underlying36, Value.cells, hst]
theorem comp_take {d : Array Dot} {n kk : Nat} {dk : List Dot} (h : CompInv d n kk dk.toArray) (hk : kk ≤ dk.length) : dk.take kk = compactUpTo d n := by
 apply List.ext_getElem?
 intro j
 rw [List.getElem?_take]
 by_cases hj : j < kk
 · rw [if_pos hj, h.low j hj, getElem!_pos dk.toArray j (by simpa using Nat.lt_of_lt_of_le hj hk), List.getElem?_eq_getElem (by omega)]
   simp
 · rw [if_neg hj, List.getElem?_eq_none (by rw [h.len]; omega)]
theorem grown_drew {w wr : World} {r : Option Nat} (h : w.grownBy wr r) (q : Nat) : w.grownBy (wr.drewN q) r := h.trans ⟨rfl, rfl, rfl, Nat.le_refl _, fun _ _ _ => rfl⟩
set_option maxHeartbeats 4000000 in
theorem pcompact_any (w : World) (B g cap n : Nat) (d : List Dot) (hn : d.length = n) (h62 : n < 4611686018427387904) (h : w.ownsRow B 35 2 (.slice (some ⟨g, 0, none⟩) n cap) n (dv d)) :
   Calls Tryz.prog 135 #[.slice (some ⟨g, 0, none⟩) n cap] w fun e w' => ∃ k, e = .returned (.slice (some ⟨g, 0, none⟩) k cap) ∧ k = (compactUpTo d.toArray n).length ∧ w'.ownsRow B 35 2 (.slice (some ⟨g, 0, none⟩) k cap) k (dv (compactUpTo d.toArray n)) ∧ w.grownBy w' (some g) := by
 have H := Lib.hid h
 have HN := Lib.hid hn
 have hcap := (own_len h).1
 clear h hn
 by_cases h2 : n < 2
 · have d2 : decide ((n : Int) < 2) = true := decide_eq_true (by omega)
   have e : compactUpTo d.toArray n = d := by
     rw [compactUpTo_all d.toArray n (fun j hj => keeps_lt_one _ j (by omega))]
     have := range_map_get d.toArray
     simp only [List.size_toArray, HN.out] at this
     rw [this]
   rw [e]
   go_enter Tryz.func135, Tryz.ntmps135
   go_wp2
   go_ret
   exact ⟨n, rfl, HN.out.symm, H.out, turn_refl _ _⟩
 · have d2 : decide ((n : Int) < 2) = false := decide_eq_false (by omega)
   go_enter Tryz.func135, Tryz.ntmps135
   go_wp2
   go_loopw [3] (fun i wr => ∃ k q : Nat, i = .int .i64 (k : Int) ∧ 1 ≤ k ∧ k ≤ n ∧ wr = w.drewN q ∧ ∀ j, j < k → keeps d.toArray j = true) (fun i _ => n - (intOf i).toNat)
   case atStart => exact ⟨1, 0, rfl, Nat.le_refl _, by omega, rfl, keeps_lt_one _⟩
   case round =>
     obtain ⟨k, q, rfl, hk1, hk, rfl, hall⟩ := hrel
     have A := Lib.hid hall
     clear hall
     by_cases hlt : k < n
     · obtain ⟨⟨c1, c2⟩, _, _⟩ := row_at H.out HN.out hlt
       obtain ⟨⟨c3, c4⟩, _, _⟩ := row_at H.out HN.out (k := k - 1) (by omega)
       generalize hx : d.toArray[k]! = x at c1 c2
       generalize hy : d.toArray[k - 1]! = y at c3 c4
       obtain ⟨x1, x2⟩ := x
       obtain ⟨y1, y2⟩ := y
       have BB := Lib.hid (And.intro hx hy)
       clear hx hy
       obtain ⟨i, rfl⟩ : ∃ i, k = i + 1 := ⟨k - 1, by omega⟩
       have ei : i + 1 - 1 = i := by omega
       rw [ei] at c3 c4
       clear ei
       by_cases hxy : x1 = y1 ∧ x2 = y2
       · obtain ⟨rfl, rfl⟩ := hxy
         have HS := Lib.hid (CompInv.start A.out (keeps_neg (d := d.toArray) (m := i + 1) (by omega) (by rw [BB.out.1, BB.out.2])))
         have hcap1 : i + 1 < cap := by omega
         have HCap := Lib.hid hcap
         clear hk1 hk hcap
         go_wp2_with fail
         go_quiet (fail)
         clear c1 c2 c3 c4
         go_wp2
         go_loopw [3, 5] (fun s3 s5 wr => ∃ (kk j : Nat) (dk : List Dot), s3 = .int .i64 (kk : Int) ∧ s5 = .int .i64 ((j : Int) + 1) ∧ i + 1 + (j + 1) ≤ n ∧ wr.ownsRow B 35 2 (.slice (some ⟨g, 0, none⟩) n cap) n (dv dk) ∧ dk.length = n ∧ CompInv d.toArray (i + 1 + (j + 1)) kk dk.toArray ∧ w.grownBy wr (some g)) (fun _ s5 _ => n - (intOf s5).toNat)
         case atStart => exact ⟨i + 1, 0, d, rfl, rfl, by omega, H.out, HN.out, HS.out, ⟨rfl, rfl, rfl, Nat.le_refl _, fun _ _ _ => rfl⟩⟩
         case round =>
           obtain ⟨kk, j, dk, rfl, rfl, hle, hw, hl, hI, hg⟩ := hrel
           have hkk := hI.lt
           have W := Lib.hid hw
           have L := Lib.hid hl
           have I := Lib.hid hI
           have G := Lib.hid hg
           clear hw hl hI hg
           by_cases hlt2 : i + 1 + (j + 1) < n
           · obtain ⟨⟨a1, a2⟩, _, _⟩ := row_at W.out L.out hlt2
             obtain ⟨⟨a3, a4⟩, _, _⟩ := row_at W.out L.out (k := i + 1 + j) (by omega)
             obtain ⟨⟨a5, a6⟩, f5, f6⟩ := row_at W.out L.out (k := kk) (by omega)
             rw [I.out.high (i + 1 + (j + 1)) (by omega), show (i + 1 + (j + 1)) * 2 = (i + 1) * 2 + (j + 1) * 2 by omega] at a1 a2
             rw [I.out.high (i + 1 + j) (by omega), show (i + 1 + j) * 2 = (i + 1) * 2 + j * 2 by omega] at a3 a4
             generalize hu : d.toArray[i + 1 + (j + 1)]! = u at a1 a2
             generalize hv : d.toArray[i + 1 + j]! = v at a3 a4
             generalize dk.toArray[kk]! = old at a5 a6
             have C := Lib.hid (And.intro hu hv)
             clear hu hv
             obtain ⟨u1, u2⟩ := u
             obtain ⟨v1, v2⟩ := v
             by_cases huv : u1 = v1 ∧ u2 = v2
             · obtain ⟨rfl, rfl⟩ := huv
               go_wp2_with fail
               go_quiet (fail)
               go_wp2
               go_roundw
               case rel => exact ⟨kk, j + 1, dk, rfl, by go_num, by omega, W.out, L.out, I.out.skip (keeps_neg (by omega) (by rw [C.out.1]; exact C.out.2.symm)), grown_drew G.out _⟩
               case measure => simp [intOf]; omega
             · have HK : Hid (CompInv d.toArray (i + 1 + (j + 1 + 1)) (kk + 1) (dk.set kk (u1, u2)).toArray) := by
                 have h1 := I.out.keep (by simp only [List.size_toArray]; rw [HN.out]; exact hlt2) (keeps_pos (by
                   rw [C.out.1]
                   intro e
                   have h2 := C.out.2
                   rw [show i + 1 + (j + 1) - 1 = i + 1 + j by omega] at e
                   rw [h2] at e
                   cases e
                   exact huv ⟨rfl, rfl⟩))
                 rw [C.out.1] at h1
                 have h3 : (dk.set kk (u1, u2)).toArray = dk.toArray.setIfInBounds kk (u1, u2) := by simp
                 rw [h3]
                 exact h1
               have HW : Hid (∀ q, ∃ V, V = ((wr.drewN q).setCell ⟨g, kk * 2, none⟩ (.int .u16 (u1 : Int))).setCell ⟨g, kk * 2 + 1, none⟩ (.int .u64 (u2 : Int)) ∧ V.ownsRow B 35 2 (.slice (some ⟨g, 0, none⟩) n cap) n (dv (dk.set kk (u1, u2))) ∧ w.grownBy V (some g)) := fun q => by
                 have h0 : (wr.drewN q).ownsRow B 35 2 (.slice (some ⟨g, 0, none⟩) n cap) n (dv dk) := W.out
                 obtain ⟨h1, g1⟩ := h0.stored (kk * 2) (.int .u16 (u1 : Int))
                 obtain ⟨h2, g2⟩ := h1.stored (kk * 2 + 1) (.int .u64 (u2 : Int))
                 exact ⟨_, rfl, by rw [dv_set]; exact h2, ((grown_drew G.out q).trans g1).trans g2⟩
               have hkn : kk < n := by omega
               have key : ((u1 : Int) == (v1 : Int)) = false ∨ (u1 = v1 ∧ ((u2 : Int) == (v2 : Int)) = false) := by
                 by_cases e : u1 = v1
                 · refine .inr ⟨e, ?_⟩; rw [beq_eq_false_iff_ne]; intro e2; exact huv ⟨e, by omega⟩
                 · refine .inl ?_; rw [beq_eq_false_iff_ne]; omega
               clear huv C hkk
               rcases key with k1 | ⟨rfl, k1⟩
               all_goals
                 go_wp2_with fail
                 go_quiet (fail)
                 go_wp2
                 go_roundw
                 case rel =>
                   obtain ⟨V, rfl, h1, h2⟩ := HW.out nq
                   exact ⟨kk + 1, j + 1, dk.set kk (u1, u2), by go_num, by go_num, by omega, h1, by rw [List.length_set]; exact L.out, HK.out, h2⟩
                 case measure => simp [intOf]; omega
           · have hend : i + 1 + (j + 1) = n := by omega
             have hkn : kk < n := by omega
             have hkc : kk < cap := Nat.lt_of_lt_of_le hkn HCap.out
             have hI := I.out
             rw [hend] at hI
             have HT := Lib.hid (comp_take hI (by rw [L.out]; omega))
             have HL := Lib.hid hI.len
             have hcl := fun ty => run_clear W.out hkn (cap - kk) ty
             obtain ⟨ys, hy1, hy2, hy3⟩ := own_cells (kk * 2) (Builtin.zeroCells #[.int .u16 0, .int .u64 0] (n - kk)).toList W.out
             have HY : Hid ((wr.setCells g (kk * 2) (Builtin.zeroCells #[.int .u16 0, .int .u64 0] (n - kk)).toList).ownsRow B 35 2 (.slice (some ⟨g, 0, none⟩) kk cap) kk (dv (compactUpTo d.toArray n))) := by
               have h1 := own_take hy1 (k := kk) (by omega)
               rw [hy2, dv_take, HT.out] at h1
               exact h1
             have HG := Lib.hid (G.out.trans hy3)
             clear hI hy1 hy2 hy3 hkk
             generalize wr.setCells g (kk * 2) (Builtin.zeroCells #[.int .u16 0, .int .u64 0] (n - kk)).toList = wz at hcl HY HG
             go_wp2
             go_ret
             exact ⟨kk, rfl, HL.out.symm, HY.out, HG.out⟩
       · have key : ((x1 : Int) == (y1 : Int)) = false ∨ (x1 = y1 ∧ ((x2 : Int) == (y2 : Int)) = false) := by
           by_cases e : x1 = y1
           · refine .inr ⟨e, ?_⟩; rw [beq_eq_false_iff_ne]; intro e2; exact hxy ⟨e, by omega⟩
           · refine .inl ?_; rw [beq_eq_false_iff_ne]; omega
         have HK : Hid (∀ j, j < i + 1 + 1 → keeps d.toArray j = true) := fun j hj => by
           by_cases e : j = i + 1
           · subst e
             refine keeps_pos ?_
             rw [BB.out.1, BB.out.2]
             intro e
             cases e
             exact hxy ⟨rfl, rfl⟩
           · exact A.out j (by omega)
         clear hxy hcap
         rcases key with k1 | ⟨rfl, k1⟩
         all_goals
           go_wp2_with fail
           go_quiet (fail)
           go_wp2
           go_roundw
           case rel => exact ⟨i + 1 + 1, _, by go_num, by omega, by omega, rfl, HK.out⟩
           case measure => simp [intOf]; omega
     · have e : compactUpTo d.toArray n = d := by
         obtain rfl : k = n := by omega
         rw [compactUpTo_all d.toArray k A.out]
         have := range_map_get d.toArray
         simp only [List.size_toArray, HN.out] at this
         rw [this]
       have E := Lib.hid e
       clear e
       go_wp2
       go_ret
       rw [E.out]
       exact ⟨n, rfl, HN.out.symm, H.out, ⟨rfl, rfl, rfl, Nat.le_refl _, fun _ _ _ => rfl⟩⟩
end Go.Proofs.YtgaegfddobpomaaGreat.Dt

namespace Go.Proofs.YtgaegfddobpomaaGreat.Ev
open Go.ChangeShapes Go.WideShapes Go.ChangeAt Go.RowKit
set_option linter.unusedVariables false
set_option maxRecDepth 4000
structure Apart (g : Nat) (w W : World) : Prop where
 os : W.os = w.os
 tape : W.tape = w.tape
 output : W.output = w.output
 size : W.heap.size = w.heap.size
 block : ∀ k, k ≠ g → W.heap[k]? = w.heap[k]?
theorem Apart.refl (g : Nat) (w : World) : Apart g w w := ⟨rfl, rfl, rfl, rfl, fun _ _ => rfl⟩
theorem Apart.setCell {g : Nat} {w W : World} (h : Apart g w W) {a : Addr} (ha : a.block = g) (v : Value) : Apart g w (W.setCell a v) :=
 ⟨h.os, h.tape, h.output, (World.size_setCell _ _ _).trans h.size, fun k hk => (Below.heap_setCell W a v k (by rw [ha]; exact hk)).trans (h.block k hk)⟩
theorem Apart.below {g B : Nat} {w W : World} (h : Apart g w W) (hB : B ≤ g) : Below B w W := ⟨h.os, h.tape, h.output, by rw [h.size]; exact Nat.le_refl _, fun k hk => h.block k (by omega)⟩
theorem Apart.cell {g : Nat} {w W : World} (h : Apart g w W) {a : Addr} (ha : a.block ≠ g) : W.cell? a = w.cell? a := World.cell?_of_block (w := w) (h.block _ ha)
theorem Apart.frozen {g : Nat} {w W : World} (h : Apart g w W) {a : Addr} (ha : a.block ≠ g) : W.frozen? a = w.frozen? a := World.frozen?_of_block (w := w) (h.block _ ha)
def Off (g : Nat) (A : Option Addr) (n : Nat) : Prop := ∀ ad : Addr, A = some ad → 0 < n → ad.block ≠ g
theorem DotsAt.apart {g B : Nat} {w W : World} {A : Option Addr} {l : List Dt.Dot} {n c : Nat} (h : DotsAt w B A l n c) (hb : Apart g w W) (ha : Off g A n) : DotsAt W B A l n c := by
 refine ⟨h.len, h.nil, h.cap, h.max, h.wide, h.dots.1, fun hl => ?_⟩
 obtain ⟨ad, e, hB, hc⟩ := h.dots.2 hl
 have h0 : 0 < n := by rw [Dt.dv_length, h.len] at hl; omega
 exact ⟨ad, e, hB, fun j u hu => (hb.cell (by rw [block_add]; exact ha ad e h0)).trans (hc j u hu)⟩
theorem Free.apart {g B : Nat} {w W : World} {A : Option Addr} {n : Nat} (h : Free w B A n) (hb : Apart g w W) (ha : Off g A n) : Free W B A n := fun j hj => by
 obtain ⟨ad, e, h1, h2, h3⟩ := h j hj
 exact ⟨ad, e, h1, (hb.frozen (by rw [block_add]; exact ha ad e (by omega))).trans h2, (hb.frozen (by rw [block_add]; exact ha ad e (by omega))).trans h3⟩
theorem Free.kept {B : Nat} {w W : World} {A : Option Addr} {l : List Dt.Dot} {n c : Nat} (h : Free w B A n) (hd : DotsAt w w.heap.size A l n c) (hb : Below w.heap.size w W) : Free W B A n := fun j hj => by
 obtain ⟨ad, e, h1, h2, h3⟩ := h j hj
 obtain ⟨ad', e', hB, _⟩ := hd.dots.2 (by rw [Dt.dv_length, hd.len]; omega)
 obtain rfl : ad = ad' := by rw [e] at e'; exact Option.some.inj e'
 exact ⟨ad, e, h1, (hb.frozen (by rw [block_add]; exact hB)).trans h2, (hb.frozen (by rw [block_add]; exact hB)).trans h3⟩
theorem off_above {w : World} {g B n : Nat} {A : Option Addr} (hf : Free w B A n) (hB : g < B) : Off g A n := fun ad e h0 => by
 obtain ⟨ad', e', h1, _, _⟩ := hf 0 h0
 rw [e] at e'
 cases e'
 omega
theorem Free.less {w : World} {B B' n : Nat} {A : Option Addr} (h : Free w B A n) (hB : B' ≤ B) : Free w B' A n := fun j hj => by
 obtain ⟨ad, e, h1, h2, h3⟩ := h j hj
 exact ⟨ad, e, Nat.le_trans hB h1, h2, h3⟩
def TurnL (g : Nat) (w0 : World) (A : Option Addr) (n c : Nat) (i : Value) (W : World) : Prop :=
 ∃ (k : Nat) (m : List Dt.Dot), k ≤ n ∧ i = .int .i64 (k : Int) ∧ Apart g w0 W ∧ DotsAt W w0.heap.size A m n c ∧ Free W 0 A n
end Go.Proofs.YtgaegfddobpomaaGreat.Ev

namespace Go.Proofs.YtgaegfddobpomaaGreat.Dt
open Go.ChangeShapes Go.WideShapes Go.ChangeAt Go.RowKit
set_option linter.unusedVariables false
set_option maxRecDepth 4000
theorem pgood_x (w : World) (d : Dot) :
   Calls Tryz.prog 87 #[.agg #[.int .u16 (d.1 : Int), .int .u64 (d.2 : Int)]] w fun e w' => e = .returned (.bool (mayD d)) ∧ w' = w.alloc (.cells #[.int .u16 (d.1 : Int), .int .u64 (d.2 : Int)] 35) := by
 obtain ⟨a, n⟩ := d
 by_cases c1 : 1 ≤ a
 · have d1 : ((a : Int) != 0) = true := by rw [bne_iff_ne]; omega
   by_cases c2 : 1 ≤ n
   · have d2 : ((n : Int) != 0) = true := by rw [bne_iff_ne]; omega
     have hd : mayD (a, n) = decide ((n : Int) ≤ 281474976710655) := decide_eq_decide.2 ⟨fun h => by have := h.2.2; simp at this; omega, fun h => ⟨c1, c2, by simp; omega⟩⟩
     rw [hd]
     clear hd
     go_enter Tryz.func87, Tryz.ntmps87
     go_wp2
     go_ret
     exact ⟨rfl, rfl⟩
   · have hd : mayD (a, n) = false := decide_eq_false (fun h => c2 h.2.1)
     have d2 : ((n : Int) != 0) = false := by rw [bne_eq_false_iff_eq]; omega
     rw [hd]
     clear hd
     go_enter Tryz.func87, Tryz.ntmps87
     go_wp2
     go_ret
     exact ⟨rfl, rfl⟩
 · have hd : mayD (a, n) = false := decide_eq_false (fun h => c1 h.1)
   have d1 : ((a : Int) != 0) = false := by rw [bne_eq_false_iff_eq]; omega
   rw [hd]
   clear hd
   go_enter Tryz.func87, Tryz.ntmps87
   go_wp2
   go_ret
   exact ⟨rfl, rfl⟩
theorem box_at (w : World) (d : Dot) : ∀ V, Below (w.alloc (.cells #[.int .u16 (d.1 : Int), .int .u64 (d.2 : Int)] 35)).heap.size (w.alloc (.cells #[.int .u16 (d.1 : Int), .int .u64 (d.2 : Int)] 35)) V → V.cell? ⟨w.heap.size, 0, none⟩ = some (.int .u16 (d.1 : Int)) ∧ V.cell? ⟨w.heap.size, 1, none⟩ = some (.int .u64 (d.2 : Int)) := by
 intro V hV
 have h1 : (w.alloc (.cells #[.int .u16 (d.1 : Int), .int .u64 (d.2 : Int)] 35)).cell? ⟨w.heap.size, 0, none⟩ = some (.int .u16 (d.1 : Int)) := by simp [go_sem]
 have h2 : (w.alloc (.cells #[.int .u16 (d.1 : Int), .int .u64 (d.2 : Int)] 35)).cell? ⟨w.heap.size, 1, none⟩ = some (.int .u64 (d.2 : Int)) := by simp [go_sem]
 exact ⟨(hV.cell (World.block_lt_of_cell? _ _ h1)).trans h1, (hV.cell (World.block_lt_of_cell? _ _ h2)).trans h2⟩
end Go.Proofs.YtgaegfddobpomaaGreat.Dt
