/- The contract of the program's Copy of layer event. For every event. -/
import Derived.Test.YtbaiiidkffafmaaPESortF
import Derived.Test.YtbaiiidkffafmaaEOwn
namespace Go.Proofs.Ytbaiiidkffafmaa.Ev
open Go.ChangeShapes Go.WideShapes Go.ChangeAt Go.RowKit
set_option linter.unusedVariables false
set_option maxRecDepth 4000

/-- an event's empty box. -/
abbrev zeroE : EV := ⟨0, 0, 0, 0, 0, ⟨#[]⟩, none, 0, 0⟩
theorem own_free {w : World} {B n c : Nat} {A : Option Addr} {xs : List Value} (h : w.ownsRow B 25 2 (.slice A n c) n xs) : Free w B A n := fun j hj => by
  rcases h.2 with ⟨h', _⟩ | ⟨g, cap, cur, h', hb, _⟩
  · cases h'; omega
  · cases h'
    refine ⟨_, rfl, hb, ?_, ?_⟩
    · rw [Dt.zero_add]; exact h.frozenAt _
    · rw [Dt.zero_add]; exact h.frozenAt _
/-- an event's empty box, as a walk lays it. -/
theorem zero_box : zeroE.box = .cells #[.int .u16 0, .int .u64 0, .int .u8 0, .int .u64 0, .int .u8 0, .string ⟨#[]⟩, .slice none 0 0] 28 := rfl
/-- all cells of a block that was laid may be written, in every world that keeps them. -/
theorem free_new (w : World) (cs : Array Value) (T : TypeId) (V : World) (hb : Below (w.heap.size + 1) (w.alloc (.cells cs T)) V) (k : Nat) : V.frozen? ⟨w.heap.size, k, none⟩ = false := (hb.frozen (p := ⟨w.heap.size, k, none⟩) (Nat.lt_succ_self _)).trans (World.frozen?_alloc_new _ _ _ _)
theorem own_dotsAt {w : World} {B n c : Nat} {A : Option Addr} {l : List Dt.Dot} (h : w.ownsRow B 25 2 (.slice A n c) n (Dt.dv l)) (hl : l.length = n) (hf : Dt.Fit l) (hw : n ≤ 8796093022208) : DotsAt w w.heap.size A l n c := by
  obtain ⟨h1, h2, h3⟩ := Dt.own_len h
  exact ⟨hl, h3, h1, h2, hw, Dt.dots_own h hf⟩
set_option maxHeartbeats 4000000 in
theorem pcopy_any (w : World) (p : EV) (x : Evt) (h : EventIs w w.heap.size p x) : Calls Try.prog 23 #[p.val] w (OwnPost w x) := by
  have HE := Lib.hid h
  have HB := Lib.hid (below_new2 w p.box zeroE.box)
  have CC := Dt.pclone_any ((w.alloc p.box).alloc zeroE.box) p.adr x.kills p.len p.cap h.kills.len h.kills.nil ((h.up HB.out).kills.dots) h.kills.wide
  have hb1 := box_new w p
  have hb2 := box_new (w.alloc p.box) zeroE
  have hf1 : ∀ V, Below (w.heap.size + 1) (w.alloc p.box) V → ∀ k, V.frozen? ⟨w.heap.size, k, none⟩ = false := fun V hV k => free_new w _ _ V hV k
  have hf2 : ∀ V, Below ((w.alloc p.box).heap.size + 1) ((w.alloc p.box).alloc zeroE.box) V → ∀ k, V.frozen? ⟨(w.alloc p.box).heap.size, k, none⟩ = false := fun V hV k => free_new (w.alloc p.box) _ _ V hV k
  rw [alloc_size] at hb2 hf2
  have hs2 : ((w.alloc p.box).alloc zeroE.box).heap.size = w.heap.size + 1 + 1 := by rw [alloc_size, alloc_size]
  have hl := h.kills.len
  have hh : Below (w.heap.size + 1) (w.alloc p.box) ((w.alloc p.box).alloc zeroE.box) := by have h := below_new (w.alloc p.box) zeroE.box; rw [alloc_size] at h; exact h
  rw [zero_box] at HB CC hb2 hs2 hh hf2
  obtain ⟨p1, p2, p3, p4, p5, p6, pA, pn, pc⟩ := p
  simp only [EV.val]
  simp only [EV.box] at HB CC hb1 hb2 hs2 hh hf1 hf2
  have HB1 := Lib.hid hb1
  have HB2 := Lib.hid hb2
  have HF1 := Lib.hid hf1
  have HF2 := Lib.hid hf2
  have HS2 := Lib.hid hs2
  have HL := Lib.hid hl
  have HH := Lib.hid hh
  obtain ⟨a0, a1, a2, a3, a4, a5, a6⟩ := (hb1 _ hh).all
  clear h hb1 hb2 hf1 hf2 hs2 hl hh
  go_enter Try.func23, Try.ntmps23
  go_wp2_with fail
  refine CC.mono ?_
  rintro e w2 ⟨A, n, c, rfl, hn, ho, hb⟩
  rw [HL.out] at hn
  subst hn
  have hb1' := HH.out.trans (hb.mono (by rw [HS2.out]; omega))
  obtain ⟨c0, c1, c2, c3, c4, c5, c6⟩ := (HB1.out w2 hb1').all
  have f6 := HF1.out w2 hb1' 6
  have hbz : Below (w.heap.size + 1 + 1) ((w.alloc (.cells #[.int .u16 (p1 : Int), .int .u64 (p2 : Int), .int .u8 (p3 : Int), .int .u64 (p4 : Int), .int .u8 (p5 : Int), .string p6, .slice pA pn pc] 28)).alloc (.cells #[.int .u16 0, .int .u64 0, .int .u8 0, .int .u64 0, .int .u8 0, .string ⟨#[]⟩, .slice none 0 0] 28)) w2 := by have h := hb; rw [HS2.out] at h; exact h
  obtain ⟨d0, d1, d2, d3, d4, d5, d6⟩ := (HB2.out w2 hbz).all
  have g0 := HF2.out w2 hbz 0
  have g1 := HF2.out w2 hbz 1
  have g2 := HF2.out w2 hbz 2
  have g3 := HF2.out w2 hbz 3
  have g4 := HF2.out w2 hbz 4
  have g5 := HF2.out w2 hbz 5
  have g6 := HF2.out w2 hbz 6
  have HO := Lib.hid ho
  have HBW := Lib.hid (HB.out.trans (hb.mono HB.out.size))
  clear ho hb hb1' hbz CC HB1 HB2 HF1 HF2 HH a0 a1 a2 a3 a4 a5 a6
  go_wp2
  refine bodyPost_ret (v := .agg #[.int .u16 (p1 : Int), .int .u64 (p2 : Int), .int .u8 (p3 : Int), .int .u64 (p4 : Int), .int .u8 (p5 : Int), .string p6, .slice A pn c]) ?_ rfl ?_
  · simp [results, Try.f23, go_sem, d0, d1, d2, d3, d4, d5, d6]
  · have hd := own_dotsAt HO.out HL.out HE.out.kills.dots.1 HE.out.kills.wide
    have hfr := own_free HO.out
    rw [HS2.out] at hfr
    have ap1 := Apart.setCell (Apart.refl w.heap.size w2) (a := ⟨w.heap.size, 6, none⟩) rfl (.slice A pn c)
    have ap2 := ((((((Apart.refl (w.heap.size + 1) (w2.setCell ⟨w.heap.size, 6, none⟩ (.slice A pn c))).setCell (a := ⟨w.heap.size + 1, 0, none⟩) rfl (.int .u16 (p1 : Int))).setCell (a := ⟨w.heap.size + 1, 1, none⟩) rfl (.int .u64 (p2 : Int))).setCell (a := ⟨w.heap.size + 1, 2, none⟩) rfl (.int .u8 (p3 : Int))).setCell (a := ⟨w.heap.size + 1, 3, none⟩) rfl (.int .u64 (p4 : Int))).setCell (a := ⟨w.heap.size + 1, 4, none⟩) rfl (.int .u8 (p5 : Int))).setCell (a := ⟨w.heap.size + 1, 5, none⟩) rfl (.string p6)
    have ap3 := ap2.setCell (a := ⟨w.heap.size + 1, 6, none⟩) rfl (.slice A pn c)
    have o1 : Off w.heap.size A pn := off_above hfr (by omega)
    have o2 : Off (w.heap.size + 1) A pn := off_above hfr (by omega)
    refine ⟨⟨p1, p2, p3, p4, p5, p6, A, pn, c⟩, rfl, ⟨HE.out.dev, HE.out.num, HE.out.kind, HE.out.cid, HE.out.fld, HE.out.txt, HE.out.fits, ((hd.apart ap1 o1).apart ap3 o2).more (by rw [ap3.size, ap1.size]; exact Nat.le_refl _)⟩, ((hfr.apart ap1 o1).apart ap3 o2).less (by omega), ?_⟩
    exact (((((((HBW.out.setCell (by simp) _).setCell (by simp) _).setCell (by simp) _).setCell (by simp) _).setCell (by simp) _).setCell (by simp) _).setCell (by simp) _).setCell (by simp) _
end Go.Proofs.Ytbaiiidkffafmaa.Ev
