/- DotPacks: the law's walk. -/
import Derived.Test.YtoojlalpcmlanaaDoorDParsesW
namespace Go.Proofs.YtoojlalpcmlanaaDoor.Dt
open Go.ChangeShapes Go.WideShapes Go.ChangeAt Go.RowKit
set_option linter.unusedVariables false

theorem numD_less {d : Dot} (h : FitD d) : numD d < 18446744073709551616 := by
  have := h.1; unfold numD; omega
theorem parse_textA (d : Dot) (h : FitD d) : parseB (textA d).data.toList = if mayD d = true then (d, true) else ((0, 0), false) := by
  rw [textA_list, parse_text d h.1]
theorem textA_max {d : Dot} (h : FitD d) : (textA d).size ≤ 281474976710656 := by
  have h1 := decA_long (v := d.1) (by have := h.1; omega)
  have h2 := decA_long h.2
  have h3 : (⟨#[46]⟩ : ByteArray).size = 1 := rfl
  unfold textA
  rw [ByteArray.size_append, ByteArray.size_append]
  omega
/-- what lies in the two boxes of the law's dots, in every later world. -/
theorem two_boxes (w : World) (a b : Dot) : ∀ V, Below ((w.alloc (.cells #[.int .u16 (a.1 : Int), .int .u64 (a.2 : Int)] 25)).alloc (.cells #[.int .u16 (b.1 : Int), .int .u64 (b.2 : Int)] 25)).heap.size ((w.alloc (.cells #[.int .u16 (a.1 : Int), .int .u64 (a.2 : Int)] 25)).alloc (.cells #[.int .u16 (b.1 : Int), .int .u64 (b.2 : Int)] 25)) V → (V.cell? ⟨w.heap.size, 0, none⟩ = some (.int .u16 (a.1 : Int)) ∧ V.cell? ⟨w.heap.size, 1, none⟩ = some (.int .u64 (a.2 : Int))) ∧ V.cell? ⟨w.heap.size + 1, 0, none⟩ = some (.int .u16 (b.1 : Int)) ∧ V.cell? ⟨w.heap.size + 1, 1, none⟩ = some (.int .u64 (b.2 : Int)) := by
  intro V hV
  have hc1 : ((w.alloc (.cells #[.int .u16 (a.1 : Int), .int .u64 (a.2 : Int)] 25)).alloc (.cells #[.int .u16 (b.1 : Int), .int .u64 (b.2 : Int)] 25)).cell? ⟨w.heap.size, 0, none⟩ = some (.int .u16 (a.1 : Int)) := by simp [go_sem]
  have hc2 : ((w.alloc (.cells #[.int .u16 (a.1 : Int), .int .u64 (a.2 : Int)] 25)).alloc (.cells #[.int .u16 (b.1 : Int), .int .u64 (b.2 : Int)] 25)).cell? ⟨w.heap.size, 1, none⟩ = some (.int .u64 (a.2 : Int)) := by simp [go_sem]
  have hc3 : ((w.alloc (.cells #[.int .u16 (a.1 : Int), .int .u64 (a.2 : Int)] 25)).alloc (.cells #[.int .u16 (b.1 : Int), .int .u64 (b.2 : Int)] 25)).cell? ⟨w.heap.size + 1, 0, none⟩ = some (.int .u16 (b.1 : Int)) := by simp [go_sem]
  have hc4 : ((w.alloc (.cells #[.int .u16 (a.1 : Int), .int .u64 (a.2 : Int)] 25)).alloc (.cells #[.int .u16 (b.1 : Int), .int .u64 (b.2 : Int)] 25)).cell? ⟨w.heap.size + 1, 1, none⟩ = some (.int .u64 (b.2 : Int)) := by simp [go_sem]
  exact ⟨⟨(hV.cell (World.block_lt_of_cell? _ _ hc1)).trans hc1, (hV.cell (World.block_lt_of_cell? _ _ hc2)).trans hc2⟩, (hV.cell (World.block_lt_of_cell? _ _ hc3)).trans hc3, (hV.cell (World.block_lt_of_cell? _ _ hc4)).trans hc4⟩
theorem one_box (w : World) (d : Dot) : ∀ V, Below (w.alloc (.cells #[.int .u16 (d.1 : Int), .int .u64 (d.2 : Int)] 25)).heap.size (w.alloc (.cells #[.int .u16 (d.1 : Int), .int .u64 (d.2 : Int)] 25)) V → V.cell? ⟨w.heap.size, 0, none⟩ = some (.int .u16 (d.1 : Int)) ∧ V.cell? ⟨w.heap.size, 1, none⟩ = some (.int .u64 (d.2 : Int)) := by
  intro V hV
  have hc1 : (w.alloc (.cells #[.int .u16 (d.1 : Int), .int .u64 (d.2 : Int)] 25)).cell? ⟨w.heap.size, 0, none⟩ = some (.int .u16 (d.1 : Int)) := by simp [go_sem]
  have hc2 : (w.alloc (.cells #[.int .u16 (d.1 : Int), .int .u64 (d.2 : Int)] 25)).cell? ⟨w.heap.size, 1, none⟩ = some (.int .u64 (d.2 : Int)) := by simp [go_sem]
  exact ⟨(hV.cell (World.block_lt_of_cell? _ _ hc1)).trans hc1, (hV.cell (World.block_lt_of_cell? _ _ hc2)).trans hc2⟩

set_option maxHeartbeats 8000000 in
/-- where the first dot may not be. -/
theorem packs_bad (P : PDot) (w : World) (hV : Vars w) (a b : Dot) (ha : FitD a) (hb : FitD b) (hm : mayD a = false) :
    Calls Tryd.prog 6 #[.agg #[.int .u16 (a.1 : Int), .int .u64 (a.2 : Int)], .agg #[.int .u16 (b.1 : Int), .int .u64 (b.2 : Int)]] w fun e w' => e = .returned (.bool true) ∧ Below w.heap.size w w' := by
  have CK := fun W => P.pack W a ha
  have CU := fun W => P.unpack W (numD a) (numD_less ha)
  have HV := Lib.hid hV
  clear hV
  have CT := fun W h => P.text W a h ha
  have CR := fun W h => P.parse W (textA a) h (textA_max ha)
  rw [parse_textA a ha] at CR
  have CG := fun W => P.good W a.1 a.2 ha
  have HB : Hid (Below w.heap.size w ((w.alloc (.cells #[.int .u16 (a.1 : Int), .int .u64 (a.2 : Int)] 25)).alloc (.cells #[.int .u16 (b.1 : Int), .int .u64 (b.2 : Int)] 25))) := below_new2 _ _ _
  have HC := Lib.hid (two_boxes w a b)
  rw [hm] at CR CG
  have HO := unpack_other hm
  clear hm
  generalize unpackD (numD a) = u at CU HO
  generalize textA a = ta at CT CR
  generalize numD a = na at CK CU
  obtain ⟨⟨u1, u2⟩, ok⟩ := u
  simp only [Bool.false_eq_true, if_false] at CU HO CR
  go_enter Tryd.func6, Tryd.ntmps6
  go_wp2_with fail
  generalize (w.alloc (.cells #[.int .u16 (a.1 : Int), .int .u64 (a.2 : Int)] 25)).alloc (.cells #[.int .u16 (b.1 : Int), .int .u64 (b.2 : Int)] 25) = W0 at HB HC ⊢
  refine (CK _).mono ?_
  rintro e w1 ⟨rfl, hb1⟩
  have HB1 := Lib.hid hb1
  clear hb1
  go_wp2_with fail
  refine (CU _).mono ?_
  rintro e w2 ⟨rfl, hb2⟩
  have HB2 : Hid (Below W0.heap.size W0 (w2.alloc (.cells #[.int .u16 (u1 : Int), .int .u64 (u2 : Int)] 25))) := bel_alloc _ (HB1.out.trans (hb2.mono HB1.out.size))
  have HD := Lib.hid (one_box w2 (u1, u2))
  clear hb2 HB1
  obtain ⟨⟨x1, x2⟩, _⟩ := HC.out _ HB2.out
  go_wp2_with fail
  clear x1 x2
  generalize w2.alloc (.cells #[.int .u16 (u1 : Int), .int .u64 (u2 : Int)] 25) = W3 at HB2 HD ⊢
  refine (CT _ (HV.out.pow.below (HB.out.trans (HB2.out.mono HB.out.size)))).mono ?_
  rintro e w4 ⟨rfl, hb4⟩
  have HB4 := Lib.hid hb4
  clear hb4
  go_wp2_with fail
  refine (CR _ (HV.out.below (HB.out.trans ((HB2.out.trans (HB4.out.mono HB2.out.size)).mono HB.out.size)))).mono ?_
  rintro e w5 ⟨rfl, hb5⟩
  have HB5 : Hid (Below W3.heap.size W3 (w5.alloc (.cells #[.int .u16 0, .int .u64 0] 25))) := bel_alloc _ (HB4.out.trans (hb5.mono HB4.out.size))
  clear hb5 HB4
  obtain ⟨⟨x1, x2⟩, _⟩ := HC.out _ (HB2.out.trans (HB5.out.mono HB2.out.size))
  go_wp2_with fail
  clear x1 x2
  generalize w5.alloc (.cells #[.int .u16 0, .int .u64 0] 25) = W6 at HB5 ⊢
  refine (CG _).mono ?_
  rintro e w7 ⟨rfl, hb7⟩
  have HB7 : Hid (Below W3.heap.size W3 w7) := HB5.out.trans (hb7.mono HB5.out.size)
  have HE : Hid (Below w.heap.size w w7) := HB.out.trans ((HB2.out.trans (HB7.out.mono HB2.out.size)).mono HB.out.size)
  obtain ⟨⟨x1, x2⟩, _⟩ := HC.out _ (HB2.out.trans (HB7.out.mono HB2.out.size))
  obtain ⟨y1, y2⟩ := HD.out _ HB7.out
  clear hb7 HB HB2 HB5 HC HD CK CU CT CR CG
  have hq : ok = true → ((u1 : Int) == (a.1 : Int)) = false ∨ u1 = a.1 ∧ ((u2 : Int) == (a.2 : Int)) = false := fun h => by
    by_cases e1 : u1 = a.1
    · refine .inr ⟨e1, ?_⟩
      rw [beq_eq_false_iff_ne]
      intro e2
      exact HO h (Prod.ext e1 (by show u2 = a.2; omega))
    · refine .inl ?_
      rw [beq_eq_false_iff_ne]
      intro e2
      exact e1 (by omega)
  clear HO
  cases ok with
  | false =>
    clear hq
    go_wp2_with fail
    refine (works_any P _ (HV.out.pow.below HE.out)).mono ?_
    rintro e w8 ⟨rfl, hb8⟩
    have HE8 : Hid (Below w.heap.size w w8) := HE.out.trans (hb8.mono HE.out.size)
    clear hb8
    go_wp2
    go_ret
    exact ⟨rfl, HE8.out⟩
  | true =>
    rcases hq rfl with q | ⟨q0, q⟩
    · clear hq
      go_wp2_with fail
      refine (works_any P _ (HV.out.pow.below HE.out)).mono ?_
      rintro e w8 ⟨rfl, hb8⟩
      have HE8 : Hid (Below w.heap.size w w8) := HE.out.trans (hb8.mono HE.out.size)
      clear hb8
      go_wp2
      go_ret
      exact ⟨rfl, HE8.out⟩
    · clear hq
      rw [q0] at y1
      clear q0
      go_wp2_with fail
      refine (works_any P _ (HV.out.pow.below HE.out)).mono ?_
      rintro e w8 ⟨rfl, hb8⟩
      have HE8 : Hid (Below w.heap.size w w8) := HE.out.trans (hb8.mono HE.out.size)
      clear hb8
      go_wp2
      go_ret
      exact ⟨rfl, HE8.out⟩
end Go.Proofs.YtoojlalpcmlanaaDoor.Dt
