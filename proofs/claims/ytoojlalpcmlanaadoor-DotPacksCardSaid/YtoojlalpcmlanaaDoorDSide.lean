/- What the walks of layer dot's laws ask of the program's own functions. -/
import Derived.Test.YtoojlalpcmlanaaDoorPParse
import Derived.Test.YtoojlalpcmlanaaDoorPSort
import Derived.Test.YtoojlalpcmlanaaDoorPRise
import Derived.Test.YtoojlalpcmlanaaDoorDFrame
namespace Go.Proofs.YtoojlalpcmlanaaDoor.Dt
open Go.ChangeShapes Go.WideShapes Go.ChangeAt Go.RowKit
set_option linter.unusedVariables false

/-- the answers of the program's functions. -/
structure PDot : Prop where
  good : ∀ (w : World) (a n : Nat), FitD (a, n) → Calls Tryd.prog 10 #[.agg #[.int .u16 (a : Int), .int .u64 (n : Int)]] w fun e w' => e = .returned (.bool (mayD (a, n))) ∧ Below w.heap.size w w'
  cmp : ∀ (w : World) (a b : Dot), FitD a → FitD b → Calls Tryd.prog 12 #[.agg #[.int .u16 (a.1 : Int), .int .u64 (a.2 : Int)], .agg #[.int .u16 (b.1 : Int), .int .u64 (b.2 : Int)]] w fun e w' => e = .returned (.int .i64 (cmpD a b)) ∧ Below w.heap.size w w'
  pack : ∀ (w : World) (d : Dot), FitD d → Calls Tryd.prog 14 #[.agg #[.int .u16 (d.1 : Int), .int .u64 (d.2 : Int)]] w fun e w' => e = .returned (.int .u64 (numD d : Int)) ∧ Below w.heap.size w w'
  unpack : ∀ (w : World) (v : Nat), v < 18446744073709551616 → Calls Tryd.prog 8 #[.int .u64 (v : Int)] w fun e w' => e = .returned (.tuple #[.agg #[.int .u16 ((unpackD v).1.1 : Int), .int .u64 ((unpackD v).1.2 : Int)], .bool (unpackD v).2]) ∧ Below w.heap.size w w'
  text : ∀ (w : World) (d : Dot), Pow w → FitD d → Calls Tryd.prog 16 #[.agg #[.int .u16 (d.1 : Int), .int .u64 (d.2 : Int)]] w fun e w' => e = .returned (.string (textA d)) ∧ Below w.heap.size w w'
  parse : ∀ (w : World) (s : ByteArray), Vars w → s.size ≤ 281474976710656 → Calls Tryd.prog 27 #[.string s] w fun e w' => e = .returned (.tuple #[.agg #[.int .u16 ((parseB s.data.toList).1.1 : Int), .int .u64 ((parseB s.data.toList).1.2 : Int)], .bool (parseB s.data.toList).2]) ∧ Below w.heap.size w w'
  sort : ∀ (w : World) (A : Option Addr) (l : List Dot) (n c : Nat), l.length = n → (A = none → n = 0 ∧ c = 0) → n ≤ c → Dots w w.heap.size A l → n ≤ 1024 → Calls Tryd.prog 20 #[.slice A n c] w (DotPost w (sortD l))
  rising : ∀ (w : World) (A : Option Addr) (l : List Dot) (n c : Nat), l.length = n → Dots w w.heap.size A l → n ≤ 1024 → Calls Tryd.prog 22 #[.slice A n c] w fun e w' => e = .returned (.bool (riseB l)) ∧ Below w.heap.size w w'
  has : ∀ (w : World) (A : Option Addr) (l : List Dot) (n c : Nat) (d : Dot), l.length = n → Dots w w.heap.size A l → n ≤ 1024 → FitD d → Calls Tryd.prog 24 #[.slice A n c, .agg #[.int .u16 (d.1 : Int), .int .u64 (d.2 : Int)]] w fun e w' => e = .returned (.bool (decide (d ∈ l))) ∧ Below w.heap.size w w'
  same : ∀ (w : World) (A1 A2 : Option Addr) (l1 l2 : List Dot) (n1 n2 c1 c2 : Nat), l1.length = n1 → l2.length = n2 → Dots w w.heap.size A1 l1 → Dots w w.heap.size A2 l2 → n1 ≤ 1024 → Calls Tryd.prog 26 #[.slice A1 n1 c1, .slice A2 n2 c2] w fun e w' => e = .returned (.bool (decide (l1 = l2))) ∧ Below w.heap.size w w'

/-- they are as the program's text says. -/
theorem pdot : PDot where
  good w a n _ := pgood_any w a n
  cmp w a b _ _ := pcmp_any w a b
  pack w d h := ppack_any w d h
  unpack w v h := punpack_any w v h
  text w d hP h := ptext_any d.1 d.2 h.1 h.2 w hP
  parse w s hV hs := pparse_any s w hs hV
  sort w A l n c hl hA _ hb hn := psort_any w A l n c hl hA hb (by omega)
  rising w A l n c hl hb hn := prising_any w A l n c hl hb (by omega)
  has w A l n c d hl hb hn _ := phas_any w A l n c d hl hb (by omega)
  same w A1 A2 l1 l2 n1 n2 c1 c2 e1 e2 h1 h2 hn := psame_any w _ _ A1 A2 l1 l2 n1 n2 c1 c2 e1 e2 h1 h2 (by omega)
theorem Dots.drew {w : World} {B : Nat} {A : Option Addr} {l : List Dot} (h : Dots w B A l) : Dots w.drew B A l := h
theorem dots_new3 (V : World) (bl : Nat) (h : bl = V.heap.size) : Dots (V.alloc (.cells #[.int .u16 2, .int .u64 1, .int .u16 1, .int .u64 9, .int .u16 2, .int .u64 1] 25)) (V.heap.size + 1) (some ⟨bl, 0, none⟩) [(2, 1), (1, 9), (2, 1)] := by
  subst h
  refine ⟨by unfold Fit; decide, fun _ => ⟨_, rfl, Nat.lt_succ_self _, fun j u hu => ?_⟩⟩
  rw [zero_add, World.cell?_alloc_new]
  simpa [dv] using hu
theorem dots_new2 (V : World) (bl : Nat) (h : bl = V.heap.size) : Dots (V.alloc (.cells #[.int .u16 1, .int .u64 9, .int .u16 2, .int .u64 1] 25)) (V.heap.size + 1) (some ⟨bl, 0, none⟩) [(1, 9), (2, 1)] := by
  subst h
  refine ⟨by unfold Fit; decide, fun _ => ⟨_, rfl, Nat.lt_succ_self _, fun j u hu => ?_⟩⟩
  rw [zero_add, World.cell?_alloc_new]
  simpa [dv] using hu
theorem text_later (P : PDot) (w W : World) (hP : Pow w) (hW : Below w.heap.size w W) :
    Calls Tryd.prog 16 #[.agg #[.int .u16 3, .int .u64 17]] W fun e V => e = .returned (.string ⟨#[51, 46, 49, 55]⟩) ∧ Below w.heap.size w V := by
  refine (P.text W (3, 17) (hP.below hW) ⟨by decide, by decide⟩).mono ?_
  rintro e V ⟨rfl, hV⟩
  exact ⟨by rw [text_one], hW.trans (hV.mono hW.size)⟩
theorem sort_later (P : PDot) (w W : World) (bl : Nat) (hW : Below w.heap.size w W) (hd : Dots W W.heap.size (some ⟨bl, 0, none⟩) [(2, 1), (1, 9), (2, 1)]) :
    Calls Tryd.prog 20 #[.slice (some ⟨bl, 0, none⟩) 3 3] W fun e V => ∃ A c, e = .returned (.slice A 2 c) ∧ Dots V V.heap.size A [(1, 9), (2, 1)] ∧ Below w.heap.size w V ∧ Below W.heap.size W V := by
  refine (P.sort W _ _ 3 3 rfl (fun h => by cases h) (Nat.le_refl _) hd (by decide)).mono ?_
  rw [sort_one]
  intro e V h
  obtain ⟨A, n, c, rfl, hn, hnil, h1, h2, hD, ho, hb⟩ := post_dots h (by unfold Fit; decide)
  obtain rfl : n = 2 := hn.symm
  exact ⟨A, c, rfl, hD, hW.trans (hb.mono hW.size), hb⟩
theorem same_later (w W : World) (A : Option Addr) (bl c : Nat) (hW : Below w.heap.size w W) (h1 : Dots W W.heap.size A [(1, 9), (2, 1)]) (h2 : Dots W W.heap.size (some ⟨bl, 0, none⟩) [(1, 9), (2, 1)]) :
    Calls Tryd.prog 19 #[.slice A 2 c, .slice (some ⟨bl, 0, none⟩) 2 2] W fun e V => e = .returned (.bool true) ∧ Below w.heap.size w V := by
  refine (rsame_any W _ _ A (some ⟨bl, 0, none⟩) [(1, 9), (2, 1)] [(1, 9), (2, 1)] 2 2 c 2 rfl rfl h1 h2 (by decide)).mono ?_
  rintro e V ⟨rfl, m, rfl⟩
  exact ⟨by simp, bel_drewN hW m⟩

set_option maxHeartbeats 4000000 in
theorem works_any (P : PDot) (w : World) (hP : Pow w) : Calls Tryd.prog 18 #[] w fun e w' => e = .returned (.bool true) ∧ Below w.heap.size w w' := by
  have HB : Hid (Below w.heap.size w ((w.alloc (.cells #[.int .u16 1, .int .u64 9] 25)).alloc (.cells #[.int .u16 2, .int .u64 1] 25))) := below_new2 _ _ _
  have HP := Lib.hid (hP.below HB.out)
  clear hP
  go_enter Tryd.func18, Tryd.ntmps18
  go_wp2_with fail
  have hc1 : ((w.alloc (.cells #[.int .u16 1, .int .u64 9] 25)).alloc (.cells #[.int .u16 2, .int .u64 1] 25)).cell? ⟨w.heap.size, 0, none⟩ = some (.int .u16 1) := by simp [go_sem]
  have hc2 : ((w.alloc (.cells #[.int .u16 1, .int .u64 9] 25)).alloc (.cells #[.int .u16 2, .int .u64 1] 25)).cell? ⟨w.heap.size, 1, none⟩ = some (.int .u64 9) := by simp [go_sem]
  have hc3 : ((w.alloc (.cells #[.int .u16 1, .int .u64 9] 25)).alloc (.cells #[.int .u16 2, .int .u64 1] 25)).cell? ⟨w.heap.size + 1, 0, none⟩ = some (.int .u16 2) := by simp [go_sem]
  have hc4 : ((w.alloc (.cells #[.int .u16 1, .int .u64 9] 25)).alloc (.cells #[.int .u16 2, .int .u64 1] 25)).cell? ⟨w.heap.size + 1, 1, none⟩ = some (.int .u64 1) := by simp [go_sem]
  generalize (w.alloc (.cells #[.int .u16 1, .int .u64 9] 25)).alloc (.cells #[.int .u16 2, .int .u64 1] 25) = W0 at HB HP hc1 hc2 hc3 hc4 ⊢
  have HC : Hid (∀ V, Below W0.heap.size W0 V → (V.cell? ⟨w.heap.size, 0, none⟩ = some (.int .u16 1) ∧ V.cell? ⟨w.heap.size, 1, none⟩ = some (.int .u64 9)) ∧ V.cell? ⟨w.heap.size + 1, 0, none⟩ = some (.int .u16 2) ∧ V.cell? ⟨w.heap.size + 1, 1, none⟩ = some (.int .u64 1)) := fun V hV =>
    ⟨⟨(hV.cell (World.block_lt_of_cell? W0 _ hc1)).trans hc1, (hV.cell (World.block_lt_of_cell? W0 _ hc2)).trans hc2⟩, (hV.cell (World.block_lt_of_cell? W0 _ hc3)).trans hc3, (hV.cell (World.block_lt_of_cell? W0 _ hc4)).trans hc4⟩
  go_region_held3 (fun V => (V.cell? ⟨w.heap.size, 0, none⟩ = some (.int .u16 1) ∧ V.cell? ⟨w.heap.size, 1, none⟩ = some (.int .u64 9)) ∧ V.cell? ⟨w.heap.size + 1, 0, none⟩ = some (.int .u16 2) ∧ V.cell? ⟨w.heap.size + 1, 1, none⟩ = some (.int .u64 1)) (first | exact ⟨⟨hc1, hc2⟩, hc3, hc4⟩ | assumption | exact HC.out _ (by (repeat (first | exact Below.refl _ _ | assumption | apply bel_drew | apply bel_alloc)))) (first
    | (go_at_call 16; (with_reducible refine (text_later P W0 _ HP.out ?_).mono ?_); (repeat (first | exact Below.refl _ _ | assumption | apply bel_drew | apply bel_alloc)); rintro e V ⟨rfl, bv⟩; have hcV := HC.out V bv)
    | (go_at_call 20; (with_reducible refine (sort_later P W0 _ _ ?_ ?_).mono ?_); (focus (repeat (first | exact Below.refl _ _ | assumption | apply bel_drew | apply bel_alloc))); (focus (first | (refine (dots_new3 _ _ ?_).more ?_ <;> (simp; done)) | (refine ((dots_new3 _ _ ?_).below (Below.mono (below_new _ _) ?_)).more ?_ <;> (simp; done)))); rintro e V ⟨A, c, rfl, hD, bv, bv2⟩; have hcV := HC.out V bv)
    | (go_at_call 19; (with_reducible refine (same_later W0 _ _ _ _ ?_ ?_ ?_).mono ?_); (focus (repeat (first | exact Below.refl _ _ | assumption | apply bel_drew | apply bel_alloc))); (focus (first | assumption | exact hD.up (below_new _ _) | exact hD)); (focus (first | (refine (dots_new2 _ _ ?_).more ?_ <;> (simp; done)) | (refine ((dots_new2 _ _ ?_).below (Below.mono bv2 ?_)).more ?_ <;> (first | (simp; done) | (have hsz := bv2.size; simp at hsz ⊢; omega))) | (refine (((dots_new2 _ _ ?_).below (Below.mono (below_new _ _) ?_)).below (Below.mono bv2 ?_)).more ?_ <;> (first | (simp; done) | (have hsz := bv2.size; simp at hsz ⊢; omega))))); rintro e V ⟨rfl, bv⟩; have hcV := HC.out V bv))
  all_goals
    go_wp2
    go_ret
    exact ⟨rfl, HB.out.trans (bv.mono HB.out.size)⟩
end Go.Proofs.YtoojlalpcmlanaaDoor.Dt
