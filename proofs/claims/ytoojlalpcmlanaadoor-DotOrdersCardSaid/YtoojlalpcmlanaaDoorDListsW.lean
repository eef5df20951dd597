/- DotLists: the law's walk. -/
import Derived.Test.YtoojlalpcmlanaaDoorDTellsW
namespace Go.Proofs.YtoojlalpcmlanaaDoor.Dt
open Go.ChangeShapes Go.WideShapes Go.ChangeAt Go.RowKit
set_option linter.unusedVariables false

theorem sortD_fit (l : List Dot) (h : Fit l) : Fit (sortD l) := fun r hr => h r ((sort_mem l r).1 hr)
theorem sortD_len (l : List Dot) (h : Fit l) : (sortD l).length ≤ l.length := by
  have := (sort_fit l h l.length).2
  rwa [List.take_length] at this
theorem psorts_later (P : PDot) (w W : World) (A0 : Option Addr) (l : List Dot) (n c0 : Nat) (hl : l.length = n) (hA : A0 = none → n = 0 ∧ c0 = 0) (hc : n ≤ c0) (hn : n ≤ 1024) (h : Dots w w.heap.size A0 l) (hW : Below w.heap.size w W) :
    Calls Tryd.prog 20 #[.slice A0 n c0] W fun e V => ∃ A c, e = .returned (.slice A (sortD l).length c) ∧ Dots V V.heap.size A (sortD l) ∧ Below w.heap.size w V ∧ Below W.heap.size W V := by
  refine (P.sort W A0 l n c0 hl hA hc (h.up hW) hn).mono ?_
  intro e V hp
  obtain ⟨A, k, c, rfl, hk, _, _, _, hD, _, hb⟩ := post_dots hp (sortD_fit l h.1)
  exact ⟨A, c, by rw [hk], hD, hW.trans (hb.mono hW.size), hb⟩
theorem rsorts_later (w W : World) (A0 : Option Addr) (l : List Dot) (n c0 : Nat) (hl : l.length = n) (hn : n ≤ 1024) (h : Dots w w.heap.size A0 l) (hW : Below w.heap.size w W) :
    Calls Tryd.prog 21 #[.slice A0 n c0] W fun e V => ∃ A c, e = .returned (.slice A (sortD l).length c) ∧ Dots V V.heap.size A (sortD l) ∧ Below w.heap.size w V ∧ Below W.heap.size W V := by
  refine (rsort_any W A0 l n c0 hl (h.up hW) (by omega)).mono ?_
  intro e V hp
  obtain ⟨A, k, c, rfl, hk, _, _, _, hD, _, hb⟩ := post_dots hp (sortD_fit l h.1)
  exact ⟨A, c, by rw [hk], hD, hW.trans (hb.mono hW.size), hb⟩
theorem rsame_later (w W : World) (B1 B2 : Nat) (A1 A2 : Option Addr) (l m : List Dot) (n1 n2 c1 c2 : Nat) (e1 : l.length = n1) (e2 : m.length = n2) (hn : n1 ≤ 1024) (hW : Below w.heap.size w W) (h1 : Dots W B1 A1 l) (h2 : Dots W B2 A2 m) :
    Calls Tryd.prog 19 #[.slice A1 n1 c1, .slice A2 n2 c2] W fun e V => e = .returned (.bool (decide (l = m))) ∧ Below w.heap.size w V := by
  refine (rsame_any W B1 B2 A1 A2 l m n1 n2 c1 c2 e1 e2 h1 h2 (by omega)).mono ?_
  rintro e V ⟨rfl, k, rfl⟩
  exact ⟨rfl, bel_drewN hW k⟩

set_option maxHeartbeats 16000000 in
theorem lists_walk (P : PDot) (w : World) (hP : Pow w) (A0 A1 : Option Addr) (l m : List Dot) (n0 n1 c0 c1 : Nat) (d : Dot) (hl : l.length = n0) (hm : m.length = n1) (hA0 : A0 = none → n0 = 0 ∧ c0 = 0) (hc0 : n0 ≤ c0) (hb0 : Dots w w.heap.size A0 l) (hb1 : Dots w w.heap.size A1 m) (hd : FitD d) :
    Calls Tryd.prog 4 #[.slice A0 n0 c0, .slice A1 n1 c1, .agg #[.int .u16 (d.1 : Int), .int .u64 (d.2 : Int)]] w fun e w' => e = .returned (.bool true) ∧ Below w.heap.size w w' := by
  have HB : Hid (Below w.heap.size w (w.alloc (.cells #[.int .u16 (d.1 : Int), .int .u64 (d.2 : Int)] 25))) := below_new _ _
  have HX := Lib.hid (one_dot w d)
  by_cases hbig : 200 < n0
  · have d1 : decide ((200 : Int) < (n0 : Int)) = true := decide_eq_true (by omega)
    go_enter Tryd.func4, Tryd.ntmps4
    go_wp2_with fail
    refine (works_any P _ (hP.below HB.out)).mono ?_
    rintro e w2 ⟨rfl, hb2⟩
    have HE : Hid (Below w.heap.size w w2) := HB.out.trans (hb2.mono HB.out.size)
    clear hb2
    go_wp2
    go_ret
    exact ⟨rfl, HE.out⟩
  · have d1 : decide ((200 : Int) < (n0 : Int)) = false := decide_eq_false (by omega)
    have hn : n0 ≤ 1024 := by omega
    have hq := hb0.up HB.out
    have hq1 := hb1.up HB.out
    have HP := Lib.hid (hP.below HB.out)
    have hLen : (sortD l).length ≤ 1024 := by have := sortD_len l hb0.1; omega
    have hR : riseB (sortD l) = true := (rise_ord _).2 (sort_ord l)
    clear hbig hP hb0 hb1
    go_enter Tryd.func4, Tryd.ntmps4
    go_wp2_with fail
    generalize w.alloc (.cells #[.int .u16 (d.1 : Int), .int .u64 (d.2 : Int)] 25) = W0 at HB HX HP hq hq1 ⊢
    have A20 := fun W (hW : Below W0.heap.size W0 W) => psorts_later P W0 W A0 l n0 c0 hl hA0 hc0 hn hq hW
    have A21 := fun W (hW : Below W0.heap.size W0 W) => rsorts_later W0 W A0 l n0 c0 hl hn hq hW
    have A19 := fun W A A' c c' (hW : Below W0.heap.size W0 W) h1 h2 => rsame_later W0 W W.heap.size W.heap.size A A' (sortD l) (sortD l) _ _ c c' rfl rfl hLen hW h1 h2
    have A22 := fun W (hW : Below W0.heap.size W0 W) => later hW (P.rising W A0 l n0 c0 hl (hq.up hW) hn)
    have A23 := fun W (hW : Below W0.heap.size W0 W) => later hW (rrising_any W A0 l n0 c0 hl (hq.up hW) (by omega))
    have A24 := fun W (hW : Below W0.heap.size W0 W) => later hW (P.has W A0 l n0 c0 d hl (hq.up hW) hn hd)
    have A25 := fun W (hW : Below W0.heap.size W0 W) => later hW (rhas_any W A0 l n0 c0 d hl (hq.up hW) (by omega))
    have A26 := fun W (hW : Below W0.heap.size W0 W) => later hW (P.same W A0 A1 l m n0 n1 c0 c1 hl hm (hq.up hW) (hq1.up hW) hn)
    have A19' := fun W (hW : Below W0.heap.size W0 W) => rsame_later W0 W _ _ A0 A1 l m n0 n1 c0 c1 hl hm hn hW (hq.up hW) (hq1.up hW)
    have A22' := fun W A c (hW : Below W0.heap.size W0 W) (h : Dots W W.heap.size A (sortD l)) => later hW (P.rising W A (sortD l) _ c rfl h hLen)
    have A18 := fun W (hW : Below W0.heap.size W0 W) => later hW (works_any P W (HP.out.below hW))
    simp only [hR, decide_true] at A22' A19
    clear hq hq1 hl hm hA0 hc0 hn hLen hR hd
    generalize (sortD l).length = z at *
    generalize sortD l = L at *
    generalize riseB l = br at A22 A23
    generalize decide (d ∈ l) = bh at A24 A25
    generalize decide (l = m) = bs at A26 A19'
    obtain ⟨x1, x2⟩ := HX.out W0 (Below.refl _ _)
    go_region_held3 (fun V => V.cell? ⟨w.heap.size, 0, none⟩ = some (.int .u16 (d.1 : Int)) ∧ V.cell? ⟨w.heap.size, 1, none⟩ = some (.int .u64 (d.2 : Int))) (first | exact ⟨x1, x2⟩ | assumption | exact HX.out _ (by (repeat (first | exact Below.refl _ _ | assumption | apply bel_drew | apply bel_alloc)))) (first
      | (go_at_call 20; (with_reducible refine (A20 _ ?_).mono ?_); (repeat (first | exact Below.refl _ _ | assumption | apply bel_drew | apply bel_alloc)); rintro e V ⟨A, c, rfl, hD, bv, cv⟩; have hcV := HX.out V bv)
      | (go_at_call 21; (with_reducible refine (A21 _ ?_).mono ?_); (repeat (first | exact Below.refl _ _ | assumption | apply bel_drew | apply bel_alloc)); rintro e V' ⟨A', c', rfl, hD', bv', cv'⟩; have hcV := HX.out V' bv'; have hD2 := Dots.up hD cv')
      | (go_at_call 19; (with_reducible refine (A19 _ _ _ _ _ ?_ ?_ ?_).mono ?_); (focus (repeat (first | exact Below.refl _ _ | assumption | apply bel_drew | apply bel_alloc))); (focus (exact hD2)); (focus (exact hD')); rintro e V ⟨rfl, bv⟩; have hcV := HX.out V bv)
      | (go_at_call 19; (with_reducible refine (A19' _ ?_).mono ?_); (repeat (first | exact Below.refl _ _ | assumption | apply bel_drew | apply bel_alloc)); rintro e V ⟨rfl, bv⟩; have hcV := HX.out V bv)
      | (go_at_call 22; (with_reducible refine (A22 _ ?_).mono ?_); (repeat (first | exact Below.refl _ _ | assumption | apply bel_drew | apply bel_alloc)); rintro e V ⟨rfl, bv⟩; have hcV := HX.out V bv)
      | (go_at_call 22; (with_reducible refine (A22' _ _ _ ?_ ?_).mono ?_); (focus (repeat (first | exact Below.refl _ _ | assumption | apply bel_drew | apply bel_alloc))); (focus (exact hD)); rintro e V ⟨rfl, bv⟩; have hcV := HX.out V bv)
      | (go_at_call 23; (with_reducible refine (A23 _ ?_).mono ?_); (repeat (first | exact Below.refl _ _ | assumption | apply bel_drew | apply bel_alloc)); rintro e V ⟨rfl, bv⟩; have hcV := HX.out V bv)
      | (go_at_call 24; (with_reducible refine (A24 _ ?_).mono ?_); (repeat (first | exact Below.refl _ _ | assumption | apply bel_drew | apply bel_alloc)); rintro e V ⟨rfl, bv⟩; have hcV := HX.out V bv)
      | (go_at_call 25; (with_reducible refine (A25 _ ?_).mono ?_); (repeat (first | exact Below.refl _ _ | assumption | apply bel_drew | apply bel_alloc)); rintro e V ⟨rfl, bv⟩; have hcV := HX.out V bv)
      | (go_at_call 26; (with_reducible refine (A26 _ ?_).mono ?_); (repeat (first | exact Below.refl _ _ | assumption | apply bel_drew | apply bel_alloc)); rintro e V ⟨rfl, bv⟩; have hcV := HX.out V bv)
      | (go_at_call 18; (with_reducible refine (A18 _ ?_).mono ?_); (repeat (first | exact Below.refl _ _ | assumption | apply bel_drew | apply bel_alloc)); rintro e V ⟨rfl, bv⟩; have hcV := HX.out V bv))
    all_goals
      go_wp2
      go_ret
      exact ⟨rfl, HB.out.trans (bv.mono HB.out.size)⟩
end Go.Proofs.YtoojlalpcmlanaaDoor.Dt
