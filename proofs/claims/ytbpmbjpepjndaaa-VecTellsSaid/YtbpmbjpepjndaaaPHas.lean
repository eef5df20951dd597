/- The contract of the program's Has. For every vector of at most 2^43 dots and every dot. -/
import Derived.Test.YtbpmbjpepjndaaaPOf
import Derived.Shelf.SlSortCmp.QuietGrown
namespace Go.Proofs.Ytbpmbjpepjndaaa.Dt
open Go.ChangeShapes Go.WideShapes Go.ChangeAt Go.RowKit
set_option linter.unusedVariables false

theorem pgood_g (W : World) (d : Dot) (b : Bool) (hb : mayD d = b) :
    Calls Try.prog 29 #[.agg #[.int .u16 (d.1 : Int), .int .u64 (d.2 : Int)]] W fun e w' => e = .returned (.bool b) ∧ ∃ q os', w' = Sort.grow (W.drewN q) os' :=
  (pgood_x W d).mono fun _ _ ⟨h1, h2⟩ => ⟨by rw [h1, ← hb], 0, _, h2.trans (Sort.alloc_eq_grow _ _)⟩
theorem pgood_later (w W : World) (d : Dot) (hW : Below w.heap.size w W) :
    Calls Try.prog 29 #[.agg #[.int .u16 (d.1 : Int), .int .u64 (d.2 : Int)]] W fun e w' => e = .returned (.bool (mayD d)) ∧ Below w.heap.size w w' :=
  (pgood_x W d).mono fun _ _ ⟨h1, h2⟩ => ⟨h1, by rw [h2]; exact bel_alloc _ hW⟩
theorem has_no {l : List Dot} {d : Dot} (h : mayD d = false) : hasV l d = false := by unfold hasV; rw [h]; rfl
theorem has_yes {l : List Dot} {d : Dot} (h : mayD d = true) : hasV l d = decide (d.2 ≤ ofV l d.1) := by unfold hasV; rw [h, Bool.true_and]
set_option maxHeartbeats 1000000 in
theorem phas_any (w : World) (A : Option Addr) (l : List Dot) (n c : Nat) (d : Dot) (h : VecAt w A l n c) (hd : FitD d) :
    Calls Try.prog 17 #[.slice A n c, .agg #[.int .u16 (d.1 : Int), .int .u64 (d.2 : Int)]] w fun e w' => e = .returned (.bool (hasV l d)) ∧ Below w.heap.size w w' := by
  have HB0 : Hid (Below w.heap.size w (w.alloc (.cells #[.int .u16 (d.1 : Int), .int .u64 (d.2 : Int)] 27))) := below_new _ _
  have HV := Lib.hid (h.up HB0.out)
  have HX := Lib.hid (box_at w d)
  have hd1 := hd.1
  clear h hd
  cases hm : mayD d with
  | true =>
    rw [has_yes hm]
    have CG := fun W hW => pgood_later (w.alloc (.cells #[.int .u16 (d.1 : Int), .int .u64 (d.2 : Int)] 27)) W d hW
    have CO := fun W hW => later hW (pof_any W A l n c d.1 (HV.out.up hW) hd1)
    rw [hm] at CG
    generalize ofV l d.1 = v at CO ⊢
    clear hm
    go_enter Try.func17, Try.ntmps17
    go_wp2_with fail
    generalize hw0 : w.alloc (.cells #[.int .u16 (d.1 : Int), .int .u64 (d.2 : Int)] 27) = W0 at *
    have hx1 : W0.cell? ⟨w.heap.size, 0, none⟩ = some (.int .u16 (d.1 : Int)) := (HX.out _ (Below.refl _ _)).1
    have hx2 : W0.cell? ⟨w.heap.size, 1, none⟩ = some (.int .u64 (d.2 : Int)) := (HX.out _ (Below.refl _ _)).2
    clear hw0
    go_region_held3 (fun W => W.cell? ⟨w.heap.size, 0, none⟩ = some (.int .u16 (d.1 : Int)) ∧ W.cell? ⟨w.heap.size, 1, none⟩ = some (.int .u64 (d.2 : Int))) (first | go_keep | (constructor <;> assumption) | exact HX.out _ (by (repeat (first | exact Below.refl _ _ | assumption | apply bel_drew | apply bel_alloc)))) (first
      | (go_at_call 29; (with_reducible refine (CG _ ?_).mono ?_); (focus (repeat (first | exact Below.refl _ _ | assumption | apply bel_drew | apply bel_alloc))); rintro e V ⟨rfl, bv⟩)
      | (go_at_call 15; (with_reducible refine (CO _ ?_).mono ?_); (focus (repeat (first | exact Below.refl _ _ | assumption | apply bel_drew | apply bel_alloc))); rintro e V' ⟨rfl, bv'⟩))
    all_goals
      go_wp2
      go_ret
      exact ⟨rfl, HB0.out.trans (bv'.mono HB0.out.size)⟩
  | false =>
    rw [has_no hm]
    have hmx : Try.prog.follows .mixedOrders = true := by kernel_rfl
    have ct := fun W => pgood_g W d false hm
    clear hm
    go_enter Try.func17, Try.ntmps17
    go_wp2_with fail
    generalize hw0 : w.alloc (.cells #[.int .u16 (d.1 : Int), .int .u64 (d.2 : Int)] 27) = W0 at *
    have g1 : ∀ n os, (Sort.grow (W0.drewN n) os).cell? ⟨w.heap.size, 0, none⟩ = some (.int .u16 (d.1 : Int)) := fun n os => (HX.out _ (below_grow W0 n os)).1
    have g2 : ∀ n os, (Sort.grow (W0.drewN n) os).cell? ⟨w.heap.size, 1, none⟩ = some (.int .u64 (d.2 : Int)) := fun n os => (HX.out _ (below_grow W0 n os)).2
    clear hw0
    refine wp_region_quiet_grown hmx (by kernel_rfl) ?_
    repeat (
      (with_reducible refine wpQuiet_step (fun K hK => ?_))
      go_simp
      first
        | ((with_reducible refine hK _ ?_); clear hK K)
        | ((rw [if_neg (fun h => by cases h)]); (with_reducible refine hK _ ?_); clear hK K)
        | (apply Exists.intro; refine ⟨fun _ => ?_, hK _ ?_⟩; (go_at_call 29; refine Calls.grown_of (ct _)); clear hK K))
    with_reducible refine wpQuiet_nil ?_
    intro _ hw'
    obtain ⟨⟨nq, osq⟩, hw''⟩ := hw'
    subst hw''
    have bv : Below W0.heap.size W0 (Sort.grow (W0.drewN nq) osq) := below_grow W0 nq osq
    generalize Sort.grow (W0.drewN nq) osq = V at bv ⊢
    go_wp2
    go_ret
    exact ⟨rfl, HB0.out.trans (bv.mono HB0.out.size)⟩
end Go.Proofs.Ytbpmbjpepjndaaa.Dt
