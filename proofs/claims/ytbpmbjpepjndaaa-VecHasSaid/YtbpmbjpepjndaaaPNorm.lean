/- The contracts of the program's Norm, Join and Put. For all vectors of at most 2^43 dots. -/
import Derived.Test.YtbpmbjpepjndaaaPCat
import Derived.Test.YtbpmbjpepjndaaaPInOrder
namespace Go.Proofs.Ytbpmbjpepjndaaa.Dt
open Go.ChangeShapes Go.WideShapes Go.ChangeAt Go.RowKit
set_option linter.unusedVariables false

theorem pnorm_long (hsort : Sorts) (w : World) (A : Option Addr) (l : List Dot) (n c : Nat) (hl : l.length = n) (hd : Dots w w.heap.size A l) (hn : n ≤ 4611686018427387904) :
    Calls Try.prog 13 #[.slice A n c] w (DotPost w (normV l)) := by
  have CT := ptold_any w A l n c hl hd hn
  have HT := Lib.hid (tells_of hd.1)
  have HS := Lib.hid hsort
  clear hl hd hsort
  go_enter Try.func13, Try.ntmps13
  go_wp2_with fail
  refine CT.mono ?_
  rintro e w1 ⟨rfl, hm, hb⟩
  have CI := pinorder_any HS.out w1 w.heap.size 65536 (ofV l) hm HT.out
  have HB := Lib.hid hb
  clear hm hb CT
  go_wp2_with fail
  refine CI.mono ?_
  intro e w2 hp
  obtain ⟨A2, n2, c2, rfl, h2, h3, h4⟩ := post_up HB.out hp
  have HP := Lib.hid (And.intro h2 (And.intro h3 h4))
  clear hp h2 h3 h4 CI
  go_wp2
  go_ret
  exact ⟨A2, n2, c2, rfl, HP.out⟩
theorem pnorm_any (hsort : Sorts) (w : World) (A : Option Addr) (l : List Dot) (n c : Nat) (h : VecAt w A l n c) : Calls Try.prog 13 #[.slice A n c] w (DotPost w (normV l)) :=
  pnorm_long hsort w A l n c h.len h.dots (Nat.le_trans h.few (by decide))
/-- what two lists, one behind the other, tell. -/
theorem norm_append (a b : List Dot) : normV (a ++ b) = joinV a b := by
  unfold normV joinV
  congr 1
  funext d
  exact of_append a b d
theorem fit_append {a b : List Dot} (ha : Fit a) (hb : Fit b) : Fit (a ++ b) := fun r hr => (List.mem_append.1 hr).elim (ha r) (hb r)
set_option maxHeartbeats 1000000 in
theorem pjoin_any (hsort : Sorts) (w : World) (A1 A2 : Option Addr) (l1 l2 : List Dot) (n1 n2 c1 c2 : Nat) (h1 : VecAt w A1 l1 n1 c1) (h2 : VecAt w A2 l2 n2 c2) :
    Calls Try.prog 19 #[.slice A1 n1 c1, .slice A2 n2 c2] w (DotPost w (joinV l1 l2)) := by
  have HB0 : Hid (Below w.heap.size w (w.alloc (.cells #[.slice A1 n1 c1, .slice A2 n2 c2] 23))) := below_new _ _
  have CC := pconcat_two (w.alloc (.cells #[.slice A1 n1 c1, .slice A2 n2 c2] 23)) w.heap.size A1 A2 l1 l2 n1 n2 c1 c2 (h1.up HB0.out) (h2.up HB0.out) (by simp) (by simp [go_sem]) (by simp [go_sem])
  have HF := Lib.hid (fit_append h1.dots.1 h2.dots.1)
  have HN : Hid (n1 + n2 ≤ 4611686018427387904) := by have := h1.few; have := h2.few; exact Lib.hid (by omega)
  have HE : Hid ((l1 ++ l2).length = n1 + n2) := Lib.hid (by rw [List.length_append, h1.len, h2.len])
  have HS := Lib.hid hsort
  rw [← norm_append]
  clear h1 h2 hsort
  generalize l1 ++ l2 = l at *
  go_enter Try.func19, Try.ntmps19
  go_wp2_with fail
  refine CC.mono ?_
  intro e w1 hp
  obtain ⟨A, n, c, rfl, hn, ho, hb⟩ := hp
  have CN := pnorm_long HS.out w1 A l n c hn (dots_own ho HF.out) (by rw [← hn, HE.out]; exact HN.out)
  have HB1 : Hid (Below w.heap.size w w1) := Lib.hid (HB0.out.trans (hb.mono HB0.out.size))
  clear hn ho hb CC
  go_wp2_with fail
  refine CN.mono ?_
  intro e w2 hp
  obtain ⟨A2, n2, c2, rfl, h2, h3, h4⟩ := post_up HB1.out hp
  have HP := Lib.hid (And.intro h2 (And.intro h3 h4))
  clear hp h2 h3 h4 CN
  go_wp2
  go_ret
  exact ⟨A2, n2, c2, rfl, HP.out⟩
set_option maxHeartbeats 1000000 in
theorem pput_any (hsort : Sorts) (w : World) (A : Option Addr) (l : List Dot) (n c : Nat) (d : Dot) (h : VecAt w A l n c) (hd : FitD d) :
    Calls Try.prog 18 #[.slice A n c, .agg #[.int .u16 (d.1 : Int), .int .u64 (d.2 : Int)]] w (DotPost w (putV l d)) := by
  have HB0 : Hid (Below w.heap.size w ((w.alloc (.cells #[.int .u16 (d.1 : Int), .int .u64 (d.2 : Int)] 27)).alloc (.cells #[.int .u16 (d.1 : Int), .int .u64 (d.2 : Int)] 27))) := below_new2 _ _ _
  have V1 : VecAt ((w.alloc (.cells #[.int .u16 (d.1 : Int), .int .u64 (d.2 : Int)] 27)).alloc (.cells #[.int .u16 (d.1 : Int), .int .u64 (d.2 : Int)] 27)) (some ⟨w.heap.size + 1, 0, none⟩) [d] 1 1 := by
    have h1 := lies_one (w.alloc (.cells #[.int .u16 (d.1 : Int), .int .u64 (d.2 : Int)] 27)) d
    refine ⟨rfl, (fun h => by cases h), Nat.le_refl _, by decide, ⟨fit_one hd.1 hd.2, ?_⟩, by decide⟩
    simpa using h1
  have CJ := pjoin_any hsort _ _ _ _ _ _ _ _ _ (h.up HB0.out) V1
  rw [show putV l d = joinV l [d] from rfl]
  clear h hd hsort V1
  go_enter Try.func18, Try.ntmps18
  go_wp2_with fail
  refine CJ.mono ?_
  intro e w2 hp
  obtain ⟨A2, n2, c2, rfl, h2, h3, h4⟩ := post_up HB0.out hp
  have HP := Lib.hid (And.intro h2 (And.intro h3 h4))
  clear hp h2 h3 h4 CJ
  go_wp2
  go_ret
  exact ⟨A2, n2, c2, rfl, HP.out⟩
end Go.Proofs.Ytbpmbjpepjndaaa.Dt
