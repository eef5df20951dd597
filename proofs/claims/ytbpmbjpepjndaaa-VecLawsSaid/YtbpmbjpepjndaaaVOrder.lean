/- The contracts of the document's Join, Meet, Norm, Within, Order and Lack of layer vec. For every two lists of together at most 2^42 dots. -/
import Derived.Test.YtbpmbjpepjndaaaVBoth
namespace Go.Proofs.Ytbpmbjpepjndaaa.Dt
open Go.ChangeShapes Go.WideShapes Go.ChangeAt Go.RowKit
set_option linter.unusedVariables false

theorem rjoin_any (w : World) (A1 A2 : Option Addr) (l1 l2 : List Dot) (n1 n2 c1 c2 : Nat) (e1 : l1.length = n1) (e2 : l2.length = n2) (a1 : A1 = none → n1 = 0 ∧ c1 = 0) (a2 : A2 = none → n2 = 0 ∧ c2 = 0) (h1 : Dots w w.heap.size A1 l1) (h2 : Dots w w.heap.size A2 l2) (h42 : n1 + n2 ≤ 4398046511104) :
    Calls Try.prog 11 #[.slice A1 n1 c1, .slice A2 n2 c2] w (DotPost w (joinV l1 l2)) := by
  have CB := Lib.hid (rboth_any w A1 A2 l1 l2 n1 n2 c1 c2 true e1 e2 a1 a2 h1 h2 h42)
  rw [both_join] at CB
  clear e1 e2 a1 a2 h1 h2
  go_enter Try.func11, Try.ntmps11
  go_wp2_with fail
  refine CB.out.mono ?_
  rintro e w1 ⟨A, n, c, rfl, hn, ho, hb⟩
  have HN := Lib.hid hn
  have HO := Lib.hid ho
  have HB := Lib.hid hb
  clear hn ho hb
  go_wp2
  go_ret
  exact ⟨A, n, c, rfl, HN.out, HO.out, HB.out⟩
theorem rmeet_any (w : World) (A1 A2 : Option Addr) (l1 l2 : List Dot) (n1 n2 c1 c2 : Nat) (e1 : l1.length = n1) (e2 : l2.length = n2) (a1 : A1 = none → n1 = 0 ∧ c1 = 0) (a2 : A2 = none → n2 = 0 ∧ c2 = 0) (h1 : Dots w w.heap.size A1 l1) (h2 : Dots w w.heap.size A2 l2) (h42 : n1 + n2 ≤ 4398046511104) :
    Calls Try.prog 21 #[.slice A1 n1 c1, .slice A2 n2 c2] w (DotPost w (meetV l1 l2)) := by
  have CB := Lib.hid (rboth_any w A1 A2 l1 l2 n1 n2 c1 c2 false e1 e2 a1 a2 h1 h2 h42)
  rw [both_meet] at CB
  clear e1 e2 a1 a2 h1 h2
  go_enter Try.func21, Try.ntmps21
  go_wp2_with fail
  refine CB.out.mono ?_
  rintro e w1 ⟨A, n, c, rfl, hn, ho, hb⟩
  have HN := Lib.hid hn
  have HO := Lib.hid ho
  have HB := Lib.hid hb
  clear hn ho hb
  go_wp2
  go_ret
  exact ⟨A, n, c, rfl, HN.out, HO.out, HB.out⟩
theorem rnorm_any (w : World) (A1 : Option Addr) (l1 : List Dot) (n1 c1 : Nat) (e1 : l1.length = n1) (a1 : A1 = none → n1 = 0 ∧ c1 = 0) (h1 : Dots w w.heap.size A1 l1) (h42 : n1 ≤ 4398046511104) :
    Calls Try.prog 9 #[.slice A1 n1 c1] w (DotPost w (normV l1)) := by
  have CB := Lib.hid (rboth_any w A1 none l1 [] n1 0 c1 0 true e1 rfl a1 (fun _ => ⟨rfl, rfl⟩) h1 (Dots.none_ _ _ _) (by omega))
  rw [both_norm] at CB
  clear e1 a1 h1
  go_enter Try.func9, Try.ntmps9
  go_wp2_with fail
  refine CB.out.mono ?_
  rintro e w1 ⟨A, n, c, rfl, hn, ho, hb⟩
  have HN := Lib.hid hn
  have HO := Lib.hid ho
  have HB := Lib.hid hb
  clear hn ho hb
  go_wp2
  go_ret
  exact ⟨A, n, c, rfl, HN.out, HO.out, HB.out⟩

/-- is the first one at most the second one, of this device? -/
def leV (a b : List Dot) (d : Nat) : Bool := decide (ofV a d ≤ ofV b d)
theorem most_list {a b : List Dot} : (listV (anyV a b)).all (fun x => leV a b x.1) = mostV a b :=
  all_list (p := leV a b) (fun d h => by
    have : ¬ ofV a d ≤ ofV b d := of_decide_eq_false h
    unfold anyV; omega)
theorem all_next {p : Nat → Bool} {l : List Dot} {k : Nat} {x : Dot} (h : l[k]? = some x) : (l.take (k + 1)).all (fun x => p x.1) = ((l.take k).all (fun x => p x.1) && p x.1) := by
  rw [take_next h, List.all_append]; simp
theorem all_less {p : Nat → Bool} {l : List Dot} {k : Nat} (h : (l.take k).all (fun x => p x.1) = false) : l.all (fun x => p x.1) = false := by
  rw [List.all_eq_false] at h ⊢
  obtain ⟨x, hx, h2⟩ := h
  exact ⟨x, List.mem_of_mem_take hx, h2⟩
set_option maxHeartbeats 8000000 in
theorem rwithin_any (w : World) (A1 A2 : Option Addr) (l1 l2 : List Dot) (n1 n2 c1 c2 : Nat) (e1 : l1.length = n1) (e2 : l2.length = n2) (a1 : A1 = none → n1 = 0 ∧ c1 = 0) (a2 : A2 = none → n2 = 0 ∧ c2 = 0) (h1 : Dots w w.heap.size A1 l1) (h2 : Dots w w.heap.size A2 l2) (h42 : n1 + n2 ≤ 4398046511104) :
    Calls Try.prog 32 #[.slice A1 n1 c1, .slice A2 n2 c2] w fun e w' => e = .returned (.bool (mostV l1 l2)) ∧ Below w.heap.size w w' := by
  have CD := Lib.hid (rdevs_any w A1 A2 l1 l2 n1 n2 c1 c2 e1 e2 a1 a2 h1 h2 h42)
  have E1 := Lib.hid e1
  have E2 := Lib.hid e2
  have H1 := Lib.hid h1
  have H2 := Lib.hid h2
  have HDE := Lib.hid (devs_eq h1.1 h2.1)
  have HDF := Lib.hid (list_fit (tells_any h1.1 h2.1))
  have HDL := Lib.hid (list_length (anyV l1 l2))
  have HPK := Lib.hid (most_list (a := l1) (b := l2))
  clear a1 a2 e1 e2 h1 h2
  generalize mostV l1 l2 = R at HPK ⊢
  go_enter Try.func32, Try.ntmps32
  go_wp2_with fail
  refine CD.out.mono ?_
  rintro e w1 hpo
  rw [HDE.out] at hpo
  obtain ⟨A4, n, c4, rfl, hn, hA, _, _, hd, _, hb1⟩ := post_dots hpo HDF.out
  rw [hn] at HDL
  have HN := Lib.hid hn
  have HD := Lib.hid hd
  have HB1 := Lib.hid hb1
  have HL1 := HDL.out
  clear hn hA hd hb1 hpo CD HDE HDF HDL
  generalize listV (anyV l1 l2) = L at HN HD HPK
  go_wp2_with fail
  go_loopw [6] (fun i wr => ∃ k : Nat, k ≤ n ∧ i = .int .i64 (k : Int) ∧ (L.take k).all (fun x => leV l1 l2 x.1) = true ∧ Below w1.heap.size w1 wr) (fun i _ => n - (intOf i).toNat)
  case atStart => exact ⟨0, Nat.zero_le _, rfl, rfl, Below.refl _ _⟩
  case round =>
    obtain ⟨k, hk, rfl, ht, hw⟩ := hrel
    have HT := Lib.hid ht
    have HW := Lib.hid hw
    clear ht hw
    have HWW : Hid (Below w.heap.size w wr) := HB1.out.trans (HW.out.mono HB1.out.size)
    by_cases hlt : k < n
    · obtain ⟨ad, x, rfl, hB, hlx, hx1, hx2, hcx⟩ := HD.out.cells (k := k) (by rw [HN.out]; exact hlt)
      have HX := all_next (p := leV l1 l2) hlx
      rw [HT.out, Bool.true_and] at HX
      obtain ⟨x1, x2⟩ := x
      have HX2 := Lib.hid HX
      clear hlx HX
      have HC : Hid (∀ V, Below wr.heap.size wr V → V.cell? (ad.add (k * 2)) = some (.int .u16 (x1 : Int))) := fun V hV => (hcx V (HW.out.trans (hV.mono HW.out.size))).1
      clear hcx
      have d1 := HC.out wr (Below.refl _ _)
      have HX1 := Lib.hid (H1.out.up HWW.out)
      have HX3 := Lib.hid (H2.out.up HWW.out)
      go_wp2_with fail
      go_region_held3 (fun V => V.cell? (ad.add (k * 2)) = some (.int .u16 (x1 : Int))) (first | exact d1 | assumption | exact HC.out _ (by (repeat (first | exact Below.refl _ _ | assumption | apply bel_drew)))) (first
        | (go_at_call 16; (with_reducible refine (rof_later wr _ A1 l1 n1 c1 x1 E1.out HX1.out (by omega) ?_).mono ?_); (repeat (first | exact Below.refl _ _ | assumption | apply bel_drew)); rintro e V ⟨rfl, bv⟩; have hcV := HC.out V bv)
        | (go_at_call 16; (with_reducible refine (rof_later wr _ A2 l2 n2 c2 x1 E2.out HX3.out (by omega) ?_).mono ?_); (repeat (first | exact Below.refl _ _ | assumption | apply bel_drew)); rintro e V ⟨rfl, bv⟩; have hcV := HC.out V bv))
      all_goals
        have HV : Hid (Below w1.heap.size w1 V) := HW.out.trans (bv.mono HW.out.size)
        have HVW : Hid (Below w.heap.size w V) := HB1.out.trans (HV.out.mono HB1.out.size)
        clear bv d1 HC HX1 HX3 HWW hcV
        by_cases hle : ofV l1 x1 ≤ ofV l2 x1
        · have HS : Hid ((L.take (k + 1)).all (fun x => leV l1 l2 x.1) = true) := Lib.hid (by rw [HX2.out]; exact decide_eq_true hle)
          clear HX2
          generalize ofV l1 x1 = o1 at hle ⊢
          generalize ofV l2 x1 = o2 at hle ⊢
          have dxy : decide ((o2 : Int) < (o1 : Int)) = false := decide_eq_false (by omega)
          go_wp2
          go_roundw
          case rel => exact ⟨k + 1, by omega, by go_num, HS.out, HV.out⟩
          case measure => simp [intOf]; omega
        · have HS : Hid (R = false) := Lib.hid (by rw [← HPK.out]; exact all_less (k := k + 1) (by rw [HX2.out]; exact decide_eq_false hle))
          clear HX2
          generalize ofV l1 x1 = o1 at hle ⊢
          generalize ofV l2 x1 = o2 at hle ⊢
          have dxy : decide ((o2 : Int) < (o1 : Int)) = true := decide_eq_true (by omega)
          go_wp2
          go_ret
          exact ⟨ret_bool HS.out.symm, HVW.out⟩
    · obtain rfl : k = n := by omega
      have HS : Hid (R = true) := Lib.hid (by
        have h := HT.out
        rw [List.take_of_length_le (by rw [HN.out]; exact Nat.le_refl _), HPK.out] at h
        exact h)
      go_wp2
      go_ret
      exact ⟨ret_bool HS.out.symm, HWW.out⟩
theorem rwithin_later (w W : World) (A1 A2 : Option Addr) (l1 l2 : List Dot) (n1 n2 c1 c2 : Nat) (e1 : l1.length = n1) (e2 : l2.length = n2) (a1 : A1 = none → n1 = 0 ∧ c1 = 0) (a2 : A2 = none → n2 = 0 ∧ c2 = 0) (h1 : Dots w w.heap.size A1 l1) (h2 : Dots w w.heap.size A2 l2) (h42 : n1 + n2 ≤ 4398046511104) (hW : Below w.heap.size w W) :
    Calls Try.prog 32 #[.slice A1 n1 c1, .slice A2 n2 c2] W fun e V => e = .returned (.bool (mostV l1 l2)) ∧ Below w.heap.size w V :=
  (rwithin_any W A1 A2 l1 l2 n1 n2 c1 c2 e1 e2 a1 a2 (h1.up hW) (h2.up hW) h42).mono fun _ _ ⟨h1, h2⟩ => ⟨h1, hW.trans (h2.mono hW.size)⟩
end Go.Proofs.Ytbpmbjpepjndaaa.Dt
