/- The contracts of the document's Order and Lack of layer vec. For every two lists of together at most 2^42 dots. -/
import Derived.Test.YtbpmbjpepjndaaaVOrder
namespace Go.Proofs.Ytbpmbjpepjndaaa.Dt
open Go.ChangeShapes Go.WideShapes Go.ChangeAt Go.RowKit
set_option linter.unusedVariables false

set_option maxHeartbeats 2000000 in
theorem rorder_any (w : World) (A1 A2 : Option Addr) (l1 l2 : List Dot) (n1 n2 c1 c2 : Nat) (e1 : l1.length = n1) (e2 : l2.length = n2) (a1 : A1 = none → n1 = 0 ∧ c1 = 0) (a2 : A2 = none → n2 = 0 ∧ c2 = 0) (h1 : Dots w w.heap.size A1 l1) (h2 : Dots w w.heap.size A2 l2) (h42 : n1 + n2 ≤ 4398046511104) :
    Calls Try.prog 23 #[.slice A1 n1 c1, .slice A2 n2 c2] w fun e w' => e = .returned (.int .i64 (orderV l1 l2)) ∧ Below w.heap.size w w' := by
  have C1 := Lib.hid (fun W hW => rwithin_later w W A1 A2 l1 l2 n1 n2 c1 c2 e1 e2 a1 a2 h1 h2 h42 hW)
  have C2 := Lib.hid (fun W hW => rwithin_later w W A2 A1 l2 l1 n2 n1 c2 c1 e2 e1 a2 a1 h2 h1 (by omega) hW)
  have HR : Hid (orderV l1 l2 = if mostV l1 l2 = true ∧ mostV l2 l1 = true then 0 else if mostV l1 l2 = true then -1 else if mostV l2 l1 = true then 1 else 2) := Lib.hid rfl
  clear e1 e2 a1 a2 h1 h2
  generalize orderV l1 l2 = R at HR ⊢
  generalize mostV l1 l2 = b1 at C1 HR
  generalize mostV l2 l1 = b2 at C2 HR
  have k0 : IntKind.i64.wrap 0 = 0 := rfl
  have k1 : IntKind.i64.wrap 1 = 1 := rfl
  have k2 : IntKind.i64.wrap 2 = 2 := rfl
  have k3 : IntKind.i64.wrap (-1) = -1 := rfl
  go_enter Try.func23, Try.ntmps23
  cases b1 with
  | true =>
    cases b2 with
    | true =>
      go_wp2_with fail
      refine (C1.out _ (Below.refl _ _)).mono ?_
      rintro e w1 ⟨rfl, hb1⟩
      have HB1 := Lib.hid hb1
      clear hb1
      go_wp2_with fail
      refine (C2.out _ HB1.out).mono ?_
      rintro e w2 ⟨rfl, hb2⟩
      have HB2 := Lib.hid hb2
      clear hb2
      go_wp2
      go_ret
      exact ⟨ret_int HR.out.symm, HB2.out⟩
    | false =>
      go_wp2_with fail
      refine (C1.out _ (Below.refl _ _)).mono ?_
      rintro e w1 ⟨rfl, hb1⟩
      have HB1 := Lib.hid hb1
      clear hb1
      go_wp2_with fail
      refine (C2.out _ HB1.out).mono ?_
      rintro e w2 ⟨rfl, hb2⟩
      have HB2 := Lib.hid hb2
      clear hb2
      go_wp2_with fail
      refine (C1.out _ HB2.out).mono ?_
      rintro e w3 ⟨rfl, hb3⟩
      have HB3 := Lib.hid hb3
      clear hb3
      go_wp2
      go_ret
      exact ⟨ret_int HR.out.symm, HB3.out⟩
  | false =>
    go_wp2_with fail
    refine (C1.out _ (Below.refl _ _)).mono ?_
    rintro e w1 ⟨rfl, hb1⟩
    have HB1 := Lib.hid hb1
    clear hb1
    go_wp2_with fail
    refine (C1.out _ HB1.out).mono ?_
    rintro e w2 ⟨rfl, hb2⟩
    have HB2 := Lib.hid hb2
    clear hb2
    go_wp2_with fail
    refine (C2.out _ HB2.out).mono ?_
    rintro e w3 ⟨rfl, hb3⟩
    have HB3 := Lib.hid hb3
    clear hb3
    cases b2 with
    | true =>
      go_wp2
      go_ret
      exact ⟨ret_int HR.out.symm, HB3.out⟩
    | false =>
      go_wp2
      go_ret
      exact ⟨ret_int HR.out.symm, HB3.out⟩

/-- how many dots of a device the second one has that the first one has not. -/
def moreV (a b : List Dot) (d : Nat) : Nat := ofV b d - ofV a d
theorem lack_list {a b : List Dot} : ((listV (anyV a b)).map (fun x => moreV a b x.1)).sum = lackV a b :=
  sum_list (f := moreV a b) (fun d h => by unfold moreV at h; unfold anyV; omega)
theorem sum_next {f : Nat → Nat} {l : List Dot} {k : Nat} {x : Dot} (h : l[k]? = some x) : ((l.take (k + 1)).map (fun x => f x.1)).sum = ((l.take k).map (fun x => f x.1)).sum + f x.1 := by
  rw [take_next h, List.map_append, List.sum_append]; simp
theorem more_lt (a b : List Dot) (d : Nat) : moreV a b d ≤ 281474976710655 := by
  have := of_lt b d
  unfold moreV
  omega
theorem sum_take (a b l : List Dot) (k : Nat) : ((l.take k).map (fun x => moreV a b x.1)).sum ≤ k * 281474976710655 := by
  have h : ∀ m : List Dot, (m.map (fun x => moreV a b x.1)).sum ≤ m.length * 281474976710655 := by
    intro m
    induction m with
    | nil => simp
    | cons x m ih =>
      have := more_lt a b x.1
      rw [List.map_cons, List.sum_cons, List.length_cons, Nat.add_mul]
      omega
  exact Nat.le_trans (h _) (Nat.mul_le_mul_right _ (List.length_take_le _ _))
set_option maxHeartbeats 8000000 in
theorem rlack_any (w : World) (A1 A2 : Option Addr) (l1 l2 : List Dot) (n1 n2 c1 c2 : Nat) (e1 : l1.length = n1) (e2 : l2.length = n2) (a1 : A1 = none → n1 = 0 ∧ c1 = 0) (a2 : A2 = none → n2 = 0 ∧ c2 = 0) (h1 : Dots w w.heap.size A1 l1) (h2 : Dots w w.heap.size A2 l2) (h42 : n1 + n2 ≤ 4398046511104) :
    Calls Try.prog 25 #[.slice A1 n1 c1, .slice A2 n2 c2] w fun e w' => e = .returned (.int .u64 ((lackV l1 l2 : Nat) : Int)) ∧ Below w.heap.size w w' := by
  have CD := Lib.hid (rdevs_any w A1 A2 l1 l2 n1 n2 c1 c2 e1 e2 a1 a2 h1 h2 h42)
  have E1 := Lib.hid e1
  have E2 := Lib.hid e2
  have H1 := Lib.hid h1
  have H2 := Lib.hid h2
  have HDE := Lib.hid (devs_eq h1.1 h2.1)
  have HDF := Lib.hid (list_fit (tells_any h1.1 h2.1))
  have HDL := Lib.hid (list_length (anyV l1 l2))
  have HPK := Lib.hid (lack_list (a := l1) (b := l2))
  clear a1 a2 e1 e2 h1 h2
  generalize lackV l1 l2 = R at HPK ⊢
  go_enter Try.func25, Try.ntmps25
  go_wp2_with fail
  refine CD.out.mono ?_
  rintro e w1 hpo
  rw [HDE.out] at hpo
  obtain ⟨A4, n, c4, rfl, hn, hA, _, _, hd, _, hb1⟩ := post_dots hpo HDF.out
  rw [hn] at HDL
  have HN := Lib.hid hn
  have HD := Lib.hid hd
  have HB1 := Lib.hid hb1
  have HL1 := HDL.out
  clear hn hA hd hb1 hpo CD HDE HDF HDL
  generalize listV (anyV l1 l2) = L at HN HD HPK
  obtain ⟨f, hf⟩ : ∃ f : Nat → Nat, f = fun k => ((L.take k).map (fun x => moreV l1 l2 x.1)).sum := ⟨_, rfl⟩
  have HFE : Hid (∀ k, f k = ((L.take k).map (fun x => moreV l1 l2 x.1)).sum) := Lib.hid (fun k => by rw [hf])
  have HF : Hid (∀ k, f k ≤ k * 281474976710655) := Lib.hid (fun k => by rw [hf]; exact sum_take l1 l2 L k)
  have HFN : Hid (f n = R) := Lib.hid (by rw [hf]; show ((L.take n).map _).sum = R; rw [List.take_of_length_le (by rw [HN.out]; exact Nat.le_refl _)]; exact HPK.out)
  clear hf HPK
  go_wp2_with fail
  go_loopw [5, 7] (fun v i wr => ∃ k : Nat, k ≤ n ∧ i = .int .i64 (k : Int) ∧ v = .int .u64 ((f k : Nat) : Int) ∧ Below w1.heap.size w1 wr) (fun _ i _ => n - (intOf i).toNat)
  case atStart => exact ⟨0, Nat.zero_le _, rfl, by rw [HFE.out]; rfl, Below.refl _ _⟩
  case round =>
    obtain ⟨k, hk, rfl, rfl, hw⟩ := hrel
    have HW := Lib.hid hw
    clear hw
    have HWW : Hid (Below w.heap.size w wr) := HB1.out.trans (HW.out.mono HB1.out.size)
    by_cases hlt : k < n
    · obtain ⟨ad, x, rfl, hB, hlx, hx1, hx2, hcx⟩ := HD.out.cells (k := k) (by rw [HN.out]; exact hlt)
      have HX := sum_next (f := moreV l1 l2) hlx
      rw [← HFE.out, ← HFE.out] at HX
      obtain ⟨x1, x2⟩ := x
      have HX2 := Lib.hid HX
      clear hlx HX
      have hfk := HF.out k
      obtain ⟨s, hs⟩ : ∃ s, f k = s := ⟨_, rfl⟩
      rw [hs] at HX2 hfk ⊢
      have HY : Hid (ofV l2 x1 < 281474976710656) := Lib.hid (of_lt l2 x1)
      have HC : Hid (∀ V, Below wr.heap.size wr V → V.cell? (ad.add (k * 2)) = some (.int .u16 (x1 : Int))) := fun V hV => (hcx V (HW.out.trans (hV.mono HW.out.size))).1
      clear hcx hs
      have d1 := HC.out wr (Below.refl _ _)
      have HX1 := Lib.hid (H1.out.up HWW.out)
      have HX3 := Lib.hid (H2.out.up HWW.out)
      go_wp2_with fail
      go_region_held3 (fun V => V.cell? (ad.add (k * 2)) = some (.int .u16 (x1 : Int))) (first | exact d1 | assumption | exact HC.out _ (by (repeat (first | exact Below.refl _ _ | assumption | apply bel_drew)))) (first
        | (go_at_call 16; (with_reducible refine (rof_later wr _ A1 l1 n1 c1 x1 E1.out HX1.out (by omega) ?_).mono ?_); (repeat (first | exact Below.refl _ _ | assumption | apply bel_drew)); rintro e V ⟨rfl, bv⟩; have hcV := HC.out V bv)
        | (go_at_call 16; (with_reducible refine (rof_later wr _ A2 l2 n2 c2 x1 E2.out HX3.out (by omega) ?_).mono ?_); (repeat (first | exact Below.refl _ _ | assumption | apply bel_drew)); rintro e V ⟨rfl, bv⟩; have hcV := HC.out V bv))
      all_goals
        have HV : Hid (Below w1.heap.size w1 V) := HW.out.trans (bv.mono HW.out.size)
        clear bv d1 HC HX1 HX3 HWW hcV
        unfold moreV at HX2
        have hy := HY.out
        generalize ofV l1 x1 = o1 at HX2 ⊢
        generalize ofV l2 x1 = o2 at HX2 hy ⊢
        by_cases hle : o1 < o2
        · have dxy : decide ((o1 : Int) < (o2 : Int)) = true := decide_eq_true (by omega)
          have w1 : IntKind.u64.wrap ((s : Int) + (o2 : Int)) = (s : Int) + (o2 : Int) := IntWalk.u64_in _ (by omega)
          have w2 : IntKind.u64.wrap ((s : Int) + (o2 : Int) - (o1 : Int)) = (s : Int) + (o2 : Int) - (o1 : Int) := IntWalk.u64_in _ (by omega)
          have HS : Hid ((s : Int) + (o2 : Int) - (o1 : Int) = ((f (k + 1) : Nat) : Int)) := Lib.hid (by rw [HX2.out]; omega)
          clear HX2
          go_wp2
          go_roundw
          case rel => exact ⟨k + 1, by omega, by go_num, by rw [HS.out], HV.out⟩
          case measure => simp [intOf]; omega
        · have dxy : decide ((o1 : Int) < (o2 : Int)) = false := decide_eq_false (by omega)
          have HS : Hid (f (k + 1) = s) := Lib.hid (by rw [HX2.out]; omega)
          clear HX2
          go_wp2
          go_roundw
          case rel => exact ⟨k + 1, by omega, by go_num, by rw [HS.out], HV.out⟩
          case measure => simp [intOf]; omega
    · obtain rfl : k = n := by omega
      rw [HFN.out]
      go_wp2
      go_ret
      exact ⟨rfl, HWW.out⟩
end Go.Proofs.Ytbpmbjpepjndaaa.Dt
