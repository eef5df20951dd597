/- EventLists: the law's walk. -/
import Derived.Test.YtbaiiidkffafmaaESide
import Derived.Test.YtbaiiidkffafmaaEPlain
import Derived.Deep.DeepCutAuto
import Derived.IntWalk
namespace Go.Proofs.Ytbaiiidkffafmaa.Ev
open Go.ChangeShapes Go.WideShapes Go.ChangeAt Go.RowKit
set_option linter.unusedVariables false

theorem few_all {l : List Evt} {m : Nat} (h : fewB l m = true) : l.length ≤ m ∧ ∀ x ∈ l, x.kills.length ≤ 300 := by
  unfold fewB at h
  rw [Bool.and_eq_true, decide_eq_true_iff, List.all_eq_true] at h
  refine ⟨h.1, fun x hx => ?_⟩
  have h2 := h.2 x hx
  unfold fewE at h2
  rw [Bool.and_eq_true, decide_eq_true_iff] at h2
  exact h2.1
theorem many_few {l : List Evt} (h : ∀ x ∈ l, x.kills.length ≤ 300) : manyE l ≤ l.length * 301 := by
  unfold manyE
  induction l with
  | nil => simp
  | cons x l ih =>
    have h1 := h x (List.mem_cons_self ..)
    have h2 := ih (fun y hy => h y (List.mem_cons_of_mem _ hy))
    simp only [List.map_cons, List.sum_cons, List.length_cons]
    omega
theorem sort_len (l : List Evt) : (sortE l).length ≤ l.length := by
  have h := sort_long l l.length
  rwa [List.take_of_length_le (Nat.le_refl _)] at h

set_option maxHeartbeats 16000000 in
theorem lists_walk (P : PEvent) (w : World) (A1 A2 : Option Addr) (l m : List Evt) (n1 n2 c1 c2 : Nat) (h1 : EventsAt w w.heap.size A1 l n1 c1) (h2 : EventsAt w w.heap.size A2 m n2 c2) :
    Calls Try.prog 4 #[.slice A1 n1 c1, .slice A2 n2 c2] w fun e w' => e = .returned (.bool true) ∧ Below w.heap.size w w' := by
  have H1 := Lib.hid h1
  have H2 := Lib.hid h2
  have CF1 := fun W (hW : Below w.heap.size w W) => rfew_any W A1 l n1 c1 30 (by decide) (H1.out.up hW)
  have CF2 := fun W (hW : Below w.heap.size w W) => rfew_any W A2 m n2 c2 30 (by decide) (H2.out.up hW)
  simp only [show ((30 : Nat) : Int) = 30 from rfl] at CF1 CF2
  clear h1 h2
  cases hf1 : fewB l 30 with
  | false =>
    rw [hf1] at CF1
    go_enter Try.func4, Try.ntmps4
    go_wp2_with fail
    refine (CF1 _ (Below.refl _ _)).mono ?_
    rintro e w2 ⟨rfl, rfl⟩
    have CW := works_any P w2
    go_wp2_with fail
    refine CW.mono ?_
    rintro e w3 ⟨rfl, hb3⟩
    have HW3 := Lib.hid hb3
    clear hb3
    go_wp2
    go_ret
    exact ⟨rfl, HW3.out⟩
  | true =>
    rw [hf1] at CF1
    cases hf2 : fewB m 30 with
    | false =>
      rw [hf2] at CF2
      go_enter Try.func4, Try.ntmps4
      go_wp2_with fail
      refine (CF1 _ (Below.refl _ _)).mono ?_
      rintro e w2 ⟨rfl, rfl⟩
      go_wp2_with fail
      refine (CF2 _ (Below.refl _ _)).mono ?_
      rintro e w3 ⟨rfl, rfl⟩
      have CW := works_any P w3
      go_wp2_with fail
      refine CW.mono ?_
      rintro e w4 ⟨rfl, hb4⟩
      have HW4 := Lib.hid hb4
      clear hb4
      go_wp2
      go_ret
      exact ⟨rfl, HW4.out⟩
    | true =>
      rw [hf2] at CF2
      obtain ⟨hl1, hk1⟩ := few_all hf1
      rw [H1.out.len] at hl1
      have HK := Lib.hid hk1
      have HMY : Hid (manyE l ≤ 8796093022208) := Lib.hid (by have := many_few hk1; rw [H1.out.len] at this; omega)
      clear hk1 hf1 hf2
      go_enter Try.func4, Try.ntmps4
      go_wp2_with fail
      refine (CF1 _ (Below.refl _ _)).mono ?_
      rintro e w2 ⟨rfl, rfl⟩
      go_wp2_with fail
      refine (CF2 _ (Below.refl _ _)).mono ?_
      rintro e w3 ⟨rfl, rfl⟩
      clear CF1 CF2
      go_wp2_with fail
      refine (P.sort _ A1 l n1 c1 H1.out (by omega)).mono ?_
      rintro e w4 ⟨A, n, c, rfl, hs, _, hb4⟩
      have HS := Lib.hid hs
      have HB := Lib.hid hb4
      have hn : n ≤ 30 := by
        have h3 := sort_len l
        rw [hs.len, H1.out.len] at h3
        omega
      clear hs hb4
      go_wp2_with fail
      go_loopw [6] (fun i wr => ∃ j : Nat, j ≤ n + 1 ∧ i = .int .i64 ((j : Int) + 1) ∧ Below w4.heap.size w4 wr) (fun i _ => n + 2 - (intOf i).toNat)
      case atStart => exact ⟨0, by omega, rfl, Below.refl _ _⟩
      case round =>
        obtain ⟨j, hj, rfl, hw⟩ := hrel
        have HW := Lib.hid hw
        clear hw
        by_cases hlt : j + 1 < n
        · obtain ⟨ad, p, x, rfl, hB, hx, hp, cp⟩ := (HS.out.up HW.out).at_ (k := j) (by omega)
          obtain ⟨ad2, q, y, e2, _, hy, hq, cq⟩ := (HS.out.up HW.out).at_ (k := j + 1) hlt
          obtain rfl := Option.some.inj e2
          have ha := sort_cmp hx hy
          rw [is_dot hp, is_dot hq] at ha
          have hz : decide (0 ≤ Dt.cmpD (p.dev, p.num) (q.dev, q.num)) = false := decide_eq_false (by rw [Dt.cmp_less ha]; omega)
          have HC : Hid (∀ V, Below wr.heap.size wr V → (V.cell? (ad.add (j * 7)) = some (.int .u16 (p.dev : Int)) ∧ V.cell? ⟨(ad.add (j * 7)).block, (ad.add (j * 7)).off + 1, none⟩ = some (.int .u64 (p.num : Int))) ∧ V.cell? (ad.add ((j + 1) * 7)) = some (.int .u16 (q.dev : Int)) ∧ V.cell? ⟨(ad.add ((j + 1) * 7)).block, (ad.add ((j + 1) * 7)).off + 1, none⟩ = some (.int .u64 (q.num : Int))) := Lib.hid (fun V hV => ⟨⟨stays hV cp.c0, stays hV cp.c1⟩, stays hV cq.c0, stays hV cq.c1⟩)
          clear hx hy hp hq ha cp cq
          obtain ⟨⟨d1, d2⟩, d3, d4⟩ := HC.out wr (Below.refl _ _)
          have s0 : IntKind.i64.wrap (j : Int) = (j : Int) := IntWalk.i64_in _ (by omega)
          have s1 : IntKind.i64.wrap ((j : Int) + 1 - 1) = (j : Int) := by rw [show (j : Int) + 1 - 1 = (j : Int) by omega]; exact s0
          have s2 : (0 : Int) ≤ (j : Int) + 1 := by omega
          have s3 : (0 : Int) ≤ (j : Int) := by omega
          have s4 : ((j : Int) + 1).toNat = j + 1 := by omega
          have s5 : (j : Int) < (n : Int) := by omega
          have s6 : (j : Int) + 1 < (n : Int) := by omega
          go_wp2_with fail
          go_region_held3 (fun V => (V.cell? (ad.add (j * 7)) = some (.int .u16 (p.dev : Int)) ∧ V.cell? ⟨(ad.add (j * 7)).block, (ad.add (j * 7)).off + 1, none⟩ = some (.int .u64 (p.num : Int))) ∧ V.cell? (ad.add ((j + 1) * 7)) = some (.int .u16 (q.dev : Int)) ∧ V.cell? ⟨(ad.add ((j + 1) * 7)).block, (ad.add ((j + 1) * 7)).off + 1, none⟩ = some (.int .u64 (q.num : Int))) (first | exact ⟨⟨d1, d2⟩, d3, d4⟩ | assumption | exact HC.out _ (by (repeat (first | exact Below.refl _ _ | assumption | apply bel_drew)))) (first
            | (go_at_call 16; (with_reducible refine (Dt.rcmp_later wr _ (p.dev, p.num) (q.dev, q.num) ?_).mono ?_); (repeat (first | exact Below.refl _ _ | assumption | apply bel_drew)); rintro e V ⟨rfl, bv⟩; have hcV := HC.out V bv))
          all_goals
            have HV : Hid (Below w4.heap.size w4 V) := HW.out.trans (bv.mono HW.out.size)
            generalize Dt.cmpD (p.dev, p.num) (q.dev, q.num) = z at hz ⊢
            clear hcV bv d1 d2 d3 d4 s1 s0
            go_wp2
            go_roundw
            case rel => exact ⟨j + 1, by omega, by go_num, HV.out⟩
            case measure => simp [intOf]; omega
        · have hge : (n : Int) ≤ (j : Int) + 1 := by omega
          have HWw := Lib.hid (HB.out.trans (HW.out.mono HB.out.size))
          have HSr := Lib.hid (HS.out.up HW.out)
          have C1 := rsort_any wr A1 l n1 c1 (H1.out.up HWw.out) (by omega)
          go_wp2_with fail
          refine C1.mono ?_
          rintro e w5 ⟨A5, n5, c5, rfl, h5, hb5⟩
          have HW5 := Lib.hid (HWw.out.trans (hb5.mono HWw.out.size))
          have HS5 := Lib.hid (HSr.out.up hb5)
          have C2 := rall_any w5 A A5 (sortE l) (sortE l) n n5 c c5 HS5.out h5
          rw [decide_eq_true rfl] at C2
          clear C1 h5 hb5
          go_wp2_with fail
          refine C2.mono ?_
          rintro e w6 ⟨rfl, hb6⟩
          have HW6 := Lib.hid (HW5.out.trans (hb6.mono HW5.out.size))
          have HS6 := Lib.hid (HS5.out.up hb6)
          have C3 := P.dots w6 A1 l n1 c1 (H1.out.up HW6.out) (by omega) HMY.out
          clear C2 hb6
          go_wp2_with fail
          refine C3.mono ?_
          rintro e w7 ⟨A7, n7, c7, rfl, h7, _, hb7⟩
          have HW7 := Lib.hid (HW6.out.trans (hb7.mono HW6.out.size))
          have HS7 := Lib.hid (HS6.out.up hb7)
          have HD7 := Lib.hid h7
          have C4 := rdots_any w7 A1 l n1 c1 (H1.out.up HW7.out) (by omega) (fun x hx => Nat.le_trans (HK.out x hx) (by decide))
          clear C3 hb7 h7
          go_wp2_with fail
          refine C4.mono ?_
          rintro e w8 ⟨A8, n8, c8, rfl, h8, hb8⟩
          have HW8 := Lib.hid (HW7.out.trans (hb8.mono HW7.out.size))
          have HS8 := Lib.hid (HS7.out.up hb8)
          have HD8 := Lib.hid (HD7.out.up hb8)
          have C5 := Dt.rsame_any w8 w8.heap.size w8.heap.size A7 A8 (dotsE l) (dotsE l) n7 n8 c7 c8 HD8.out.len h8.len HD8.out.dots h8.dots (Nat.le_trans HD8.out.wide (by decide))
          rw [decide_eq_true rfl] at C5
          clear C4 hb8 h8
          go_wp2_with fail
          refine C5.mono ?_
          rintro e w9 ⟨rfl, mm, rfl⟩
          have HW9 := Lib.hid (bel_drewN HW8.out mm)
          have HS9 := Lib.hid (HS8.out.up (below_drewN w8.heap.size w8 mm))
          have C6 := P.all (w8.drewN mm) A1 A2 l m n1 n2 c1 c2 (H1.out.up HW9.out) (H2.out.up HW9.out)
          obtain ⟨b, hb⟩ : ∃ b, decide (l = m) = b := ⟨_, rfl⟩
          rw [hb] at C6
          have HBB := Lib.hid hb
          clear C5 hb
          go_wp2_with fail
          refine C6.mono ?_
          rintro e w10 ⟨rfl, hb10⟩
          have HW10 := Lib.hid (HW9.out.trans (hb10.mono HW9.out.size))
          have HS10 := Lib.hid (HS9.out.up hb10)
          have C7 := rall_any w10 A1 A2 l m n1 n2 c1 c2 (H1.out.up HW10.out) (H2.out.up HW10.out)
          rw [HBB.out] at C7
          clear C6 hb10
          go_wp2_with fail
          refine C7.mono ?_
          rintro e w11 ⟨rfl, hb11⟩
          have HW11 := Lib.hid (HW10.out.trans (hb11.mono HW10.out.size))
          have HS11 := Lib.hid (HS10.out.up hb11)
          have C8 := P.sort w11 A (sortE l) n c HS11.out (by omega)
          rw [sort_twice] at C8
          clear C7 hb11
          go_wp2_with fail
          refine C8.mono ?_
          rintro e w12 ⟨A12, n12, c12, rfl, h12, _, hb12⟩
          have HW12 := Lib.hid (HW11.out.trans (hb12.mono HW11.out.size))
          have HS12 := Lib.hid (HS11.out.up hb12)
          have C9 := rall_any w12 A12 A (sortE l) (sortE l) n12 n c12 c h12 HS12.out
          rw [decide_eq_true rfl] at C9
          clear C8 hb12 h12
          go_wp2_with fail
          refine C9.mono ?_
          rintro e w13 ⟨rfl, hb13⟩
          have HW13 := Lib.hid (HW12.out.trans (hb13.mono HW12.out.size))
          have CW := works_any P w13
          clear C9 hb13
          go_wp2_with fail
          refine CW.mono ?_
          rintro e w14 ⟨rfl, hb14⟩
          have HW14 := Lib.hid (HW13.out.trans (hb14.mono HW13.out.size))
          clear CW hb14
          go_wp2
          go_ret
          exact ⟨rfl, HW14.out⟩
end Go.Proofs.Ytbaiiidkffafmaa.Ev
