/- The walk of RunsEach: whatever the list and the number. No condition but that the slice is a slice. -/
import Derived.Test.YtaoojiacdkabbaaCalls
import Derived.Test.YtaoojiacdkabbaaEachIt
namespace Go.Proofs.Ytaoojiacdkabbaa.Ru
open Go.ChangeShapes Go.WideShapes Go.ChangeAt Go.RowKit Go.Shelf
set_option linter.unusedVariables false

attribute [local go_sem] Oper.semAt_some

theorem each_any (w : World) (A : Option Addr) (l : List Run) (n c : Nat) (hl : l.length = n) (hb : Runs w w.heap.size A l) (h42 : n ≤ 4398046511104) :
    Calls Try.prog 34 #[.slice A n c] w fun e w' => ∃ Bs A' n' c', e = .returned (.func (.func 49) #[] #[.pointer (some ⟨Bs, 0, none⟩)]) ∧ Bs < w'.heap.size ∧ w'.cell? ⟨Bs, 0, none⟩ = some (.slice A' n' c') ∧ (nrm l).length = n' ∧ n' ≤ 9223372036854775807 ∧ Runs w' w'.heap.size A' (nrm l) ∧ Below w.heap.size w w' := by
  have H := Lib.hid (pnorm_any w A l n c hl hb h42)
  clear hl hb
  go_enter Try.func34, Try.ntmps34
  go_wp2_with fail
  refine H.out.mono ?_
  rintro e w1 p1
  obtain ⟨A1, n1, c1, rfl, e1, _, f1, f1', r1, o1, b1⟩ := post_runs p1 (fit_order (nrm_spec l).1)
  have E1 := Lib.hid e1
  have R1 := Lib.hid r1
  have W1 := Lib.hid b1
  have hle : n1 ≤ 9223372036854775807 := by omega
  clear p1 e1 r1 o1 b1 H
  go_wp2
  go_ret
  have L1 : Below w1.heap.size w1 (w1.alloc (.cells #[.slice A1 n1 c1] 22)) := below_new _ _
  exact ⟨w1.heap.size, A1, n1, c1, rfl, by simp, (Boxed.new w1 22 (.slice A1 n1 c1)).cell, E1.out, hle, R1.out.up L1, W1.out.trans (L1.mono W1.out.size)⟩

theorem bl {W W' : World} {B : Nat} {t : TypeId} {v : Value} (h : Boxed W B t v) (hb : Below W.heap.size W W') : Boxed W' B t v := (hb.block B h.lt).trans h
structure ESt (w : World) (Z : Nat) (A : Option Addr) (l : List Run) (m c fr Bs : Nat) (A' : Option Addr) (n' c' : Nat) (W : World) : Prop where
  bel : Below w.heap.size w W
  zw : w.heap.size ≤ Z
  b0 : Boxed W Z 22 (.slice A m c)
  b1 : Boxed W (Z + 1) 5 (.int .u8 (fr : Int))
  b2 : Boxed W (Z + 1 + 1) 4 (.bool false)
  lt : Bs < W.heap.size
  cs : W.cell? ⟨Bs, 0, none⟩ = some (.slice A' n' c')
  rs : Runs W W.heap.size A' (nrm l)
  rl : Runs W W.heap.size A l
theorem ESt.later {w : World} {Z : Nat} {A : Option Addr} {l : List Run} {m c fr Bs : Nat} {A' : Option Addr} {n' c' : Nat} {W W' : World} (h : ESt w Z A l m c fr Bs A' n' c' W) (hb : Below W.heap.size W W') : ESt w Z A l m c fr Bs A' n' c' W' :=
  ⟨h.bel.trans (hb.mono h.bel.size), h.zw, bl h.b0 hb, bl h.b1 hb, bl h.b2 hb, Nat.lt_of_lt_of_le h.lt hb.size, (hb.cell (p := ⟨Bs, 0, none⟩) h.lt).trans h.cs, h.rs.up hb, h.rl.up hb⟩
theorem keepX_set {X : Nat → Prop} {W : World} {b : Nat} (hb : X b) (v : Value) : KeepX X W (W.setCell ⟨b, 0, none⟩ v) :=
  ⟨(grownBy_setCell' W b v).size, fun k c e f hk hc => ((grownBy_setCell' W b v).block k (Array.getElem?_eq_some_iff.1 hc).1 (fun e' => hk (by cases e'; exact hb))).trans hc⟩
def Bad (l : List Run) (pre : List U64) : Prop := ∃ p x, pre = p ++ [x] ∧ ¬ Chk l p x

set_option maxRecDepth 100000 in
set_option maxHeartbeats 16000000 in
theorem each_walk (w : World) (A : Option Addr) (l : List Run) (m c fr : Nat) (hl : l.length = m) (hA : A = none → m = 0 ∧ c = 0) (hb : Runs w w.heap.size A l) (hfr : fr < 256) :
    Calls Try.prog 7 #[.slice A m c, .int .u8 (fr : Int)] w fun e w' => e = .returned (.bool true) ∧ Below w.heap.size w w' := by
  have HL := Lib.hid hl
  have HA := Lib.hid hA
  have HB := Lib.hid hb
  clear hl hA hb
  refine (callsIn_wide (n := 9)).1 ?_
  refine callsIn_of_wp_marks Try.func7 rfl trivial ?_ rfl
  simp only [Try.ntmps7, List.size_toArray, List.length_cons, List.length_nil, Nat.reduceAdd, Nat.reduceSub, Array.replicate_succ, Array.replicate_zero, List.push_toArray, List.append_toArray, List.nil_append, List.cons_append]
  gi_wp2_with fail
  have b0 := ((Boxed.new w 22 (.slice A m c)).alloc (.cells #[.int .u8 (fr : Int)] 5)).alloc (.cells #[.bool false] 4)
  have b1 := (Boxed.new (w.alloc (.cells #[.slice A m c] 22)) 5 (.int .u8 (fr : Int))).alloc (.cells #[.bool false] 4)
  have b2 := Boxed.new ((w.alloc (.cells #[.slice A m c] 22)).alloc (.cells #[.int .u8 (fr : Int)] 5)) 4 (.bool false)
  simp only [World.size_alloc] at b1 b2
  have hB0 : Below w.heap.size w (((w.alloc (.cells #[.slice A m c] 22)).alloc (.cells #[.int .u8 (fr : Int)] 5)).alloc (.cells #[.bool false] 4)) := (((Below.refl _ w).alloc (Nat.le_refl _) _).alloc (by simp) _).alloc (by simp; omega) _
  obtain ⟨V, hV⟩ : ∃ V, ((w.alloc (.cells #[.slice A m c] 22)).alloc (.cells #[.int .u8 (fr : Int)] 5)).alloc (.cells #[.bool false] 4) = V := ⟨_, rfl⟩
  rw [hV] at b0 b1 b2 hB0 ⊢
  clear hV
  obtain ⟨Z, hZ⟩ : ∃ Z, w.heap.size = Z := ⟨_, rfl⟩
  rw [hZ] at b0 b1 b2 ⊢
  have hZ2 : w.heap.size ≤ Z := Nat.le_of_eq hZ
  have HB0 := Lib.hid hB0
  have B0 := Lib.hid b0
  have B1 := Lib.hid b1
  have B2 := Lib.hid b2
  clear hB0 b0 b1 b2 hZ
  by_cases hm : m ≤ 60
  · refine ⟨trivial, callsIn_wide.2 ((convS (few_any V A m c) (congrArg Value.bool (decide_eq_true hm))).mono ?_)⟩
    rintro e V1 ⟨rfl, hw⟩
    obtain rfl : V = V1 := hw.symm
    have HE := Lib.hid (each_any V A l m c HL.out (HB.out.up HB0.out) (by omega))
    have e0 := B0.out.cell
    gi_wp2_with fail
    refine ⟨trivial, callsIn_wide.2 (HE.out.mono ?_)⟩
    rintro e V1 ⟨Bs, A', n', c', rfl, hlt, hcs, hn', hn'63, hrs, hb1⟩
    have HN' := Lib.hid hn'
    have S1 : Hid (ESt w Z A l m c fr Bs A' n' c' V1) := ⟨HB0.out.trans (hb1.mono HB0.out.size), hZ2, bl B0.out hb1, bl B1.out hb1, bl B2.out hb1, hlt, hcs, hrs, HB.out.up (HB0.out.trans (hb1.mono HB0.out.size))⟩
    clear hlt hcs hn' hrs hb1 e0 HE HB0 B0 B1 B2
    obtain ⟨z, hzz⟩ : ∃ z, sizeR (nrm l) = z := ⟨_, rfl⟩
    have HS := Lib.hid (conv (size_any V1 A l m c HL.out HA.out S1.out.rl (by omega)) (congrArg (fun q : Nat => Value.int .u64 (q : Int)) (show sizeR (normL l) = z from hzz)))
    have hnf : ∀ U : World, (binOp .eql 41 (.func (.func 49) #[] #[.pointer (some ⟨Bs, 0, none⟩)]) .nilFunc).run Try.prog U = .ok (.bool false) U := fun _ => by kernel_rfl
    have e0 := S1.out.b0.cell
    gi_wp2_with fail
    refine ⟨trivial, callsIn_wide.2 (HS.out.mono ?_)⟩
    rintro e Wa1 ⟨rfl, hb2⟩
    have ST1 := Lib.hid (S1.out.later hb2)
    clear hb2 e0 HS S1 hnf
    gi_wp2_with fail
    refine wpIn_loop_rounds 3 ?_
    rw [roundsIn_succ]
    gi_wp2_with fail
    obtain ⟨B81, hWS1⟩ : ∃ b, Wa1.heap.size = b := ⟨_, rfl⟩
    obtain ⟨Wz1, hWz1⟩ : ∃ V, (Wa1.alloc (.cells #[.int .u64 0] 28)).alloc (.cells #[.int .u64 0] 28) = V := ⟨_, rfl⟩
    have b81 : Boxed Wz1 B81 28 (.int .u64 0) := by rw [← hWz1, ← hWS1]; exact (Boxed.new Wa1 28 _).alloc _
    have b91 : Boxed Wz1 (B81 + 1) 28 (.int .u64 0) := by
      have h := Boxed.new (Wa1.alloc (.cells #[.int .u64 0] 28)) 28 (.int .u64 0)
      rw [World.size_alloc, hWS1, hWz1] at h
      exact h
    have hz1 : Wz1.heap.size = B81 + 2 := by rw [← hWz1, ← hWS1]; simp
    have BZ1 : Hid (Below B81 Wa1 Wz1) := by rw [← hWz1, ← hWS1]; exact ((Below.refl _ _).alloc (Nat.le_refl _) _).alloc (by simp) _
    have HBWs1 : Hid (∀ V, Below B81 Wa1 V → B81 ≤ V.heap.size) := fun V h => by rw [← hWS1]; exact h.size
    have HST1b : Hid (Z + 1 + 1 < B81) := by rw [← hWS1]; exact ST1.out.b2.lt
    have hbs1 : Bs < B81 := by rw [← hWS1]; exact ST1.out.lt
    have hcs1 : Wz1.cell? ⟨Bs, 0, none⟩ = some (.slice A' n' c') := (BZ1.out.cell (p := ⟨Bs, 0, none⟩) hbs1).trans ST1.out.cs
    have hrs1 : Runs Wz1 B81 A' (nrm l) := by have h := ST1.out.rs; rw [hWS1] at h; exact h.below BZ1.out
    rw [hWS1, hWz1]
    refine wpIn_rangeFunc_ownG rfl (by omega) (gf := 49) (lb := #[.pointer (some ⟨Bs, 0, none⟩)]) rfl trivial (enters_of Try.func49 (by kernel_rfl) rfl)
      (each_stops (fun b => b = B81 ∨ b = B81 + 1) (9 - 1) (by omega) Bs B81 A' n' c' (nrm l) (nrm_spec l).1 HN'.out hn'63 Wz1 (fun b hb => by rcases hb with rfl | rfl <;> omega) hbs1 (by omega) hcs1 hrs1) KeepX.trans (keepX_b) (Below.refl _ _) (fun _ => rfl)
      (fun (pre : List U64) W => ((Boxed W B81 28 (.int .u64 ((lastN pre : Nat) : Int)) ∧ Boxed W (B81 + 1) 28 (.int .u64 ((pre.length : Nat) : Int))) ∧ Below B81 Wa1 W) ∧ pre.length ≤ fr)
      (fun (k : Code) (pre : List U64) W => (k = .exit 2 → Boxed W (B81 + 1) 28 (.int .u64 ((pre.length : Nat) : Int)) ∧ Below B81 Wa1 W) ∧ ((k = .exit 2 ∧ pre.length = fr + 1) ∨ Bad l pre))
      (OwnFrom.and (OwnFrom.and (OwnFrom.and (Own.from (boxed_own _ _ (fun pre : List U64 => .int .u64 ((lastN pre : Nat) : Int))) _) (Own.from (boxed_own _ _ (fun pre : List U64 => .int .u64 ((pre.length : Nat) : Int))) _)) (ownFrom_below (by omega) (by omega))) (ownFrom_pure _ (fun pre : List U64 => pre.length ≤ fr)))
      (fun k pre X Y row hs hg hr => ⟨fun hk => ⟨(Own.from (boxed_own (B81 + 1) 28 (fun pre : List U64 => .int .u64 ((pre.length : Nat) : Int))) _) pre X Y row (hs.1 hk).1 hg hr, ownFrom_below (β := List U64) (by omega) (by omega) pre X Y row (hs.1 hk).2 hg hr⟩, hs.2⟩)
      ⟨⟨⟨b81, b91⟩, BZ1.out⟩, Nat.zero_le _⟩ ?a1q1 ?assignq1 ?bodyq1 ?doneq1 ?stopq1
    case assignq1 =>
      intro l2 x W K hK
      simp only [encU]
      gi_wp2
      exact hK
    case bodyq1 =>
      rintro l2 pre ⟨x, hx⟩ W ⟨⟨⟨c8, c9⟩, hBW⟩, hle⟩ hlt
      have hst := ST1.out.later (by rw [hWS1]; exact hBW)
      have e0 := hst.b0.cell
      have g2 := hst.b2.frozen
      have e2 := hst.b2.cell
      have d8 := c8.cell
      obtain ⟨lp, hlp⟩ : ∃ z, lastN pre = z := ⟨_, rfl⟩
      rw [hlp] at c8 d8
      have HST := Lib.hid hst
      have HBW := Lib.hid hBW
      have C8 := Lib.hid c8
      have C9 := Lib.hid c9
      clear hst hBW hlt c8 c9
      by_cases h1 : x ≤ lp
      · have dd : decide ((x : Int) ≤ (lp : Int)) = true := decide_eq_true (by omega)
        gi_wp2
        refine ⟨trivial, ?_⟩
        gi_wp2
        refine ⟨trivial, ?_⟩
        gi_wp2
        refine ⟨trivial, ?_⟩
        gi_wp2
        exact ⟨(KeepsOthers.setCell _ _ _).from _, fun hk => (by cases hk), .inr ⟨pre, ⟨x, hx⟩, rfl, fun h => by have h3 := h.1; rw [hlp] at h3; exact absurd h3 (by show ¬ lp < x; omega)⟩⟩
      · have dd : decide ((x : Int) ≤ (lp : Int)) = false := decide_eq_false (by omega)
        have CH := Lib.hid (has_any W W.heap.size A l m c x HL.out HST.out.rl (Nat.le_refl _) (by omega) hx)
        by_cases h2 : has l x = true
        · rw [h2] at CH
          have hw : IntKind.u64.wrap ((lp : Int) + 1) = ((lp + 1 : Nat) : Int) := by simp [IntKind.wrap, IntKind.bits, IntKind.signed]; omega
          obtain ⟨lq, hlq⟩ : ∃ z, lp + 1 = z := ⟨_, rfl⟩
          rw [hlq] at hw
          gi_wp2_with fail
          refine ⟨trivial, (CallsIn.inRound l2 (callsIn_wide.2 CH.out)).mono ?_⟩
          rintro e W1 ⟨rfl, b1⟩
          have HST1 := Lib.hid (HST.out.later b1)
          have B1 := Lib.hid b1
          have e01 := HST1.out.b0.cell
          have d81 := (bl C8.out b1).cell
          have L1 : Hid (Below W1.heap.size W1 (W1.alloc (.cells #[.int .u64 (lq : Int), .int .u64 (x : Int)] 31))) := below_new _ _
          have RO : Hid (Runs (W1.alloc (.cells #[.int .u64 (lq : Int), .int .u64 (x : Int)] 31)) (W1.alloc (.cells #[.int .u64 (lq : Int), .int .u64 (x : Int)] 31)).heap.size (some ⟨W1.heap.size, 0, none⟩) [(lq, x)]) := ⟨fun r hr => by obtain rfl := List.mem_singleton.1 hr; exact ⟨by show lq < _; omega, hx⟩, lies_one W1 (lq, x)⟩
          have CM := Lib.hid (meet_any (W1.alloc (.cells #[.int .u64 (lq : Int), .int .u64 (x : Int)] 31)) A (some ⟨W1.heap.size, 0, none⟩) l [(lq, x)] m 1 c 1 HL.out rfl HA.out (fun h => by cases h) (HST1.out.rl.up L1.out) RO.out (by omega) (by omega))
          clear b1 CH e0 d8
          gi_wp2_with fail
          refine ⟨trivial, (CallsIn.inRound l2 (callsIn_wide.2 CM.out)).mono ?_⟩
          rintro e W2 p2
          obtain ⟨A2, n2, c2, rfl, q2, _, f2, f2', r2, o2, b2⟩ := post_runs p2 (fit_order (set_spec l [(lq, x)] 1).1)
          have B2 : Hid (Below W1.heap.size W1 W2) := L1.out.trans (b2.mono L1.out.size)
          have L2 : Hid (Below W2.heap.size W2 (W2.alloc (.cells #[.int .u64 (x : Int), .int .u64 (x : Int)] 31))) := below_new _ _
          have RX : Hid (Runs (W2.alloc (.cells #[.int .u64 (x : Int), .int .u64 (x : Int)] 31)) (W2.alloc (.cells #[.int .u64 (x : Int), .int .u64 (x : Int)] 31)).heap.size (some ⟨W2.heap.size, 0, none⟩) [(x, x)]) := ⟨fun r hr => by obtain rfl := List.mem_singleton.1 hr; exact ⟨hx, hx⟩, lies_one W2 (x, x)⟩
          have CE := Lib.hid (eq_g (W2.alloc (.cells #[.int .u64 (x : Int), .int .u64 (x : Int)] 31)) A2 (some ⟨W2.heap.size, 0, none⟩) (setL l [(lq, x)] 1) [(x, x)] n2 1 c2 1 q2 rfl (r2.up L2.out) RX.out (by omega))
          clear p2 q2 r2 o2 b2 CM e01 d81
          by_cases h3 : setL l [(lq, x)] 1 = [(x, x)]
          · rw [decide_eq_true h3] at CE
            have hlen : ((pre ++ [(⟨x, hx⟩ : U64)]).length) = pre.length + 1 := by simp
            have hw2 : IntKind.u64.wrap ((pre.length : Int) + 1) = ((pre.length + 1 : Nat) : Int) := by simp [IntKind.wrap, IntKind.bits, IntKind.signed]; omega
            obtain ⟨pl, hpl⟩ : ∃ z, pre.length = z := ⟨_, rfl⟩
            obtain ⟨pq, hpq⟩ : ∃ z, pl + 1 = z := ⟨_, rfl⟩
            rw [hpl, hpq] at hw2 hlen
            rw [hpl] at hle C9
            have HLEN := Lib.hid hlen
            clear hlen
            gi_wp2_with fail
            refine ⟨trivial, (CallsIn.inRound l2 (callsIn_wide.2 CE.out)).mono ?_⟩
            rintro e W3 ⟨rfl, b3⟩
            have B3 : Hid (Below W.heap.size W W3) := B1.out.trans ((B2.out.trans ((L2.out.trans (b3.mono L2.out.size)).mono B2.out.size)).mono B1.out.size)
            clear CE b3
            have HST3 := Lib.hid (HST.out.later B3.out)
            have c8 := bl C8.out B3.out
            have c9 := bl C9.out B3.out
            have d8 := c8.cell
            have f8 := c8.frozen
            have d9 := (c9.other (B' := B81) (by omega) (.int .u64 (x : Int))).cell
            have f9 := (c9.other (B' := B81) (by omega) (.int .u64 (x : Int))).frozen
            have c8b := (c8.set (.int .u64 (x : Int))).other (B' := B81 + 1) (by omega) (.int .u64 (pq : Int))
            have c9b := (c9.other (B' := B81) (by omega) (.int .u64 (x : Int))).set (.int .u64 (pq : Int))
            have d9b := c9b.cell
            have hne1 : Z + 1 ≠ B81 := by have := HST1b.out; omega
            have hne2 : Z + 1 ≠ B81 + 1 := by have := HST1b.out; omega
            have e1 := ((HST3.out.b1.other (B' := B81) hne1 (.int .u64 (x : Int))).other (B' := B81 + 1) hne2 (.int .u64 (pq : Int))).cell
            have HI8 := Lib.hid c8b
            have HI9 := Lib.hid c9b
            have HBX : Hid (Below B81 Wa1 ((W3.setCell ⟨B81, 0, none⟩ (.int .u64 (x : Int))).setCell ⟨B81 + 1, 0, none⟩ (.int .u64 (pq : Int)))) := ((HBW.out.trans (B3.out.mono (HBWs1.out W HBW.out))).setCell (p := ⟨B81, 0, none⟩) (Nat.le_refl _) _).setCell (p := ⟨B81 + 1, 0, none⟩) (by simp) _
            have HKO : Hid (KeepsFrom (Wz1).heap.size W ((W3.setCell ⟨B81, 0, none⟩ (.int .u64 (x : Int))).setCell ⟨B81 + 1, 0, none⟩ (.int .u64 (pq : Int)))) := ((keepsFrom_below _ B3.out).trans ((KeepsOthers.setCell _ _ _).from _)).trans ((KeepsOthers.setCell _ _ _).from _)
            have HKX : Hid (KeepX (fun b => b = B81 ∨ b = B81 + 1) W ((W3.setCell ⟨B81, 0, none⟩ (.int .u64 (x : Int))).setCell ⟨B81 + 1, 0, none⟩ (.int .u64 (pq : Int)))) := ((KeepX.below B3.out).trans (keepX_set (.inl rfl) _)).trans (keepX_set (.inr rfl) _)
            clear c8 c9 c8b c9b e2 g2
            by_cases hgt : fr < pq
            · have dg : decide ((fr : Int) < (pq : Int)) = true := decide_eq_true (by omega)
              gi_wp2
              exact ⟨HKO.out, fun _ => ⟨by rw [HLEN.out]; exact HI9.out, HBX.out⟩, .inl ⟨rfl, by rw [HLEN.out]; omega⟩⟩
            · have dg : decide ((fr : Int) < (pq : Int)) = false := decide_eq_false (by omega)
              gi_wp2
              exact ⟨HKO.out, HKX.out, ⟨⟨by rw [lastN_snoc]; exact HI8.out, by rw [HLEN.out]; exact HI9.out⟩, HBX.out⟩, by rw [HLEN.out]; omega⟩
          · rw [decide_eq_false h3] at CE
            gi_wp2_with fail
            refine ⟨trivial, (CallsIn.inRound l2 (callsIn_wide.2 CE.out)).mono ?_⟩
            rintro e W3 ⟨rfl, b3⟩
            have B3 : Hid (Below W.heap.size W W3) := B1.out.trans ((B2.out.trans ((L2.out.trans (b3.mono L2.out.size)).mono B2.out.size)).mono B1.out.size)
            have k2 := (HST.out.later B3.out).b2.cell
            have k3 := (HST.out.later B3.out).b2.frozen
            clear CE b3 e2 g2
            gi_wp2
            exact ⟨(keepsFrom_below _ B3.out).trans ((KeepsOthers.setCell _ _ _).from _), fun hk => (by cases hk), .inr ⟨pre, ⟨x, hx⟩, rfl, fun h => by have h4 := h.2.2; rw [hlp, hlq] at h4; exact h3 h4⟩⟩
        · have h2' : has l x = false := by simpa using h2
          rw [h2'] at CH
          gi_wp2_with fail
          refine ⟨trivial, (CallsIn.inRound l2 (callsIn_wide.2 CH.out)).mono ?_⟩
          rintro e W1 ⟨rfl, b1⟩
          have k2 := (HST.out.later b1).b2.cell
          have k3 := (HST.out.later b1).b2.frozen
          have B1 := Lib.hid b1
          clear b1 CH e2 g2
          gi_wp2
          refine ⟨trivial, ?_⟩
          gi_wp2
          refine ⟨trivial, ?_⟩
          gi_wp2
          exact ⟨(keepsFrom_below _ B1.out).trans ((KeepsOthers.setCell _ _ _).from _), fun hk => (by cases hk), .inr ⟨pre, ⟨x, hx⟩, rfl, fun h => h2 h.2.1⟩⟩
    case doneq1 =>
      rintro D1 ys Wa2 hD1 rfl ⟨⟨⟨c8, c9⟩, hBW⟩, hle⟩ hK1
      have ST2 := Lib.hid (ST1.out.later (by rw [hWS1]; exact hBW))
      rw [numsU_length (nrm_spec l).1, hzz] at c9
      have d9 := c9.cell
      have e1 := ST2.out.b1.cell
      have HK1 := Lib.hid hK1
      have HBD1 := Lib.hid hBW
      clear c8 c9 hBW hle hK1
      gi_wp2
      rw [roundsIn_succ]
      clear d9 e1
      gi_wp2_with fail
      obtain ⟨B82, hWS2⟩ : ∃ b, Wa2.heap.size = b := ⟨_, rfl⟩
      obtain ⟨Wz2, hWz2⟩ : ∃ V, (Wa2.alloc (.cells #[.int .u64 0] 28)).alloc (.cells #[.int .u64 0] 28) = V := ⟨_, rfl⟩
      have b82 : Boxed Wz2 B82 28 (.int .u64 0) := by rw [← hWz2, ← hWS2]; exact (Boxed.new Wa2 28 _).alloc _
      have b92 : Boxed Wz2 (B82 + 1) 28 (.int .u64 0) := by
        have h := Boxed.new (Wa2.alloc (.cells #[.int .u64 0] 28)) 28 (.int .u64 0)
        rw [World.size_alloc, hWS2, hWz2] at h
        exact h
      have hz2 : Wz2.heap.size = B82 + 2 := by rw [← hWz2, ← hWS2]; simp
      have BZ2 : Hid (Below B82 Wa2 Wz2) := by rw [← hWz2, ← hWS2]; exact ((Below.refl _ _).alloc (Nat.le_refl _) _).alloc (by simp) _
      have HBWs2 : Hid (∀ V, Below B82 Wa2 V → B82 ≤ V.heap.size) := fun V h => by rw [← hWS2]; exact h.size
      have HST2b : Hid (Z + 1 + 1 < B82) := by rw [← hWS2]; exact ST2.out.b2.lt
      have hbs2 : Bs < B82 := by rw [← hWS2]; exact ST2.out.lt
      have hcs2 : Wz2.cell? ⟨Bs, 0, none⟩ = some (.slice A' n' c') := (BZ2.out.cell (p := ⟨Bs, 0, none⟩) hbs2).trans ST2.out.cs
      have hrs2 : Runs Wz2 B82 A' (nrm l) := by have h := ST2.out.rs; rw [hWS2] at h; exact h.below BZ2.out
      rw [hWS2, hWz2]
      refine wpIn_rangeFunc_ownG rfl (by omega) (gf := 49) (lb := #[.pointer (some ⟨Bs, 0, none⟩)]) rfl trivial (enters_of Try.func49 (by kernel_rfl) rfl)
        (each_stops (fun b => b = B82 ∨ b = B82 + 1) (9 - 1) (by omega) Bs B82 A' n' c' (nrm l) (nrm_spec l).1 HN'.out hn'63 Wz2 (fun b hb => by rcases hb with rfl | rfl <;> omega) hbs2 (by omega) hcs2 hrs2) KeepX.trans (keepX_b) (Below.refl _ _) (fun _ => rfl)
        (fun (pre : List U64) W => ((Boxed W B82 28 (.int .u64 ((lastN pre : Nat) : Int)) ∧ Boxed W (B82 + 1) 28 (.int .u64 ((pre.length : Nat) : Int))) ∧ Below B82 Wa2 W) ∧ pre.length ≤ fr)
        (fun (k : Code) (pre : List U64) W => (k = .exit 2 → Boxed W (B82 + 1) 28 (.int .u64 ((pre.length : Nat) : Int)) ∧ Below B82 Wa2 W) ∧ ((k = .exit 2 ∧ pre.length = fr + 1) ∨ Bad l pre))
        (OwnFrom.and (OwnFrom.and (OwnFrom.and (Own.from (boxed_own _ _ (fun pre : List U64 => .int .u64 ((lastN pre : Nat) : Int))) _) (Own.from (boxed_own _ _ (fun pre : List U64 => .int .u64 ((pre.length : Nat) : Int))) _)) (ownFrom_below (by omega) (by omega))) (ownFrom_pure _ (fun pre : List U64 => pre.length ≤ fr)))
        (fun k pre X Y row hs hg hr => ⟨fun hk => ⟨(Own.from (boxed_own (B82 + 1) 28 (fun pre : List U64 => .int .u64 ((pre.length : Nat) : Int))) _) pre X Y row (hs.1 hk).1 hg hr, ownFrom_below (β := List U64) (by omega) (by omega) pre X Y row (hs.1 hk).2 hg hr⟩, hs.2⟩)
        ⟨⟨⟨b82, b92⟩, BZ2.out⟩, Nat.zero_le _⟩ ?a1q2 ?assignq2 ?bodyq2 ?doneq2 ?stopq2
      case assignq2 =>
        intro l2 x W K hK
        simp only [encU]
        gi_wp2
        exact hK
      case bodyq2 =>
        rintro l2 pre ⟨x, hx⟩ W ⟨⟨⟨c8, c9⟩, hBW⟩, hle⟩ hlt
        have hst := ST2.out.later (by rw [hWS2]; exact hBW)
        have e0 := hst.b0.cell
        have g2 := hst.b2.frozen
        have e2 := hst.b2.cell
        have d8 := c8.cell
        obtain ⟨lp, hlp⟩ : ∃ z, lastN pre = z := ⟨_, rfl⟩
        rw [hlp] at c8 d8
        have HST := Lib.hid hst
        have HBW := Lib.hid hBW
        have C8 := Lib.hid c8
        have C9 := Lib.hid c9
        clear hst hBW hlt c8 c9
        by_cases h1 : x ≤ lp
        · have dd : decide ((x : Int) ≤ (lp : Int)) = true := decide_eq_true (by omega)
          gi_wp2
          refine ⟨trivial, ?_⟩
          gi_wp2
          refine ⟨trivial, ?_⟩
          gi_wp2
          refine ⟨trivial, ?_⟩
          gi_wp2
          exact ⟨(KeepsOthers.setCell _ _ _).from _, fun hk => (by cases hk), .inr ⟨pre, ⟨x, hx⟩, rfl, fun h => by have h3 := h.1; rw [hlp] at h3; exact absurd h3 (by show ¬ lp < x; omega)⟩⟩
        · have dd : decide ((x : Int) ≤ (lp : Int)) = false := decide_eq_false (by omega)
          have CH := Lib.hid (has_any W W.heap.size A l m c x HL.out HST.out.rl (Nat.le_refl _) (by omega) hx)
          by_cases h2 : has l x = true
          · rw [h2] at CH
            have hw : IntKind.u64.wrap ((lp : Int) + 1) = ((lp + 1 : Nat) : Int) := by simp [IntKind.wrap, IntKind.bits, IntKind.signed]; omega
            obtain ⟨lq, hlq⟩ : ∃ z, lp + 1 = z := ⟨_, rfl⟩
            rw [hlq] at hw
            gi_wp2_with fail
            refine ⟨trivial, (CallsIn.inRound l2 (callsIn_wide.2 CH.out)).mono ?_⟩
            rintro e W1 ⟨rfl, b1⟩
            have HST1 := Lib.hid (HST.out.later b1)
            have B1 := Lib.hid b1
            have e01 := HST1.out.b0.cell
            have d81 := (bl C8.out b1).cell
            have L1 : Hid (Below W1.heap.size W1 (W1.alloc (.cells #[.int .u64 (lq : Int), .int .u64 (x : Int)] 31))) := below_new _ _
            have RO : Hid (Runs (W1.alloc (.cells #[.int .u64 (lq : Int), .int .u64 (x : Int)] 31)) (W1.alloc (.cells #[.int .u64 (lq : Int), .int .u64 (x : Int)] 31)).heap.size (some ⟨W1.heap.size, 0, none⟩) [(lq, x)]) := ⟨fun r hr => by obtain rfl := List.mem_singleton.1 hr; exact ⟨by show lq < _; omega, hx⟩, lies_one W1 (lq, x)⟩
            have CM := Lib.hid (meet_any (W1.alloc (.cells #[.int .u64 (lq : Int), .int .u64 (x : Int)] 31)) A (some ⟨W1.heap.size, 0, none⟩) l [(lq, x)] m 1 c 1 HL.out rfl HA.out (fun h => by cases h) (HST1.out.rl.up L1.out) RO.out (by omega) (by omega))
            clear b1 CH e0 d8
            gi_wp2_with fail
            refine ⟨trivial, (CallsIn.inRound l2 (callsIn_wide.2 CM.out)).mono ?_⟩
            rintro e W2 p2
            obtain ⟨A2, n2, c2, rfl, q2, _, f2, f2', r2, o2, b2⟩ := post_runs p2 (fit_order (set_spec l [(lq, x)] 1).1)
            have B2 : Hid (Below W1.heap.size W1 W2) := L1.out.trans (b2.mono L1.out.size)
            have L2 : Hid (Below W2.heap.size W2 (W2.alloc (.cells #[.int .u64 (x : Int), .int .u64 (x : Int)] 31))) := below_new _ _
            have RX : Hid (Runs (W2.alloc (.cells #[.int .u64 (x : Int), .int .u64 (x : Int)] 31)) (W2.alloc (.cells #[.int .u64 (x : Int), .int .u64 (x : Int)] 31)).heap.size (some ⟨W2.heap.size, 0, none⟩) [(x, x)]) := ⟨fun r hr => by obtain rfl := List.mem_singleton.1 hr; exact ⟨hx, hx⟩, lies_one W2 (x, x)⟩
            have CE := Lib.hid (eq_g (W2.alloc (.cells #[.int .u64 (x : Int), .int .u64 (x : Int)] 31)) A2 (some ⟨W2.heap.size, 0, none⟩) (setL l [(lq, x)] 1) [(x, x)] n2 1 c2 1 q2 rfl (r2.up L2.out) RX.out (by omega))
            clear p2 q2 r2 o2 b2 CM e01 d81
            by_cases h3 : setL l [(lq, x)] 1 = [(x, x)]
            · rw [decide_eq_true h3] at CE
              have hlen : ((pre ++ [(⟨x, hx⟩ : U64)]).length) = pre.length + 1 := by simp
              have hw2 : IntKind.u64.wrap ((pre.length : Int) + 1) = ((pre.length + 1 : Nat) : Int) := by simp [IntKind.wrap, IntKind.bits, IntKind.signed]; omega
              obtain ⟨pl, hpl⟩ : ∃ z, pre.length = z := ⟨_, rfl⟩
              obtain ⟨pq, hpq⟩ : ∃ z, pl + 1 = z := ⟨_, rfl⟩
              rw [hpl, hpq] at hw2 hlen
              rw [hpl] at hle C9
              have HLEN := Lib.hid hlen
              clear hlen
              gi_wp2_with fail
              refine ⟨trivial, (CallsIn.inRound l2 (callsIn_wide.2 CE.out)).mono ?_⟩
              rintro e W3 ⟨rfl, b3⟩
              have B3 : Hid (Below W.heap.size W W3) := B1.out.trans ((B2.out.trans ((L2.out.trans (b3.mono L2.out.size)).mono B2.out.size)).mono B1.out.size)
              clear CE b3
              have HST3 := Lib.hid (HST.out.later B3.out)
              have c8 := bl C8.out B3.out
              have c9 := bl C9.out B3.out
              have d8 := c8.cell
              have f8 := c8.frozen
              have d9 := (c9.other (B' := B82) (by omega) (.int .u64 (x : Int))).cell
              have f9 := (c9.other (B' := B82) (by omega) (.int .u64 (x : Int))).frozen
              have c8b := (c8.set (.int .u64 (x : Int))).other (B' := B82 + 1) (by omega) (.int .u64 (pq : Int))
              have c9b := (c9.other (B' := B82) (by omega) (.int .u64 (x : Int))).set (.int .u64 (pq : Int))
              have d9b := c9b.cell
              have hne1 : Z + 1 ≠ B82 := by have := HST2b.out; omega
              have hne2 : Z + 1 ≠ B82 + 1 := by have := HST2b.out; omega
              have e1 := ((HST3.out.b1.other (B' := B82) hne1 (.int .u64 (x : Int))).other (B' := B82 + 1) hne2 (.int .u64 (pq : Int))).cell
              have HI8 := Lib.hid c8b
              have HI9 := Lib.hid c9b
              have HBX : Hid (Below B82 Wa2 ((W3.setCell ⟨B82, 0, none⟩ (.int .u64 (x : Int))).setCell ⟨B82 + 1, 0, none⟩ (.int .u64 (pq : Int)))) := ((HBW.out.trans (B3.out.mono (HBWs2.out W HBW.out))).setCell (p := ⟨B82, 0, none⟩) (Nat.le_refl _) _).setCell (p := ⟨B82 + 1, 0, none⟩) (by simp) _
              have HKO : Hid (KeepsFrom (Wz2).heap.size W ((W3.setCell ⟨B82, 0, none⟩ (.int .u64 (x : Int))).setCell ⟨B82 + 1, 0, none⟩ (.int .u64 (pq : Int)))) := ((keepsFrom_below _ B3.out).trans ((KeepsOthers.setCell _ _ _).from _)).trans ((KeepsOthers.setCell _ _ _).from _)
              have HKX : Hid (KeepX (fun b => b = B82 ∨ b = B82 + 1) W ((W3.setCell ⟨B82, 0, none⟩ (.int .u64 (x : Int))).setCell ⟨B82 + 1, 0, none⟩ (.int .u64 (pq : Int)))) := ((KeepX.below B3.out).trans (keepX_set (.inl rfl) _)).trans (keepX_set (.inr rfl) _)
              clear c8 c9 c8b c9b e2 g2
              by_cases hgt : fr < pq
              · have dg : decide ((fr : Int) < (pq : Int)) = true := decide_eq_true (by omega)
                gi_wp2
                exact ⟨HKO.out, fun _ => ⟨by rw [HLEN.out]; exact HI9.out, HBX.out⟩, .inl ⟨rfl, by rw [HLEN.out]; omega⟩⟩
              · have dg : decide ((fr : Int) < (pq : Int)) = false := decide_eq_false (by omega)
                gi_wp2
                exact ⟨HKO.out, HKX.out, ⟨⟨by rw [lastN_snoc]; exact HI8.out, by rw [HLEN.out]; exact HI9.out⟩, HBX.out⟩, by rw [HLEN.out]; omega⟩
            · rw [decide_eq_false h3] at CE
              gi_wp2_with fail
              refine ⟨trivial, (CallsIn.inRound l2 (callsIn_wide.2 CE.out)).mono ?_⟩
              rintro e W3 ⟨rfl, b3⟩
              have B3 : Hid (Below W.heap.size W W3) := B1.out.trans ((B2.out.trans ((L2.out.trans (b3.mono L2.out.size)).mono B2.out.size)).mono B1.out.size)
              have k2 := (HST.out.later B3.out).b2.cell
              have k3 := (HST.out.later B3.out).b2.frozen
              clear CE b3 e2 g2
              gi_wp2
              exact ⟨(keepsFrom_below _ B3.out).trans ((KeepsOthers.setCell _ _ _).from _), fun hk => (by cases hk), .inr ⟨pre, ⟨x, hx⟩, rfl, fun h => by have h4 := h.2.2; rw [hlp, hlq] at h4; exact h3 h4⟩⟩
          · have h2' : has l x = false := by simpa using h2
            rw [h2'] at CH
            gi_wp2_with fail
            refine ⟨trivial, (CallsIn.inRound l2 (callsIn_wide.2 CH.out)).mono ?_⟩
            rintro e W1 ⟨rfl, b1⟩
            have k2 := (HST.out.later b1).b2.cell
            have k3 := (HST.out.later b1).b2.frozen
            have B1 := Lib.hid b1
            clear b1 CH e2 g2
            gi_wp2
            refine ⟨trivial, ?_⟩
            gi_wp2
            refine ⟨trivial, ?_⟩
            gi_wp2
            exact ⟨(keepsFrom_below _ B1.out).trans ((KeepsOthers.setCell _ _ _).from _), fun hk => (by cases hk), .inr ⟨pre, ⟨x, hx⟩, rfl, fun h => h2 h.2.1⟩⟩
      case doneq2 =>
        rintro D2 ys Wa3 hD2 rfl ⟨⟨⟨c8, c9⟩, hBW⟩, hle⟩ hK2
        have ST3 := Lib.hid (ST2.out.later (by rw [hWS2]; exact hBW))
        rw [numsU_length (nrm_spec l).1, hzz] at c9
        have d9 := c9.cell
        have e1 := ST3.out.b1.cell
        have HK2 := Lib.hid hK2
        have HBD2 := Lib.hid hBW
        clear c8 c9 hBW hle hK2
        gi_wp2
        rw [roundsIn_succ]
        clear d9 e1
        have HW := Lib.hid (works_any Wa3)
        gi_wp2_with fail
        refine ⟨trivial, callsIn_wide.2 (HW.out.mono ?_)⟩
        rintro e V9 ⟨rfl, hb9⟩
        have c2 := bl ST3.out.b2 hb9
        have d2 := c2.cell
        have f2 := c2.frozen
        have ld1 : D1 < Wa2.heap.size := (Array.getElem?_eq_some_iff.1 HK1.out).1
        have k13 : Wa3.heap[D1]? = some (.deferred (some [])) := (HBD2.out.block D1 (by omega)).trans HK1.out
        have k19 : Hid (V9.heap[D1]? = some (.deferred (some []))) := (hb9.block D1 (Array.getElem?_eq_some_iff.1 k13).1).trans k13
        have k29 : Hid (V9.heap[D2]? = some (.deferred (some []))) := (hb9.block D2 (Array.getElem?_eq_some_iff.1 HK2.out).1).trans HK2.out
        have HB9 : Hid (Below w.heap.size w V9) := ST3.out.bel.trans (hb9.mono ST3.out.bel.size)
        have q1 := ST1.out.bel.size
        have q2 := ST2.out.bel.size
        have zw := ST1.out.zw
        clear hb9 HW k13
        gi_wp2
        have k2 := (KeepsOthers.setCell V9 ⟨Z + 1 + 1, 0, none⟩ (.bool true)).same D2 _ k29.out rfl
        have k1 : ((V9.setCell ⟨Z + 1 + 1, 0, none⟩ (.bool true)).putObj D2 (.deferred none)).heap[D1]? = some (.deferred (some [])) :=
          (World.putObj_heap_other (by omega)).trans ((KeepsOthers.setCell V9 ⟨Z + 1 + 1, 0, none⟩ (.bool true)).same D1 _ k19.out rfl)
        refine ⟨by simp, .inl ⟨_, _, rfl, run_takeDeferred k2, ⟨by simp, .inl ⟨_, _, rfl, run_takeDeferred k1, ?_⟩⟩⟩⟩
        have hc4 := cell_kept (c2.set (.bool true)).cell (grownBy_putObj' _ D2 (.deferred none)) (fun r e => by cases e; exact ⟨_, k2, rfl⟩)
        have hc5 := cell_kept hc4 (grownBy_putObj' _ D1 (.deferred none)) (fun r e => by cases e; exact ⟨_, k1, rfl⟩)
        refine ⟨.bool true, ?_, rfl, ((HB9.out.setCell (p := ⟨Z + 1 + 1, 0, none⟩) (by show w.heap.size ≤ Z + 1 + 1; omega) _).trans (belowK_b (w := w) (Nat.le_refl _) _ D2 _ _ (by omega) k2 rfl rfl)).trans (belowK_b (w := w) (Nat.le_refl _) _ D1 _ _ (by omega) k1 rfl rfl)⟩
        simp [results, Try.f7, go_sem, hc5]
      case stopq2 =>
        rintro D2 k pre Wa3 hD2 hpre ⟨h1, hor⟩ hK2
        rcases hor with ⟨rfl, hlen⟩ | ⟨p, x, rfl, hbad⟩
        · obtain ⟨c9, hBW⟩ := h1 rfl
          have ST3 := Lib.hid (ST2.out.later (by rw [hWS2]; exact hBW))
          rw [hlen] at c9
          have d9 := c9.cell
          have e1 := ST3.out.b1.cell
          have HK2 := Lib.hid hK2
          have HBD2 := Lib.hid hBW
          have hwf : IntKind.u64.wrap ((fr : Int) + 1) = ((fr + 1 : Nat) : Int) := by simp [IntKind.wrap, IntKind.bits, IntKind.signed]; omega
          clear c9 hBW h1 hK2 hpre hlen
          by_cases hfz2 : fr + 1 = z
          · rw [hfz2] at d9
            clear hwf
            gi_wp2
            rw [roundsIn_succ]
            clear d9 e1
            have HW := Lib.hid (works_any Wa3)
            gi_wp2_with fail
            refine ⟨trivial, callsIn_wide.2 (HW.out.mono ?_)⟩
            rintro e V9 ⟨rfl, hb9⟩
            have c2 := bl ST3.out.b2 hb9
            have d2 := c2.cell
            have f2 := c2.frozen
            have ld1 : D1 < Wa2.heap.size := (Array.getElem?_eq_some_iff.1 HK1.out).1
            have k13 : Wa3.heap[D1]? = some (.deferred (some [])) := (HBD2.out.block D1 (by omega)).trans HK1.out
            have k19 : Hid (V9.heap[D1]? = some (.deferred (some []))) := (hb9.block D1 (Array.getElem?_eq_some_iff.1 k13).1).trans k13
            have k29 : Hid (V9.heap[D2]? = some (.deferred (some []))) := (hb9.block D2 (Array.getElem?_eq_some_iff.1 HK2.out).1).trans HK2.out
            have HB9 : Hid (Below w.heap.size w V9) := ST3.out.bel.trans (hb9.mono ST3.out.bel.size)
            have q1 := ST1.out.bel.size
            have q2 := ST2.out.bel.size
            have zw := ST1.out.zw
            clear hb9 HW k13
            gi_wp2
            have k2 := (KeepsOthers.setCell V9 ⟨Z + 1 + 1, 0, none⟩ (.bool true)).same D2 _ k29.out rfl
            have k1 : ((V9.setCell ⟨Z + 1 + 1, 0, none⟩ (.bool true)).putObj D2 (.deferred none)).heap[D1]? = some (.deferred (some [])) :=
              (World.putObj_heap_other (by omega)).trans ((KeepsOthers.setCell V9 ⟨Z + 1 + 1, 0, none⟩ (.bool true)).same D1 _ k19.out rfl)
            refine ⟨by simp, .inl ⟨_, _, rfl, run_takeDeferred k2, ⟨by simp, .inl ⟨_, _, rfl, run_takeDeferred k1, ?_⟩⟩⟩⟩
            have hc4 := cell_kept (c2.set (.bool true)).cell (grownBy_putObj' _ D2 (.deferred none)) (fun r e => by cases e; exact ⟨_, k2, rfl⟩)
            have hc5 := cell_kept hc4 (grownBy_putObj' _ D1 (.deferred none)) (fun r e => by cases e; exact ⟨_, k1, rfl⟩)
            refine ⟨.bool true, ?_, rfl, ((HB9.out.setCell (p := ⟨Z + 1 + 1, 0, none⟩) (by show w.heap.size ≤ Z + 1 + 1; omega) _).trans (belowK_b (w := w) (Nat.le_refl _) _ D2 _ _ (by omega) k2 rfl rfl)).trans (belowK_b (w := w) (Nat.le_refl _) _ D1 _ _ (by omega) k1 rfl rfl)⟩
            simp [results, Try.f7, go_sem, hc5]
          · have hnz : (((fr + 1 : Nat) : Int) != (z : Int)) = true := by rw [bne_iff_ne]; omega
            gi_wp2
            rw [roundsIn_succ]
            clear d9 e1
            have HW := Lib.hid (works_any Wa3)
            gi_wp2_with fail
            refine ⟨trivial, callsIn_wide.2 (HW.out.mono ?_)⟩
            rintro e V9 ⟨rfl, hb9⟩
            have c2 := bl ST3.out.b2 hb9
            have d2 := c2.cell
            have f2 := c2.frozen
            have ld1 : D1 < Wa2.heap.size := (Array.getElem?_eq_some_iff.1 HK1.out).1
            have k13 : Wa3.heap[D1]? = some (.deferred (some [])) := (HBD2.out.block D1 (by omega)).trans HK1.out
            have k19 : Hid (V9.heap[D1]? = some (.deferred (some []))) := (hb9.block D1 (Array.getElem?_eq_some_iff.1 k13).1).trans k13
            have k29 : Hid (V9.heap[D2]? = some (.deferred (some []))) := (hb9.block D2 (Array.getElem?_eq_some_iff.1 HK2.out).1).trans HK2.out
            have HB9 : Hid (Below w.heap.size w V9) := ST3.out.bel.trans (hb9.mono ST3.out.bel.size)
            have q1 := ST1.out.bel.size
            have q2 := ST2.out.bel.size
            have zw := ST1.out.zw
            clear hb9 HW k13
            gi_wp2
            have k2 := (KeepsOthers.setCell V9 ⟨Z + 1 + 1, 0, none⟩ (.bool true)).same D2 _ k29.out rfl
            have k1 : ((V9.setCell ⟨Z + 1 + 1, 0, none⟩ (.bool true)).putObj D2 (.deferred none)).heap[D1]? = some (.deferred (some [])) :=
              (World.putObj_heap_other (by omega)).trans ((KeepsOthers.setCell V9 ⟨Z + 1 + 1, 0, none⟩ (.bool true)).same D1 _ k19.out rfl)
            refine ⟨by simp, .inl ⟨_, _, rfl, run_takeDeferred k2, ⟨by simp, .inl ⟨_, _, rfl, run_takeDeferred k1, ?_⟩⟩⟩⟩
            have hc4 := cell_kept (c2.set (.bool true)).cell (grownBy_putObj' _ D2 (.deferred none)) (fun r e => by cases e; exact ⟨_, k2, rfl⟩)
            have hc5 := cell_kept hc4 (grownBy_putObj' _ D1 (.deferred none)) (fun r e => by cases e; exact ⟨_, k1, rfl⟩)
            refine ⟨.bool true, ?_, rfl, ((HB9.out.setCell (p := ⟨Z + 1 + 1, 0, none⟩) (by show w.heap.size ≤ Z + 1 + 1; omega) _).trans (belowK_b (w := w) (Nat.le_refl _) _ D2 _ _ (by omega) k2 rfl rfl)).trans (belowK_b (w := w) (Nat.le_refl _) _ D1 _ _ (by omega) k1 rfl rfl)⟩
            simp [results, Try.f7, go_sem, hc5]
        · exact absurd (chk_of hpre) hbad
    case stopq1 =>
      rintro D1 k pre Wa2 hD1 hpre ⟨h1, hor⟩ hK1
      rcases hor with ⟨rfl, hlen⟩ | ⟨p, x, rfl, hbad⟩
      · obtain ⟨c9, hBW⟩ := h1 rfl
        have ST2 := Lib.hid (ST1.out.later (by rw [hWS1]; exact hBW))
        rw [hlen] at c9
        have d9 := c9.cell
        have e1 := ST2.out.b1.cell
        have HK1 := Lib.hid hK1
        have HBD1 := Lib.hid hBW
        have hwf : IntKind.u64.wrap ((fr : Int) + 1) = ((fr + 1 : Nat) : Int) := by simp [IntKind.wrap, IntKind.bits, IntKind.signed]; omega
        clear c9 hBW h1 hK1 hpre hlen
        by_cases hfz1 : fr + 1 = z
        · rw [hfz1] at d9
          clear hwf
          gi_wp2
          rw [roundsIn_succ]
          clear d9 e1
          gi_wp2_with fail
          obtain ⟨B82, hWS2⟩ : ∃ b, Wa2.heap.size = b := ⟨_, rfl⟩
          obtain ⟨Wz2, hWz2⟩ : ∃ V, (Wa2.alloc (.cells #[.int .u64 0] 28)).alloc (.cells #[.int .u64 0] 28) = V := ⟨_, rfl⟩
          have b82 : Boxed Wz2 B82 28 (.int .u64 0) := by rw [← hWz2, ← hWS2]; exact (Boxed.new Wa2 28 _).alloc _
          have b92 : Boxed Wz2 (B82 + 1) 28 (.int .u64 0) := by
            have h := Boxed.new (Wa2.alloc (.cells #[.int .u64 0] 28)) 28 (.int .u64 0)
            rw [World.size_alloc, hWS2, hWz2] at h
            exact h
          have hz2 : Wz2.heap.size = B82 + 2 := by rw [← hWz2, ← hWS2]; simp
          have BZ2 : Hid (Below B82 Wa2 Wz2) := by rw [← hWz2, ← hWS2]; exact ((Below.refl _ _).alloc (Nat.le_refl _) _).alloc (by simp) _
          have HBWs2 : Hid (∀ V, Below B82 Wa2 V → B82 ≤ V.heap.size) := fun V h => by rw [← hWS2]; exact h.size
          have HST2b : Hid (Z + 1 + 1 < B82) := by rw [← hWS2]; exact ST2.out.b2.lt
          have hbs2 : Bs < B82 := by rw [← hWS2]; exact ST2.out.lt
          have hcs2 : Wz2.cell? ⟨Bs, 0, none⟩ = some (.slice A' n' c') := (BZ2.out.cell (p := ⟨Bs, 0, none⟩) hbs2).trans ST2.out.cs
          have hrs2 : Runs Wz2 B82 A' (nrm l) := by have h := ST2.out.rs; rw [hWS2] at h; exact h.below BZ2.out
          rw [hWS2, hWz2]
          refine wpIn_rangeFunc_ownG rfl (by omega) (gf := 49) (lb := #[.pointer (some ⟨Bs, 0, none⟩)]) rfl trivial (enters_of Try.func49 (by kernel_rfl) rfl)
            (each_stops (fun b => b = B82 ∨ b = B82 + 1) (9 - 1) (by omega) Bs B82 A' n' c' (nrm l) (nrm_spec l).1 HN'.out hn'63 Wz2 (fun b hb => by rcases hb with rfl | rfl <;> omega) hbs2 (by omega) hcs2 hrs2) KeepX.trans (keepX_b) (Below.refl _ _) (fun _ => rfl)
            (fun (pre : List U64) W => ((Boxed W B82 28 (.int .u64 ((lastN pre : Nat) : Int)) ∧ Boxed W (B82 + 1) 28 (.int .u64 ((pre.length : Nat) : Int))) ∧ Below B82 Wa2 W) ∧ pre.length ≤ fr)
            (fun (k : Code) (pre : List U64) W => (k = .exit 2 → Boxed W (B82 + 1) 28 (.int .u64 ((pre.length : Nat) : Int)) ∧ Below B82 Wa2 W) ∧ ((k = .exit 2 ∧ pre.length = fr + 1) ∨ Bad l pre))
            (OwnFrom.and (OwnFrom.and (OwnFrom.and (Own.from (boxed_own _ _ (fun pre : List U64 => .int .u64 ((lastN pre : Nat) : Int))) _) (Own.from (boxed_own _ _ (fun pre : List U64 => .int .u64 ((pre.length : Nat) : Int))) _)) (ownFrom_below (by omega) (by omega))) (ownFrom_pure _ (fun pre : List U64 => pre.length ≤ fr)))
            (fun k pre X Y row hs hg hr => ⟨fun hk => ⟨(Own.from (boxed_own (B82 + 1) 28 (fun pre : List U64 => .int .u64 ((pre.length : Nat) : Int))) _) pre X Y row (hs.1 hk).1 hg hr, ownFrom_below (β := List U64) (by omega) (by omega) pre X Y row (hs.1 hk).2 hg hr⟩, hs.2⟩)
            ⟨⟨⟨b82, b92⟩, BZ2.out⟩, Nat.zero_le _⟩ ?a1q3 ?assignq3 ?bodyq3 ?doneq3 ?stopq3
          case assignq3 =>
            intro l2 x W K hK
            simp only [encU]
            gi_wp2
            exact hK
          case bodyq3 =>
            rintro l2 pre ⟨x, hx⟩ W ⟨⟨⟨c8, c9⟩, hBW⟩, hle⟩ hlt
            have hst := ST2.out.later (by rw [hWS2]; exact hBW)
            have e0 := hst.b0.cell
            have g2 := hst.b2.frozen
            have e2 := hst.b2.cell
            have d8 := c8.cell
            obtain ⟨lp, hlp⟩ : ∃ z, lastN pre = z := ⟨_, rfl⟩
            rw [hlp] at c8 d8
            have HST := Lib.hid hst
            have HBW := Lib.hid hBW
            have C8 := Lib.hid c8
            have C9 := Lib.hid c9
            clear hst hBW hlt c8 c9
            by_cases h1 : x ≤ lp
            · have dd : decide ((x : Int) ≤ (lp : Int)) = true := decide_eq_true (by omega)
              gi_wp2
              refine ⟨trivial, ?_⟩
              gi_wp2
              refine ⟨trivial, ?_⟩
              gi_wp2
              refine ⟨trivial, ?_⟩
              gi_wp2
              exact ⟨(KeepsOthers.setCell _ _ _).from _, fun hk => (by cases hk), .inr ⟨pre, ⟨x, hx⟩, rfl, fun h => by have h3 := h.1; rw [hlp] at h3; exact absurd h3 (by show ¬ lp < x; omega)⟩⟩
            · have dd : decide ((x : Int) ≤ (lp : Int)) = false := decide_eq_false (by omega)
              have CH := Lib.hid (has_any W W.heap.size A l m c x HL.out HST.out.rl (Nat.le_refl _) (by omega) hx)
              by_cases h2 : has l x = true
              · rw [h2] at CH
                have hw : IntKind.u64.wrap ((lp : Int) + 1) = ((lp + 1 : Nat) : Int) := by simp [IntKind.wrap, IntKind.bits, IntKind.signed]; omega
                obtain ⟨lq, hlq⟩ : ∃ z, lp + 1 = z := ⟨_, rfl⟩
                rw [hlq] at hw
                gi_wp2_with fail
                refine ⟨trivial, (CallsIn.inRound l2 (callsIn_wide.2 CH.out)).mono ?_⟩
                rintro e W1 ⟨rfl, b1⟩
                have HST1 := Lib.hid (HST.out.later b1)
                have B1 := Lib.hid b1
                have e01 := HST1.out.b0.cell
                have d81 := (bl C8.out b1).cell
                have L1 : Hid (Below W1.heap.size W1 (W1.alloc (.cells #[.int .u64 (lq : Int), .int .u64 (x : Int)] 31))) := below_new _ _
                have RO : Hid (Runs (W1.alloc (.cells #[.int .u64 (lq : Int), .int .u64 (x : Int)] 31)) (W1.alloc (.cells #[.int .u64 (lq : Int), .int .u64 (x : Int)] 31)).heap.size (some ⟨W1.heap.size, 0, none⟩) [(lq, x)]) := ⟨fun r hr => by obtain rfl := List.mem_singleton.1 hr; exact ⟨by show lq < _; omega, hx⟩, lies_one W1 (lq, x)⟩
                have CM := Lib.hid (meet_any (W1.alloc (.cells #[.int .u64 (lq : Int), .int .u64 (x : Int)] 31)) A (some ⟨W1.heap.size, 0, none⟩) l [(lq, x)] m 1 c 1 HL.out rfl HA.out (fun h => by cases h) (HST1.out.rl.up L1.out) RO.out (by omega) (by omega))
                clear b1 CH e0 d8
                gi_wp2_with fail
                refine ⟨trivial, (CallsIn.inRound l2 (callsIn_wide.2 CM.out)).mono ?_⟩
                rintro e W2 p2
                obtain ⟨A2, n2, c2, rfl, q2, _, f2, f2', r2, o2, b2⟩ := post_runs p2 (fit_order (set_spec l [(lq, x)] 1).1)
                have B2 : Hid (Below W1.heap.size W1 W2) := L1.out.trans (b2.mono L1.out.size)
                have L2 : Hid (Below W2.heap.size W2 (W2.alloc (.cells #[.int .u64 (x : Int), .int .u64 (x : Int)] 31))) := below_new _ _
                have RX : Hid (Runs (W2.alloc (.cells #[.int .u64 (x : Int), .int .u64 (x : Int)] 31)) (W2.alloc (.cells #[.int .u64 (x : Int), .int .u64 (x : Int)] 31)).heap.size (some ⟨W2.heap.size, 0, none⟩) [(x, x)]) := ⟨fun r hr => by obtain rfl := List.mem_singleton.1 hr; exact ⟨hx, hx⟩, lies_one W2 (x, x)⟩
                have CE := Lib.hid (eq_g (W2.alloc (.cells #[.int .u64 (x : Int), .int .u64 (x : Int)] 31)) A2 (some ⟨W2.heap.size, 0, none⟩) (setL l [(lq, x)] 1) [(x, x)] n2 1 c2 1 q2 rfl (r2.up L2.out) RX.out (by omega))
                clear p2 q2 r2 o2 b2 CM e01 d81
                by_cases h3 : setL l [(lq, x)] 1 = [(x, x)]
                · rw [decide_eq_true h3] at CE
                  have hlen : ((pre ++ [(⟨x, hx⟩ : U64)]).length) = pre.length + 1 := by simp
                  have hw2 : IntKind.u64.wrap ((pre.length : Int) + 1) = ((pre.length + 1 : Nat) : Int) := by simp [IntKind.wrap, IntKind.bits, IntKind.signed]; omega
                  obtain ⟨pl, hpl⟩ : ∃ z, pre.length = z := ⟨_, rfl⟩
                  obtain ⟨pq, hpq⟩ : ∃ z, pl + 1 = z := ⟨_, rfl⟩
                  rw [hpl, hpq] at hw2 hlen
                  rw [hpl] at hle C9
                  have HLEN := Lib.hid hlen
                  clear hlen
                  gi_wp2_with fail
                  refine ⟨trivial, (CallsIn.inRound l2 (callsIn_wide.2 CE.out)).mono ?_⟩
                  rintro e W3 ⟨rfl, b3⟩
                  have B3 : Hid (Below W.heap.size W W3) := B1.out.trans ((B2.out.trans ((L2.out.trans (b3.mono L2.out.size)).mono B2.out.size)).mono B1.out.size)
                  clear CE b3
                  have HST3 := Lib.hid (HST.out.later B3.out)
                  have c8 := bl C8.out B3.out
                  have c9 := bl C9.out B3.out
                  have d8 := c8.cell
                  have f8 := c8.frozen
                  have d9 := (c9.other (B' := B82) (by omega) (.int .u64 (x : Int))).cell
                  have f9 := (c9.other (B' := B82) (by omega) (.int .u64 (x : Int))).frozen
                  have c8b := (c8.set (.int .u64 (x : Int))).other (B' := B82 + 1) (by omega) (.int .u64 (pq : Int))
                  have c9b := (c9.other (B' := B82) (by omega) (.int .u64 (x : Int))).set (.int .u64 (pq : Int))
                  have d9b := c9b.cell
                  have hne1 : Z + 1 ≠ B82 := by have := HST2b.out; omega
                  have hne2 : Z + 1 ≠ B82 + 1 := by have := HST2b.out; omega
                  have e1 := ((HST3.out.b1.other (B' := B82) hne1 (.int .u64 (x : Int))).other (B' := B82 + 1) hne2 (.int .u64 (pq : Int))).cell
                  have HI8 := Lib.hid c8b
                  have HI9 := Lib.hid c9b
                  have HBX : Hid (Below B82 Wa2 ((W3.setCell ⟨B82, 0, none⟩ (.int .u64 (x : Int))).setCell ⟨B82 + 1, 0, none⟩ (.int .u64 (pq : Int)))) := ((HBW.out.trans (B3.out.mono (HBWs2.out W HBW.out))).setCell (p := ⟨B82, 0, none⟩) (Nat.le_refl _) _).setCell (p := ⟨B82 + 1, 0, none⟩) (by simp) _
                  have HKO : Hid (KeepsFrom (Wz2).heap.size W ((W3.setCell ⟨B82, 0, none⟩ (.int .u64 (x : Int))).setCell ⟨B82 + 1, 0, none⟩ (.int .u64 (pq : Int)))) := ((keepsFrom_below _ B3.out).trans ((KeepsOthers.setCell _ _ _).from _)).trans ((KeepsOthers.setCell _ _ _).from _)
                  have HKX : Hid (KeepX (fun b => b = B82 ∨ b = B82 + 1) W ((W3.setCell ⟨B82, 0, none⟩ (.int .u64 (x : Int))).setCell ⟨B82 + 1, 0, none⟩ (.int .u64 (pq : Int)))) := ((KeepX.below B3.out).trans (keepX_set (.inl rfl) _)).trans (keepX_set (.inr rfl) _)
                  clear c8 c9 c8b c9b e2 g2
                  by_cases hgt : fr < pq
                  · have dg : decide ((fr : Int) < (pq : Int)) = true := decide_eq_true (by omega)
                    gi_wp2
                    exact ⟨HKO.out, fun _ => ⟨by rw [HLEN.out]; exact HI9.out, HBX.out⟩, .inl ⟨rfl, by rw [HLEN.out]; omega⟩⟩
                  · have dg : decide ((fr : Int) < (pq : Int)) = false := decide_eq_false (by omega)
                    gi_wp2
                    exact ⟨HKO.out, HKX.out, ⟨⟨by rw [lastN_snoc]; exact HI8.out, by rw [HLEN.out]; exact HI9.out⟩, HBX.out⟩, by rw [HLEN.out]; omega⟩
                · rw [decide_eq_false h3] at CE
                  gi_wp2_with fail
                  refine ⟨trivial, (CallsIn.inRound l2 (callsIn_wide.2 CE.out)).mono ?_⟩
                  rintro e W3 ⟨rfl, b3⟩
                  have B3 : Hid (Below W.heap.size W W3) := B1.out.trans ((B2.out.trans ((L2.out.trans (b3.mono L2.out.size)).mono B2.out.size)).mono B1.out.size)
                  have k2 := (HST.out.later B3.out).b2.cell
                  have k3 := (HST.out.later B3.out).b2.frozen
                  clear CE b3 e2 g2
                  gi_wp2
                  exact ⟨(keepsFrom_below _ B3.out).trans ((KeepsOthers.setCell _ _ _).from _), fun hk => (by cases hk), .inr ⟨pre, ⟨x, hx⟩, rfl, fun h => by have h4 := h.2.2; rw [hlp, hlq] at h4; exact h3 h4⟩⟩
              · have h2' : has l x = false := by simpa using h2
                rw [h2'] at CH
                gi_wp2_with fail
                refine ⟨trivial, (CallsIn.inRound l2 (callsIn_wide.2 CH.out)).mono ?_⟩
                rintro e W1 ⟨rfl, b1⟩
                have k2 := (HST.out.later b1).b2.cell
                have k3 := (HST.out.later b1).b2.frozen
                have B1 := Lib.hid b1
                clear b1 CH e2 g2
                gi_wp2
                refine ⟨trivial, ?_⟩
                gi_wp2
                refine ⟨trivial, ?_⟩
                gi_wp2
                exact ⟨(keepsFrom_below _ B1.out).trans ((KeepsOthers.setCell _ _ _).from _), fun hk => (by cases hk), .inr ⟨pre, ⟨x, hx⟩, rfl, fun h => h2 h.2.1⟩⟩
          case doneq3 =>
            rintro D2 ys Wa3 hD2 rfl ⟨⟨⟨c8, c9⟩, hBW⟩, hle⟩ hK2
            have ST3 := Lib.hid (ST2.out.later (by rw [hWS2]; exact hBW))
            rw [numsU_length (nrm_spec l).1, hzz] at c9
            have d9 := c9.cell
            have e1 := ST3.out.b1.cell
            have HK2 := Lib.hid hK2
            have HBD2 := Lib.hid hBW
            clear c8 c9 hBW hle hK2
            gi_wp2
            rw [roundsIn_succ]
            clear d9 e1
            have HW := Lib.hid (works_any Wa3)
            gi_wp2_with fail
            refine ⟨trivial, callsIn_wide.2 (HW.out.mono ?_)⟩
            rintro e V9 ⟨rfl, hb9⟩
            have c2 := bl ST3.out.b2 hb9
            have d2 := c2.cell
            have f2 := c2.frozen
            have ld1 : D1 < Wa2.heap.size := (Array.getElem?_eq_some_iff.1 HK1.out).1
            have k13 : Wa3.heap[D1]? = some (.deferred (some [])) := (HBD2.out.block D1 (by omega)).trans HK1.out
            have k19 : Hid (V9.heap[D1]? = some (.deferred (some []))) := (hb9.block D1 (Array.getElem?_eq_some_iff.1 k13).1).trans k13
            have k29 : Hid (V9.heap[D2]? = some (.deferred (some []))) := (hb9.block D2 (Array.getElem?_eq_some_iff.1 HK2.out).1).trans HK2.out
            have HB9 : Hid (Below w.heap.size w V9) := ST3.out.bel.trans (hb9.mono ST3.out.bel.size)
            have q1 := ST1.out.bel.size
            have q2 := ST2.out.bel.size
            have zw := ST1.out.zw
            clear hb9 HW k13
            gi_wp2
            have k2 := (KeepsOthers.setCell V9 ⟨Z + 1 + 1, 0, none⟩ (.bool true)).same D2 _ k29.out rfl
            have k1 : ((V9.setCell ⟨Z + 1 + 1, 0, none⟩ (.bool true)).putObj D2 (.deferred none)).heap[D1]? = some (.deferred (some [])) :=
              (World.putObj_heap_other (by omega)).trans ((KeepsOthers.setCell V9 ⟨Z + 1 + 1, 0, none⟩ (.bool true)).same D1 _ k19.out rfl)
            refine ⟨by simp, .inl ⟨_, _, rfl, run_takeDeferred k2, ⟨by simp, .inl ⟨_, _, rfl, run_takeDeferred k1, ?_⟩⟩⟩⟩
            have hc4 := cell_kept (c2.set (.bool true)).cell (grownBy_putObj' _ D2 (.deferred none)) (fun r e => by cases e; exact ⟨_, k2, rfl⟩)
            have hc5 := cell_kept hc4 (grownBy_putObj' _ D1 (.deferred none)) (fun r e => by cases e; exact ⟨_, k1, rfl⟩)
            refine ⟨.bool true, ?_, rfl, ((HB9.out.setCell (p := ⟨Z + 1 + 1, 0, none⟩) (by show w.heap.size ≤ Z + 1 + 1; omega) _).trans (belowK_b (w := w) (Nat.le_refl _) _ D2 _ _ (by omega) k2 rfl rfl)).trans (belowK_b (w := w) (Nat.le_refl _) _ D1 _ _ (by omega) k1 rfl rfl)⟩
            simp [results, Try.f7, go_sem, hc5]
          case stopq3 =>
            rintro D2 k pre Wa3 hD2 hpre ⟨h1, hor⟩ hK2
            rcases hor with ⟨rfl, hlen⟩ | ⟨p, x, rfl, hbad⟩
            · obtain ⟨c9, hBW⟩ := h1 rfl
              have ST3 := Lib.hid (ST2.out.later (by rw [hWS2]; exact hBW))
              rw [hlen] at c9
              have d9 := c9.cell
              have e1 := ST3.out.b1.cell
              have HK2 := Lib.hid hK2
              have HBD2 := Lib.hid hBW
              have hwf : IntKind.u64.wrap ((fr : Int) + 1) = ((fr + 1 : Nat) : Int) := by simp [IntKind.wrap, IntKind.bits, IntKind.signed]; omega
              clear c9 hBW h1 hK2 hpre hlen
              by_cases hfz2 : fr + 1 = z
              · rw [hfz2] at d9
                clear hwf
                gi_wp2
                rw [roundsIn_succ]
                clear d9 e1
                have HW := Lib.hid (works_any Wa3)
                gi_wp2_with fail
                refine ⟨trivial, callsIn_wide.2 (HW.out.mono ?_)⟩
                rintro e V9 ⟨rfl, hb9⟩
                have c2 := bl ST3.out.b2 hb9
                have d2 := c2.cell
                have f2 := c2.frozen
                have ld1 : D1 < Wa2.heap.size := (Array.getElem?_eq_some_iff.1 HK1.out).1
                have k13 : Wa3.heap[D1]? = some (.deferred (some [])) := (HBD2.out.block D1 (by omega)).trans HK1.out
                have k19 : Hid (V9.heap[D1]? = some (.deferred (some []))) := (hb9.block D1 (Array.getElem?_eq_some_iff.1 k13).1).trans k13
                have k29 : Hid (V9.heap[D2]? = some (.deferred (some []))) := (hb9.block D2 (Array.getElem?_eq_some_iff.1 HK2.out).1).trans HK2.out
                have HB9 : Hid (Below w.heap.size w V9) := ST3.out.bel.trans (hb9.mono ST3.out.bel.size)
                have q1 := ST1.out.bel.size
                have q2 := ST2.out.bel.size
                have zw := ST1.out.zw
                clear hb9 HW k13
                gi_wp2
                have k2 := (KeepsOthers.setCell V9 ⟨Z + 1 + 1, 0, none⟩ (.bool true)).same D2 _ k29.out rfl
                have k1 : ((V9.setCell ⟨Z + 1 + 1, 0, none⟩ (.bool true)).putObj D2 (.deferred none)).heap[D1]? = some (.deferred (some [])) :=
                  (World.putObj_heap_other (by omega)).trans ((KeepsOthers.setCell V9 ⟨Z + 1 + 1, 0, none⟩ (.bool true)).same D1 _ k19.out rfl)
                refine ⟨by simp, .inl ⟨_, _, rfl, run_takeDeferred k2, ⟨by simp, .inl ⟨_, _, rfl, run_takeDeferred k1, ?_⟩⟩⟩⟩
                have hc4 := cell_kept (c2.set (.bool true)).cell (grownBy_putObj' _ D2 (.deferred none)) (fun r e => by cases e; exact ⟨_, k2, rfl⟩)
                have hc5 := cell_kept hc4 (grownBy_putObj' _ D1 (.deferred none)) (fun r e => by cases e; exact ⟨_, k1, rfl⟩)
                refine ⟨.bool true, ?_, rfl, ((HB9.out.setCell (p := ⟨Z + 1 + 1, 0, none⟩) (by show w.heap.size ≤ Z + 1 + 1; omega) _).trans (belowK_b (w := w) (Nat.le_refl _) _ D2 _ _ (by omega) k2 rfl rfl)).trans (belowK_b (w := w) (Nat.le_refl _) _ D1 _ _ (by omega) k1 rfl rfl)⟩
                simp [results, Try.f7, go_sem, hc5]
              · exact absurd hfz1 hfz2
            · exact absurd (chk_of hpre) hbad
        · have hnz : (((fr + 1 : Nat) : Int) != (z : Int)) = true := by rw [bne_iff_ne]; omega
          gi_wp2
          rw [roundsIn_succ]
          clear d9 e1
          gi_wp2_with fail
          obtain ⟨B82, hWS2⟩ : ∃ b, Wa2.heap.size = b := ⟨_, rfl⟩
          obtain ⟨Wz2, hWz2⟩ : ∃ V, (Wa2.alloc (.cells #[.int .u64 0] 28)).alloc (.cells #[.int .u64 0] 28) = V := ⟨_, rfl⟩
          have b82 : Boxed Wz2 B82 28 (.int .u64 0) := by rw [← hWz2, ← hWS2]; exact (Boxed.new Wa2 28 _).alloc _
          have b92 : Boxed Wz2 (B82 + 1) 28 (.int .u64 0) := by
            have h := Boxed.new (Wa2.alloc (.cells #[.int .u64 0] 28)) 28 (.int .u64 0)
            rw [World.size_alloc, hWS2, hWz2] at h
            exact h
          have hz2 : Wz2.heap.size = B82 + 2 := by rw [← hWz2, ← hWS2]; simp
          have BZ2 : Hid (Below B82 Wa2 Wz2) := by rw [← hWz2, ← hWS2]; exact ((Below.refl _ _).alloc (Nat.le_refl _) _).alloc (by simp) _
          have HBWs2 : Hid (∀ V, Below B82 Wa2 V → B82 ≤ V.heap.size) := fun V h => by rw [← hWS2]; exact h.size
          have HST2b : Hid (Z + 1 + 1 < B82) := by rw [← hWS2]; exact ST2.out.b2.lt
          have hbs2 : Bs < B82 := by rw [← hWS2]; exact ST2.out.lt
          have hcs2 : Wz2.cell? ⟨Bs, 0, none⟩ = some (.slice A' n' c') := (BZ2.out.cell (p := ⟨Bs, 0, none⟩) hbs2).trans ST2.out.cs
          have hrs2 : Runs Wz2 B82 A' (nrm l) := by have h := ST2.out.rs; rw [hWS2] at h; exact h.below BZ2.out
          rw [hWS2, hWz2]
          refine wpIn_rangeFunc_ownG rfl (by omega) (gf := 49) (lb := #[.pointer (some ⟨Bs, 0, none⟩)]) rfl trivial (enters_of Try.func49 (by kernel_rfl) rfl)
            (each_stops (fun b => b = B82 ∨ b = B82 + 1) (9 - 1) (by omega) Bs B82 A' n' c' (nrm l) (nrm_spec l).1 HN'.out hn'63 Wz2 (fun b hb => by rcases hb with rfl | rfl <;> omega) hbs2 (by omega) hcs2 hrs2) KeepX.trans (keepX_b) (Below.refl _ _) (fun _ => rfl)
            (fun (pre : List U64) W => ((Boxed W B82 28 (.int .u64 ((lastN pre : Nat) : Int)) ∧ Boxed W (B82 + 1) 28 (.int .u64 ((pre.length : Nat) : Int))) ∧ Below B82 Wa2 W) ∧ pre.length ≤ fr)
            (fun (k : Code) (pre : List U64) W => (k = .exit 2 → Boxed W (B82 + 1) 28 (.int .u64 ((pre.length : Nat) : Int)) ∧ Below B82 Wa2 W) ∧ ((k = .exit 2 ∧ pre.length = fr + 1) ∨ Bad l pre))
            (OwnFrom.and (OwnFrom.and (OwnFrom.and (Own.from (boxed_own _ _ (fun pre : List U64 => .int .u64 ((lastN pre : Nat) : Int))) _) (Own.from (boxed_own _ _ (fun pre : List U64 => .int .u64 ((pre.length : Nat) : Int))) _)) (ownFrom_below (by omega) (by omega))) (ownFrom_pure _ (fun pre : List U64 => pre.length ≤ fr)))
            (fun k pre X Y row hs hg hr => ⟨fun hk => ⟨(Own.from (boxed_own (B82 + 1) 28 (fun pre : List U64 => .int .u64 ((pre.length : Nat) : Int))) _) pre X Y row (hs.1 hk).1 hg hr, ownFrom_below (β := List U64) (by omega) (by omega) pre X Y row (hs.1 hk).2 hg hr⟩, hs.2⟩)
            ⟨⟨⟨b82, b92⟩, BZ2.out⟩, Nat.zero_le _⟩ ?a1q4 ?assignq4 ?bodyq4 ?doneq4 ?stopq4
          case assignq4 =>
            intro l2 x W K hK
            simp only [encU]
            gi_wp2
            exact hK
          case bodyq4 =>
            rintro l2 pre ⟨x, hx⟩ W ⟨⟨⟨c8, c9⟩, hBW⟩, hle⟩ hlt
            have hst := ST2.out.later (by rw [hWS2]; exact hBW)
            have e0 := hst.b0.cell
            have g2 := hst.b2.frozen
            have e2 := hst.b2.cell
            have d8 := c8.cell
            obtain ⟨lp, hlp⟩ : ∃ z, lastN pre = z := ⟨_, rfl⟩
            rw [hlp] at c8 d8
            have HST := Lib.hid hst
            have HBW := Lib.hid hBW
            have C8 := Lib.hid c8
            have C9 := Lib.hid c9
            clear hst hBW hlt c8 c9
            by_cases h1 : x ≤ lp
            · have dd : decide ((x : Int) ≤ (lp : Int)) = true := decide_eq_true (by omega)
              gi_wp2
              refine ⟨trivial, ?_⟩
              gi_wp2
              refine ⟨trivial, ?_⟩
              gi_wp2
              refine ⟨trivial, ?_⟩
              gi_wp2
              exact ⟨(KeepsOthers.setCell _ _ _).from _, fun hk => (by cases hk), .inr ⟨pre, ⟨x, hx⟩, rfl, fun h => by have h3 := h.1; rw [hlp] at h3; exact absurd h3 (by show ¬ lp < x; omega)⟩⟩
            · have dd : decide ((x : Int) ≤ (lp : Int)) = false := decide_eq_false (by omega)
              have CH := Lib.hid (has_any W W.heap.size A l m c x HL.out HST.out.rl (Nat.le_refl _) (by omega) hx)
              by_cases h2 : has l x = true
              · rw [h2] at CH
                have hw : IntKind.u64.wrap ((lp : Int) + 1) = ((lp + 1 : Nat) : Int) := by simp [IntKind.wrap, IntKind.bits, IntKind.signed]; omega
                obtain ⟨lq, hlq⟩ : ∃ z, lp + 1 = z := ⟨_, rfl⟩
                rw [hlq] at hw
                gi_wp2_with fail
                refine ⟨trivial, (CallsIn.inRound l2 (callsIn_wide.2 CH.out)).mono ?_⟩
                rintro e W1 ⟨rfl, b1⟩
                have HST1 := Lib.hid (HST.out.later b1)
                have B1 := Lib.hid b1
                have e01 := HST1.out.b0.cell
                have d81 := (bl C8.out b1).cell
                have L1 : Hid (Below W1.heap.size W1 (W1.alloc (.cells #[.int .u64 (lq : Int), .int .u64 (x : Int)] 31))) := below_new _ _
                have RO : Hid (Runs (W1.alloc (.cells #[.int .u64 (lq : Int), .int .u64 (x : Int)] 31)) (W1.alloc (.cells #[.int .u64 (lq : Int), .int .u64 (x : Int)] 31)).heap.size (some ⟨W1.heap.size, 0, none⟩) [(lq, x)]) := ⟨fun r hr => by obtain rfl := List.mem_singleton.1 hr; exact ⟨by show lq < _; omega, hx⟩, lies_one W1 (lq, x)⟩
                have CM := Lib.hid (meet_any (W1.alloc (.cells #[.int .u64 (lq : Int), .int .u64 (x : Int)] 31)) A (some ⟨W1.heap.size, 0, none⟩) l [(lq, x)] m 1 c 1 HL.out rfl HA.out (fun h => by cases h) (HST1.out.rl.up L1.out) RO.out (by omega) (by omega))
                clear b1 CH e0 d8
                gi_wp2_with fail
                refine ⟨trivial, (CallsIn.inRound l2 (callsIn_wide.2 CM.out)).mono ?_⟩
                rintro e W2 p2
                obtain ⟨A2, n2, c2, rfl, q2, _, f2, f2', r2, o2, b2⟩ := post_runs p2 (fit_order (set_spec l [(lq, x)] 1).1)
                have B2 : Hid (Below W1.heap.size W1 W2) := L1.out.trans (b2.mono L1.out.size)
                have L2 : Hid (Below W2.heap.size W2 (W2.alloc (.cells #[.int .u64 (x : Int), .int .u64 (x : Int)] 31))) := below_new _ _
                have RX : Hid (Runs (W2.alloc (.cells #[.int .u64 (x : Int), .int .u64 (x : Int)] 31)) (W2.alloc (.cells #[.int .u64 (x : Int), .int .u64 (x : Int)] 31)).heap.size (some ⟨W2.heap.size, 0, none⟩) [(x, x)]) := ⟨fun r hr => by obtain rfl := List.mem_singleton.1 hr; exact ⟨hx, hx⟩, lies_one W2 (x, x)⟩
                have CE := Lib.hid (eq_g (W2.alloc (.cells #[.int .u64 (x : Int), .int .u64 (x : Int)] 31)) A2 (some ⟨W2.heap.size, 0, none⟩) (setL l [(lq, x)] 1) [(x, x)] n2 1 c2 1 q2 rfl (r2.up L2.out) RX.out (by omega))
                clear p2 q2 r2 o2 b2 CM e01 d81
                by_cases h3 : setL l [(lq, x)] 1 = [(x, x)]
                · rw [decide_eq_true h3] at CE
                  have hlen : ((pre ++ [(⟨x, hx⟩ : U64)]).length) = pre.length + 1 := by simp
                  have hw2 : IntKind.u64.wrap ((pre.length : Int) + 1) = ((pre.length + 1 : Nat) : Int) := by simp [IntKind.wrap, IntKind.bits, IntKind.signed]; omega
                  obtain ⟨pl, hpl⟩ : ∃ z, pre.length = z := ⟨_, rfl⟩
                  obtain ⟨pq, hpq⟩ : ∃ z, pl + 1 = z := ⟨_, rfl⟩
                  rw [hpl, hpq] at hw2 hlen
                  rw [hpl] at hle C9
                  have HLEN := Lib.hid hlen
                  clear hlen
                  gi_wp2_with fail
                  refine ⟨trivial, (CallsIn.inRound l2 (callsIn_wide.2 CE.out)).mono ?_⟩
                  rintro e W3 ⟨rfl, b3⟩
                  have B3 : Hid (Below W.heap.size W W3) := B1.out.trans ((B2.out.trans ((L2.out.trans (b3.mono L2.out.size)).mono B2.out.size)).mono B1.out.size)
                  clear CE b3
                  have HST3 := Lib.hid (HST.out.later B3.out)
                  have c8 := bl C8.out B3.out
                  have c9 := bl C9.out B3.out
                  have d8 := c8.cell
                  have f8 := c8.frozen
                  have d9 := (c9.other (B' := B82) (by omega) (.int .u64 (x : Int))).cell
                  have f9 := (c9.other (B' := B82) (by omega) (.int .u64 (x : Int))).frozen
                  have c8b := (c8.set (.int .u64 (x : Int))).other (B' := B82 + 1) (by omega) (.int .u64 (pq : Int))
                  have c9b := (c9.other (B' := B82) (by omega) (.int .u64 (x : Int))).set (.int .u64 (pq : Int))
                  have d9b := c9b.cell
                  have hne1 : Z + 1 ≠ B82 := by have := HST2b.out; omega
                  have hne2 : Z + 1 ≠ B82 + 1 := by have := HST2b.out; omega
                  have e1 := ((HST3.out.b1.other (B' := B82) hne1 (.int .u64 (x : Int))).other (B' := B82 + 1) hne2 (.int .u64 (pq : Int))).cell
                  have HI8 := Lib.hid c8b
                  have HI9 := Lib.hid c9b
                  have HBX : Hid (Below B82 Wa2 ((W3.setCell ⟨B82, 0, none⟩ (.int .u64 (x : Int))).setCell ⟨B82 + 1, 0, none⟩ (.int .u64 (pq : Int)))) := ((HBW.out.trans (B3.out.mono (HBWs2.out W HBW.out))).setCell (p := ⟨B82, 0, none⟩) (Nat.le_refl _) _).setCell (p := ⟨B82 + 1, 0, none⟩) (by simp) _
                  have HKO : Hid (KeepsFrom (Wz2).heap.size W ((W3.setCell ⟨B82, 0, none⟩ (.int .u64 (x : Int))).setCell ⟨B82 + 1, 0, none⟩ (.int .u64 (pq : Int)))) := ((keepsFrom_below _ B3.out).trans ((KeepsOthers.setCell _ _ _).from _)).trans ((KeepsOthers.setCell _ _ _).from _)
                  have HKX : Hid (KeepX (fun b => b = B82 ∨ b = B82 + 1) W ((W3.setCell ⟨B82, 0, none⟩ (.int .u64 (x : Int))).setCell ⟨B82 + 1, 0, none⟩ (.int .u64 (pq : Int)))) := ((KeepX.below B3.out).trans (keepX_set (.inl rfl) _)).trans (keepX_set (.inr rfl) _)
                  clear c8 c9 c8b c9b e2 g2
                  by_cases hgt : fr < pq
                  · have dg : decide ((fr : Int) < (pq : Int)) = true := decide_eq_true (by omega)
                    gi_wp2
                    exact ⟨HKO.out, fun _ => ⟨by rw [HLEN.out]; exact HI9.out, HBX.out⟩, .inl ⟨rfl, by rw [HLEN.out]; omega⟩⟩
                  · have dg : decide ((fr : Int) < (pq : Int)) = false := decide_eq_false (by omega)
                    gi_wp2
                    exact ⟨HKO.out, HKX.out, ⟨⟨by rw [lastN_snoc]; exact HI8.out, by rw [HLEN.out]; exact HI9.out⟩, HBX.out⟩, by rw [HLEN.out]; omega⟩
                · rw [decide_eq_false h3] at CE
                  gi_wp2_with fail
                  refine ⟨trivial, (CallsIn.inRound l2 (callsIn_wide.2 CE.out)).mono ?_⟩
                  rintro e W3 ⟨rfl, b3⟩
                  have B3 : Hid (Below W.heap.size W W3) := B1.out.trans ((B2.out.trans ((L2.out.trans (b3.mono L2.out.size)).mono B2.out.size)).mono B1.out.size)
                  have k2 := (HST.out.later B3.out).b2.cell
                  have k3 := (HST.out.later B3.out).b2.frozen
                  clear CE b3 e2 g2
                  gi_wp2
                  exact ⟨(keepsFrom_below _ B3.out).trans ((KeepsOthers.setCell _ _ _).from _), fun hk => (by cases hk), .inr ⟨pre, ⟨x, hx⟩, rfl, fun h => by have h4 := h.2.2; rw [hlp, hlq] at h4; exact h3 h4⟩⟩
              · have h2' : has l x = false := by simpa using h2
                rw [h2'] at CH
                gi_wp2_with fail
                refine ⟨trivial, (CallsIn.inRound l2 (callsIn_wide.2 CH.out)).mono ?_⟩
                rintro e W1 ⟨rfl, b1⟩
                have k2 := (HST.out.later b1).b2.cell
                have k3 := (HST.out.later b1).b2.frozen
                have B1 := Lib.hid b1
                clear b1 CH e2 g2
                gi_wp2
                refine ⟨trivial, ?_⟩
                gi_wp2
                refine ⟨trivial, ?_⟩
                gi_wp2
                exact ⟨(keepsFrom_below _ B1.out).trans ((KeepsOthers.setCell _ _ _).from _), fun hk => (by cases hk), .inr ⟨pre, ⟨x, hx⟩, rfl, fun h => h2 h.2.1⟩⟩
          case doneq4 =>
            rintro D2 ys Wa3 hD2 rfl ⟨⟨⟨c8, c9⟩, hBW⟩, hle⟩ hK2
            have ST3 := Lib.hid (ST2.out.later (by rw [hWS2]; exact hBW))
            rw [numsU_length (nrm_spec l).1, hzz] at c9
            have d9 := c9.cell
            have e1 := ST3.out.b1.cell
            have HK2 := Lib.hid hK2
            have HBD2 := Lib.hid hBW
            clear c8 c9 hBW hle hK2
            gi_wp2
            rw [roundsIn_succ]
            clear d9 e1
            have HW := Lib.hid (works_any Wa3)
            gi_wp2_with fail
            refine ⟨trivial, callsIn_wide.2 (HW.out.mono ?_)⟩
            rintro e V9 ⟨rfl, hb9⟩
            have c2 := bl ST3.out.b2 hb9
            have d2 := c2.cell
            have f2 := c2.frozen
            have ld1 : D1 < Wa2.heap.size := (Array.getElem?_eq_some_iff.1 HK1.out).1
            have k13 : Wa3.heap[D1]? = some (.deferred (some [])) := (HBD2.out.block D1 (by omega)).trans HK1.out
            have k19 : Hid (V9.heap[D1]? = some (.deferred (some []))) := (hb9.block D1 (Array.getElem?_eq_some_iff.1 k13).1).trans k13
            have k29 : Hid (V9.heap[D2]? = some (.deferred (some []))) := (hb9.block D2 (Array.getElem?_eq_some_iff.1 HK2.out).1).trans HK2.out
            have HB9 : Hid (Below w.heap.size w V9) := ST3.out.bel.trans (hb9.mono ST3.out.bel.size)
            have q1 := ST1.out.bel.size
            have q2 := ST2.out.bel.size
            have zw := ST1.out.zw
            clear hb9 HW k13
            gi_wp2
            have k2 := (KeepsOthers.setCell V9 ⟨Z + 1 + 1, 0, none⟩ (.bool true)).same D2 _ k29.out rfl
            have k1 : ((V9.setCell ⟨Z + 1 + 1, 0, none⟩ (.bool true)).putObj D2 (.deferred none)).heap[D1]? = some (.deferred (some [])) :=
              (World.putObj_heap_other (by omega)).trans ((KeepsOthers.setCell V9 ⟨Z + 1 + 1, 0, none⟩ (.bool true)).same D1 _ k19.out rfl)
            refine ⟨by simp, .inl ⟨_, _, rfl, run_takeDeferred k2, ⟨by simp, .inl ⟨_, _, rfl, run_takeDeferred k1, ?_⟩⟩⟩⟩
            have hc4 := cell_kept (c2.set (.bool true)).cell (grownBy_putObj' _ D2 (.deferred none)) (fun r e => by cases e; exact ⟨_, k2, rfl⟩)
            have hc5 := cell_kept hc4 (grownBy_putObj' _ D1 (.deferred none)) (fun r e => by cases e; exact ⟨_, k1, rfl⟩)
            refine ⟨.bool true, ?_, rfl, ((HB9.out.setCell (p := ⟨Z + 1 + 1, 0, none⟩) (by show w.heap.size ≤ Z + 1 + 1; omega) _).trans (belowK_b (w := w) (Nat.le_refl _) _ D2 _ _ (by omega) k2 rfl rfl)).trans (belowK_b (w := w) (Nat.le_refl _) _ D1 _ _ (by omega) k1 rfl rfl)⟩
            simp [results, Try.f7, go_sem, hc5]
          case stopq4 =>
            rintro D2 k pre Wa3 hD2 hpre ⟨h1, hor⟩ hK2
            rcases hor with ⟨rfl, hlen⟩ | ⟨p, x, rfl, hbad⟩
            · obtain ⟨c9, hBW⟩ := h1 rfl
              have ST3 := Lib.hid (ST2.out.later (by rw [hWS2]; exact hBW))
              rw [hlen] at c9
              have d9 := c9.cell
              have e1 := ST3.out.b1.cell
              have HK2 := Lib.hid hK2
              have HBD2 := Lib.hid hBW
              have hwf : IntKind.u64.wrap ((fr : Int) + 1) = ((fr + 1 : Nat) : Int) := by simp [IntKind.wrap, IntKind.bits, IntKind.signed]; omega
              clear c9 hBW h1 hK2 hpre hlen
              by_cases hfz2 : fr + 1 = z
              · exact absurd hfz2 hfz1
              · have hnz : (((fr + 1 : Nat) : Int) != (z : Int)) = true := by rw [bne_iff_ne]; omega
                gi_wp2
                rw [roundsIn_succ]
                clear d9 e1
                have HW := Lib.hid (works_any Wa3)
                gi_wp2_with fail
                refine ⟨trivial, callsIn_wide.2 (HW.out.mono ?_)⟩
                rintro e V9 ⟨rfl, hb9⟩
                have c2 := bl ST3.out.b2 hb9
                have d2 := c2.cell
                have f2 := c2.frozen
                have ld1 : D1 < Wa2.heap.size := (Array.getElem?_eq_some_iff.1 HK1.out).1
                have k13 : Wa3.heap[D1]? = some (.deferred (some [])) := (HBD2.out.block D1 (by omega)).trans HK1.out
                have k19 : Hid (V9.heap[D1]? = some (.deferred (some []))) := (hb9.block D1 (Array.getElem?_eq_some_iff.1 k13).1).trans k13
                have k29 : Hid (V9.heap[D2]? = some (.deferred (some []))) := (hb9.block D2 (Array.getElem?_eq_some_iff.1 HK2.out).1).trans HK2.out
                have HB9 : Hid (Below w.heap.size w V9) := ST3.out.bel.trans (hb9.mono ST3.out.bel.size)
                have q1 := ST1.out.bel.size
                have q2 := ST2.out.bel.size
                have zw := ST1.out.zw
                clear hb9 HW k13
                gi_wp2
                have k2 := (KeepsOthers.setCell V9 ⟨Z + 1 + 1, 0, none⟩ (.bool true)).same D2 _ k29.out rfl
                have k1 : ((V9.setCell ⟨Z + 1 + 1, 0, none⟩ (.bool true)).putObj D2 (.deferred none)).heap[D1]? = some (.deferred (some [])) :=
                  (World.putObj_heap_other (by omega)).trans ((KeepsOthers.setCell V9 ⟨Z + 1 + 1, 0, none⟩ (.bool true)).same D1 _ k19.out rfl)
                refine ⟨by simp, .inl ⟨_, _, rfl, run_takeDeferred k2, ⟨by simp, .inl ⟨_, _, rfl, run_takeDeferred k1, ?_⟩⟩⟩⟩
                have hc4 := cell_kept (c2.set (.bool true)).cell (grownBy_putObj' _ D2 (.deferred none)) (fun r e => by cases e; exact ⟨_, k2, rfl⟩)
                have hc5 := cell_kept hc4 (grownBy_putObj' _ D1 (.deferred none)) (fun r e => by cases e; exact ⟨_, k1, rfl⟩)
                refine ⟨.bool true, ?_, rfl, ((HB9.out.setCell (p := ⟨Z + 1 + 1, 0, none⟩) (by show w.heap.size ≤ Z + 1 + 1; omega) _).trans (belowK_b (w := w) (Nat.le_refl _) _ D2 _ _ (by omega) k2 rfl rfl)).trans (belowK_b (w := w) (Nat.le_refl _) _ D1 _ _ (by omega) k1 rfl rfl)⟩
                simp [results, Try.f7, go_sem, hc5]
            · exact absurd (chk_of hpre) hbad
      · exact absurd (chk_of hpre) hbad
  · refine ⟨trivial, callsIn_wide.2 ((convS (few_any V A m c) (congrArg Value.bool (decide_eq_false hm))).mono ?_)⟩
    rintro e V1 ⟨rfl, hw⟩
    obtain rfl : V = V1 := hw.symm
    have HW := Lib.hid (works_any V)
    gi_wp2_with fail
    refine ⟨trivial, callsIn_wide.2 (HW.out.mono ?_)⟩
    rintro e V1 ⟨rfl, hb1⟩
    have c2 := bl B2.out hb1
    have d2 := c2.cell
    have f2 := c2.frozen
    have HB1 : Hid (Below w.heap.size w V1) := HB0.out.trans (hb1.mono HB0.out.size)
    clear hb1 HW
    gi_wp2
    have hc5 := (c2.set (.bool true)).cell
    refine ⟨.bool true, ?_, rfl, HB1.out.setCell (p := ⟨Z + 1 + 1, 0, none⟩) (by show w.heap.size ≤ Z + 1 + 1; omega) _⟩
    simp [results, Try.f7, go_sem, hc5]
end Go.Proofs.Ytaoojiacdkabbaa.Ru
