/- CtxCloses: the law's walk (gen-ccloses.py printed it). -/
import Derived.Test.YtegclhgfibfanaaMCLawsW
namespace Go.Proofs.Ytegclhgfibfanaa.Cx
open Go.ChangeShapes Go.WideShapes Go.ChangeAt Go.RowKit
set_option linter.unusedVariables false

/-- the dots of a list, from another end on, and round. -/
def turnL (l : List Dot) (r : Nat) : List Dot := (List.range l.length).map (fun j => l.getD ((l.length - 1 - j + r) % l.length) (0, 0))
theorem turn_length (l : List Dot) (r : Nat) : (turnL l r).length = l.length := by unfold turnL; rw [List.length_map, List.length_range]
theorem turn_mem (l : List Dot) (r : Nat) (x : Dot) : x ∈ turnL l r ↔ x ∈ l := by
  unfold turnL
  rw [List.mem_map]
  constructor
  · rintro ⟨j, hj, rfl⟩
    rw [List.mem_range] at hj
    have h1 : (l.length - 1 - j + r) % l.length < l.length := Nat.mod_lt _ (by omega)
    rw [List.getD_eq_getElem?_getD, List.getElem?_eq_getElem h1]
    exact List.getElem_mem h1
  · intro hx
    obtain ⟨i, hi, rfl⟩ := List.getElem_of_mem hx
    obtain ⟨j, hj, e⟩ := round_at (r := r) hi
    refine ⟨j, List.mem_range.2 hj, ?_⟩
    rw [e, List.getD_eq_getElem?_getD, List.getElem?_eq_getElem hi]; rfl
theorem fit_turn {l : List Dot} (h : Dt.Fit l) (r : Nat) : Dt.Fit (turnL l r) := fun x hx => h x ((turn_mem l r x).1 hx)
theorem turn_of {l : List Dot} (h : Dt.Fit l) (r : Nat) : ofC (turnL l r) = ofC l := of_same (fit_turn h r) h (turn_mem l r)
theorem turn_get {l : List Dot} {r k : Nat} {x : Dot} (hk : k < l.length) (h : l[(l.length - 1 - k + r) % l.length]? = some x) : (turnL l r)[k]? = some x := by
  unfold turnL
  rw [List.getElem?_map, List.getElem?_range hk]
  show some (l.getD _ _) = some x
  rw [List.getD_eq_getElem?_getD, h]; rfl
theorem of_more {l : List Dot} (hl : Dt.Fit l) {k : Nat} {x : Dot} (h : l[k]? = some x) : setC (ofC (l.take k)) (ofC [x]) 0 = ofC (l.take (k + 1)) := by
  have h1 : Dt.Fit (l.take k) := fun y hy => hl y (List.mem_of_mem_take hy)
  have h2 : Dt.Fit [x] := fun y hy => by obtain rfl := List.mem_singleton.1 hy; exact hl _ (List.mem_of_getElem? h)
  rw [set_of h1 h2, List.take_add_one, h]; rfl
theorem of_wide {l : List Dot} (hl : Dt.Fit l) (hn : l.length ≤ 100) (k : Nat) : Wide 67108864 (ofC (l.take k)) := by
  have h1 : Dt.Fit (l.take k) := fun y hy => hl y (List.mem_of_mem_take hy)
  have h2 := (of_whole _ h1).small (by rw [List.length_take]; omega)
  exact (small_wide h2).more (by decide)
theorem plain_weight (v : List Dot) : wC (plainC v) = (plainC v).length := by
  unfold wC plainC
  rw [List.map_map, List.length_map]
  induction Dt.normV v with
  | nil => rfl
  | cons x l ih => rw [List.map_cons, List.sum_cons, ih, List.length_cons]; show 1 + _ = _; omega
theorem plain_wide (v : List Dot) : Wide 67108864 (plainC v) := by
  have h : (plainC v).length ≤ 65536 := by unfold plainC; rw [List.length_map]; exact Dt.list_length _
  exact ⟨by omega, by rw [plain_weight]; omega⟩
theorem one_fit {l : List Dot} (hl : Dt.Fit l) {k : Nat} {x : Dot} (h : l[k]? = some x) : Dt.Fit [x] := fun y hy => by obtain rfl := List.mem_singleton.1 hy; exact hl _ (List.mem_of_getElem? h)
theorem next_at (w : World) (x : Dot) : ∀ V, Below (w.alloc (.cells #[.int .u16 (x.1 : Int), .int .u64 ((x.2 : Int) + 1)] 27)).drew.heap.size (w.alloc (.cells #[.int .u16 (x.1 : Int), .int .u64 ((x.2 : Int) + 1)] 27)).drew V → V.cell? ⟨w.heap.size, 0, none⟩ = some (.int .u16 (x.1 : Int)) ∧ V.cell? ⟨w.heap.size, 1, none⟩ = some (.int .u64 ((x.2 : Int) + 1)) := by
  intro V hV
  have h1 : (w.alloc (.cells #[.int .u16 (x.1 : Int), .int .u64 ((x.2 : Int) + 1)] 27)).cell? ⟨w.heap.size, 0, none⟩ = some (.int .u16 (x.1 : Int)) := by simp [go_sem]
  have h2 : (w.alloc (.cells #[.int .u16 (x.1 : Int), .int .u64 ((x.2 : Int) + 1)] 27)).cell? ⟨w.heap.size, 1, none⟩ = some (.int .u64 ((x.2 : Int) + 1)) := by simp [go_sem]
  have h3 := (bel_drew (Below.refl (w.alloc (.cells #[.int .u16 (x.1 : Int), .int .u64 ((x.2 : Int) + 1)] 27)).heap.size _)).trans hV
  exact ⟨(h3.cell (World.block_lt_of_cell? _ _ h1)).trans h1, (h3.cell (World.block_lt_of_cell? _ _ h2)).trans h2⟩
theorem next_arg (x : Dot) : (((x.1, x.2 + 1) : Dot).2 : Int) = (x.2 : Int) + 1 := rfl
theorem closes_end (P : PCtx) (w : World) (A : Option Addr) (n c r : Nat) (h : ¬ n ≤ 60) :
    Calls Try.prog 4 #[.slice A n c, .int .u8 (r : Int)] w fun e w' => e = .returned (.bool true) ∧ Below w.heap.size w w' := by
  have g : decide ((60 : Int) < (n : Int)) = true := decide_eq_true (by omega)
  go_enter Try.func4, Try.ntmps4
  go_wp2_with fail
  refine (works_any P _).mono ?_
  rintro e w2 ⟨rfl, b2⟩
  have HE := Lib.hid b2
  clear b2
  go_wp2
  go_ret
  exact ⟨rfl, HE.out⟩
/-- what a round of the first loop knows. -/
def CRel (w : World) (l m : List Dot) (n : Nat) (va vb i : Value) (wr : World) : Prop :=
  ∃ (k n1 n2 c1 c2 : Nat) (A1 A2 : Option Addr), k ≤ n ∧ i = .int .i64 ((k : Nat) : Int) ∧ va = .slice A1 n1 c1 ∧ vb = .slice A2 n2 c2 ∧ CtxAt wr A1 (ofC (l.take k)) n1 c1 ∧ CtxAt wr A2 (ofC (m.take k)) n2 c2 ∧ Below w.heap.size w wr
set_option maxHeartbeats 16000000 in
theorem closes_few (P : PCtx) (w : World) (A : Option Addr) (l : List Dot) (n c r : Nat) (hl : DotsAt w A l n c) (h60 : n ≤ 60) (hr : r < 256) :
    Calls Try.prog 4 #[.slice A n c, .int .u8 (r : Int)] w fun e w' => e = .returned (.bool true) ∧ Below w.heap.size w w' := by
  have g : decide ((60 : Int) < (n : Int)) = false := decide_eq_false (by omega)
  have HL := Lib.hid hl
  have HF := Lib.hid hl.fit
  have HN := Lib.hid hl.len
  clear hl
  obtain ⟨m, hm⟩ : ∃ m, turnL l r = m := ⟨_, rfl⟩
  have HM := Lib.hid hm
  have HFM : Hid (Dt.Fit m) := Lib.hid (by rw [← hm]; exact fit_turn HF.out r)
  have HNM : Hid (m.length = n) := Lib.hid (by rw [← hm, turn_length]; exact HN.out)
  have HOM : Hid (ofC m = ofC l) := Lib.hid (by rw [← hm]; exact turn_of HF.out r)
  clear hm
  go_enter Try.func4, Try.ntmps4
  go_wp2_with fail
  go_loopw [5, 6, 7] (fun va vb i wr => CRel w l m n va vb i wr) (fun _ _ i _ => n - (intOf i).toNat)
  case atStart => exact ⟨0, 0, 0, 0, 0, none, none, Nat.zero_le _, rfl, rfl, rfl, CtxAt.none_ w, CtxAt.none_ w, Below.refl _ _⟩
  case round =>
    obtain ⟨k, n1, n2, c1, c2, A1, A2, hk, rfl, rfl, rfl, h1, h2, hw⟩ := hrel
    have H1 := Lib.hid h1
    have H2 := Lib.hid h2
    have HW := Lib.hid hw
    clear h1 h2 hw
    by_cases hlt : k < n
    · have HD := Lib.hid (HL.out.up HW.out)
      obtain ⟨ad, x, rfl, hB, hlx, hx1, hx2, hcx⟩ := HD.out.dots.cells (k := k) (by rw [HD.out.len]; exact hlt)
      have FX := Lib.hid (one_fit HF.out hlx)
      have HS := Lib.hid (of_more HF.out hlx)
      obtain ⟨d1, d2⟩ := hcx wr (Below.refl _ _)
      have WK := of_wide HF.out (by rw [HN.out]; omega) k
      have LX := Lib.hid (lit_dots wr wr.heap.size [x] #[.int .u16 (x.1 : Int), .int .u64 (x.2 : Int)] rfl FX.out rfl (by show 1 ≤ 9223372036854775807; omega))
      have BX : Hid (Below wr.heap.size wr (wr.alloc (.cells #[.int .u16 (x.1 : Int), .int .u64 (x.2 : Int)] 27))) := Lib.hid (Dt.below_new _ _)
      have C21 := Lib.hid (P.add _ _ _ _ _ _ _ _ _ (H1.out.up BX.out) LX.out WK (by show 1 ≤ 67108864; decide))
      rw [HS.out] at C21
      clear hcx hlx HS LX WK
      go_wp2_with fail
      refine C21.out.mono ?_
      rintro e w1 ⟨A3, n3, c3, rfl, h3, b3⟩
      have H3 := Lib.hid h3
      have B3 : Hid (Below wr.heap.size wr w1) := Lib.hid (BX.out.trans (b3.mono BX.out.size))
      have H4 := Lib.hid (H2.out.up B3.out)
      have HW1 : Hid (Below w.heap.size w w1) := Lib.hid (HW.out.trans (B3.out.mono HW.out.size))
      clear h3 b3 C21 BX H1 H2 d1 d2 HD
      -- the other list
      have hn0 : 0 < n := by omega
      have hj : (n - 1 - k + r) % n < n := Nat.mod_lt _ hn0
      have HD2 := Lib.hid (HL.out.up HW1.out)
      obtain ⟨j, hje⟩ : ∃ j, (n - 1 - k + r) % n = j := ⟨_, rfl⟩
      rw [hje] at hj
      obtain ⟨ad2, y, e2, hB2, hly, hy1, hy2, hcy⟩ := HD2.out.dots.cells (k := j) (by rw [HD2.out.len]; exact hj)
      cases e2
      have hmy : m[k]? = some y := by
        rw [← HM.out]
        refine turn_get (by rw [HN.out]; exact hlt) ?_
        rw [HN.out, hje]
        exact hly
      have FY := Lib.hid (one_fit HF.out hly)
      have HS2 := Lib.hid (of_more HFM.out hmy)
      obtain ⟨d1, d2⟩ := hcy w1 (Below.refl _ _)
      have WK2 := of_wide HFM.out (by rw [HNM.out]; omega) k
      have LY := Lib.hid (lit_dots w1 w1.heap.size [y] #[.int .u16 (y.1 : Int), .int .u64 (y.2 : Int)] rfl FY.out rfl (by show 1 ≤ 9223372036854775807; omega))
      have BY : Hid (Below w1.heap.size w1 (w1.alloc (.cells #[.int .u16 (y.1 : Int), .int .u64 (y.2 : Int)] 27))) := Lib.hid (Dt.below_new _ _)
      have C22 := Lib.hid (P.add _ _ _ _ _ _ _ _ _ (H4.out.up BY.out) LY.out WK2 (by show 1 ≤ 67108864; decide))
      rw [HS2.out] at C22
      have e1 : IntKind.i64.wrap ((n : Int) - 1) = ((n - 1 : Nat) : Int) := by rw [IntWalk.i64_in _ (by omega)]; omega
      have e3 : IntKind.i64.wrap (((n - 1 : Nat) : Int) - (k : Int)) = ((n - 1 - k : Nat) : Int) := by rw [IntWalk.i64_in _ (by omega)]; omega
      have e4 : IntKind.i64.wrap (r : Int) = (r : Int) := IntWalk.i64_in _ (by omega)
      have e5 : IntKind.i64.wrap (((n - 1 - k : Nat) : Int) + (r : Int)) = ((n - 1 - k + r : Nat) : Int) := by rw [IntWalk.i64_in _ (by omega)]; omega
      have e6 : (((n - 1 - k : Nat) : Int) + (r : Int)) % (n : Int) = (j : Int) := by rw [← hje]; have : ((n - 1 - k : Nat) : Int) + (r : Int) = ((n - 1 - k + r : Nat) : Int) := by omega
                                                                                      rw [this]; rfl
      have e7 : ((n : Int) == 0) = false := by rw [beq_eq_false_iff_ne]; omega
      have e8 : IntKind.i64.wrap (j : Int) = (j : Int) := IntWalk.i64_in _ (by omega)
      clear hcy hly hmy HS2 LY WK2 HD2
      go_wp2_with fail
      refine C22.out.mono ?_
      rintro e w2 ⟨A4, n4, c4, rfl, h4, b4⟩
      have H5 := Lib.hid h4
      have B4 : Hid (Below w1.heap.size w1 w2) := Lib.hid (BY.out.trans (b4.mono BY.out.size))
      have H6 := Lib.hid (H3.out.up B4.out)
      have HW2 : Hid (Below w.heap.size w w2) := Lib.hid (HW1.out.trans (B4.out.mono HW1.out.size))
      have HR : Hid (CRel w l m n (.slice A3 n3 c3) (.slice A4 n4 c4) (.int .i64 ((k : Int) + 1)) w2) := Lib.hid ⟨k + 1, n3, n4, c3, c4, A3, A4, hlt, by go_num, rfl, rfl, H6.out, H5.out, HW2.out⟩
      clear h4 b4 C22 BY H3 H4 d1 d2 e1 e3 e4 e5 e6 e7 e8 hje HW HW1 B3 B4 H5 H6 HW2 hj
      go_wp2
      go_roundw
      case rel => exact HR.out
      case measure => simp [intOf]; omega
    · obtain rfl : k = n := by omega
      have h1 := H1.out
      have h2 := H2.out
      rw [List.take_of_length_le (by rw [HN.out]; exact Nat.le_refl _)] at h1
      rw [List.take_of_length_le (by rw [HNM.out]; exact Nat.le_refl _), HOM.out] at h2
      have WO : Wide 67108864 (ofC l) := by
        have := of_wide HF.out (by rw [HN.out]; omega) k
        rwa [List.take_of_length_le (by rw [HN.out]; exact Nat.le_refl _)] at this
      have OO := Lib.hid (ord_of HF.out)
      have HA := Lib.hid h1
      have HB := Lib.hid h2
      clear h1 h2 H1 H2 HM HFM HNM HOM HN
      have C28 := Lib.hid (P.base wr A1 (ofC l) n1 c1 HA.out WO)
      go_wp2_with fail
      refine C28.out.mono ?_
      rintro e w1 ⟨Av, nv, cv, rfl, hv, b1⟩
      have HV := Lib.hid hv
      have HW1 : Hid (Below w.heap.size w w1) := Lib.hid (HW.out.trans (b1.mono HW.out.size))
      have HA1 := Lib.hid (HA.out.up b1)
      have HB1 := Lib.hid (HB.out.up b1)
      have HBI : Hid (∀ x ∈ baseC (ofC l), hasC (ofC l) x = true ∧ hasC (ofC l) (x.1, x.2 + 1) = false ∧ x.1 < 65536 ∧ x.2 < 281474976710656) := Lib.hid (fun x hx => by
        obtain ⟨q1, q2⟩ := base_in OO.out.fit hx
        rw [base_list] at hx
        obtain ⟨q3, q4⟩ := (Dt.list_mem (tells_gap OO.out.fit) x).1 hx
        have q5 := (tells_gap OO.out.fit).2.2 x.1
        have q6 := Dt.list_fit (tells_gap OO.out.fit) x hx
        exact ⟨q1, q2, q6.1, by omega⟩)
      have nvl : nv ≤ 65536 := by rw [← hv.len, base_list]; exact Dt.list_length _
      clear hv b1 C28 HA HB HW
      go_wp2_with fail
      go_loopw [9] (fun vi wi => ∃ i : Nat, i ≤ nv ∧ vi = .int .i64 (i : Int) ∧ Below w1.heap.size w1 wi) (fun vi _ => nv - (intOf vi).toNat)
      case atStart => exact ⟨0, Nat.zero_le _, rfl, Below.refl _ _⟩
      case round =>
        obtain ⟨i, hi, rfl, hwi⟩ := hrel
        have HWI := Lib.hid hwi
        clear hwi
        by_cases hlt2 : i < nv
        · obtain ⟨ad, x, rfl, hB, hlx, hx1, hx2, hcx⟩ := HV.out.dots.cells (k := i) (by rw [HV.out.len]; exact hlt2)
          obtain ⟨q1, q2, q3, q4⟩ := HBI.out x (List.mem_of_getElem? hlx)
          have HCX := Lib.hid (fun V (hV : Below wr.heap.size wr V) => hcx V (HWI.out.trans (hV.mono HWI.out.size)))
          obtain ⟨d1, d2⟩ := HCX.out wr (Below.refl _ _)
          have e1 : IntKind.u64.wrap ((x.2 : Int) + 1) = ((x.2 + 1 : Nat) : Int) := by rw [IntWalk.u64_in _ (by omega)]; omega
          clear hlx hcx
          go_wp2_with fail
          go_region_held3 (fun V => V.cell? (ad.add (i * 2)) = some (.int .u16 (x.1 : Int)) ∧ V.cell? ⟨(ad.add (i * 2)).block, (ad.add (i * 2)).off + 1, none⟩ = some (.int .u64 (x.2 : Int))) (first | exact ⟨d1, d2⟩ | assumption | exact HCX.out _ (by (repeat (first | exact Below.refl _ _ | assumption | apply bel_drew | apply bel_alloc)))) (fail)
          clear d1 d2
          have BN : Hid (Below wr.heap.size wr (wr.alloc (.cells #[.int .u16 (x.1 : Int), .int .u64 ((x.2 : Int) + 1)] 27)).drew) := Lib.hid (bel_drew (bel_alloc _ (Below.refl _ _)))
          have HX := Lib.hid (next_at wr x)
          obtain ⟨d3, d4⟩ := HX.out _ (Below.refl _ _)
          have HA2 := Lib.hid (HA1.out.up (HWI.out.trans (BN.out.mono HWI.out.size)))
          have C19 := Lib.hid (P.has _ A1 (ofC l) n1 c1 (x.1, x.2 + 1) HA2.out WO ⟨q3, by show x.2 + 1 < _; omega⟩)
          rw [q2, next_arg] at C19
          have BI : Hid (Below w1.heap.size w1 (wr.alloc (.cells #[.int .u16 (x.1 : Int), .int .u64 ((x.2 : Int) + 1)] 27)).drew) := Lib.hid (HWI.out.trans (BN.out.mono HWI.out.size))
          generalize (wr.alloc (.cells #[.int .u16 (x.1 : Int), .int .u64 ((x.2 : Int) + 1)] 27)).drew = W2 at BN HX d3 d4 HA2 C19 BI ⊢
          go_wp2_with fail
          refine C19.out.mono ?_
          rintro e w3 ⟨rfl, b3⟩
          have B3 : Hid (Below wr.heap.size wr w3) := Lib.hid (BN.out.trans (b3.mono BN.out.size))
          have BI3 : Hid (Below w1.heap.size w1 w3) := Lib.hid (BI.out.trans (b3.mono BI.out.size))
          obtain ⟨d1, d2⟩ := HCX.out w3 B3.out
          have HA3 := Lib.hid (HA2.out.up b3)
          have C20 := Lib.hid (P.has _ A1 (ofC l) n1 c1 x (HA1.out.up BI3.out) WO ⟨q3, by omega⟩)
          rw [q1] at C20
          clear b3 C19 d3 d4 HX BN BI
          go_wp2_with fail
          refine C20.out.mono ?_
          rintro e w4 ⟨rfl, b4⟩
          have HR : Hid (Below w1.heap.size w1 w4) := Lib.hid (BI3.out.trans (b4.mono BI3.out.size))
          clear b4 C20 d1 d2 HCX HA3 B3 BI3 HWI q1 q2 q3 q4 e1
          go_wp2
          go_roundw
          case rel => exact ⟨i + 1, hlt2, by go_num, HR.out⟩
          case measure => simp [intOf]; omega
        · obtain rfl : i = nv := by omega
          have HA2 := Lib.hid (HA1.out.up HWI.out)
          have HB2 := Lib.hid (HB1.out.up HWI.out)
          have HV2 := Lib.hid (HV.out.up HWI.out)
          have HW2 : Hid (Below w.heap.size w wr) := Lib.hid (HW1.out.trans (HWI.out.mono HW1.out.size))
          have HL2 := Lib.hid (HL.out.up HW2.out)
          have WP := plain_wide (baseC (ofC l))
          have HPW := Lib.hid (within_base OO.out.fit)
          have HPB := Lib.hid (base_plain_base OO.out.fit)
          have k67 : k ≤ 67108864 := by omega
          have i67 : i ≤ 67108864 := by omega
          clear HA1 HB1 HV HL HWI HW1 HBI
          have C21 := Lib.hid (eq_true wr A1 A2 (ofC l) n1 n2 c1 c2 HA2.out HB2.out)
          go_wp2_with fail
          refine C21.out.mono ?_
          rintro e w21 ⟨rfl, b21⟩
          have HW21 : Hid (Below w.heap.size w w21) := Lib.hid (HW2.out.trans (b21.mono HW2.out.size))
          clear HB2
          have Ha21 := Lib.hid (HA2.out.up b21)
          have Hv21 := Lib.hid (HV2.out.up b21)
          have Hl21 := Lib.hid (HL2.out.up b21)
          clear C21 b21 HW2 HA2 HV2 HL2
          have C22 := Lib.hid (P.of w21 A l k c Hl21.out k67)
          go_wp2_with fail
          refine C22.out.mono ?_
          rintro e w22 ⟨A22, n22, c22, rfl, a22, b22⟩
          have HW22 : Hid (Below w.heap.size w w22) := Lib.hid (HW21.out.trans (b22.mono HW21.out.size))
          clear Hl21
          have Ha22 := Lib.hid (Ha21.out.up b22)
          have Hv22 := Lib.hid (Hv21.out.up b22)
          have Ho22 := Lib.hid a22
          clear a22
          clear C22 b22 HW21 Ha21 Hv21
          have C23 := Lib.hid (eq_true w22 A22 A1 (ofC l) n22 n1 c22 c1 Ho22.out Ha22.out)
          go_wp2_with fail
          refine C23.out.mono ?_
          rintro e w23 ⟨rfl, b23⟩
          have HW23 : Hid (Below w.heap.size w w23) := Lib.hid (HW22.out.trans (b23.mono HW22.out.size))
          clear Ho22
          have Ha23 := Lib.hid (Ha22.out.up b23)
          have Hv23 := Lib.hid (Hv22.out.up b23)
          clear C23 b23 HW22 Ha22 Hv22
          have C24 := Lib.hid (P.plain w23 Av (baseC (ofC l)) i cv Hv23.out i67)
          go_wp2_with fail
          refine C24.out.mono ?_
          rintro e w24 ⟨A24, n24, c24, rfl, a24, b24⟩
          have HW24 : Hid (Below w.heap.size w w24) := Lib.hid (HW23.out.trans (b24.mono HW23.out.size))
          have Ha24 := Lib.hid (Ha23.out.up b24)
          have Hv24 := Lib.hid (Hv23.out.up b24)
          have Hp24 := Lib.hid a24
          clear a24
          clear C24 b24 HW23 Ha23 Hv23
          have C25 := Lib.hid (P.within w24 A24 A1 (plainC (baseC (ofC l))) (ofC l) n24 n1 c24 c1 Hp24.out Ha24.out WP WO)
          rw [HPW.out] at C25
          go_wp2_with fail
          refine C25.out.mono ?_
          rintro e w25 ⟨rfl, b25⟩
          have HW25 : Hid (Below w.heap.size w w25) := Lib.hid (HW24.out.trans (b25.mono HW24.out.size))
          clear Hp24
          clear Ha24
          have Hv25 := Lib.hid (Hv24.out.up b25)
          clear C25 b25 HW24 Hv24
          have C26 := Lib.hid (P.plain w25 Av (baseC (ofC l)) i cv Hv25.out i67)
          go_wp2_with fail
          refine C26.out.mono ?_
          rintro e w26 ⟨A26, n26, c26, rfl, a26, b26⟩
          have HW26 : Hid (Below w.heap.size w w26) := Lib.hid (HW25.out.trans (b26.mono HW25.out.size))
          have Hv26 := Lib.hid (Hv25.out.up b26)
          have Hp26 := Lib.hid a26
          clear a26
          clear C26 b26 HW25 Hv25
          have C27 := Lib.hid (P.base w26 A26 (plainC (baseC (ofC l))) n26 c26 Hp26.out WP)
          rw [HPB.out] at C27
          go_wp2_with fail
          refine C27.out.mono ?_
          rintro e w27 ⟨A27, n27, c27, rfl, a27, b27⟩
          have HW27 : Hid (Below w.heap.size w w27) := Lib.hid (HW26.out.trans (b27.mono HW26.out.size))
          clear Hp26
          have Hv27 := Lib.hid (Hv26.out.up b27)
          have Hq27 := Lib.hid a27
          clear a27
          clear C27 b27 HW26 Hv26
          have C28 := Lib.hid (same_dots w27 A27 Av (baseC (ofC l)) (baseC (ofC l)) n27 i c27 cv Hq27.out Hv27.out)
          rw [decide_eq_true rfl] at C28
          go_wp2_with fail
          refine C28.out.mono ?_
          rintro e w28 ⟨rfl, b28⟩
          have HW28 : Hid (Below w.heap.size w w28) := Lib.hid (HW27.out.trans (b28.mono HW27.out.size))
          clear Hq27
          clear Hv27
          clear C28 b28 HW27
          have C29 := Lib.hid (works_any P w28)
          go_wp2_with fail
          refine C29.out.mono ?_
          rintro e w29 ⟨rfl, b29⟩
          have HW29 : Hid (Below w.heap.size w w29) := Lib.hid (HW28.out.trans (b29.mono HW28.out.size))
          clear C29 b29 HW28
          go_wp2
          go_ret
          exact ⟨rfl, HW29.out⟩
theorem closes_walk (P : PCtx) (w : World) (A : Option Addr) (l : List Dot) (n c r : Nat) (hl : DotsAt w A l n c) (hr : r < 256) :
    Calls Try.prog 4 #[.slice A n c, .int .u8 (r : Int)] w fun e w' => e = .returned (.bool true) ∧ Below w.heap.size w w' := by
  by_cases h : n ≤ 60
  · exact closes_few P w A l n c r hl h hr
  · exact closes_end P w A n c r h
end Go.Proofs.Ytegclhgfibfanaa.Cx
