/- The contracts of the document's both, Join, Meet and Norm of layer vec. For every two lists of together at most 2^42 dots. -/
import Derived.Test.YtbpmbjpepjndaaaVSets
namespace Go.Proofs.Ytbpmbjpepjndaaa.Dt
open Go.ChangeShapes Go.WideShapes Go.ChangeAt Go.RowKit
set_option linter.unusedVariables false

theorem app_types2 (w : World) (ty : TypeId) (v x : Value) : (Builtin.append_ #[23, 23] ty #[v, x]).run Try.prog w = (Builtin.append_ #[22, 22] ty #[v, x]).run Try.prog w := by
  unfold Builtin.append_
  simp only [List.getElem?_toArray, List.getElem?_cons_zero, List.getElem?_cons_succ, Sem.run_bind, run_underlying Try.underlying22, run_underlying Try.underlying23, Result.andThen_ok]
  cases v with
  | slice base sLen sCap =>
    simp only [Sem.run_bind, run_underlying Try.underlying22, run_underlying Try.underlying23, Result.andThen_ok, Sem.run_pure]
  | _ => rfl
/-- append of dots to a vector of one's own. -/
theorem wpList_own {ops : Array Oper} {rest : List Oper} {o : Oper} {a : Act} {Q : Exit → Act → World → Prop} (hgd : o.guard = none) (s x : Operand) (ho : o.op = .call { callee := .builtin .append, args := #[s, x], argTypes := #[23, 23] }) (hty : o.type = 23)
    (w : World) (B k : Nat) (v : Value) (xs : List Dot) (A : Option Addr) (m : List Dot) (n c : Nat) (hs : a.eval s = v) (hx : a.eval x = .slice A n c) (hw : w.ownsRow B 27 2 v k (dv xs)) (hA : A = none → n = 0 ∧ c = 0) (hb : Lies w w.heap.size A (dv m)) (hl : m.length = n)
    (hn : k + n ≤ 8796093022208) (hB : B ≤ w.heap.size)
    (hK : ∀ A' c' w', w'.ownsRow B 27 2 (.slice A' (k + n) c') (k + n) (dv (xs ++ m)) → w.grownBy w' v.ownBlock → wpList Try.prog ops Q rest (a.put o.dst (.slice A' (k + n) c')) w') : wpList Try.prog ops Q (o :: rest) a w := by
  refine wpList_plain hgd fun K hQ => ?_
  obtain ⟨A', c', w', hr, h2, h3⟩ := run_any w B k v xs A m n c hw hA hb hl hn hB
  have e : (Builtin.append_ #[23, 23] 23 #[v, .slice A n c]).run Try.prog w = (Builtin.append_ #[22, 22] 22 #[v, .slice A n c]).run Try.prog w := app_types2 w 23 v _
  rw [← e] at hr
  unfold Oper.wp execOp
  simp only [ho, resolve, invoke, builtin, Sem.run_bind, Sem.run_pure, Result.andThen_ok, List.map_toArray, List.map_cons, List.map_nil, hs, hx]
  rw [hty, hr]
  exact hQ _ _ (hK _ _ _ h2 h3)
theorem rof_later (w W : World) (A : Option Addr) (l : List Dot) (n c d : Nat) (hl : l.length = n) (hb : Dots w w.heap.size A l) (h63 : n ≤ 9223372036854775807) (hW : Below w.heap.size w W) :
    Calls Try.prog 16 #[.slice A n c, .int .u16 (d : Int)] W fun e V => e = .returned (.int .u64 ((ofV l d : Nat) : Int)) ∧ Below w.heap.size w V :=
  (rof_any W A l n c d hl (hb.up hW) h63).mono fun _ _ ⟨h1, h2⟩ => ⟨h1, hW.trans (h2.mono hW.size)⟩
theorem both_next {g : Bool} {a b l : List Dot} {k : Nat} {x : Dot} (h : l[k]? = some x) : (l.take (k + 1)).filterMap (fun x => oneV (fun d => oneOf g (ofV a d) (ofV b d)) x.1) = (l.take k).filterMap (fun x => oneV (fun d => oneOf g (ofV a d) (ofV b d)) x.1) ++ (if 0 < oneOf g (ofV a x.1) (ofV b x.1) then [(x.1, oneOf g (ofV a x.1) (ofV b x.1))] else []) := by
  rw [take_next h, List.filterMap_append]
  congr 1
  by_cases h1 : 0 < oneOf g (ofV a x.1) (ofV b x.1)
  · rw [if_pos h1, List.filterMap_cons, show oneV (fun d => oneOf g (ofV a d) (ofV b d)) x.1 = some (x.1, oneOf g (ofV a x.1) (ofV b x.1)) from if_pos h1]; rfl
  · rw [if_neg h1, List.filterMap_cons, show oneV (fun d => oneOf g (ofV a d) (ofV b d)) x.1 = none from if_neg h1]; rfl
set_option maxHeartbeats 8000000 in
theorem rboth_any (w : World) (A1 A2 : Option Addr) (l1 l2 : List Dot) (n1 n2 c1 c2 : Nat) (g : Bool) (e1 : l1.length = n1) (e2 : l2.length = n2) (a1 : A1 = none → n1 = 0 ∧ c1 = 0) (a2 : A2 = none → n2 = 0 ∧ c2 = 0) (h1 : Dots w w.heap.size A1 l1) (h2 : Dots w w.heap.size A2 l2) (h42 : n1 + n2 ≤ 4398046511104) :
    Calls Try.prog 26 #[.slice A1 n1 c1, .slice A2 n2 c2, .bool g] w (DotPost w (bothV g l1 l2)) := by
  have CD := Lib.hid (rdevs_any w A1 A2 l1 l2 n1 n2 c1 c2 e1 e2 a1 a2 h1 h2 h42)
  have E1 := Lib.hid e1
  have E2 := Lib.hid e2
  have H1 := Lib.hid h1
  have H2 := Lib.hid h2
  have HDE := Lib.hid (devs_eq h1.1 h2.1)
  have HDF := Lib.hid (list_fit (tells_any h1.1 h2.1))
  have HDL := Lib.hid (list_length (anyV l1 l2))
  have HPK := Lib.hid (pick_list (h := anyV l1 l2) (f := fun d => oneOf g (ofV l1 d) (ofV l2 d)) (fun d h => both_some d h))
  clear a1 a2 e1 e2 h1 h2
  obtain ⟨R, hR⟩ : ∃ R, bothV g l1 l2 = R := ⟨_, rfl⟩
  rw [hR]
  go_enter Try.func26, Try.ntmps26
  go_wp2_with fail
  refine CD.out.mono ?_
  rintro e w1 hpo
  rw [HDE.out] at hpo
  obtain ⟨A4, n, c4, rfl, hn, hA, _, _, hd, _, hb1⟩ := post_dots hpo HDF.out
  rw [hn] at HDL
  have HN := Lib.hid hn
  have HD := Lib.hid hd
  have HB1 := Lib.hid hb1
  have HL1 := HDL.out
  clear hn hA hd hb1 hpo CD HDE HDF
  clear HDL
  rw [show listV (fun d => oneOf g (ofV l1 d) (ofV l2 d)) = R from hR] at HPK
  clear hR
  generalize listV (anyV l1 l2) = L at HN HD HPK
  obtain ⟨f, hf⟩ : ∃ f : Nat → List Dot, f = fun k => (L.take k).filterMap (fun x => oneV (fun d => oneOf g (ofV l1 d) (ofV l2 d)) x.1) := ⟨_, rfl⟩
  have HFE : Hid (∀ k, f k = (L.take k).filterMap (fun x => oneV (fun d => oneOf g (ofV l1 d) (ofV l2 d)) x.1)) := Lib.hid (fun k => by rw [hf])
  have HF : Hid (∀ k, (f k).length ≤ k) := Lib.hid (fun k => by rw [hf]; exact Nat.le_trans (List.length_filterMap_le _ _) (List.length_take_le _ _))
  have HFN : Hid (f n = R) := Lib.hid (by rw [HFE.out, List.take_of_length_le (by rw [HN.out]; exact Nat.le_refl _)]; exact HPK.out)
  clear hf HPK
  go_wp2_with fail
  go_loopw [7, 9] (fun v i wr => PRel w1 n f v i wr) (fun _ i _ => n - (intOf i).toNat)
  case atStart => exact ⟨0, 0, none, 0, Nat.zero_le _, rfl, rfl, by rw [HFE.out]; rfl, by rw [HFE.out]; exact World.ownsRow_nil _ _ _ _, Below.refl _ _⟩
  case round =>
    obtain ⟨k, m, A, c, hk, rfl, rfl, hm, ho, hw⟩ := hrel
    have hmk : m ≤ k := by rw [← hm]; exact HF.out k
    have HM := Lib.hid hm
    have HO := Lib.hid ho
    have HW := Lib.hid hw
    clear hm ho hw
    by_cases hlt : k < n
    · obtain ⟨ad, x, rfl, hB, hlx, hx1, hx2, hcx⟩ := HD.out.cells (k := k) (by rw [HN.out]; exact hlt)
      have HX := both_next (g := g) (a := l1) (b := l2) hlx
      rw [← HFE.out, ← HFE.out] at HX
      obtain ⟨x1, x2⟩ := x
      have HX2 := Lib.hid HX
      clear hlx HX
      have HC : Hid (∀ V, Below wr.heap.size wr V → V.cell? (ad.add (k * 2)) = some (.int .u16 (x1 : Int))) := fun V hV => (hcx V (HW.out.trans (hV.mono HW.out.size))).1
      clear hcx
      have d1 := HC.out wr (Below.refl _ _)
      have HWW : Hid (Below w.heap.size w wr) := HB1.out.trans (HW.out.mono HB1.out.size)
      have HX1 := Lib.hid (H1.out.up HWW.out)
      have HX3 := Lib.hid (H2.out.up HWW.out)
      go_wp2_with fail
      go_region_held3 (fun V => V.cell? (ad.add (k * 2)) = some (.int .u16 (x1 : Int))) (first | exact d1 | assumption | exact HC.out _ (by (repeat (first | exact Below.refl _ _ | assumption | apply bel_drew)))) (first
        | (go_at_call 16; (with_reducible refine (rof_later wr _ A1 l1 n1 c1 x1 E1.out HX1.out (by omega) ?_).mono ?_); (repeat (first | exact Below.refl _ _ | assumption | apply bel_drew)); rintro e V ⟨rfl, bv⟩; have hcV := HC.out V bv)
        | (go_at_call 16; (with_reducible refine (rof_later wr _ A2 l2 n2 c2 x1 E2.out HX3.out (by omega) ?_).mono ?_); (repeat (first | exact Below.refl _ _ | assumption | apply bel_drew)); rintro e V ⟨rfl, bv⟩; have hcV := HC.out V bv))
      have HV : Hid (Below w1.heap.size w1 V) := HW.out.trans (bv.mono HW.out.size)
      have HOV := Lib.hid (own_kept HO.out bv)
      have HLO : Hid (m + 1 ≤ 8796093022208) := Lib.hid (by omega)
      clear bv d1 HC HX1 HX3 HWW
      generalize ofV l1 x1 = o1 at HX2 ⊢
      generalize ofV l2 x1 = o2 at HX2 ⊢
      by_cases hxy : o1 < o2
      · cases g with
        | true =>
          have dxy : decide ((o1 : Int) < (o2 : Int)) = true := decide_eq_true (by omega)
          have hz : oneOf true o1 o2 = o2 := by unfold oneOf; simp; omega
          rw [hz] at HX2
          clear hz
          by_cases hp : 0 < o2
          · have dp : decide ((0 : Int) < (o2 : Int)) = true := decide_eq_true (by omega)
            rw [if_pos hp] at HX2
            have HWA : Hid (Below w1.heap.size w1 (V.alloc (.cells #[.int .u16 (x1 : Int), .int .u64 (o2 : Int)] 27))) := bel_alloc _ HV.out
            go_wp2_with (at_builtin; refine wpList_own rfl (.tmp 43) (.tmp 51) rfl rfl _ w1.heap.size m (.slice A m c) (f k) (some ⟨V.heap.size, 0, none⟩) [(x1, o2)] 1 1 rfl rfl (HOV.out.alloc _) (fun h => by cases h) (lies_one V (x1, o2)) rfl HLO.out HWA.out.size ?_; intro A3 c3 V3 ho3 hg3; have HR := Lib.hid (p_rel hlt HX2.out (by rw [List.length_append, HM.out]; rfl) ho3 (any_grown (HOV.out.alloc _) HWA.out hg3)); clear ho3 hg3)
            go_roundw
            case rel => exact HR.out
            case measure => simp [intOf]; omega
          · have dp : decide ((0 : Int) < (o2 : Int)) = false := decide_eq_false (by omega)
            rw [if_neg hp, List.append_nil] at HX2
            have HR := Lib.hid (p_rel hlt HX2.out HM.out HOV.out HV.out)
            go_wp2
            go_roundw
            case rel => exact HR.out
            case measure => simp [intOf]; omega
        | false =>
          have dxy : decide ((o1 : Int) < (o2 : Int)) = true := decide_eq_true (by omega)
          have hz : oneOf false o1 o2 = o1 := by unfold oneOf; simp; omega
          rw [hz] at HX2
          clear hz
          by_cases hp : 0 < o1
          · have dp : decide ((0 : Int) < (o1 : Int)) = true := decide_eq_true (by omega)
            rw [if_pos hp] at HX2
            have HWA : Hid (Below w1.heap.size w1 (V.alloc (.cells #[.int .u16 (x1 : Int), .int .u64 (o1 : Int)] 27))) := bel_alloc _ HV.out
            go_wp2_with (at_builtin; refine wpList_own rfl (.tmp 43) (.tmp 51) rfl rfl _ w1.heap.size m (.slice A m c) (f k) (some ⟨V.heap.size, 0, none⟩) [(x1, o1)] 1 1 rfl rfl (HOV.out.alloc _) (fun h => by cases h) (lies_one V (x1, o1)) rfl HLO.out HWA.out.size ?_; intro A3 c3 V3 ho3 hg3; have HR := Lib.hid (p_rel hlt HX2.out (by rw [List.length_append, HM.out]; rfl) ho3 (any_grown (HOV.out.alloc _) HWA.out hg3)); clear ho3 hg3)
            go_roundw
            case rel => exact HR.out
            case measure => simp [intOf]; omega
          · have dp : decide ((0 : Int) < (o1 : Int)) = false := decide_eq_false (by omega)
            rw [if_neg hp, List.append_nil] at HX2
            have HR := Lib.hid (p_rel hlt HX2.out HM.out HOV.out HV.out)
            go_wp2
            go_roundw
            case rel => exact HR.out
            case measure => simp [intOf]; omega
      · cases g with
        | true =>
          have dxy : decide ((o1 : Int) < (o2 : Int)) = false := decide_eq_false (by omega)
          have hz : oneOf true o1 o2 = o1 := by unfold oneOf; simp; omega
          rw [hz] at HX2
          clear hz
          by_cases hp : 0 < o1
          · have dp : decide ((0 : Int) < (o1 : Int)) = true := decide_eq_true (by omega)
            rw [if_pos hp] at HX2
            have HWA : Hid (Below w1.heap.size w1 (V.alloc (.cells #[.int .u16 (x1 : Int), .int .u64 (o1 : Int)] 27))) := bel_alloc _ HV.out
            go_wp2_with (at_builtin; refine wpList_own rfl (.tmp 43) (.tmp 51) rfl rfl _ w1.heap.size m (.slice A m c) (f k) (some ⟨V.heap.size, 0, none⟩) [(x1, o1)] 1 1 rfl rfl (HOV.out.alloc _) (fun h => by cases h) (lies_one V (x1, o1)) rfl HLO.out HWA.out.size ?_; intro A3 c3 V3 ho3 hg3; have HR := Lib.hid (p_rel hlt HX2.out (by rw [List.length_append, HM.out]; rfl) ho3 (any_grown (HOV.out.alloc _) HWA.out hg3)); clear ho3 hg3)
            go_roundw
            case rel => exact HR.out
            case measure => simp [intOf]; omega
          · have dp : decide ((0 : Int) < (o1 : Int)) = false := decide_eq_false (by omega)
            rw [if_neg hp, List.append_nil] at HX2
            have HR := Lib.hid (p_rel hlt HX2.out HM.out HOV.out HV.out)
            go_wp2
            go_roundw
            case rel => exact HR.out
            case measure => simp [intOf]; omega
        | false =>
          have dxy : decide ((o1 : Int) < (o2 : Int)) = false := decide_eq_false (by omega)
          have hz : oneOf false o1 o2 = o2 := by unfold oneOf; simp; omega
          rw [hz] at HX2
          clear hz
          by_cases hp : 0 < o2
          · have dp : decide ((0 : Int) < (o2 : Int)) = true := decide_eq_true (by omega)
            rw [if_pos hp] at HX2
            have HWA : Hid (Below w1.heap.size w1 (V.alloc (.cells #[.int .u16 (x1 : Int), .int .u64 (o2 : Int)] 27))) := bel_alloc _ HV.out
            go_wp2_with (at_builtin; refine wpList_own rfl (.tmp 43) (.tmp 51) rfl rfl _ w1.heap.size m (.slice A m c) (f k) (some ⟨V.heap.size, 0, none⟩) [(x1, o2)] 1 1 rfl rfl (HOV.out.alloc _) (fun h => by cases h) (lies_one V (x1, o2)) rfl HLO.out HWA.out.size ?_; intro A3 c3 V3 ho3 hg3; have HR := Lib.hid (p_rel hlt HX2.out (by rw [List.length_append, HM.out]; rfl) ho3 (any_grown (HOV.out.alloc _) HWA.out hg3)); clear ho3 hg3)
            go_roundw
            case rel => exact HR.out
            case measure => simp [intOf]; omega
          · have dp : decide ((0 : Int) < (o2 : Int)) = false := decide_eq_false (by omega)
            rw [if_neg hp, List.append_nil] at HX2
            have HR := Lib.hid (p_rel hlt HX2.out HM.out HOV.out HV.out)
            go_wp2
            go_roundw
            case rel => exact HR.out
            case measure => simp [intOf]; omega
    · obtain rfl : n = k := by omega
      rw [HFN.out] at HM HO
      go_wp2
      go_ret
      exact ⟨A, m, c, rfl, HM.out, own_less HO.out HB1.out.size, HB1.out.trans (HW.out.mono HB1.out.size)⟩
end Go.Proofs.Ytbpmbjpepjndaaa.Dt
