/- The contract of the document's devs of layer vec: the devices of which two vectors tell, as dots of number one, in order. For every two lists of together at most 2^42 dots. -/
import Derived.Test.YtbpmbjpepjndaaaVOf
namespace Go.Proofs.Ytbpmbjpepjndaaa.Dt
open Go.ChangeShapes Go.WideShapes Go.ChangeAt Go.RowKit
set_option linter.unusedVariables false

theorem app_types (w : World) (ty : TypeId) (v x : Value) : (Builtin.append_ #[22, 23] ty #[v, x]).run Try.prog w = (Builtin.append_ #[22, 22] ty #[v, x]).run Try.prog w := by
  unfold Builtin.append_
  simp only [List.getElem?_toArray, List.getElem?_cons_zero, List.getElem?_cons_succ, Sem.run_bind, run_underlying Try.underlying22, Result.andThen_ok]
  cases v with
  | slice base sLen sCap =>
    simp only [Sem.run_bind, run_underlying Try.underlying22, run_underlying Try.underlying23, Result.andThen_ok, Sem.run_pure]
  | _ => rfl
/-- append of a vector to a list of dots of one's own. -/
theorem wpList_vec {ops : Array Oper} {rest : List Oper} {o : Oper} {a : Act} {Q : Exit → Act → World → Prop} (hgd : o.guard = none) (s x : Operand) (ho : o.op = .call { callee := .builtin .append, args := #[s, x], argTypes := #[22, 23] }) (hty : o.type = 22)
    (w : World) (B k : Nat) (v : Value) (xs : List Dot) (A : Option Addr) (m : List Dot) (n c : Nat) (hs : a.eval s = v) (hx : a.eval x = .slice A n c) (hw : w.ownsRow B 27 2 v k (dv xs)) (hA : A = none → n = 0 ∧ c = 0) (hb : Lies w w.heap.size A (dv m)) (hl : m.length = n)
    (hn : k + n ≤ 8796093022208) (hB : B ≤ w.heap.size)
    (hK : ∀ A' c' w', w'.ownsRow B 27 2 (.slice A' (k + n) c') (k + n) (dv (xs ++ m)) → w.grownBy w' v.ownBlock → wpList Try.prog ops Q rest (a.put o.dst (.slice A' (k + n) c')) w') : wpList Try.prog ops Q (o :: rest) a w := by
  refine wpList_plain hgd fun K hQ => ?_
  obtain ⟨A', c', w', hr, h2, h3⟩ := run_any w B k v xs A m n c hw hA hb hl hn hB
  rw [← app_types] at hr
  rw [← hty] at hr
  unfold Oper.wp execOp
  simp only [ho, resolve, invoke, builtin, Sem.run_bind, Sem.run_pure, Result.andThen_ok, List.map_toArray, List.map_cons, List.map_nil, hs, hx]
  rw [hty] at hr ⊢
  rw [hr]
  exact hQ _ _ (hK _ _ _ h2 h3)
/-- a new list without a dot. -/
theorem own_new (w : World) : (w.alloc (.cells #[] 27)).ownsRow w.heap.size 27 2 (.slice (some ⟨w.heap.size, 0, none⟩) 0 0) 0 (dv []) := World.ownsRow_lit w #[] 0 (Nat.le_refl _) (by simp [maxLen]) rfl
/-- one device more. -/
def stepE (o : List Dot) (x : Dot) : List Dot := if mayD x = true then putD o (x.1, 1) else o
def devsD (a b : List Dot) : List Dot := (a ++ b).foldl stepE []
theorem devs_next {l : List Dot} {k : Nat} {x : Dot} (h : l[k]? = some x) : (l.take (k + 1)).foldl stepE [] = stepE ((l.take k).foldl stepE []) x := by
  rw [take_next h, List.foldl_append]; rfl
theorem devs_fit (l : List Dot) (h : Fit l) (k : Nat) : Fit ((l.take k).foldl stepE []) ∧ ((l.take k).foldl stepE []).length ≤ k := by
  induction k with
  | zero => exact ⟨fun r hr => (by cases hr), Nat.le_refl _⟩
  | succ k ih =>
    by_cases hk : k < l.length
    · have hg := List.getElem?_eq_getElem hk
      rw [devs_next hg]
      generalize (l.take k).foldl stepE [] = o at ih ⊢
      by_cases hm : mayD l[k] = true
      · rw [show stepE o l[k] = putD o (l[k].1, 1) from if_pos hm]
        exact ⟨fit_put ih.1 ⟨(h _ (List.getElem_mem hk)).1, by simp⟩, Nat.le_trans (put_length _ _) (by omega)⟩
      · rw [show stepE o l[k] = o from if_neg hm]
        exact ⟨ih.1, by omega⟩
    · have e : l.take (k + 1) = l.take k := by rw [List.take_of_length_le (by omega), List.take_of_length_le (by omega)]
      rw [e]
      exact ⟨ih.1, by omega⟩
set_option maxHeartbeats 4000000 in
theorem rdevs_any (w : World) (A1 A2 : Option Addr) (l1 l2 : List Dot) (n1 n2 c1 c2 : Nat) (e1 : l1.length = n1) (e2 : l2.length = n2) (a1 : A1 = none → n1 = 0 ∧ c1 = 0) (a2 : A2 = none → n2 = 0 ∧ c2 = 0) (h1 : Dots w w.heap.size A1 l1) (h2 : Dots w w.heap.size A2 l2) (h42 : n1 + n2 ≤ 4398046511104) :
    Calls Try.prog 33 #[.slice A1 n1 c1, .slice A2 n2 c2] w (DotPost w (devsD l1 l2)) := by
  have HA1 := Lib.hid a1
  have HA2 := Lib.hid a2
  have E1 := Lib.hid e1
  have E2 := Lib.hid e2
  have HB0 : Hid (Below w.heap.size w (w.alloc (.cells #[] 27))) := below_new w _
  have HO := Lib.hid (own_new w)
  have H1 := Lib.hid (h1.up (below_new w (.cells #[] 27)))
  have H2 := Lib.hid h2
  have HFT : Hid (Fit (l1 ++ l2)) := fun r hr => by
    rcases List.mem_append.1 hr with hr | hr
    · exact h1.1 r hr
    · exact h2.1 r hr
  have HEL : Hid ((l1 ++ l2).length = n1 + n2) := Lib.hid (by rw [List.length_append, e1, e2])
  clear a1 a2 e1 e2 h1 h2
  obtain ⟨l, hll⟩ : ∃ l, l1 ++ l2 = l := ⟨_, rfl⟩
  rw [hll] at HFT HEL
  rw [show devsD l1 l2 = l.foldl stepE [] from by unfold devsD; rw [hll]]
  have HLL := Lib.hid hll
  clear hll
  go_enter Try.func33, Try.ntmps33
  go_wp2_with (first
    | (at_builtin
       refine wpList_vec rfl (.tmp 8) (.tmp 9) rfl rfl _ w.heap.size 0 _ [] A1 l1 n1 c1 rfl rfl HO.out HA1.out H1.out.2 E1.out (by omega) (by simp) ?_
       intro A3 c3 w3 ho3 hg3
       rw [Nat.zero_add, List.nil_append] at ho3
       have HB3 : Hid (Below w.heap.size w w3) := HB0.out.grown hg3 (by simp) (fun k e => by cases e; exact Nat.le_refl _)
       have H3 := Lib.hid (H2.out.up HB3.out)
       have HO3 := Lib.hid ho3
       clear hg3 ho3)
    | (at_builtin
       refine wpList_vec rfl (.tmp 10) (.tmp 11) rfl rfl _ w.heap.size n1 _ l1 A2 l2 n2 c2 rfl rfl HO3.out HA2.out H3.out.2 E2.out (by omega) HB3.out.size ?_
       intro A4 c4 w4 ho4 hg4
       have HB4 : Hid (Below w.heap.size w w4) := any_grown HO3.out HB3.out hg4
       have HO4 := Lib.hid ho4
       clear hg4 ho4))
  rw [HLL.out] at HO4
  have HD := Lib.hid (dots_own HO4.out HFT.out)
  have HF := Lib.hid (devs_fit l HFT.out)
  clear HLL HO3 HO4 H1 H2 H3 HB0 HB3 HO E1 E2 HA1 HA2
  generalize n1 + n2 = n at HEL h42 ⊢
  go_loopw [5, 7] (fun v i wr => PRel w4 n (fun k => (l.take k).foldl stepE []) v i wr) (fun _ i _ => n - (intOf i).toNat)
  case atStart => exact ⟨0, 0, none, 0, Nat.zero_le _, rfl, rfl, rfl, World.ownsRow_nil _ _ _ _, Below.refl _ _⟩
  case round =>
    obtain ⟨k, m, A, c, hk, rfl, rfl, hm, ho, hw⟩ := hrel
    have hmk : m ≤ k := by rw [← hm]; exact (HF.out k).2
    have HM := Lib.hid hm
    have HO := Lib.hid ho
    have HW := Lib.hid hw
    clear hm ho hw
    by_cases hlt : k < n
    · obtain ⟨ad, x, rfl, hB, hlx, hx1, hx2, hcx⟩ := HD.out.cells (k := k) (by rw [HEL.out]; exact hlt)
      have HN := Lib.hid (devs_next hlx)
      clear hlx
      obtain ⟨d1, d2⟩ := hcx wr HW.out
      obtain ⟨b, hb⟩ : ∃ b, mayD x = b := ⟨_, rfl⟩
      have CG := fun W => rgood_any W x.1 x.2
      rw [show mayD (x.1, x.2) = b from hb] at CG
      have HB1 : Hid (Below wr.heap.size wr (wr.alloc (.cells #[.int .u16 (x.1 : Int), .int .u64 (x.2 : Int)] 27))) := below_new _ _
      go_wp2_with fail
      refine (CG _).mono ?_
      rintro e V ⟨rfl, hV⟩
      have HV : Hid (Below wr.heap.size wr V) := Lib.hid (by rw [hV]; exact HB1.out)
      have HWV : Hid (Below w4.heap.size w4 V) := HW.out.trans (HV.out.mono HW.out.size)
      clear hV d1 d2 CG HB1
      obtain ⟨d1, d2⟩ := hcx V HWV.out
      cases b with
      | true =>
        have HS : Hid ((l.take (k + 1)).foldl stepE [] = putD ((l.take k).foldl stepE []) (x.1, 1)) := Lib.hid (by rw [HN.out]; exact if_pos hb)
        have HP := Lib.hid (rput_any V A ((l.take k).foldl stepE []) m c (x.1, 1) HM.out (dots_own (own_kept HO.out HV.out) (HF.out k).1) (by omega))
        clear hcx hb HN
        go_wp2_with fail
        refine HP.out.mono ?_
        rintro e V2 ⟨A3, m3, c3, rfl, hm3, ho3, hb3⟩
        have HR := Lib.hid (p_rel (f := fun k => (l.take k).foldl stepE []) hlt HS.out hm3 (own_less ho3 HWV.out.size) (HWV.out.trans (hb3.mono HWV.out.size)))
        clear hm3 ho3 hb3 d1 d2
        go_wp2
        go_roundw
        case rel => exact HR.out
        case measure => simp [intOf]; omega
      | false =>
        have HS : Hid ((l.take (k + 1)).foldl stepE [] = (l.take k).foldl stepE []) := Lib.hid (by rw [HN.out]; exact if_neg (by rw [hb]; simp))
        have HR := Lib.hid (p_rel (f := fun k => (l.take k).foldl stepE []) hlt HS.out HM.out (own_kept HO.out HV.out) HWV.out)
        clear hcx hb HN d1 d2
        go_wp2
        go_roundw
        case rel => exact HR.out
        case measure => simp [intOf]; omega
    · obtain rfl : n = k := by omega
      have e : Hid (l.take n = l) := Lib.hid (List.take_of_length_le (by rw [HEL.out]; exact Nat.le_refl _))
      simp only [e.out] at HM HO
      go_wp2
      go_ret
      exact ⟨A, m, c, rfl, HM.out, own_less HO.out HB4.out.size, HB4.out.trans (HW.out.mono HB4.out.size)⟩
end Go.Proofs.Ytbpmbjpepjndaaa.Dt
