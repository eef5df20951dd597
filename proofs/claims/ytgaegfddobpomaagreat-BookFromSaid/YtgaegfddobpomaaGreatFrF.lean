/- Words and contracts that the proofs of this seat stand on, part 6 of 28. -/
import Derived.Test.YtgaegfddobpomaaGreatFrD
import Derived.Deep.RegionHeld3
import Derived.WalkSmall
import Derived.Deep.RegionLaw
import Derived.Test.YtgaegfddobpomaaGreatFrE
import Derived.Test.YtgaegfddobpomaaGreatFrC
import Derived.ShutString
import Derived.ChangeOld
import Derived.Deep.DeepHandedRow
import Derived.Deep.Matrix
import Derived.SizedLaws
import Derived.Deep.SlicePairs
import Derived.Lib.SmallJoins
import Derived.Test.YtgaegfddobpomaaGreatFrA
import Derived.Maps.OwnOps
import Derived.Maps.Ext
import Derived.DeepKeys4
import Derived.Maps.RangeWalk

namespace Go.Proofs.YtgaegfddobpomaaGreat.Ru
open Go.ChangeShapes Go.WideShapes Go.ChangeAt Go.RowKit
set_option linter.unusedVariables false
theorem addR_length (o : List Run) (p q : Nat) : (addR o p q).length ≤ o.length + 1 := by
 unfold addR
 split
 · rename_i r h
   split
   · have hne : o ≠ [] := fun e => by rw [e] at h; simp at h
     rw [List.length_append, List.length_dropLast, List.length_singleton]
     have : 0 < o.length := List.length_pos_iff.2 hne
     omega
   · rw [List.length_append]; simp
 · simp
theorem stF_length (a b : List Run) (how : Int) (P : List Nat) (k : Nat) : (stF a b how P k).length ≤ k := by
 induction k with
 | zero => simp [stF]
 | succ k ih =>
   rw [stF_succ]
   unfold stS
   split
   · have := addR_length (stF a b how P k) (P.getD k 0) (P.getD (k + 1) 0)
     omega
   · omega
theorem getD_some {P : List Nat} {i p : Nat} (h : P[i]? = some p) : P.getD i 0 = p := by
 rw [List.getD_eq_getElem?_getD, h]; rfl
theorem putL_bound {l : List Nat} {n : Nat} (C : Nat → Prop) (hl : ∀ x ∈ l, C x) (hn : C n) : ∀ x ∈ putL l n, C x := by
 have key : ∀ (l : List Nat), (∀ x ∈ l, C x) → ∀ s : List Nat × Bool, (∀ x ∈ s.1, C x) → ∀ x ∈ (l.foldl (putS n) s).1, C x := by
   intro l
   induction l with
   | nil => intro _ s hs; exact hs
   | cons y l ih =>
     intro h s hs
     rw [List.foldl_cons]
     refine ih (fun x hx => h x (by simp [hx])) _ ?_
     have hy : C y := h y (by simp)
     unfold putS
     intro x hx
     split at hx <;> split at hx <;> simp at hx
     all_goals (first
       | (rcases hx with hx | rfl | rfl <;> first | exact hs x hx | exact hn | exact hy)
       | (rcases hx with hx | rfl <;> first | exact hs x hx | exact hn | exact hy)
       | exact hs x hx)
 have h1 := key l hl ([], false) (fun x hx => by cases hx)
 unfold putL
 split
 · exact h1
 · intro x hx
   rcases List.mem_append.1 hx with hx | hx
   · exact h1 x hx
   · obtain rfl := List.mem_singleton.1 hx
     exact hn
theorem ptL_bound (l : List Run) : ∀ x ∈ ptL l, 1 ≤ x ∧ x ≤ 281474976710656 := by
 suffices h : ∀ o : List Nat, (∀ x ∈ o, 1 ≤ x ∧ x ≤ 281474976710656) → ∀ x ∈ l.foldl ptS o, 1 ≤ x ∧ x ≤ 281474976710656 from h [] (fun x hx => by cases hx)
 induction l with
 | nil => intro o ho; exact ho
 | cons r l ih =>
   intro o ho
   rw [List.foldl_cons]
   refine ih _ ?_
   unfold ptS
   split
   · rename_i hm
     have := of_decide_eq_true hm
     exact putL_bound _ (putL_bound _ ho (by omega)) (by omega)
   · exact ho
def RunPost (w : World) (m : List Run) (e : Ending) (w' : World) : Prop :=
 ∃ A n c, e = .returned (.slice A n c) ∧ m.length = n ∧ w'.ownsRow w.heap.size 68 2 (.slice A n c) n (rv m) ∧ Below w.heap.size w w'
theorem has_later (w W : World) (A : Option Addr) (l : List Run) (len c n : Nat) (b : Bool) (hl : l.length = len) (hb : Runs w w.heap.size A l) (h63 : len ≤ 9223372036854775807) (hn : n < 18446744073709551616) (hbe : has l n = b) (bel : Below w.heap.size w W) :
   Calls Tryz.prog 76 #[.slice A len c, .int .u64 (n : Int)] W fun e w' => e = .returned (.bool b) ∧ Below w.heap.size w w' := by
 subst hbe
 refine (has_any W w.heap.size A l len c n hl (hb.below bel) bel.size h63 hn).mono ?_
 rintro e w' ⟨rfl, hb'⟩
 exact ⟨rfl, bel.trans (hb'.mono bel.size)⟩
theorem bel_drew {w W : World} (h : Below w.heap.size w W) : Below w.heap.size w W.drew := h.drew
def Low (o : List Run) : Prop := ∀ r ∈ o, r.1 ≤ 281474976710656 ∧ r.2 ≤ 281474976710656
theorem addR_nil (p q : Nat) : addR [] p q = [(p, q - 1)] := rfl
theorem addR_last (o : List Run) (lo hi p q : Nat) : addR (o ++ [(lo, hi)]) p q = if hi + 1 = p then o ++ [(lo, q - 1)] else o ++ [(lo, hi)] ++ [(p, q - 1)] := by
 unfold addR
 rw [List.getLast?_append]
 simp only [List.getLast?_singleton, Option.some_or, List.dropLast_concat]
theorem last_of {o : List Run} {z : Nat} (h : o.length = z + 1) : ∃ o' lo hi, o = o' ++ [(lo, hi)] ∧ o'.length = z := by
 have hne : o ≠ [] := fun e => by rw [e] at h; simp at h
 refine ⟨o.dropLast, (o.getLast hne).1, (o.getLast hne).2, (List.dropLast_concat_getLast hne).symm, by rw [List.length_dropLast]; omega⟩
theorem low_last {o : List Run} {lo hi : Nat} (h : Low (o ++ [(lo, hi)])) : lo ≤ 281474976710656 ∧ hi ≤ 281474976710656 := h (lo, hi) (by simp)
theorem low_snoc {o : List Run} {lo hi : Nat} (h : Low o) (h1 : lo ≤ 281474976710656) (h2 : hi ≤ 281474976710656) : Low (o ++ [(lo, hi)]) := fun r hr => by
 rcases List.mem_append.1 hr with hr | hr
 · exact h r hr
 · obtain rfl := List.mem_singleton.1 hr
   exact ⟨h1, h2⟩
theorem low_init {o : List Run} {r : Run} (h : Low (o ++ [r])) : Low o := fun x hx => h x (List.mem_append_left _ hx)
theorem rv_snoc (o : List Run) (lo hi : Nat) : rv (o ++ [(lo, hi)]) = rv o ++ [.int .u64 (lo : Int), .int .u64 (hi : Int)] := rv_append o [(lo, hi)]
theorem rv_set_last (o : List Run) (lo hi v z : Nat) (h : o.length = z) : (rv (o ++ [(lo, hi)])).set (z * 2 + 1) (.int .u64 (v : Int)) = rv (o ++ [(lo, v)]) := by
 have hl : (rv o).length = z * 2 := by rw [rv_length, h]
 rw [rv_snoc, rv_snoc, List.set_append, if_neg (by omega), hl]
 have e : z * 2 + 1 - z * 2 = 1 := by omega
 rw [e]
 rfl
theorem rv_last (o : List Run) (lo hi z : Nat) (h : o.length = z) : (rv (o ++ [(lo, hi)]))[z * 2]? = some (.int .u64 (lo : Int)) ∧ (rv (o ++ [(lo, hi)]))[z * 2 + 1]? = some (.int .u64 (hi : Int)) := by
 refine rv_get (l := o ++ [(lo, hi)]) (r := (lo, hi)) ?_
 rw [List.getElem?_append_right (by omega), h]
 simp
def StRel (w : World) (a b : List Run) (how : Int) (P : List Nat) (len : Nat) (o i : Value) (wr : World) : Prop :=
 ∃ (k m : Nat) (A : Option Addr) (c : Nat), k ≤ len - 1 ∧ i = .int .i64 (k : Int) ∧ o = .slice A m c ∧ (stF a b how P k).length = m ∧ Low (stF a b how P k) ∧ wr.ownsRow w.heap.size 68 2 (.slice A m c) m (rv (stF a b how P k)) ∧ Below w.heap.size w wr
theorem st_rel {w wr : World} {a b : List Run} {how : Int} {P : List Nat} {len k m : Nat} {A : Option Addr} {c : Nat} {o : List Run} (hk : k < len - 1) (hs : stF a b how P (k + 1) = o) (hm : o.length = m) (hf : Low o) (ho : wr.ownsRow w.heap.size 68 2 (.slice A m c) m (rv o)) (hb : Below w.heap.size w wr) :
   StRel w a b how P len (.slice A m c) (.int .i64 ((k : Int) + 1)) wr :=
 ⟨k + 1, m, A, c, hk, by go_num, rfl, by rw [hs]; exact hm, by rw [hs]; exact hf, by rw [hs]; exact ho, hb⟩
theorem st_drewN {w V : World} {a b : List Run} {how : Int} {P : List Nat} {len : Nat} {o i : Value} (h : StRel w a b how P len o i V) (n : Nat) : StRel w a b how P len o i (V.drewN n) := by
 obtain ⟨k, m, A, c, h1, h2, h3, h4, h5, h6, h7⟩ := h
 exact ⟨k, m, A, c, h1, h2, h3, h4, h5, h6, Go.below_drewN h7 n⟩
theorem news_run (W : World) (p q : Nat) (z : Int) (h : z = (q : Int)) : ∀ (j : Nat) (u : Value), (rv [(p, q)])[j]? = some u → (W.alloc (.cells #[.int .u64 (p : Int), .int .u64 z] 68)).cell? ((⟨W.heap.size, 0, none⟩ : Addr).add j) = some u := by
 subst h
 intro j u hu
 rw [zero_add, World.cell?_alloc_new]
 simpa [rv] using hu
theorem run_grown {w wr w2 : World} {v : Value} {m : Nat} {xs : List Value} {o : Obj} (ho : wr.ownsRow w.heap.size 68 2 v m xs) (hb : Below w.heap.size w wr) (hg : (wr.alloc o).grownBy w2 v.ownBlock) : Below w.heap.size w w2 :=
 (hb.alloc hb.size _).grown hg (Nat.le_trans hb.size (by simp)) (fun k hk => (ho.lt k hk).1)
theorem own_drewN {V : World} {B n size : Nat} {e : TypeId} {v : Value} {xs : List Value} (h : V.ownsRow B e size v n xs) (k : Nat) : (V.drewN k).ownsRow B e size v n xs := h
theorem own_drewS {V : World} {B n size : Nat} {e : TypeId} {v : Value} {xs : List Value} (h : V.ownsRow B e size v n xs) (k : Nat) : ((V.drewN k).drew).ownsRow B e size v n xs := h
theorem low_drewS {w V : World} (h : Below w.heap.size w V) (k : Nat) : Below w.heap.size w ((V.drewN k).drew) := (Go.below_drewN h k).drew
theorem lies_num {w : World} {B n c : Nat} {A : Option Addr} {m : List Nat} (h : w.ownsRow B 33 1 (.slice A n c) n (nv m)) (hf : FitN m) : Nums w w.heap.size A m := ⟨hf, lies_any (by decide) h⟩
set_option maxHeartbeats 8000000 in
set_option maxRecDepth 100000 in
theorem set_any (w : World) (A1 A2 : Option Addr) (l1 l2 : List Run) (n1 n2 c1 c2 : Nat) (how : Int) (hl1 : l1.length = n1) (hl2 : l2.length = n2) (hA1 : A1 = none → n1 = 0 ∧ c1 = 0) (hA2 : A2 = none → n2 = 0 ∧ c2 = 0) (hb1 : Runs w w.heap.size A1 l1) (hb2 : Runs w w.heap.size A2 l2) (h1 : n1 ≤ 262144) (h2 : n2 ≤ 262144) (hh : 0 ≤ how ∧ how ≤ 2) :
   Calls Tryz.prog 152 #[.slice A1 n1 c1, .slice A2 n2 c2, .int .i64 how] w (RunPost w (setL l1 l2 how)) := by
 obtain ⟨i0, hi0, hz0, hz1, hz2⟩ := info_parts run_info
 have HL1 := Lib.hid hl1
 have HL2 := Lib.hid hl2
 have HB1 := Lib.hid hb1
 have HB2 := Lib.hid hb2
 have HA1 := Lib.hid hA1
 have HA2 := Lib.hid hA2
 clear hl1 hl2 hA1 hA2 hb1 hb2
 obtain ⟨P, hP⟩ : ∃ P, ptL (l1 ++ l2) = P := ⟨_, rfl⟩
 have PB : Hid (∀ x ∈ P, 1 ≤ x ∧ x ≤ 281474976710656) := by show ∀ x ∈ P, _; rw [← hP]; exact ptL_bound _
 have PF : Hid (FitN P) := fun x hx => by have := PB.out x hx; omega
 have PL : Hid (P.length ≤ 1048576) := by
   show _ ≤ _
   rw [← hP]
   have := ptL_length (l1 ++ l2) (l1 ++ l2).length
   rw [List.take_length, List.length_append, HL1.out, HL2.out] at this
   omega
 have HS : Hid (setL l1 l2 how = stF l1 l2 how P (P.length - 1)) := by show _ = _; unfold setL; rw [hP]
 go_enter Tryz.func152, Tryz.ntmps152
 go_wp2_with fail
 refine (points_any w A1 A2 l1 l2 n1 n2 c1 c2 HL1.out HL2.out HA1.out HA2.out HB1.out HB2.out h1 h2).mono ?_
 rw [hP]
 rintro e w1 ⟨AP, np, cp, rfl, hnp, hop, hbp⟩
 have W1 := Lib.hid hbp
 have KP := Lib.hid (lies_num hop PF.out)
 have NP := Lib.hid hnp
 have K1 := Lib.hid (HB1.out.up hbp)
 have K2 := Lib.hid (HB2.out.up hbp)
 have hnp2 : np ≤ 1048576 := by rw [← hnp]; exact PL.out
 clear hop hbp hnp hP
 have HR : Hid (StRel w1 l1 l2 how P np (.slice none 0 0) (.int .i64 0) w1) := ⟨0, 0, none, 0, Nat.zero_le _, rfl, rfl, rfl, (fun x hx => by cases hx), World.ownsRow_nil _ _ _ _, Below.refl _ _⟩
 go_wp2_with fail
 go_loopw [8, 9] (fun o i wr => StRel w1 l1 l2 how P np o i wr) (fun _ i _ => np - (intOf i).toNat)
 case atStart => exact HR.out
 case round =>
   clear HR
   obtain ⟨k, m, A, c, hk, rfl, rfl, hm, hf, ho, hb⟩ := hrel
   have HO := Lib.hid ho
   have HW := Lib.hid hb
   have HF := Lib.hid hf
   have HM := Lib.hid hm
   have hmk : m ≤ k := by rw [← hm]; exact stF_length _ _ _ _ _
   clear ho hb hf hm
   by_cases hlt : k + 1 < np
   · obtain ⟨k1, hk1⟩ : ∃ k1, k1 = k + 1 := ⟨_, rfl⟩
     have hk1I : (k : Int) + 1 = (k1 : Int) := by omega
     have hk1n : k1 < np := by omega
     have HK1 := Lib.hid hk1
     obtain ⟨ad, p, rfl, hp, hp64, hcp⟩ := KP.out.at_ (k := k) (by rw [NP.out]; omega)
     obtain ⟨ad2, q, e2, hq, hq64, hcq⟩ := KP.out.at_ (k := k1) (by rw [NP.out]; omega)
     cases e2
     have hpb := PB.out p (List.mem_of_getElem? hp)
     have hqb := PB.out q (List.mem_of_getElem? hq)
     have EP := Lib.hid (getD_some hp)
     have EQ := Lib.hid (getD_some hq)
     rw [HK1.out] at EQ
     have HC : Hid (∀ V, Below w1.heap.size w1 V → V.cell? (ad.add k) = some (.int .u64 (p : Int)) ∧ V.cell? (ad.add k1) = some (.int .u64 (q : Int))) := fun V hV =>
       ⟨(hV.cell (World.block_lt_of_cell? w1 _ hcp)).trans hcp, (hV.cell (World.block_lt_of_cell? w1 _ hcq)).trans hcq⟩
     obtain ⟨q1, q2⟩ := HC.out wr HW.out
     have KA := Lib.hid (K1.out.up HW.out)
     have KB := Lib.hid (K2.out.up HW.out)
     obtain ⟨x, hx⟩ : ∃ x, has l1 p = x := ⟨_, rfl⟩
     obtain ⟨y, hy⟩ : ∃ y, has l2 p = y := ⟨_, rfl⟩
     have HX := Lib.hid hx
     have HY := Lib.hid hy
     have HCR : Hid (∀ V, Below wr.heap.size wr V → V.cell? (ad.add k) = some (.int .u64 (p : Int))) := fun V hV => (HC.out V (HW.out.trans (hV.mono HW.out.size))).1
     clear hp hq hcp hcq hx hy
     have hkn : k < np := by omega
     have hwk : IntKind.i64.wrap (k1 : Int) = (k1 : Int) := by rw [IntKind.wrap_i64]; omega
     have hwq : IntKind.u64.wrap ((q : Int) - 1) = ((q - 1 : Nat) : Int) := by rw [IntKind.wrap_u64]; omega
     have hkl : k < np - 1 := by omega
     clear hk1 hlt hk
     obtain ⟨o, hoe⟩ : ∃ o, stF l1 l2 how P k = o := ⟨_, rfl⟩
     have ES : Hid (∀ b, inB how x y = b → stF l1 l2 how P (k + 1) = if b = true then addR o p q else o) := by
       intro b hb
       rw [stF_succ, hoe]
       unfold stS
       rw [EP.out, EQ.out, HX.out, HY.out, hb]
     rw [hoe] at HO HM HF
     clear hoe
     go_wp2_with fail
     go_region_held3 (fun V => V.cell? (ad.add k) = some (.int .u64 (p : Int))) (first | go_keep | assumption | exact HCR.out _ (by (repeat (first | exact Below.refl _ _ | assumption | apply bel_drew)))) (first
       | (go_at_call 76; (with_reducible refine (has_later wr _ A1 l1 n1 c1 p x HL1.out KA.out (by omega) hp64 HX.out ?_).mono ?_); (repeat (first | exact Below.refl _ _ | assumption | apply bel_drew)); rintro e V ⟨rfl, bv1⟩; have hcV : V.cell? (ad.add k) = some (.int .u64 (p : Int)) := HCR.out V bv1)
       | (go_at_call 76; (with_reducible refine (has_later wr _ A2 l2 n2 c2 p y HL2.out KB.out (by omega) hp64 HY.out ?_).mono ?_); (repeat (first | exact Below.refl _ _ | assumption | apply bel_drew)); rintro e V ⟨rfl, bv2⟩; have hcV : V.cell? (ad.add k) = some (.int .u64 (p : Int)) := HCR.out V bv2))
     all_goals
       have HV0 : Hid (Below wr.heap.size wr V) := by first | exact bv2 | exact bv1
       have HV : Hid (Below w1.heap.size w1 V) := HW.out.trans (HV0.out.mono HW.out.size)
       have HOV := Lib.hid (own_kept HO.out HV0.out)
       obtain ⟨r1, r2⟩ := HC.out V HV.out
       clear hcV
       try clear bv1
       try clear bv2
       have hh3 : how = 0 ∨ how = 1 ∨ how = 2 := by omega
       rcases hh3 with rfl | rfl | rfl <;> cases x <;> cases y
     all_goals (first
       | (have hin := Lib.hid (ES.out false (by decide))
          rw [if_neg (by decide)] at hin
          have HR := Lib.hid (st_rel (len := np) hkl hin.out HM.out HF.out HOV.out HV.out)
          rw [hk1I] at HR
          clear ES
          go_wp2_with fail
          go_quiet (fail)
          go_wp2
          go_roundw
          case rel => exact st_drewN HR.out _
          case measure => simp [intOf]; omega)
       | skip)
     all_goals
       have hin := Lib.hid (ES.out true (by decide))
       rw [if_pos rfl] at hin
       clear ES
       by_cases hm0 : m = 0
       · subst hm0
         have ho0 : Hid (o = []) := List.eq_nil_of_length_eq_zero HM.out
         rw [ho0.out] at hin HOV HF
         rw [addR_nil] at hin
         go_wp2_with fail
         go_quiet (fail)
         go_wp2_with fail
         go_region_law (first
           | (refine step_append_lies _ rfl (.tmp 85) (.tmp 97) 69 rfl w1.heap.size 68 i0 (.agg #[.int .u64 0, .int .u64 0]) 2 16 Tryz.underlying69 hi0 hz0 hz1 hz2 rfl (by decide) (.slice A 0 c) 0 (rv []) rfl (World.ownsRow.alloc (own_drewS HOV.out nq) _) ⟨V.heap.size, 0, none⟩ 1 1 (rv [(p, q - 1)]) rfl rfl (news_run (V.drewN nq).drew p (q - 1) ((q - 1 : Nat) : Int) rfl) (rv_one _) (by decide) (by simp only [maxLen]; omega) (by omega) (Nat.le_trans HV.out.size (by simp)) _ rfl ?_
              intro g2 cap2 w2 ho2 hg2 hat2 hlt2
              rw [← rv_append] at ho2
              have HO2 := Lib.hid ho2
              have HW2 : Hid (Below w1.heap.size w1 w2) := run_grown (own_drewS HOV.out nq) (low_drewS HV.out nq) hg2
              clear ho2 hg2 hat2 hlt2))
         all_goals
           have HR := Lib.hid (st_rel (len := np) hkl hin.out rfl (fun r hr => by obtain rfl := List.mem_singleton.1 hr; exact ⟨by omega, by omega⟩) HO2.out HW2.out)
           rw [hk1I] at HR
           go_wp2
           go_roundw
           case rel => exact HR.out
           case measure => simp [intOf]; omega
       · obtain ⟨z, hz⟩ : ∃ z, m = z + 1 := ⟨m - 1, by omega⟩
         obtain ⟨g, cap', e1, hgw⟩ := own_shape (w := w1) HOV.out (.inl (by omega))
         cases e1
         subst hz
         obtain ⟨o', lo, hi, ho', hz'⟩ := last_of HM.out
         rw [ho'] at HOV HF HM hin
         rw [addR_last] at hin
         have HZ := Lib.hid hz'
         obtain ⟨b1, b2⟩ := low_last HF.out
         have hcl : V.cell? ⟨g, z * 2 + 1, none⟩ = some (.int .u64 (hi : Int)) := by rw [HOV.out.cellAt (z * 2 + 1) (by omega)]; exact (rv_last o' lo hi z hz').2
         have hfz : V.frozen? ⟨g, z * 2 + 1, none⟩ = false := HOV.out.frozenAt _
         have hwh : IntKind.u64.wrap ((hi : Int) + 1) = (hi : Int) + 1 := by rw [IntKind.wrap_u64]; omega
         have hzi : z < z + 1 := Nat.lt_succ_self z
         have hwz : IntKind.i64.wrap ((z : Int)) = (z : Int) := by rw [IntKind.wrap_i64]; omega
         clear ho' hz' HO hm0
         by_cases ht : hi + 1 = p
         · have hte : ((hi : Int) + 1 == (p : Int)) = true := by rw [beq_iff_eq]; omega
           rw [if_pos ht] at hin
           have HR := Lib.hid (fun n => st_rel (len := np) (m := z + 1) (A := some ⟨g, 0, none⟩) (c := c) (wr := (V.drewN n).setCell ⟨g, z * 2 + 1, none⟩ (.int .u64 ((q - 1 : Nat) : Int))) hkl hin.out (by rw [List.length_append, HZ.out]; rfl) (low_snoc (low_init HF.out) b1 (by omega)) (by rw [← rv_set_last o' lo hi (q - 1) z HZ.out]; exact ((own_drewN HOV.out n).stored (z * 2 + 1) _).1) ((Go.below_drewN HV.out n).setCell hgw _))
           rw [hk1I] at HR
           clear ht
           go_wp2_with fail
           go_quiet (fail)
           go_wp2
           go_roundw
           case rel => exact HR.out _
           case measure => simp [intOf]; omega
         · have hte : ((hi : Int) + 1 == (p : Int)) = false := by rw [beq_eq_false_iff_ne]; omega
           rw [if_neg ht] at hin
           clear ht
           go_wp2_with fail
           go_quiet (fail)
           go_wp2_with fail
           go_region_law (first
             | (refine step_append_lies _ rfl (.tmp 85) (.tmp 97) 69 rfl w1.heap.size 68 i0 (.agg #[.int .u64 0, .int .u64 0]) 2 16 Tryz.underlying69 hi0 hz0 hz1 hz2 rfl (by decide) (.slice (some ⟨g, 0, none⟩) (z + 1) c) (z + 1) (rv (o' ++ [(lo, hi)])) rfl (World.ownsRow.alloc (own_drewS HOV.out nq) _) ⟨V.heap.size, 0, none⟩ 1 1 (rv [(p, q - 1)]) rfl rfl (news_run (V.drewN nq).drew p (q - 1) ((q - 1 : Nat) : Int) rfl) (rv_one _) (by decide) (by simp only [maxLen]; omega) (by omega) (Nat.le_trans HV.out.size (by simp)) _ rfl ?_
                intro g2 cap2 w2 ho2 hg2 hat2 hlt2
                rw [← rv_append] at ho2
                have HO2 := Lib.hid ho2
                have HW2 : Hid (Below w1.heap.size w1 w2) := run_grown (own_drewS HOV.out nq) (low_drewS HV.out nq) hg2
                clear ho2 hg2 hat2 hlt2))
           all_goals
             have HR := Lib.hid (st_rel (len := np) hkl hin.out (by rw [List.length_append, HM.out]; rfl) (low_snoc HF.out (by omega) (by omega)) HO2.out HW2.out)
             rw [hk1I] at HR
             go_wp2
             go_roundw
             case rel => exact HR.out
             case measure => simp [intOf]; omega
   · have e : Hid (setL l1 l2 how = stF l1 l2 how P k) := by show _ = _; rw [HS.out, NP.out]; congr 1; omega
     have hcond : decide ((k : Int) + 1 < (np : Int)) = false := decide_eq_false (by omega)
     have hge : (np : Int) ≤ (k : Int) + 1 := by omega
     go_wp2
     go_ret
     exact ⟨A, m, c, rfl, by rw [e.out]; exact HM.out, by rw [e.out]; exact own_less HO.out W1.out.size, W1.out.trans (HW.out.mono W1.out.size)⟩
end Go.Proofs.YtgaegfddobpomaaGreat.Ru

namespace Go.Proofs.YtgaegfddobpomaaGreat.Ru
open Go.ChangeShapes Go.WideShapes Go.ChangeAt Go.RowKit
set_option linter.unusedVariables false
set_option maxRecDepth 4000
theorem fit_order {l : List Run} (h : InOrder l) : Fit l := fun r hr => by
 have := (may_iff r).1 (h.1 r hr)
 omega
theorem runs_own {w : World} {B n c : Nat} {A : Option Addr} {m : List Run} (h : w.ownsRow B 68 2 (.slice A n c) n (rv m)) (hf : Fit m) : Runs w w.heap.size A m := ⟨hf, lies_any (by decide) h⟩
theorem post_runs {w w' : World} {m : List Run} {e : Ending} (h : RunPost w m e w') (hf : Fit m) : ∃ A n c, e = .returned (.slice A n c) ∧ m.length = n ∧ (A = none → n = 0 ∧ c = 0) ∧ n ≤ c ∧ c ≤ 9223372036854775807 ∧ Runs w' w'.heap.size A m ∧ w'.ownsRow w.heap.size 68 2 (.slice A n c) n (rv m) ∧ Below w.heap.size w w' := by
 obtain ⟨A, n, c, rfl, hn, ho, hb⟩ := h
 obtain ⟨h1, h2, h3⟩ := own_len ho
 exact ⟨A, n, c, rfl, hn, h3, h1, h2, runs_own ho hf, ho, hb⟩
theorem join_any (w : World) (A1 A2 : Option Addr) (l1 l2 : List Run) (n1 n2 c1 c2 : Nat) (hl1 : l1.length = n1) (hl2 : l2.length = n2) (hA1 : A1 = none → n1 = 0 ∧ c1 = 0) (hA2 : A2 = none → n2 = 0 ∧ c2 = 0) (hb1 : Runs w w.heap.size A1 l1) (hb2 : Runs w w.heap.size A2 l2) (h1 : n1 ≤ 262144) (h2 : n2 ≤ 262144) :
   Calls Tryz.prog 116 #[.slice A1 n1 c1, .slice A2 n2 c2] w (RunPost w (setL l1 l2 0)) := by
 have H := Lib.hid (set_any w A1 A2 l1 l2 n1 n2 c1 c2 0 hl1 hl2 hA1 hA2 hb1 hb2 h1 h2 (by decide))
 clear hl1 hl2 hA1 hA2 hb1 hb2
 go_enter Tryz.func116, Tryz.ntmps116
 go_wp2_with fail
 refine H.out.mono ?_
 rintro e w' ⟨A, n, c, rfl, h⟩
 have HH := Lib.hid h
 clear h
 go_wp2
 go_ret
 exact ⟨A, n, c, rfl, HH.out⟩
def normL (l : List Run) : List Run := setL l [] 0
theorem take_more {l m : List Run} {k : Nat} {x : Run} (h : l.take k = m.take k) (h1 : l[k]? = some x) (h2 : m[k]? = some x) : l.take (k + 1) = m.take (k + 1) := by
 rw [List.take_add_one, List.take_add_one, h, h1, h2]
theorem ne_at {l m : List Run} {k : Nat} {x y : Run} (h1 : l[k]? = some x) (h2 : m[k]? = some y) (hn : x ≠ y) : l ≠ m := by
 intro e
 rw [e, h2] at h1
 exact hn (Option.some.inj h1).symm
theorem eq_any (w : World) (B1 B2 : Nat) (A1 A2 : Option Addr) (l1 l2 : List Run) (n1 n2 c1 c2 : Nat) (e1 : l1.length = n1) (e2 : l2.length = n2) (h1 : Runs w B1 A1 l1) (h2 : Runs w B2 A2 l2) (h63 : n1 ≤ 9223372036854775807) :
   Calls Tryz.prog 79 #[.slice A1 n1 c1, .slice A2 n2 c2] w fun e w' => e = .returned (.bool (decide (l1 = l2))) ∧ ∃ m, w' = w.drewN m := by
 have H1 := Lib.hid h1
 have H2 := Lib.hid h2
 have E1 := Lib.hid e1
 have E2 := Lib.hid e2
 clear h1 h2 e1 e2
 by_cases hn : n1 = n2
 · subst hn
   go_enter Tryz.func79, Tryz.ntmps79
   go_wp2
   go_loopw [5] (fun i wr => ∃ k : Nat, k ≤ n1 ∧ i = .int .i64 (k : Int) ∧ l1.take k = l2.take k ∧ ∃ m, wr = w.drewN m) (fun i _ => n1 - (intOf i).toNat)
   case atStart => exact ⟨0, Nat.zero_le _, rfl, by simp, 0, rfl⟩
   case round =>
     obtain ⟨k, hk, rfl, ht, m, rfl⟩ := hrel
     have HT := Lib.hid ht
     clear ht
     by_cases hlt : k < n1
     · obtain ⟨a1, x1, x2, rfl, hlx, hx1, hx2, hc1, hc2⟩ := H1.out.at_ (k := k) (by rw [E1.out]; exact hlt)
       obtain ⟨a2, y1, y2, rfl, hly, hy1, hy2, hd1, hd2⟩ := H2.out.at_ (k := k) (by rw [E2.out]; exact hlt)
       have hc3 : w.cell? ⟨(a1.add (k * 2)).block, (a1.add (k * 2)).off + 1, none⟩ = some (.int .u64 (x2 : Int)) := by rw [add_next]; exact hc2
       have hd3 : w.cell? ⟨(a2.add (k * 2)).block, (a2.add (k * 2)).off + 1, none⟩ = some (.int .u64 (y2 : Int)) := by rw [add_next]; exact hd2
       have LX := Lib.hid hlx
       have LY := Lib.hid hly
       clear hlx hly hc2 hd2
       by_cases hxy : x1 = y1 ∧ x2 = y2
       · obtain ⟨rfl, rfl⟩ := hxy
         have hs := Lib.hid (take_more HT.out LX.out LY.out)
         go_wp2_with fail
         go_quiet (fail)
         go_wp2
         go_roundw
         case rel => exact ⟨k + 1, by omega, by go_num, hs.out, _, rfl⟩
         case measure => simp [intOf]; omega
       · have hd : Hid (decide (l1 = l2) = false) := decide_eq_false (ne_at LX.out LY.out (fun e => hxy (by cases e; exact ⟨rfl, rfl⟩)))
         by_cases hx : x1 = y1
         · subst hx
           have hx2' : ¬ x2 = y2 := fun e => hxy ⟨rfl, e⟩
           have hb2 : ((x2 : Int) == (y2 : Int)) = false := by rw [beq_eq_false_iff_ne]; omega
           clear hxy
           go_wp2_with fail
           go_quiet (fail)
           go_wp2
           go_ret
           exact ⟨ret_bool hd.out.symm, _, World.drewN_drewN ..⟩
         · have hb2 : ((x1 : Int) == (y1 : Int)) = false := by rw [beq_eq_false_iff_ne]; omega
           clear hxy
           go_wp2_with fail
           go_quiet (fail)
           go_wp2
           go_ret
           exact ⟨ret_bool hd.out.symm, _, World.drewN_drewN ..⟩
     · obtain rfl : k = n1 := by omega
       have hd : Hid (l1 = l2) := by
         have h := HT.out
         rw [List.take_of_length_le (by rw [E1.out]; exact Nat.le_refl _), List.take_of_length_le (by rw [E2.out]; exact Nat.le_refl _)] at h
         exact h
       go_wp2
       go_ret
       exact ⟨ret_bool (by rw [decide_eq_true hd.out]), m, rfl⟩
 · have hd : Hid (decide (l1 = l2) = false) := decide_eq_false (fun e => hn (by rw [← E1.out, ← E2.out, e]))
   have hne : ((n1 : Int) != (n2 : Int)) = true := by rw [bne_iff_ne]; omega
   go_enter Tryz.func79, Tryz.ntmps79
   go_wp2
   go_ret
   exact ⟨ret_bool hd.out.symm, 0, rfl⟩
end Go.Proofs.YtgaegfddobpomaaGreat.Ru

namespace Go.Proofs.YtgaegfddobpomaaGreat.Dt
end Go.Proofs.YtgaegfddobpomaaGreat.Dt

namespace Go.Proofs.YtgaegfddobpomaaGreat.Kl
open Go.ChangeShapes Go.WideShapes Go.ChangeAt Go.RowKit
set_option linter.unusedVariables false
set_option maxRecDepth 4000
theorem set_size (w : World) (a : Addr) (u : Value) : (w.setCell a u).heap.size = w.heap.size := by simp [World.setCell]
theorem lies_set {w : World} {A : Option Addr} {vs : List Value} {g : Nat} (h : Dt.Lies w w.heap.size A vs) (hf : 0 < vs.length → ∀ ad : Addr, A = some ad → ad.block ≠ g) (i : Nat) (u : Value) : Dt.Lies (w.setCell ⟨g, i, none⟩ u) (w.setCell ⟨g, i, none⟩ u).heap.size A vs := fun hl => by
 obtain ⟨ad, e, hb, hc⟩ := h hl
 refine ⟨ad, e, by rw [set_size]; exact hb, fun j v hv => ?_⟩
 rw [World.cell?_of_block (w := w) (Below.heap_setCell w ⟨g, i, none⟩ u (ad.add j).block (fun e2 => hf hl ad e (by rw [Dt.block_add] at e2; exact e2)))]
 exact hc j v hv
theorem dots_set {w : World} {A : Option Addr} {l : List Dt.Dot} {n c g : Nat} (h : Ev.DotsAt w w.heap.size A l n c) (hf : 0 < n → ∀ ad : Addr, A = some ad → ad.block ≠ g) (i : Nat) (u : Value) : Ev.DotsAt (w.setCell ⟨g, i, none⟩ u) (w.setCell ⟨g, i, none⟩ u).heap.size A l n c :=
 ⟨h.len, h.nil, h.cap, h.max, h.wide, h.dots.1, lies_set h.dots.2 (fun hl => hf (by rw [Dt.dv_length] at hl; have := h.len; omega)) i u⟩
structure FarE (B : Nat) (w : World) (A : Option Addr) (l : List Ev.Evt) (n c : Nat) : Prop where
 at_ : Ev.EventsAt w w.heap.size A l n c
 far : ∃ ps, Dt.Lies w w.heap.size A (Ev.ev ps) ∧ Ev.Match w w.heap.size ps l ∧ (∀ p ∈ ps, 0 < p.len → ∀ ad : Addr, p.adr = some ad → B ≤ ad.block) ∧ (0 < n → ∀ ad : Addr, A = some ad → B ≤ ad.block)
def EvFar (w : World) (l : List Ev.Evt) (e : Ending) (w' : World) : Prop := ∃ A n c, e = .returned (.slice A n c) ∧ FarE w.heap.size w' A l n c ∧ Below w.heap.size w w'
theorem EvFar.post {w w' : World} {l : List Ev.Evt} {e : Ending} (h : EvFar w l e w') : Ev.EvPost w l e w' := by
 obtain ⟨A, n, c, h1, h2, h3⟩ := h
 exact ⟨A, n, c, h1, h2.at_, h3⟩
def DotsFar (w : World) (l : List Dt.Dot) (e : Ending) (w' : World) : Prop := ∃ A n c, e = .returned (.slice A n c) ∧ Ev.DotsAt w' w'.heap.size A l n c ∧ (0 < n → ∀ ad : Addr, A = some ad → w.heap.size ≤ ad.block) ∧ Below w.heap.size w w'
theorem DotsFar.post {w w' : World} {l : List Dt.Dot} {e : Ending} (h : DotsFar w l e w') : Ev.DPost w l e w' := by
 obtain ⟨A, n, c, h1, h2, _, h3⟩ := h
 exact ⟨A, n, c, h1, h2, h3⟩
end Go.Proofs.YtgaegfddobpomaaGreat.Kl

namespace Go.Proofs.YtgaegfddobpomaaGreat.Ev
open Go.ChangeShapes Go.WideShapes Go.ChangeAt Go.RowKit
set_option linter.unusedVariables false
set_option maxRecDepth 4000
end Go.Proofs.YtgaegfddobpomaaGreat.Ev
namespace Go.Proofs.YtgaegfddobpomaaGreat.Kl
open Go.ChangeShapes Go.WideShapes Go.ChangeAt Go.RowKit
end Go.Proofs.YtgaegfddobpomaaGreat.Kl

namespace Go.Proofs.YtgaegfddobpomaaGreat.Ev
open Go.ChangeShapes Go.WideShapes Go.ChangeAt Go.RowKit Go.Deep Go.Joins
set_option linter.unusedVariables false
set_option maxRecDepth 4000
theorem own : ownKnob Tryz.prog.godebug = none := by kernel_rfl
theorem laidOut : laidOutB Tryz.prog = true := by kernel_rfl
theorem cells16 : Tryz.prog.cellsOf 32 = 1 := by kernel_rfl
theorem cells64 : Tryz.prog.cellsOf 33 = 1 := by kernel_rfl
theorem cellsD : Tryz.prog.cellsOf 35 = 2 := by kernel_rfl
theorem cellsE : Tryz.prog.cellsOf 38 = 7 := by kernel_rfl
theorem bytesD : Tryz.prog.bytesOf 35 = 16 := by kernel_rfl
theorem bytesE : Tryz.prog.bytesOf 38 = 80 := by kernel_rfl
theorem wf_u64 {n : Int} (h : (Lit.int .u64 n).wf = true) : ∃ s : Nat, n = (s : Int) ∧ s < 18446744073709551616 := by
 simp [Lit.wf, IntKind.min, IntKind.max, IntKind.bits, IntKind.signed] at h
 exact ⟨n.toNat, by omega, by omega⟩
theorem wf_u16 {n : Int} (h : (Lit.int .u16 n).wf = true) : ∃ s : Nat, n = (s : Int) ∧ s < 65536 := by
 simp [Lit.wf, IntKind.min, IntKind.max, IntKind.bits, IntKind.signed] at h
 exact ⟨n.toNat, by omega, by omega⟩
theorem wf_u8 {n : Int} (h : (Lit.int .u8 n).wf = true) : ∃ s : Nat, n = (s : Int) ∧ s < 256 := by
 simp [Lit.wf, IntKind.min, IntKind.max, IntKind.bits, IntKind.signed] at h
 exact ⟨n.toNat, by omega, by omega⟩
def Held {H : Type} (t : TypeId) (d : DataW H) : Prop := ∀ n ∈ d.weights Tryz.prog t, n ≤ reachBytes
theorem weights_all {H : Type} {P : Program} {e : TypeId} {l : List (DataW H)} {d : DataW H} (h : d ∈ l) : ∀ n ∈ d.weights P e, n ∈ DataW.weightsAll P e l := by
 induction l with
 | nil => cases h
 | cons x l ih =>
   intro n hn
   simp only [DataW.weightsAll, List.mem_append]
   rcases List.mem_cons.1 h with rfl | h
   · exact Or.inl hn
   · exact Or.inr (ih h n hn)
theorem Held.elem {H : Type} {t e : TypeId} {elems spare : List (DataW H)} (h : Held t (.slice elems spare)) (hu : Tryz.prog.underlying t = some (.slice e)) {d : DataW H} (hd : d ∈ elems) : Held e d := fun n hn =>
 h n (by simp only [DataW.weights, hu, List.mem_cons, List.mem_append]; exact Or.inr (Or.inl (weights_all hd n hn)))
theorem Held.length {H : Type} {t e : TypeId} {elems spare : List (DataW H)} (h : Held t (.slice elems spare)) (hu : Tryz.prog.underlying t = some (.slice e)) : (elems.length + spare.length) * Tryz.prog.bytesOf e ≤ reachBytes :=
 h _ (by simp [DataW.weights, hu])
theorem Held.part {H : Type} {t t' : TypeId} {fs : Array Field} {parts : List (DataW H)} (h : Held t (.agg parts)) (hu : Tryz.prog.underlying t = some (.struct fs)) {j : Nat} {d : DataW H} (ht : (fs.toList.map (·.type))[j]? = some t') (hd : parts[j]? = some d) : Held t' d := fun n hn =>
 h n (by simp only [DataW.weights, hu]; exact DataW.weights_mem_each ht hd n hn)
theorem list_of {α : Type} {Q : Nat → α → Prop} (n : Nat) (h : ∀ i, i < n → ∃ t, Q i t) : ∃ L : List α, L.length = n ∧ ∀ (i : Nat) (t : α), L[i]? = some t → Q i t := by
 induction n with
 | zero => exact ⟨[], rfl, fun i t hi => by simp at hi⟩
 | succ n ih =>
   obtain ⟨L, hL, hQ⟩ := ih (fun i hi => h i (by omega))
   obtain ⟨t, ht⟩ := h n (by omega)
   refine ⟨L ++ [t], by simp [hL], fun i u hu => ?_⟩
   rcases Nat.lt_or_ge i n with hi | hi
   · rw [List.getElem?_append_left (by omega)] at hu
     exact hQ i u hu
   · rw [List.getElem?_append_right (by omega), hL] at hu
     have e : i = n := by
       rcases Nat.eq_or_lt_of_le hi with e | e
       · exact e.symm
       · rw [List.getElem?_eq_none (by simp; omega)] at hu; cases hu
     subst e
     simp at hu
     subst hu
     exact ht
theorem lies_dots {w : World} {B : Nat} {ad : Addr} (hB : ad.block < B) (L : List Dt.Dot) (h : ∀ (i : Nat) (r : Dt.Dot), L[i]? = some r → w.cell? (ad.add (i * 2)) = some (.int .u16 (r.1 : Int)) ∧ w.cell? (ad.add (i * 2 + 1)) = some (.int .u64 (r.2 : Int))) : Dt.Lies w B (some ad) (Dt.dv L) := fun _ => by
 refine ⟨ad, rfl, hB, fun j u hu => ?_⟩
 have hj : j < (Dt.dv L).length := (List.getElem?_eq_some_iff.1 hu).1
 rw [Dt.dv_length] at hj
 have hd : j / 2 < L.length := by omega
 have hg := List.getElem?_eq_getElem hd
 obtain ⟨g1, g2⟩ := Dt.dv_get hg
 obtain ⟨c1, c2⟩ := h _ _ hg
 rcases Nat.mod_two_eq_zero_or_one j with h0 | h0
 · have e : j = j / 2 * 2 := by omega
   rw [e] at hu ⊢
   rw [g1] at hu
   cases hu
   exact c1
 · have e : j = j / 2 * 2 + 1 := by omega
   generalize hz : j / 2 = z at *
   subst e
   rw [g2] at hu
   cases hu
   exact c2
theorem dots_cell {H : Type} {enc : TypeId × Value → H} {W : World} {fuel : Nat} {v : Value} {d : DataW H} {p : List MemPlace} (h : DataW.trod enc Tryz.prog W 0 (fun _ => true) true fuel 36 [v] = some (d, p)) (hz : Held 36 d) :
   ∃ (A : Option Addr) (n c : Nat) (l : List Dt.Dot), v = .slice A n c ∧ DotsAt W W.heap.size A l n c ∧ n ≤ 8796093021952 := by
 rcases open_slice_pairs Tryz.underlying36 Tryz.underlying35 cellsD rfl rfl cells16 cells64 h with ⟨hcs, _⟩ | ⟨x, n0, c0, m, f0, V0, V1, D0, D1, P0, P1, hcs, hb, hl, hm, hmm, hx, hi⟩
 · obtain rfl := (List.cons.inj hcs).1
   exact ⟨none, 0, 0, [], rfl, DotsAt.none_ _ _, by decide⟩
 · obtain rfl := (List.cons.inj hcs).1
   unfold maxLen at hm
   have hmc : m = c0 := by simpa using hmm
   obtain rfl := (Prod.mk.inj hx).1
   have hw := hz.length Tryz.underlying36
   rw [bytesD] at hw
   simp only [List.length_map, List.length_range, reachBytes] at hw
   have each : ∀ i, i < n0 → ∃ r : Dt.Dot, (r.1 < 65536 ∧ r.2 < 18446744073709551616) ∧ W.cell? (x.add (i * 2)) = some (.int .u16 (r.1 : Int)) ∧ W.cell? (x.add (i * 2 + 1)) = some (.int .u64 (r.2 : Int)) := by
     intro i hil
     obtain ⟨h0, h1, t0, t1⟩ := hi i (by omega)
     obtain ⟨z0, e0, _, w0⟩ := DataW.trod_int Tryz.underlying32 t0
     obtain ⟨z1, e1, _, w1⟩ := DataW.trod_int Tryz.underlying33 t1
     obtain ⟨s0, rfl, hs0⟩ := wf_u16 w0
     obtain ⟨s1, rfl, hs1⟩ := wf_u64 w1
     rw [(List.cons.inj e0).1] at h0
     rw [(List.cons.inj e1).1] at h1
     exact ⟨(s0, s1), ⟨hs0, hs1⟩, h0, h1⟩
   obtain ⟨L, hL, hQ⟩ := list_of n0 each
   refine ⟨some x, n0, c0, L, rfl, ⟨hL, (fun e => by cases e), hl, by omega, by omega, fun r hr => ?_, ?_⟩, by omega⟩
   · obtain ⟨i, hi', rfl⟩ := List.getElem_of_mem hr
     exact (hQ i _ (List.getElem?_eq_getElem hi')).1
   · rcases Nat.eq_zero_or_pos L.length with h0 | h0
     · rw [List.eq_nil_of_length_eq_zero h0]; exact Dt.Lies.none_ _ _ _
     · refine lies_dots ?_ L (fun i r hr => (hQ i r hr).2)
       have h1 := (hQ 0 _ (List.getElem?_eq_getElem h0)).2.1
       have h2 := World.block_lt_of_cell? W _ h1
       rwa [block_add] at h2
theorem evt_cells {H : Type} {enc : TypeId × Value → H} {W : World} {fuel : Nat} {cs : List Value} {d : DataW H} {p : List MemPlace} (h : DataW.trod enc Tryz.prog W 0 (fun _ => true) true fuel 38 cs = some (d, p)) (hz : Held 38 d) :
   ∃ (q : EV) (x : Evt), cs = q.cells ∧ EventIs W W.heap.size q x ∧ q.len ≤ 8796093021952 := by
 obtain ⟨xs, f1, _, hxy, hlen, hxl, hfd⟩ := DataW.trod_struct Tryz.underlying38 h
 rw [cellsE] at hlen
 match xs, hxl, cs, hlen with
 | [y0, y1, y2, y3, y4, y5], _, [u0, u1, u2, u3, u4, u5, u6], _ =>
   have g0 := hfd 0 _ rfl
   have g1 := hfd 1 _ rfl
   have g2 := hfd 2 _ rfl
   have g3 := hfd 3 _ rfl
   have g4 := hfd 4 _ rfl
   have g5 := hfd 5 _ rfl
   simp only [List.getElem?_cons_zero, List.getElem?_cons_succ] at g0 g1 g2 g3 g4 g5
   have hD : d = .agg ([y0, y1, y2, y3, y4, y5].map (·.1)) := congrArg Prod.fst hxy
   subst hD
   obtain ⟨zs, f2, _, hzy, _, hzl, hfz⟩ := DataW.trod_struct Tryz.underlying35 g0
   match zs, hzl with
   | [z0, z1], _ =>
     have k0 := hfz 0 _ rfl
     have k1 := hfz 1 _ rfl
     simp only [List.getElem?_cons_zero, List.getElem?_cons_succ] at k0 k1
     obtain ⟨i0, e0, _, w0⟩ := DataW.trod_int Tryz.underlying32 k0
     obtain ⟨i1, e1, _, w1⟩ := DataW.trod_int Tryz.underlying33 k1
     obtain ⟨i2, e2, _, w2⟩ := DataW.trod_int Tryz.underlying5 g1
     obtain ⟨i3, e3, _, w3⟩ := DataW.trod_int Tryz.underlying33 g2
     obtain ⟨i4, e4, _, w4⟩ := DataW.trod_int Tryz.underlying5 g3
     obtain ⟨s, e5, hs1, _⟩ := DataW.trod_string Tryz.underlying9 g4
     obtain ⟨y51, y52⟩ := y5
     have g5' : DataW.trod enc Tryz.prog W 0 (fun _ => true) true f1 36 [u6] = some (y51, y52) := g5
     obtain ⟨A, n, c, l, e6, hT, hn⟩ := dots_cell g5' (hz.part (j := 5) Tryz.underlying38 rfl rfl)
     have hst : Held 9 y4.1 := hz.part (j := 4) Tryz.underlying38 rfl rfl
     rw [hs1] at hst
     have hsl := hst s.data.toList.length (by simp [DataW.weights])
     obtain rfl := (List.cons.inj e0).1
     obtain rfl := (List.cons.inj e1).1
     obtain rfl := (List.cons.inj e2).1
     obtain rfl := (List.cons.inj e3).1
     obtain rfl := (List.cons.inj e4).1
     obtain rfl := (List.cons.inj e5).1
     subst e6
     obtain ⟨s0, rfl, hs0⟩ := wf_u16 w0
     obtain ⟨s1, rfl, hs1⟩ := wf_u64 w1
     obtain ⟨s2, rfl, hs2⟩ := wf_u8 w2
     obtain ⟨s3, rfl, hs3⟩ := wf_u64 w3
     obtain ⟨s4, rfl, hs4⟩ := wf_u8 w4
     refine ⟨⟨s0, s1, s2, s3, s4, s, A, n, c⟩, ⟨(s0, s1), s2, s3, s4, s, l⟩, rfl, ⟨rfl, rfl, rfl, rfl, rfl, rfl, ⟨⟨hs0, hs1⟩, hs2, hs3, hs4, ?_⟩, hT⟩, hn⟩
     unfold Short
     simp only [reachBytes, Array.length_toList] at hsl
     have e : s.data.size = s.size := rfl
     show s.size ≤ 140737488355328
     omega
theorem evts_of {H : Type} {enc : TypeId × Value → H} {W : World} {A : Option Addr} {n c : Nat} {d : DataW H} {p : List MemPlace} (h : DataW.Trod enc Tryz.prog W 0 (fun _ => true) true 29 (.slice A n c) d p) (hz : Held 29 d) :
   ∃ l : List Evt, EventsAt W W.heap.size A l n c := by
 obtain ⟨fuel, hf⟩ := h
 rcases open_slice Tryz.underlying29 hf with ⟨hcs, _⟩ | ⟨x, n0, c0, m, f0, D, Pl, hcs, hb, hl, hm, hmm, hx, hi⟩
 · simp [Value.cells] at hcs
   obtain ⟨rfl, rfl, rfl⟩ := hcs
   exact ⟨[], EventsAt.none_ _ _⟩
 · simp [Value.cells] at hcs
   obtain ⟨rfl, rfl, rfl⟩ := hcs
   unfold maxLen at hm
   have hmc : m = c := by simpa using hmm
   obtain rfl := (Prod.mk.inj hx).1
   have hw := hz.length Tryz.underlying29
   rw [bytesE] at hw
   simp only [List.length_map, List.length_range, reachBytes] at hw
   have each : ∀ i, i < n → ∃ r : EV × Evt, EventIs W W.heap.size r.1 r.2 ∧ ∀ j (hj : j < r.1.cells.length), W.cell? (x.add (i * 7 + j)) = some r.1.cells[j] := by
     intro i hil
     obtain ⟨cs', k1, k2⟩ := hi i (by omega)
     rw [cellsE] at k1
     obtain ⟨_, hlen, hcell⟩ := World.cells?_some k1
     have hh : Held 38 (D i) := hz.elem Tryz.underlying29 (List.mem_map.2 ⟨i, List.mem_range.2 hil, rfl⟩)
     obtain ⟨q, y, rfl, hq, _⟩ := evt_cells k2 hh
     refine ⟨(q, y), hq, fun j hj => ?_⟩
     have := hcell j hj
     rw [add_add] at this
     rw [this]
     exact List.getElem?_eq_getElem hj
   obtain ⟨L, hL, hQ⟩ := list_of n each
   refine ⟨L.map (fun r => r.2), ⟨by rw [List.length_map, hL], (fun e => by cases e), hl, by omega, by omega, L.map (fun r => r.1), fun h0 => ?_, by rw [List.length_map, List.length_map], ?_⟩⟩
   · rw [ev_length, List.length_map] at h0
     have h1 := (hQ 0 _ (List.getElem?_eq_getElem (show 0 < L.length by omega))).2 0 (show 0 < 7 by decide)
     have h2 := World.block_lt_of_cell? W _ h1
     rw [block_add] at h2
     refine ⟨x, rfl, h2, fun j u hu => ?_⟩
     have hj : j < L.length * 7 := by have := (List.getElem?_eq_some_iff.1 hu).1; rwa [ev_length, List.length_map] at this
     have hk : j / 7 < L.length := by omega
     have hg : (L.map (fun r => r.1))[j / 7]? = some (L[j / 7]).1 := by simp [hk]
     have hv := ev_get hg (j % 7) (by omega)
     rw [show j / 7 * 7 + j % 7 = j by omega, hu] at hv
     have hc := (hQ (j / 7) _ (List.getElem?_eq_getElem hk)).2 (j % 7) (show j % 7 < 7 by omega)
     rw [show j / 7 * 7 + j % 7 = j by omega] at hc
     rw [hc, ← List.getElem?_eq_getElem, ← hv]
   · intro k q y hq hy
     rw [List.getElem?_map] at hq hy
     obtain ⟨r, hr, rfl⟩ := Option.map_eq_some_iff.1 hq
     rw [hr] at hy
     cases hy
     exact (hQ k r hr).1
end Go.Proofs.YtgaegfddobpomaaGreat.Ev

namespace Go.Proofs.YtgaegfddobpomaaGreat.Kl
open Go.ChangeShapes Go.WideShapes Go.ChangeAt Go.RowKit Go.Maps
set_option linter.unusedVariables false
set_option maxRecDepth 4000
theorem laidOutP : laidOutB Tryz.prog = true := by kernel_rfl
theorem rowDot : (35 : TypeId) < Tryz.prog.types.size := of_decide_eq_true (by kernel_rfl)
theorem keyTypeDot : Tryz.prog.keyType 35 = true := by kernel_rfl
theorem lawD : Keyed Tryz.prog 35 := Keyed.of_law (deep_law_laid laidOutP (m := 2) (by omega) rowDot (by kernel_rfl) (by kernel_rfl))
def dval (d : Dt.Dot) : Value := .agg #[.int .u16 (d.1 : Int), .int .u64 (d.2 : Int)]
def keyD (d : Dt.Dot) : Lit := .string (keyBytes [.int .u16 (d.1 : Int), .int .u64 (d.2 : Int)])
theorem wf16' {d : Nat} (h : d < 65536) : (Lit.int .u16 (d : Int)).wf = true := by
 simp [Lit.wf, IntKind.min, IntKind.max, IntKind.bits, IntKind.signed]; omega
theorem wf64' {n : Nat} (h : n < 18446744073709551616) : (Lit.int .u64 (n : Int)).wf = true := by
 simp [Lit.wf, IntKind.min, IntKind.max, IntKind.bits, IntKind.signed]; omega
theorem sizeTypes : ∃ m, Tryz.prog.types.size = m + 1 := ⟨_, (by kernel_rfl : Tryz.prog.types.size = (Tryz.prog.types.size - 1) + 1)⟩
theorem lits16 (m : Nat) {d : Nat} (h : d < 65536) : Tryz.prog.keyLits (m + 1) 32 [.int .u16 (d : Int)] = some [.int .u16 (d : Int)] := by
 unfold Program.keyLits
 simp only [Tryz.underlying32, wf16' h, and_self, if_true]
theorem lits64 (m : Nat) {d : Nat} (h : d < 18446744073709551616) : Tryz.prog.keyLits (m + 1) 33 [.int .u64 (d : Int)] = some [.int .u64 (d : Int)] := by
 unfold Program.keyLits
 simp only [Tryz.underlying33, wf64' h, and_self, if_true]
theorem cellsDot : Tryz.prog.cellsOf 35 = 2 := by kernel_rfl
theorem cells16 : Tryz.prog.cellsOf 32 = 1 := by kernel_rfl
theorem cells64 : Tryz.prog.cellsOf 33 = 1 := by kernel_rfl
theorem litsDot (m : Nat) {d : Dt.Dot} (h : d.1 < 65536 ∧ d.2 < 18446744073709551616) : Tryz.prog.keyLits (m + 1 + 1) 35 [.int .u16 (d.1 : Int), .int .u64 (d.2 : Int)] = some [.int .u16 (d.1 : Int), .int .u64 (d.2 : Int)] := by
 have h1 := lits16 m h.1
 have h2 := lits64 m h.2
 unfold Program.keyLits
 simp only [Tryz.underlying35, cellsDot]
 simp [cells16, cells64, h1, h2]
theorem formedDot (d : Dt.Dot) : (dval d).formed Tryz.prog 35 = true := by
 unfold dval Value.formed
 simp only [Tryz.underlying35, cellsDot]
 rfl
theorem keyD_is {d : Dt.Dot} (h : d.1 < 65536 ∧ d.2 < 18446744073709551616) : keyOf Tryz.prog 35 (dval d) = some (keyD d) := by
 obtain ⟨m, hm⟩ := sizeTypes
 have h1 := litsDot m h
 rw [← hm] at h1
 unfold keyOf
 simp only [Tryz.underlying35]
 rw [if_pos (by rw [keyTypeDot, formedDot]; rfl), show (dval d).cells.toList = [.int .u16 (d.1 : Int), .int .u64 (d.2 : Int)] from rfl, h1]
 rfl
theorem keyD_lit (d : Dt.Dot) : WideAt.IsKeyLit (keyD d) := trivial
theorem keyD_inj {d e : Dt.Dot} (hd : d.1 < 65536 ∧ d.2 < 18446744073709551616) (he : e.1 < 65536 ∧ e.2 < 18446744073709551616) (h : keyD d = keyD e) : d = e := by
 have h1 := lawD.inj (keyD_is hd) (by rw [h]; exact keyD_is he)
 obtain ⟨a, b⟩ := d
 obtain ⟨a', b'⟩ := e
 simp only [dval, Value.agg.injEq] at h1
 injection h1 with h1
 simp only [List.cons.injEq, Value.int.injEq, true_and, and_true] at h1
 obtain ⟨h2, h3⟩ := h1
 have : a = a' := by omega
 have : b = b' := by omega
 subst_vars
 rfl
abbrev boolL (b : Bool) : DataW Unit := .lit (.bool b)
theorem zeroB (w : World) : (zeroValue 4).run Tryz.prog w = .ok (.bool false) w := by kernel_rfl
theorem elem_inv {v : Value} {z : DataW Unit × List MemPlace} (h : plainElem Tryz.prog 4 v = some z) : ∃ b, v = .bool b ∧ z = (boolL b, []) := by
 unfold plainElem at h
 rw [Tryz.underlying4] at h
 cases v <;> simp at h
 exact ⟨_, rfl, h.symm⟩
def HoldsD (D : DataW Unit) (s : Dt.Dot → Bool) : Prop := ∀ d : Dt.Dot, d.1 < 65536 ∧ d.2 < 18446744073709551616 → D.atKey (keyD d) (boolL false) = boolL (s d)
def MapD (w : World) (b n : Nat) (s : Dt.Dot → Bool) : Prop := ∃ D : DataW Unit, w.ownsMap Tryz.prog 35 (plainElem Tryz.prog 4) b n D ∧ HoldsD D s
theorem MapD.lt {w : World} {b n : Nat} {s : Dt.Dot → Bool} (h : MapD w b n s) : b < w.heap.size := by
 obtain ⟨D, h1, _⟩ := h
 exact h1.lt
theorem MapD.up {w W : World} {b n : Nat} {s : Dt.Dot → Bool} (h : MapD w b n s) (hW : Below w.heap.size w W) : MapD W b n s := by
 have hlt := h.lt
 obtain ⟨D, ⟨es, clock, h1, h2⟩, h3⟩ := h
 exact ⟨D, ⟨es, clock, (hW.block b hlt).trans h1, h2⟩, h3⟩
theorem MapD.kept {w W : World} {b n : Nat} {s : Dt.Dot → Bool} {row : Option Nat} (h : MapD w b n s) (hg : w.grownBy W row) (hne : some b ≠ row) : MapD W b n s := by
 obtain ⟨D, h1, h2⟩ := h
 exact ⟨D, h1.kept hg hne, h2⟩
theorem mapD_new (w : World) : MapD (w.alloc (.map #[] 0)) w.heap.size 0 (fun _ => false) := ⟨.map [], World.ownsMap_made _ _ _ _, fun _ _ => rfl⟩
theorem MapD.look {w : World} {b n : Nat} {s : Dt.Dot → Bool} (h : MapD w b n s) {d : Dt.Dot} (hd : d.1 < 65536 ∧ d.2 < 18446744073709551616) : (Instr.lookup 162 (.map (some b)) (.agg #[.int .u16 (d.1 : Int), .int .u64 (d.2 : Int)]) false).run Tryz.prog w = .ok (.bool (s d)) w := by
 obtain ⟨D, h1, h2⟩ := h
 obtain ⟨v, ps, hrun, hv⟩ := h1.lookup lawD Tryz.underlying162 (zeroB _) (plainElem_bool Tryz.underlying4 false) (keyD_is hd)
 rw [h2 d hd] at hv
 obtain ⟨c, rfl, hc⟩ := elem_inv hv
 have e : boolL (s d) = boolL c := congrArg Prod.fst hc
 injection e with e
 injection e with e
 rw [e]
 exact hrun
theorem wpList_putD {ops : Array Oper} {rest : List Oper} {o : Oper} {a : Act} {w : World} {Q : Exit → Act → World → Prop} (hg : o.guard = none) (m x v : Operand) (hop : o.op = Op.mapUpdate 162 m x v)
   (b n : Nat) (s : Dt.Dot → Bool) (d : Dt.Dot) (hm : a.eval m = .map (some b)) (h : MapD w b n s) (hn : n ≤ 8796093022208) (hd : d.1 < 65536 ∧ d.2 < 18446744073709551616) (hx : a.eval x = .agg #[.int .u16 (d.1 : Int), .int .u64 (d.2 : Int)]) (hv : a.eval v = .bool true)
   (hK : ∀ w', MapD w' b (n + 1) (fun e => decide (e = d) || s e) → w.grownBy w' (some b) → wpList Tryz.prog ops Q rest (a.put o.dst undef) w') : wpList Tryz.prog ops Q (o :: rest) a w := by
 obtain ⟨D, h1, h2⟩ := h
 exact wpList_mapUpdate_own w hg m x v 162 hop 35 4 lawD Tryz.underlying162 _ b n D hm h1 (by unfold maxLen; omega) _ _ _ hx hv (keyD_is hd) (boolL true) [] (plainElem_bool Tryz.underlying4 true) fun w' h4 h5 =>
   hK w' ⟨_, h4, fun e he => by
     by_cases hed : e = d
     · subst hed
       rw [Maps.atKey_put_same h1.isMap (keyD_lit _)]
       simp
     · rw [Maps.atKey_put_other (fun h => hed (keyD_inj he hd h)), h2 e he]
       simp [hed]⟩ h5
end Go.Proofs.YtgaegfddobpomaaGreat.Kl

namespace Go.Proofs.YtgaegfddobpomaaGreat.Bk
open Go.ChangeShapes Go.WideShapes Go.ChangeAt Go.RowKit Go.Maps
set_option linter.unusedVariables false
set_option maxRecDepth 4000
abbrev dotV (p : Ev.EV) : Dt.Dot := (p.dev, p.num)
def FitD (d : Dt.Dot) : Prop := d.1 < 65536 ∧ d.2 < 18446744073709551616
theorem val_inj {p q : Ev.EV} (h : p.val = q.val) : p = q := by
 obtain ⟨a1, a2, a3, a4, a5, a6, a7, a8, a9⟩ := p
 obtain ⟨b1, b2, b3, b4, b5, b6, b7, b8, b9⟩ := q
 simp only [Ev.EV.val, Value.agg.injEq] at h
 injection h with h
 simp only [List.cons.injEq, Value.int.injEq, Value.string.injEq, Value.slice.injEq, true_and, and_true] at h
 obtain ⟨h1, h2, h3, h4, h5, h6, h7, h8, h9⟩ := h
 have e1 : a1 = b1 := by omega
 have e2 : a2 = b2 := by omega
 have e3 : a3 = b3 := by omega
 have e4 : a4 = b4 := by omega
 have e5 : a5 = b5 := by omega
 have e8 : a8 = b8 := by omega
 have e9 : a9 = b9 := by omega
 rw [e1, e2, e3, e4, e5, h6, h7, e8, e9]
open Classical in
noncomputable def elemE (v : Value) : Option (DataW Ev.EV × List MemPlace) := if h : ∃ p : Ev.EV, v = p.val then some (.held h.choose, []) else none
theorem elemE_val (p : Ev.EV) : elemE p.val = some (.held p, []) := by
 have h : ∃ q : Ev.EV, p.val = q.val := ⟨p, rfl⟩
 unfold elemE
 rw [dif_pos h, val_inj h.choose_spec.symm]
theorem elemE_inv {v : Value} {z : DataW Ev.EV × List MemPlace} (h : elemE v = some z) : ∃ p : Ev.EV, v = p.val ∧ z = (.held p, []) := by
 unfold elemE at h
 split at h
 · rename_i h2
   exact ⟨_, h2.choose_spec, (Option.some.inj h).symm⟩
 · cases h
structure HoldsE (D : DataW Ev.EV) (L : List Ev.EV) : Prop where
 fit : ∀ p ∈ L, FitD (dotV p)
 apart : L.Pairwise (fun p q => dotV p ≠ dotV q)
 has : ∀ kl, Maps.has D kl = true ↔ ∃ p ∈ L, kl = Kl.keyD (dotV p)
 at_ : ∀ p ∈ L, ∀ zd, D.atKey (Kl.keyD (dotV p)) zd = .held p
theorem HoldsE.perm {D : DataW Ev.EV} {L M : List Ev.EV} (h : HoldsE D L) (hp : L.Perm M) : HoldsE D M :=
 ⟨fun p hm => h.fit p (hp.mem_iff.2 hm), (hp.pairwise_iff (fun {_ _} hne => Ne.symm hne)).1 h.apart, fun kl => (h.has kl).trans ⟨fun ⟨p, h1, h2⟩ => ⟨p, hp.mem_iff.1 h1, h2⟩, fun ⟨p, h1, h2⟩ => ⟨p, hp.mem_iff.2 h1, h2⟩⟩, fun p hm => h.at_ p (hp.mem_iff.2 hm)⟩
theorem holdsE_nil : HoldsE (.map []) [] := ⟨fun _ h => (by cases h), List.Pairwise.nil, fun kl => ⟨fun h => (by cases h), fun ⟨p, h, _⟩ => (by cases h)⟩, fun _ h => (by cases h)⟩
def but (d : Dt.Dot) (L : List Ev.EV) : List Ev.EV := L.filter fun q => decide (dotV q ≠ d)
theorem but_mem {d : Dt.Dot} {L : List Ev.EV} {q : Ev.EV} : q ∈ but d L ↔ q ∈ L ∧ dotV q ≠ d := by
 unfold but
 rw [List.mem_filter, decide_eq_true_iff]
theorem HoldsE.put {D : DataW Ev.EV} {L : List Ev.EV} (h : HoldsE D L) (hm : Maps.IsMap D) {p : Ev.EV} (hp : FitD (dotV p)) : HoldsE (D.put (Kl.keyD (dotV p)) (.held p)) (p :: but (dotV p) L) := by
 refine ⟨fun q hq => ?_, ?_, fun kl => ?_, fun q hq zd => ?_⟩
 · rcases List.mem_cons.1 hq with rfl | hq
   · exact hp
   · exact h.fit q (but_mem.1 hq).1
 · exact List.pairwise_cons.2 ⟨fun q hq => Ne.symm (but_mem.1 hq).2, h.apart.filter _⟩
 · by_cases e : kl = Kl.keyD (dotV p)
   · subst e
     rw [Maps.has_put_same hm (Kl.keyD_lit _)]
     exact ⟨fun _ => ⟨p, List.mem_cons_self .., rfl⟩, fun _ => rfl⟩
   · rw [Maps.has_put_other e, h.has]
     constructor
     · rintro ⟨q, hq, rfl⟩
       exact ⟨q, List.mem_cons_of_mem _ (but_mem.2 ⟨hq, fun e2 => e (by rw [e2])⟩), rfl⟩
     · rintro ⟨q, hq, rfl⟩
       rcases List.mem_cons.1 hq with rfl | hq
       · exact absurd rfl e
       · exact ⟨q, (but_mem.1 hq).1, rfl⟩
 · rcases List.mem_cons.1 hq with rfl | hq
   · exact Maps.atKey_put_same hm (Kl.keyD_lit _) _ _
   · obtain ⟨h1, h2⟩ := but_mem.1 hq
     rw [Maps.atKey_put_other (fun e => h2 (Kl.keyD_inj (h.fit q h1) hp e))]
     exact h.at_ q h1 zd
theorem HoldsE.del {D : DataW Ev.EV} {L : List Ev.EV} (h : HoldsE D L) {d : Dt.Dot} (hd : FitD d) : HoldsE (D.del (Kl.keyD d)) (but d L) := by
 refine ⟨fun q hq => h.fit q (but_mem.1 hq).1, h.apart.filter _, fun kl => ?_, fun q hq zd => ?_⟩
 · by_cases e : kl = Kl.keyD d
   · subst e
     rw [Maps.has_del_same]
     constructor
     · intro h1; cases h1
     · rintro ⟨q, hq, h2⟩
       exact absurd (Kl.keyD_inj hd (h.fit q (but_mem.1 hq).1) h2).symm (but_mem.1 hq).2
   · rw [Maps.has_del_other e, h.has]
     constructor
     · rintro ⟨q, hq, rfl⟩
       exact ⟨q, but_mem.2 ⟨hq, fun e2 => e (by rw [e2])⟩, rfl⟩
     · rintro ⟨q, hq, rfl⟩
       exact ⟨q, (but_mem.1 hq).1, rfl⟩
 · obtain ⟨h1, h2⟩ := but_mem.1 hq
   rw [Maps.atKey_del_other (fun e => h2 (Kl.keyD_inj (h.fit q h1) hd e))]
   exact h.at_ q h1 zd
theorem holdsE_size {es : List (Lit × DataW Ev.EV)} {L : List Ev.EV} (h : HoldsE (.map es) L) (ha : es.Pairwise (fun p q => p.1 ≠ q.1)) (hk : ∀ p ∈ es, WideAt.IsKeyLit p.1) : es.length = L.length := by
 have h1 : (es.map (·.1)).Nodup := List.pairwise_map.2 ha
 have h2 : (L.map (fun p => Kl.keyD (dotV p))).Nodup := by
   refine List.pairwise_map.2 (List.Pairwise.imp_of_mem (fun {p q} hp hq hne e => hne (Kl.keyD_inj (h.fit p hp) (h.fit q hq) e)) h.apart)
 have h3 : ∀ kl, kl ∈ es.map (·.1) ↔ kl ∈ L.map (fun p => Kl.keyD (dotV p)) := fun kl => by
   have h4 : Maps.has (.map es) kl = true ↔ kl ∈ es.map (·.1) := by
     rw [Maps.has_eq, List.any_eq_true, List.mem_map]
     constructor
     · rintro ⟨p, hp, he⟩
       exact ⟨p, hp, WideAt.sameKey_eq he⟩
     · rintro ⟨p, hp, rfl⟩
       exact ⟨p, hp, WideAt.sameKey_self (hk p hp)⟩
   rw [← h4, h.has, List.mem_map]
   exact ⟨fun ⟨p, a, b⟩ => ⟨p, a, b.symm⟩, fun ⟨p, a, b⟩ => ⟨p, a, b.symm⟩⟩
 have h5 := ((List.perm_ext_iff_of_nodup h1 h2).2 h3).length_eq
 rw [List.length_map, List.length_map] at h5
 exact h5
def MapE (w : World) (b : Nat) (L : List Ev.EV) : Prop := ∃ D : DataW Ev.EV, w.ownsMap Tryz.prog 35 elemE b L.length D ∧ HoldsE D L
theorem mapE_of {w : World} {b n : Nat} {D : DataW Ev.EV} {L : List Ev.EV} (h1 : w.ownsMap Tryz.prog 35 elemE b n D) (h2 : HoldsE D L) : MapE w b L := by
 refine ⟨D, ?_, h2⟩
 obtain ⟨es, he, ha, hk⟩ := h1.entries Kl.lawD
 subst he
 have h3 := holdsE_size h2 ha hk
 obtain ⟨fs, clock, hb, F, hs, hD⟩ := h1
 refine ⟨fs, clock, hb, F, ?_, hD⟩
 have h4 : es.length = fs.size := by
   injection hD with hD
   rw [hD, length_sorted]
   simp
 omega
theorem MapE.perm {w : World} {b : Nat} {L M : List Ev.EV} (h : MapE w b L) (hp : L.Perm M) : MapE w b M := by
 obtain ⟨D, h1, h2⟩ := h
 exact mapE_of h1 (h2.perm hp)
theorem MapE.lt {w : World} {b : Nat} {L : List Ev.EV} (h : MapE w b L) : b < w.heap.size := by
 obtain ⟨D, h1, _⟩ := h
 exact h1.lt
theorem MapE.fit {w : World} {b : Nat} {L : List Ev.EV} (h : MapE w b L) : ∀ p ∈ L, FitD (dotV p) := by
 obtain ⟨D, _, h1⟩ := h
 exact h1.fit
theorem MapE.apart {w : World} {b : Nat} {L : List Ev.EV} (h : MapE w b L) : L.Pairwise (fun p q => dotV p ≠ dotV q) := by
 obtain ⟨D, _, h1⟩ := h
 exact h1.apart
theorem MapE.at_block {w W : World} {b : Nat} {L : List Ev.EV} (h : MapE w b L) (hb : W.heap[b]? = w.heap[b]?) : MapE W b L := by
 obtain ⟨D, ⟨es, clock, h1, h2⟩, h3⟩ := h
 exact ⟨D, ⟨es, clock, hb.trans h1, h2⟩, h3⟩
theorem MapE.up {w W : World} {b : Nat} {L : List Ev.EV} (h : MapE w b L) (hW : Below w.heap.size w W) : MapE W b L := h.at_block (hW.block b h.lt)
theorem MapE.kept {w W : World} {b : Nat} {L : List Ev.EV} {row : Option Nat} (h : MapE w b L) (hg : w.grownBy W row) (hne : some b ≠ row) : MapE W b L := h.at_block (hg.block b h.lt hne)
theorem mapE_new (w : World) : MapE (w.alloc (.map #[] 0)) w.heap.size [] := ⟨.map [], World.ownsMap_made _ _ _ _, holdsE_nil⟩
theorem MapE.nocell {w : World} {b : Nat} {L : List Ev.EV} (h : MapE w b L) (i : Nat) (u : Value) : w.cell? ⟨b, i, none⟩ ≠ some u := fun e => by
 obtain ⟨D, ⟨es, clock, h1, h2⟩, h3⟩ := h
 unfold World.cell? at e
 rw [h1] at e
 simp at e
theorem MapE.look {w : World} {b : Nat} {L : List Ev.EV} (h : MapE w b L) {p : Ev.EV} (hp : p ∈ L) {z : Value} (hz : (zeroValue 38).run Tryz.prog w = .ok z w) (hzd : ∃ q : Ev.EV, z = q.val) :
   (Instr.lookup 82 (.map (some b)) (.agg #[.int .u16 (p.dev : Int), .int .u64 (p.num : Int)]) false).run Tryz.prog w = .ok p.val w := by
 obtain ⟨D, h1, h2⟩ := h
 obtain ⟨q, rfl⟩ := hzd
 obtain ⟨v, ps, hrun, hv⟩ := h1.lookup Kl.lawD Tryz.underlying82 hz (elemE_val q) (Kl.keyD_is (h2.fit p hp))
 rw [show Kl.keyD (p.dev, p.num) = Kl.keyD (dotV p) from rfl, h2.at_ p hp] at hv
 obtain ⟨c, rfl, hc⟩ := elemE_inv hv
 have e : p = c := by
   have := congrArg Prod.fst hc
   injection this
 subst e
 exact hrun
end Go.Proofs.YtgaegfddobpomaaGreat.Bk
