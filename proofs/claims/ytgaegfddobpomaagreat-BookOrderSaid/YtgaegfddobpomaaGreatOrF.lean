/- Words and contracts that the proofs of this seat stand on, part 6 of 39. -/
import Derived.Test.YtgaegfddobpomaaGreatOrE

namespace Go.Proofs.YtgaegfddobpomaaGreat.Ru
open Go.ChangeShapes Go.WideShapes Go.ChangeAt Go.RowKit
set_option linter.unusedVariables false
set_option maxRecDepth 4000
def putS (n : Nat) (s : List Nat × Bool) (x : Nat) : List Nat × Bool :=
 if s.2 = false ∧ n ≤ x then (if x = n then s.1 ++ [n] else s.1 ++ [n] ++ [x], true) else (if x = n then s.1 else s.1 ++ [x], s.2)
def putF (n : Nat) (l : List Nat) : List Nat × Bool := l.foldl (putS n) ([], false)
def putL (l : List Nat) (n : Nat) : List Nat := if (putF n l).2 = true then (putF n l).1 else (putF n l).1 ++ [n]
theorem putF_take {l : List Nat} {k x n : Nat} (h : l[k]? = some x) : putF n (l.take (k + 1)) = putS n (putF n (l.take k)) x := by
 unfold putF
 rw [List.take_add_one, h]
 simp
def left (d : Bool) : Nat := bif d then 0 else 1
theorem putS_length (n : Nat) (s : List Nat × Bool) (x : Nat) : (putS n s x).1.length + left (putS n s x).2 ≤ s.1.length + left s.2 + 1 := by
 obtain ⟨o, d⟩ := s
 unfold putS
 cases d <;> by_cases h1 : n ≤ x <;> by_cases h2 : x = n <;> simp [h1, h2, left]
theorem putF_length (n : Nat) (l : List Nat) : (putF n l).1.length + left (putF n l).2 ≤ l.length + 1 := by
 suffices h : ∀ (s : List Nat × Bool), (l.foldl (putS n) s).1.length + left (l.foldl (putS n) s).2 ≤ l.length + (s.1.length + left s.2) by
   have h2 := h ([], false)
   unfold putF
   have e : (([], false) : List Nat × Bool).1.length + left (([], false) : List Nat × Bool).2 = 1 := rfl
   rw [e] at h2
   exact h2
 induction l with
 | nil => intro s; simp
 | cons x l ih =>
   intro s
   have h1 := ih (putS n s x)
   have h2 := putS_length n s x
   rw [List.foldl_cons, List.length_cons]
   omega
theorem putL_length (l : List Nat) (n : Nat) : (putL l n).length ≤ l.length + 1 := by
 have h := putF_length n l
 unfold putL
 split
 · omega
 · rename_i hd
   have hd' : (putF n l).2 = false := by simpa using hd
   rw [hd'] at h
   have e : left false = 1 := rfl
   rw [e] at h
   rw [List.length_append, List.length_singleton]
   omega
def Rising (l : List Nat) : Prop := l.Pairwise (· < ·)
def ins : List Nat → Nat → List Nat
 | [], n => [n]
 | x :: l, n => if x < n then x :: ins l n else if x = n then x :: l else n :: x :: l
theorem put_done (n : Nat) (l : List Nat) : ∀ o, (∀ x ∈ l, x ≠ n) → l.foldl (putS n) (o, true) = (o ++ l, true) := by
 induction l with
 | nil => intro o _; simp
 | cons x l ih =>
   intro o h
   have hx : x ≠ n := h x (by simp)
   rw [List.foldl_cons]
   have e : putS n (o, true) x = (o ++ [x], true) := by unfold putS; simp [hx]
   rw [e, ih _ (fun y hy => h y (by simp [hy])), List.append_assoc]
   rfl
theorem put_ins (n : Nat) {l : List Nat} (h : Rising l) : putL l n = ins l n := by
 suffices hs : ∀ o, (if (l.foldl (putS n) (o, false)).2 = true then (l.foldl (putS n) (o, false)).1 else (l.foldl (putS n) (o, false)).1 ++ [n]) = o ++ ins l n by
   have := hs []
   rw [List.nil_append] at this
   exact this
 induction l with
 | nil => intro o; simp [ins]
 | cons x l ih =>
   intro o
   have hr : Rising l := (List.pairwise_cons.1 h).2
   have hx : ∀ y ∈ l, x < y := (List.pairwise_cons.1 h).1
   rw [List.foldl_cons]
   by_cases h1 : n ≤ x
   · have h3 : ∀ y ∈ l, y ≠ n := fun y hy => by have := hx y hy; omega
     by_cases h2 : x = n
     · have e : putS n (o, false) x = (o ++ [n], true) := by unfold putS; simp [h2]
       rw [e, put_done n l _ h3]
       simp [ins, h2]
     · have e : putS n (o, false) x = (o ++ [n] ++ [x], true) := by unfold putS; simp [h1, h2]
       have h4 : ¬ x < n := by omega
       rw [e, put_done n l _ h3]
       simp [ins, h2, h4]
   · have h2 : ¬ x = n := by omega
     have h4 : x < n := by omega
     have e : putS n (o, false) x = (o ++ [x], false) := by unfold putS; simp [h1, h2]
     rw [e, ih hr]
     simp [ins, h4]
theorem mem_ins (l : List Nat) (n m : Nat) : m ∈ ins l n ↔ m = n ∨ m ∈ l := by
 induction l with
 | nil => simp [ins]
 | cons x l ih =>
   unfold ins
   split
   · simp only [List.mem_cons, ih]
     constructor
     · rintro (h | h | h) <;> simp [h]
     · rintro (h | h | h) <;> simp [h]
   · split
     · rename_i h; subst h; simp
     · simp
theorem ins_rising {l : List Nat} (h : Rising l) (n : Nat) : Rising (ins l n) := by
 induction l with
 | nil => simp [ins, Rising]
 | cons x l ih =>
   have hr : Rising l := (List.pairwise_cons.1 h).2
   have hx : ∀ y ∈ l, x < y := (List.pairwise_cons.1 h).1
   unfold ins
   split
   · rename_i h1
     refine List.pairwise_cons.2 ⟨fun y hy => ?_, ih hr⟩
     rcases (mem_ins l n y).1 hy with rfl | hy
     · exact h1
     · exact hx y hy
   · split
     · exact h
     · refine List.pairwise_cons.2 ⟨fun y hy => ?_, h⟩
       rcases List.mem_cons.1 hy with rfl | hy
       · omega
       · have := hx y hy; omega
theorem cell_one (w : World) (x : Value) (t : TypeId) : ∀ (j : Nat) (u : Value), [x][j]? = some u → (w.alloc (.cells #[x] t)).cell? ((⟨w.heap.size, 0, none⟩ : Addr).add j) = some u := by
 intro j u hu
 cases j with
 | zero =>
   rw [zero_add, World.cell?_alloc_new]
   simpa using hu
 | succ j => simp at hu
def NumPost (w : World) (m : List Nat) (e : Ending) (w' : World) : Prop :=
 ∃ A n c, e = .returned (.slice A n c) ∧ m.length = n ∧ w'.ownsRow w.heap.size 33 1 (.slice A n c) n (nv m) ∧ Below w.heap.size w w'
def PutRel (w : World) (l : List Nat) (n len : Nat) (o d i : Value) (wr : World) : Prop :=
 ∃ (k m : Nat) (A : Option Addr) (c : Nat), k ≤ len ∧ i = .int .i64 (k : Int) ∧ o = .slice A m c ∧ d = .bool (putF n (l.take k)).2 ∧ (putF n (l.take k)).1.length = m ∧ wr.ownsRow w.heap.size 33 1 (.slice A m c) m (nv (putF n (l.take k)).1) ∧ Below w.heap.size w wr
theorem fitN_put {n : Nat} (hn : n < 18446744073709551616) {l : List Nat} (h : FitN l) (o : List Nat) (d : Bool) (ho : FitN o) : FitN (l.foldl (putS n) (o, d)).1 := by
 induction l generalizing o d with
 | nil => exact ho
 | cons x l ih =>
   have hx : x < 18446744073709551616 := h x (by simp)
   rw [List.foldl_cons]
   obtain ⟨o', d', hp⟩ : ∃ o' d', putS n (o, d) x = (o', d') := ⟨_, _, rfl⟩
   rw [hp]
   refine ih (fun y hy => h y (by simp [hy])) o' d' ?_
   have e : o' = (putS n (o, d) x).1 := by rw [hp]
   rw [e]
   unfold putS
   intro y hy
   split at hy <;> split at hy <;> simp at hy
   all_goals (first
     | (rcases hy with hy | rfl | rfl <;> first | exact ho y hy | exact hn | exact hx)
     | (rcases hy with hy | rfl <;> first | exact ho y hy | exact hn | exact hx)
     | exact ho y hy)
theorem put_rel {w wr : World} {l : List Nat} {n len k m : Nat} {A : Option Addr} {c : Nat} {o : List Nat} {d : Bool} (hk : k < len) (hs : putF n (l.take (k + 1)) = (o, d)) (hm : o.length = m) (ho : wr.ownsRow w.heap.size 33 1 (.slice A m c) m (nv o)) (hb : Below w.heap.size w wr) :
   PutRel w l n len (.slice A m c) (.bool d) (.int .i64 ((k : Int) + 1)) wr :=
 ⟨k + 1, m, A, c, hk, by go_num, rfl, by rw [hs], by rw [hs]; exact hm, by rw [hs]; exact ho, hb⟩
theorem num_grown {w wr w2 : World} {v : Value} {m : Nat} {xs : List Value} {o : Obj} (ho : wr.ownsRow w.heap.size 33 1 v m xs) (hb : Below w.heap.size w wr) (hg : (wr.alloc o).grownBy w2 v.ownBlock) : Below w.heap.size w w2 :=
 (hb.alloc hb.size _).grown hg (Nat.le_trans hb.size (by simp)) (fun k hk => (ho.lt k hk).1)
set_option maxHeartbeats 1000000 in
theorem put_any (w : World) (A : Option Addr) (l : List Nat) (len c n : Nat) (hl : l.length = len) (hb : Nums w w.heap.size A l) (h4 : len ≤ 2097152) (hn : n < 18446744073709551616) :
   Calls Tryz.prog 196 #[.slice A len c, .int .u64 (n : Int)] w (NumPost w (putL l n)) := by
 obtain ⟨i0, hi0, hz0, hz1, hz2⟩ := info_parts num_info
 have HB := Lib.hid hb
 have HL := Lib.hid hl
 have HR : Hid (PutRel w l n len (.slice none 0 0) (.bool false) (.int .i64 0) w) := ⟨0, 0, none, 0, Nat.zero_le _, rfl, rfl, rfl, rfl, World.ownsRow_nil _ _ _ _, Below.refl _ _⟩
 clear hb hl
 go_enter Tryz.func196, Tryz.ntmps196
 go_wp2_with fail
 go_loopw [5, 6, 7] (fun o d i wr => PutRel w l n len o d i wr) (fun _ _ i _ => len - (intOf i).toNat)
 case atStart => exact HR.out
 case round =>
   clear HR
   obtain ⟨k, m, A5, c5, hk, rfl, rfl, rfl, hm, ho, hw⟩ := hrel
   have HO := Lib.hid ho
   have HW := Lib.hid hw
   have HM := Lib.hid hm
   have hm4 : m ≤ 2097153 := by
     have h := putF_length n (l.take k)
     rw [hm, List.length_take] at h
     have := HL.out
     omega
   clear ho hw hm
   by_cases hlt : k < len
   · obtain ⟨ad, x, rfl, hlx, hx, hcell⟩ := (HB.out.up HW.out).at_ (k := k) (by rw [HL.out]; exact hlt)
     have HX := Lib.hid (putF_take (n := n) hlx)
     have HC : Hid (∀ W, Below w.heap.size w W → W.cell? (ad.add k) = some (.int .u64 (x : Int))) := fun W hW => by
       obtain ⟨ad', x', e, hlx', _, d1⟩ := (HB.out.up hW).at_ (k := k) (by rw [HL.out]; exact hlt)
       cases e
       rw [hlx] at hlx'
       cases hlx'
       exact d1
     clear hlx
     generalize putF n (l.take k) = s at *
     obtain ⟨o, d⟩ := s
     cases d with
     | true =>
       by_cases hxn : x = n
       · have hne : ((x : Int) != (n : Int)) = false := by rw [bne_eq_false_iff_eq]; omega
         have HP := Lib.hid (HX.out.trans (show putS n (o, true) x = (o, true) by unfold putS; simp [hxn]))
         have HR := Lib.hid (put_rel hlt HP.out HM.out HO.out HW.out)
         clear hxn
         go_wp2
         go_roundw
         case rel => exact HR.out
         case measure => simp [intOf]; omega
       · have hne : ((x : Int) != (n : Int)) = true := by rw [bne_iff_ne]; omega
         have HP := Lib.hid (HX.out.trans (show putS n (o, true) x = (o ++ [x], true) by unfold putS; simp [hxn]))
         clear hxn
         go_wp2_with (
         (at_builtin
          refine wpList_append_own _ rfl (.tmp 34) (.tmp 39) 179 rfl w.heap.size 33 i0 (.int .u64 0) 1 8 Tryz.underlying179 hi0 hz0 hz1 hz2 rfl (by decide) (.slice A5 m c5) m (nv o) rfl (HO.out.alloc _) ⟨wr.heap.size, 0, none⟩ 1 1 (nv [x]) rfl rfl (cell_one wr _ 33) (nv_one _) (by simp only [maxLen]; omega) (by omega) (Nat.le_trans HW.out.size (by simp)) ?_
          intro v1 w1 ho hg hat
          obtain ⟨g1, cap1, rfl, _⟩ := own_shape (w := w) ho (.inl (by omega))
          rw [← nv_append] at ho
          have HO1 := Lib.hid ho
          have HW1 := Lib.hid (num_grown HO.out HW.out hg)
          clear ho hg hat))
         have HR := Lib.hid (put_rel hlt HP.out (by rw [List.length_append, HM.out]; rfl) HO1.out HW1.out)
         go_roundw
         case rel => exact HR.out
         case measure => simp [intOf]; omega
     | false =>
       by_cases hnx : n ≤ x
       · have hge : decide ((n : Int) ≤ (x : Int)) = true := decide_eq_true (by omega)
         by_cases hxn : x = n
         · have hne : ((x : Int) != (n : Int)) = false := by rw [bne_eq_false_iff_eq]; omega
           have HP := Lib.hid (HX.out.trans (show putS n (o, false) x = (o ++ [n], true) by unfold putS; simp [hxn]))
           clear hxn
           go_wp2_with (
             (at_builtin
              refine wpList_append_own _ rfl (.tmp 24) (.tmp 26) 179 rfl w.heap.size 33 i0 (.int .u64 0) 1 8 Tryz.underlying179 hi0 hz0 hz1 hz2 rfl (by decide) (.slice A5 m c5) m (nv o) rfl (HO.out.alloc _) ⟨wr.heap.size, 0, none⟩ 1 1 (nv [n]) rfl rfl (cell_one wr _ 33) (nv_one _) (by simp only [maxLen]; omega) (by omega) (Nat.le_trans HW.out.size (by simp)) ?_
              intro v1 w1 ho hg hat
              obtain ⟨g1, cap1, rfl, _⟩ := own_shape (w := w) ho (.inl (by omega))
              rw [← nv_append] at ho
              have HO1 := Lib.hid ho
              have HW1 := Lib.hid (num_grown HO.out HW.out hg)
              clear ho hg hat
              have hc1 := HC.out w1 HW1.out))
           have HR := Lib.hid (put_rel hlt HP.out (by rw [List.length_append, HM.out]; rfl) HO1.out HW1.out)
           go_roundw
           case rel => exact HR.out
           case measure => simp [intOf]; omega
         · have hne : ((x : Int) != (n : Int)) = true := by rw [bne_iff_ne]; omega
           have HP := Lib.hid (HX.out.trans (show putS n (o, false) x = (o ++ [n] ++ [x], true) by unfold putS; simp [hxn, hnx]))
           clear hxn
           go_wp2_with (first
             | (at_builtin
                refine wpList_append_own _ rfl (.tmp 24) (.tmp 26) 179 rfl w.heap.size 33 i0 (.int .u64 0) 1 8 Tryz.underlying179 hi0 hz0 hz1 hz2 rfl (by decide) (.slice A5 m c5) m (nv o) rfl (HO.out.alloc _) ⟨wr.heap.size, 0, none⟩ 1 1 (nv [n]) rfl rfl (cell_one wr _ 33) (nv_one _) (by simp only [maxLen]; omega) (by omega) (Nat.le_trans HW.out.size (by simp)) ?_
                intro v1 w1 ho hg hat
                obtain ⟨g1, cap1, rfl, _⟩ := own_shape (w := w) ho (.inl (by omega))
                rw [← nv_append] at ho
                have HO1 := Lib.hid ho
                have HW1 := Lib.hid (num_grown HO.out HW.out hg)
                clear ho hg hat
                have hc1 := HC.out w1 HW1.out)
             | (at_builtin
                refine wpList_append_own _ rfl (.tmp 34) (.tmp 39) 179 rfl w.heap.size 33 i0 (.int .u64 0) 1 8 Tryz.underlying179 hi0 hz0 hz1 hz2 rfl (by decide) (.slice (some ⟨g1, 0, none⟩) (m + 1) cap1) (m + 1) (nv (o ++ [n])) rfl (HO1.out.alloc _) ⟨w1.heap.size, 0, none⟩ 1 1 (nv [x]) rfl rfl (cell_one w1 _ 33) (nv_one _) (by simp only [maxLen]; omega) (by omega) (Nat.le_trans HW1.out.size (by simp)) ?_
                intro v2 w2 ho hg hat
                obtain ⟨g2, cap2, rfl, _⟩ := own_shape (w := w) ho (.inl (by omega))
                rw [← nv_append] at ho
                have HO2 := Lib.hid ho
                have HW2 := Lib.hid (num_grown HO1.out HW1.out hg)
                clear ho hg hat))
           have HR := Lib.hid (put_rel hlt HP.out (by rw [List.length_append, List.length_append, HM.out]; rfl) HO2.out HW2.out)
           go_roundw
           case rel => exact HR.out
           case measure => simp [intOf]; omega
       · have hge : decide ((n : Int) ≤ (x : Int)) = false := decide_eq_false (by omega)
         have hne : ((x : Int) != (n : Int)) = true := by rw [bne_iff_ne]; omega
         have HP := Lib.hid (HX.out.trans (show putS n (o, false) x = (o ++ [x], false) by unfold putS; simp [hnx, show ¬ x = n by omega]))
         have hxn2 : x < n := by omega
         have hxn3 : (x : Int) < (n : Int) := by omega
         clear hnx
         go_wp2_with (
           (at_builtin
            refine wpList_append_own _ rfl (.tmp 34) (.tmp 39) 179 rfl w.heap.size 33 i0 (.int .u64 0) 1 8 Tryz.underlying179 hi0 hz0 hz1 hz2 rfl (by decide) (.slice A5 m c5) m (nv o) rfl (HO.out.alloc _) ⟨wr.heap.size, 0, none⟩ 1 1 (nv [x]) rfl rfl (cell_one wr _ 33) (nv_one _) (by simp only [maxLen]; omega) (by omega) (Nat.le_trans HW.out.size (by simp)) ?_
            intro v1 w1 ho hg hat
            obtain ⟨g1, cap1, rfl, _⟩ := own_shape (w := w) ho (.inl (by omega))
            rw [← nv_append] at ho
            have HO1 := Lib.hid ho
            have HW1 := Lib.hid (num_grown HO.out HW.out hg)
            clear ho hg hat))
         have HR := Lib.hid (put_rel hlt HP.out (by rw [List.length_append, HM.out]; rfl) HO1.out HW1.out)
         go_roundw
         case rel => exact HR.out
         case measure => simp [intOf]; omega
   · obtain rfl : k = len := by omega
     have e : Hid (l.take k = l) := List.take_of_length_le (by rw [HL.out]; exact Nat.le_refl _)
     rw [e.out] at HO HM
     rw [e.out]
     have HP : Hid (putL l n = if (putF n l).2 = true then (putF n l).1 else (putF n l).1 ++ [n]) := rfl
     generalize putF n l = s at *
     obtain ⟨o, d⟩ := s
     cases d with
     | true =>
       go_wp2
       go_ret
       exact ⟨A5, m, c5, rfl, by rw [HP.out]; exact HM.out, by rw [HP.out]; exact HO.out, HW.out⟩
     | false =>
       go_wp2_with (
         (at_builtin
          refine wpList_append_own _ rfl (.tmp 43) (.tmp 45) 179 rfl w.heap.size 33 i0 (.int .u64 0) 1 8 Tryz.underlying179 hi0 hz0 hz1 hz2 rfl (by decide) (.slice A5 m c5) m (nv o) rfl (HO.out.alloc _) ⟨wr.heap.size, 0, none⟩ 1 1 (nv [n]) rfl rfl (cell_one wr _ 33) (nv_one _) (by simp only [maxLen]; omega) (by omega) (Nat.le_trans HW.out.size (by simp)) ?_
          intro v1 w1 ho hg hat
          obtain ⟨g1, cap1, rfl, _⟩ := own_shape (w := w) ho (.inl (by omega))
          rw [← nv_append] at ho
          have HO1 := Lib.hid ho
          have HW1 := Lib.hid (num_grown HO.out HW.out hg)
          clear ho hg hat))
       go_ret
       exact ⟨_, m + 1, cap1, rfl, by rw [HP.out]; simpa using HM.out, by rw [HP.out]; exact HO1.out, HW1.out⟩
theorem own_less {w : World} {B B' n size : Nat} {e : TypeId} {v : Value} {xs : List Value} (h : w.ownsRow B' e size v n xs) (hB : B ≤ B') : w.ownsRow B e size v n xs := by
 refine ⟨h.1, ?_⟩
 rcases h.2 with hz | ⟨g, cap, cur, e, hg, hr⟩
 · exact .inl hz
 · exact .inr ⟨g, cap, cur, e, Nat.le_trans hB hg, hr⟩
theorem own_kept {w V : World} {B n size : Nat} {e : TypeId} {v : Value} {xs : List Value} (h : w.ownsRow B e size v n xs) (hb : Below w.heap.size w V) : V.ownsRow B e size v n xs := by
 refine ⟨h.1, ?_⟩
 rcases h.2 with hz | ⟨g, cap, cur, e, hg, hh, hr⟩
 · exact .inl hz
 · have hlt : g < w.heap.size := by
     rcases Nat.lt_or_ge g w.heap.size with h1 | h1
     · exact h1
     · rw [Array.getElem?_eq_none h1] at hh; cases hh
   exact .inr ⟨g, cap, cur, e, hg, (hb.block g hlt).trans hh, hr⟩
theorem lies_any {w : World} {B n c size : Nat} {e : TypeId} {A : Option Addr} {vs : List Value} (hs : 0 < size) (h : w.ownsRow B e size (.slice A n c) n vs) : Lies w w.heap.size A vs := by
 rcases Nat.eq_zero_or_pos n with h0 | h0
 · have h1 := h.1
   rw [h0, Nat.zero_mul] at h1
   rw [List.eq_nil_of_length_eq_zero h1]
   exact Lies.none_ _ _ _
 · obtain ⟨g, cap, e1, _⟩ := own_shape (w := w) h (.inl h0)
   cases e1
   exact lies_own h
theorem fit_putL {l : List Nat} {n : Nat} (h : FitN l) (hn : n < 18446744073709551616) : FitN (putL l n) := by
 have h1 := fitN_put hn h [] false (fun x hx => by cases hx)
 unfold putL
 split
 · exact h1
 · intro x hx
   rcases List.mem_append.1 hx with hx | hx
   · exact h1 x hx
   · obtain rfl := List.mem_singleton.1 hx
     exact hn
theorem own_len {w : World} {B n size : Nat} {e : TypeId} {A : Option Addr} {c : Nat} {xs : List Value} (h : w.ownsRow B e size (.slice A n c) n xs) : n ≤ c ∧ c ≤ 9223372036854775807 ∧ (A = none → n = 0 ∧ c = 0) := by
 rcases h.2 with ⟨h, hz⟩ | ⟨_, _, _, h, _, _, h1, h2, _⟩
 · cases h; exact ⟨by omega, by omega, fun _ => ⟨rfl, rfl⟩⟩
 · cases h; exact ⟨h1, h2, fun e => by cases e⟩
theorem run_runs (w : World) (B h k cap : Nat) (xs : List Run) (A : Option Addr) (m : List Run) (n c : Nat) (ho : w.ownsRow B 68 2 (.slice (some ⟨h, 0, none⟩) k cap) k (rv xs)) (hA : A = none → n = 0 ∧ c = 0) (hb : Lies w w.heap.size A (rv m)) (hl : m.length = n)
   (hn : k + n ≤ 8796093022208) (hB : B ≤ w.heap.size) :
   ∃ g2 cap2 w', (Builtin.append_ #[69, 69] 69 #[.slice (some ⟨h, 0, none⟩) k cap, .slice A n c]).run Tryz.prog w = .ok (.slice (some ⟨g2, 0, none⟩) (k + n) cap2) w' ∧
     w'.ownsRow B 68 2 (.slice (some ⟨g2, 0, none⟩) (k + n) cap2) (k + n) (rv (xs ++ m)) ∧ w.grownBy w' (some h) ∧ B ≤ g2 := by
 obtain ⟨i0, hi0, hz0, hz1, hz2⟩ := info_parts run_info
 cases A with
 | none =>
   obtain ⟨rfl, rfl⟩ := hA rfl
   obtain rfl := List.eq_nil_of_length_eq_zero hl
   exact ⟨h, cap, w, run_append_owned_none (P := Tryz.prog) (w := w) B 69 69 68 i0 2 Tryz.underlying69 hi0 _ k (rv xs) ho, by rw [List.append_nil]; exact ho, turn_refl _ _, (ho.lt h rfl).1⟩
 | some ad =>
   have hc : ∀ j u, (rv m)[j]? = some u → w.cell? (ad.add j) = some u := by
     intro j u hu
     have hjl : j < (rv m).length := (List.getElem?_eq_some_iff.1 hu).1
     obtain ⟨ad', e, hadb, hc⟩ := hb (by omega)
     obtain rfl := Option.some.inj e
     exact hc j u hu
   obtain ⟨v', w', hr, h2, h3, hat, h5⟩ := run_append_own_at (P := Tryz.prog) w B 69 69 68 i0 (.agg #[.int .u64 0, .int .u64 0]) 2 16 Tryz.underlying69 hi0 hz0 hz1 hz2 rfl (by decide) _ k (rv xs) ho ad n c (rv m) (by rw [rv_length, hl]) hc (rv_one m) (by simp only [maxLen]; omega) (by omega) hB
   obtain ⟨g2, cap2, rfl, hg2⟩ := own_shape (w := w) h2 (.inr (fun h => by simp at hat; exact hat h))
   exact ⟨g2, cap2, w', hr, by rw [rv_append]; exact h2, h3, hg2⟩
theorem wpList_runs {ops : Array Oper} {rest : List Oper} {o : Oper} {a : Act} {Q : Exit → Act → World → Prop} (hgd : o.guard = none) (s x : Operand) (ho : o.op = .call { callee := .builtin .append, args := #[s, x], argTypes := #[69, 69] }) (hty : o.type = 69)
   (w : World) (B h k cap : Nat) (xs : List Run) (A : Option Addr) (m : List Run) (n c : Nat) (hs : a.eval s = .slice (some ⟨h, 0, none⟩) k cap) (hx : a.eval x = .slice A n c) (hw : w.ownsRow B 68 2 (.slice (some ⟨h, 0, none⟩) k cap) k (rv xs)) (hA : A = none → n = 0 ∧ c = 0) (hb : Lies w w.heap.size A (rv m)) (hl : m.length = n)
   (hn : k + n ≤ 8796093022208) (hB : B ≤ w.heap.size)
   (hK : ∀ g2 cap2 w', w'.ownsRow B 68 2 (.slice (some ⟨g2, 0, none⟩) (k + n) cap2) (k + n) (rv (xs ++ m)) → w.grownBy w' (some h) → B ≤ g2 → wpList Tryz.prog ops Q rest (a.put o.dst (.slice (some ⟨g2, 0, none⟩) (k + n) cap2)) w') : wpList Tryz.prog ops Q (o :: rest) a w := by
 refine wpList_plain hgd fun K hQ => ?_
 obtain ⟨g2, cap2, w', hr, h2, h3, h4⟩ := run_runs w B h k cap xs A m n c hw hA hb hl hn hB
 rw [← hty] at hr
 unfold Oper.wp execOp
 simp only [ho, resolve, invoke, builtin, Sem.run_bind, Sem.run_pure, Result.andThen_ok, List.map_toArray, List.map_cons, List.map_nil, hs, hx]
 rw [hty] at hr ⊢
 rw [hr]
 exact hQ _ _ (hK _ _ _ h2 h3 h4)
def ptS (o : List Nat) (r : Run) : List Nat := if mayR r = true then putL (putL o r.1) (r.2 + 1) else o
def ptL (l : List Run) : List Nat := l.foldl ptS []
theorem ptL_take {l : List Run} {k : Nat} {r : Run} (h : l[k]? = some r) : ptL (l.take (k + 1)) = ptS (ptL (l.take k)) r := by
 unfold ptL
 rw [List.take_add_one, h]
 simp
theorem ptS_length (o : List Nat) (r : Run) : (ptS o r).length ≤ o.length + 2 := by
 unfold ptS
 split
 · have h1 := putL_length o r.1
   have h2 := putL_length (putL o r.1) (r.2 + 1)
   omega
 · omega
theorem ptL_length (l : List Run) (k : Nat) : (ptL (l.take k)).length ≤ 2 * k := by
 induction k with
 | zero => simp [ptL]
 | succ k ih =>
   rcases h : l[k]? with _ | r
   · rw [List.take_add_one, h]
     simp only [Option.toList_none, List.append_nil]
     omega
   · rw [ptL_take h]
     have := ptS_length (ptL (l.take k)) r
     omega
theorem out_new (w : World) : (w.alloc (.cells #[] 68)).ownsRow w.heap.size 68 2 (.slice (some ⟨w.heap.size, 0, none⟩) 0 0) 0 [] := World.ownsRow_lit w #[] 0 (Nat.le_refl _) (by simp [maxLen]) rfl
def PtRel (w : World) (l : List Run) (len : Nat) (o i : Value) (wr : World) : Prop :=
 ∃ (k m : Nat) (A : Option Addr) (c : Nat), k ≤ len ∧ i = .int .i64 (k : Int) ∧ o = .slice A m c ∧ (ptL (l.take k)).length = m ∧ FitN (ptL (l.take k)) ∧ wr.ownsRow w.heap.size 33 1 (.slice A m c) m (nv (ptL (l.take k))) ∧ Below w.heap.size w wr
theorem pt_rel {w wr : World} {l : List Run} {len k m : Nat} {A : Option Addr} {c : Nat} {o : List Nat} (hk : k < len) (hs : ptL (l.take (k + 1)) = o) (hm : o.length = m) (hf : FitN o) (ho : wr.ownsRow w.heap.size 33 1 (.slice A m c) m (nv o)) (hb : Below w.heap.size w wr) :
   PtRel w l len (.slice A m c) (.int .i64 ((k : Int) + 1)) wr :=
 ⟨k + 1, m, A, c, hk, by go_num, rfl, by rw [hs]; exact hm, by rw [hs]; exact hf, by rw [hs]; exact ho, hb⟩
set_option maxHeartbeats 1000000 in
theorem points_any (w : World) (A1 A2 : Option Addr) (l1 l2 : List Run) (n1 n2 c1 c2 : Nat) (hl1 : l1.length = n1) (hl2 : l2.length = n2) (hA1 : A1 = none → n1 = 0 ∧ c1 = 0) (hA2 : A2 = none → n2 = 0 ∧ c2 = 0) (hb1 : Runs w w.heap.size A1 l1) (hb2 : Runs w w.heap.size A2 l2) (h1 : n1 ≤ 262144) (h2 : n2 ≤ 262144) :
   Calls Tryz.prog 173 #[.slice A1 n1 c1, .slice A2 n2 c2] w (NumPost w (ptL (l1 ++ l2))) := by
 have HL1 := Lib.hid hl1
 have HL2 := Lib.hid hl2
 have HA1 := Lib.hid hA1
 have HA2 := Lib.hid hA2
 have HB1 := Lib.hid hb1
 have HB2 := Lib.hid hb2
 have B0 : Hid (Below w.heap.size w (w.alloc (.cells #[] 68))) := below_new w _
 have O0 := Lib.hid (out_new w)
 have K1 : Hid (Lies (w.alloc (.cells #[] 68)) (w.alloc (.cells #[] 68)).heap.size A1 (rv l1)) := (hb1.up B0.out).2
 clear hl1 hl2 hA1 hA2 hb1 hb2
 go_enter Tryz.func173, Tryz.ntmps173
 go_wp2_with (first
   | (at_builtin
      refine wpList_runs rfl (.tmp 8) (.tmp 9) rfl rfl _ w.heap.size w.heap.size 0 0 [] A1 l1 n1 c1 rfl rfl O0.out HA1.out K1.out HL1.out (by omega) B0.out.size ?_
      intro g2 cap2 w2 ho hg hB
      rw [Nat.zero_add, List.nil_append] at ho
      have HO2 := Lib.hid ho
      have HW2 : Hid (Below w.heap.size w w2) := B0.out.grown hg B0.out.size (fun k e => by cases e; exact Nat.le_refl _)
      have K2 : Hid (Lies w2 w2.heap.size A2 (rv l2)) := (HB2.out.up HW2.out).2
      clear ho hg)
   | (at_builtin
      refine wpList_runs rfl (.tmp 10) (.tmp 11) rfl rfl _ w.heap.size g2 n1 cap2 l1 A2 l2 n2 c2 rfl rfl HO2.out HA2.out K2.out HL2.out (by omega) HW2.out.size ?_
      intro g3 cap3 w3 ho hg hB3
      have HO3 := Lib.hid ho
      have HW3 : Hid (Below w.heap.size w w3) := HW2.out.grown hg HW2.out.size (fun k e => by cases e; exact hB)
      clear ho hg))
 obtain ⟨l, hl⟩ : ∃ l, l1 ++ l2 = l := ⟨_, rfl⟩
 obtain ⟨len, hlen⟩ : ∃ len, n1 + n2 = len := ⟨_, rfl⟩
 have HL : Hid (l.length = len) := by show _ = _; rw [← hl, ← hlen, List.length_append, HL1.out, HL2.out]
 have HB : Hid (Runs w3 w3.heap.size (some ⟨g3, 0, none⟩) l) := by
   refine ⟨fun r hr => ?_, ?_⟩
   · rw [← hl] at hr
     exact (List.mem_append.1 hr).elim (HB1.out.1 r) (HB2.out.1 r)
   · rw [← hl]; exact lies_own HO3.out
 have hlen4 : len ≤ 524288 := by omega
 have HLL := Lib.hid hl
 rw [hlen]
 clear hl hlen h1 h2 HL1 HL2 HA1 HA2 HB1 HB2 B0 O0 K1 HO2 HW2 K2 HO3
 have HR : Hid (PtRel w3 l len (.slice none 0 0) (.int .i64 0) w3) := ⟨0, 0, none, 0, Nat.zero_le _, rfl, rfl, rfl, (fun x hx => by cases hx), World.ownsRow_nil _ _ _ _, Below.refl _ _⟩
 go_loopw [5, 7] (fun o i wr => PtRel w3 l len o i wr) (fun _ i _ => len - (intOf i).toNat)
 case atStart => exact HR.out
 case round =>
   clear HR
   obtain ⟨k, m, A, c, hk, rfl, rfl, hm, hf, ho, hb⟩ := hrel
   have HO := Lib.hid ho
   have HW := Lib.hid hb
   have HF := Lib.hid hf
   have HM := Lib.hid hm
   have hm2 : m ≤ 2 * k := by rw [← hm]; exact ptL_length l k
   clear ho hb hf hm
   by_cases hlt : k < len
   · obtain ⟨ad, lo, hi, e, hlk, hlo, hhi, hc1, hc2⟩ := HB.out.at_ (k := k) (by rw [HL.out]; exact hlt)
     have PK := Lib.hid hlk
     have HC : Hid (∀ W, Below w3.heap.size w3 W → W.cell? ⟨g3, k * 2, none⟩ = some (.int .u64 (lo : Int)) ∧ W.cell? ⟨g3, k * 2 + 1, none⟩ = some (.int .u64 (hi : Int))) := fun W hW => by
       obtain ⟨ad', lo', hi', e', hlk', _, _, d1, d2⟩ := (HB.out.up hW).at_ (k := k) (by rw [HL.out]; exact hlt)
       cases e'
       rw [hlk] at hlk'
       cases hlk'
       rw [zero_add] at d1 d2
       exact ⟨d1, d2⟩
     obtain ⟨q1, q2⟩ := HC.out wr HW.out
     clear hlk hc1 hc2 e
     go_wp2_with fail
     refine (may_any wr lo hi hlo hhi).mono ?_
     rintro e w4 ⟨rfl, hb4⟩
     have HW4 : Hid (Below w3.heap.size w3 w4) := HW.out.trans (hb4.mono HW.out.size)
     have HO4 := Lib.hid (own_kept HO.out hb4)
     obtain ⟨q3, q4⟩ := HC.out w4 HW4.out
     clear hb4 q1 q2
     by_cases c1 : mayR (lo, hi) = true
     · have hm := of_decide_eq_true c1
       have hhi2 : hi ≤ 281474976710655 := hm.2.2
       obtain ⟨o, hoe⟩ : ∃ o, ptL (l.take k) = o := ⟨_, rfl⟩
       have e1 : Hid (ptL (l.take (k + 1)) = putL (putL o lo) (hi + 1)) := by show _ = _; rw [ptL_take PK.out, hoe]; exact if_pos c1
       rw [hoe] at HM HF HO4
       rw [c1]
       clear c1 hm hoe
       go_wp2_with fail
       refine (put_any w4 A o m c lo HM.out ⟨HF.out, lies_any (by decide) HO4.out⟩ (by omega) hlo).mono ?_
       rintro e w5 ⟨A5, m5, c5, rfl, hm5, ho5, hb5⟩
       have hm5' : m5 ≤ m + 1 := by have := putL_length o lo; rw [hm5, HM.out] at this; exact this
       have HF5 := Lib.hid (fit_putL HF.out hlo)
       have HW5 : Hid (Below w3.heap.size w3 w5) := HW4.out.trans (hb5.mono HW4.out.size)
       have HO5 := Lib.hid ho5
       have HM5 := Lib.hid hm5
       obtain ⟨q5, q6⟩ := HC.out w5 HW5.out
       clear ho5 hb5 hm5 q3 q4
       go_wp2_with fail
       rw [show (hi : Int) + 1 = ((hi + 1 : Nat) : Int) by omega]
       refine (put_any w5 A5 (putL o lo) m5 c5 (hi + 1) HM5.out ⟨HF5.out, lies_any (by decide) HO5.out⟩ (by omega) (by omega)).mono ?_
       rintro e w6 ⟨A6, m6, c6, rfl, hm6, ho6, hb6⟩
       have HW6 : Hid (Below w3.heap.size w3 w6) := HW5.out.trans (hb6.mono HW5.out.size)
       have HR := Lib.hid (pt_rel hlt e1.out hm6 (fit_putL HF5.out (by omega)) (own_less ho6 HW5.out.size) HW6.out)
       clear hm6 ho6 hb6
       go_wp2
       go_roundw
       case rel => exact HR.out
       case measure => simp [intOf]; omega
     · have c1' : mayR (lo, hi) = false := by simpa using c1
       have e1 : Hid (ptL (l.take (k + 1)) = ptL (l.take k)) := by show _ = _; rw [ptL_take PK.out]; exact if_neg c1
       have HR := Lib.hid (pt_rel hlt e1.out HM.out HF.out HO4.out HW4.out)
       rw [c1']
       clear c1
       go_wp2
       go_roundw
       case rel => exact HR.out
       case measure => simp [intOf]; omega
   · obtain rfl : k = len := by omega
     have e : Hid (l.take k = l) := List.take_of_length_le (by rw [HL.out]; exact Nat.le_refl _)
     rw [e.out, ← HLL.out] at HO HM
     go_wp2
     go_ret
     exact ⟨A, m, c, rfl, HM.out, own_less HO.out HW3.out.size, HW3.out.trans (HW.out.mono HW3.out.size)⟩
end Go.Proofs.YtgaegfddobpomaaGreat.Ru

namespace Go.Proofs.YtgaegfddobpomaaGreat.Ru
set_option linter.unusedVariables false
set_option maxRecDepth 4000
def inB (how : Int) (x y : Bool) : Bool := if how = 1 then x && y else if how = 2 then x && !y else x || y
def addR (o : List Run) (p q : Nat) : List Run :=
 match o.getLast? with
 | some r => if r.2 + 1 = p then o.dropLast ++ [(r.1, q - 1)] else o ++ [(p, q - 1)]
 | none => [(p, q - 1)]
def stS (a b : List Run) (how : Int) (P : List Nat) (o : List Run) (i : Nat) : List Run :=
 if inB how (has a (P.getD i 0)) (has b (P.getD i 0)) = true then addR o (P.getD i 0) (P.getD (i + 1) 0) else o
def stF (a b : List Run) (how : Int) (P : List Nat) (k : Nat) : List Run := (List.range k).foldl (stS a b how P) []
def setL (a b : List Run) (how : Int) : List Run := stF a b how (ptL (a ++ b)) ((ptL (a ++ b)).length - 1)
theorem stF_succ (a b : List Run) (how : Int) (P : List Nat) (k : Nat) : stF a b how P (k + 1) = stS a b how P (stF a b how P k) k := by
 unfold stF
 rw [List.range_succ, List.foldl_append]
 rfl
end Go.Proofs.YtgaegfddobpomaaGreat.Ru
