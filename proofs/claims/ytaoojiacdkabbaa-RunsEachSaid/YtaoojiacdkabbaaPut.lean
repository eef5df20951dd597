/- The contract of the document's 'put': a number more, in its place. Condition: at most 4096 numbers. -/
import Derived.Test.YtaoojiacdkabbaaWords
namespace Go.Proofs.Ytaoojiacdkabbaa.Ru
open Go.ChangeShapes Go.WideShapes Go.ChangeAt Go.RowKit
set_option linter.unusedVariables false

/-- one round: what is out, and whether the number is. -/
def putS (n : Nat) (s : List Nat × Bool) (x : Nat) : List Nat × Bool :=
  if s.2 = false ∧ n ≤ x then (if x = n then s.1 ++ [n] else s.1 ++ [n] ++ [x], true) else (if x = n then s.1 else s.1 ++ [x], s.2)
def putF (n : Nat) (l : List Nat) : List Nat × Bool := l.foldl (putS n) ([], false)
def putL (l : List Nat) (n : Nat) : List Nat := if (putF n l).2 = true then (putF n l).1 else (putF n l).1 ++ [n]
theorem putF_take {l : List Nat} {k x n : Nat} (h : l[k]? = some x) : putF n (l.take (k + 1)) = putS n (putF n (l.take k)) x := by
  unfold putF
  rw [List.take_add_one, h]
  simp
def left (d : Bool) : Nat := bif d then 0 else 1
theorem putS_length (n : Nat) (s : List Nat × Bool) (x : Nat) : (putS n s x).1.length + left (putS n s x).2 ≤ s.1.length + left s.2 + 1 := by
  obtain ⟨o, d⟩ := s
  unfold putS
  cases d <;> by_cases h1 : n ≤ x <;> by_cases h2 : x = n <;> simp [h1, h2, left]
theorem putF_length (n : Nat) (l : List Nat) : (putF n l).1.length + left (putF n l).2 ≤ l.length + 1 := by
  suffices h : ∀ (s : List Nat × Bool), (l.foldl (putS n) s).1.length + left (l.foldl (putS n) s).2 ≤ l.length + (s.1.length + left s.2) by
    have h2 := h ([], false)
    unfold putF
    have e : (([], false) : List Nat × Bool).1.length + left (([], false) : List Nat × Bool).2 = 1 := rfl
    rw [e] at h2
    exact h2
  induction l with
  | nil => intro s; simp
  | cons x l ih =>
    intro s
    have h1 := ih (putS n s x)
    have h2 := putS_length n s x
    rw [List.foldl_cons, List.length_cons]
    omega
theorem putL_length (l : List Nat) (n : Nat) : (putL l n).length ≤ l.length + 1 := by
  have h := putF_length n l
  unfold putL
  split
  · omega
  · rename_i hd
    have hd' : (putF n l).2 = false := by simpa using hd
    rw [hd'] at h
    have e : left false = 1 := rfl
    rw [e] at h
    rw [List.length_append, List.length_singleton]
    omega

/-- rising, each once. -/
def Rising (l : List Nat) : Prop := l.Pairwise (· < ·)
/-- a number more, in its place. -/
def ins : List Nat → Nat → List Nat
  | [], n => [n]
  | x :: l, n => if x < n then x :: ins l n else if x = n then x :: l else n :: x :: l
theorem put_done (n : Nat) (l : List Nat) : ∀ o, (∀ x ∈ l, x ≠ n) → l.foldl (putS n) (o, true) = (o ++ l, true) := by
  induction l with
  | nil => intro o _; simp
  | cons x l ih =>
    intro o h
    have hx : x ≠ n := h x (by simp)
    rw [List.foldl_cons]
    have e : putS n (o, true) x = (o ++ [x], true) := by unfold putS; simp [hx]
    rw [e, ih _ (fun y hy => h y (by simp [hy])), List.append_assoc]
    rfl
theorem put_ins (n : Nat) {l : List Nat} (h : Rising l) : putL l n = ins l n := by
  suffices hs : ∀ o, (if (l.foldl (putS n) (o, false)).2 = true then (l.foldl (putS n) (o, false)).1 else (l.foldl (putS n) (o, false)).1 ++ [n]) = o ++ ins l n by
    have := hs []
    rw [List.nil_append] at this
    exact this
  induction l with
  | nil => intro o; simp [ins]
  | cons x l ih =>
    intro o
    have hr : Rising l := (List.pairwise_cons.1 h).2
    have hx : ∀ y ∈ l, x < y := (List.pairwise_cons.1 h).1
    rw [List.foldl_cons]
    by_cases h1 : n ≤ x
    · have h3 : ∀ y ∈ l, y ≠ n := fun y hy => by have := hx y hy; omega
      by_cases h2 : x = n
      · have e : putS n (o, false) x = (o ++ [n], true) := by unfold putS; simp [h2]
        rw [e, put_done n l _ h3]
        simp [ins, h2]
      · have e : putS n (o, false) x = (o ++ [n] ++ [x], true) := by unfold putS; simp [h1, h2]
        have h4 : ¬ x < n := by omega
        rw [e, put_done n l _ h3]
        simp [ins, h2, h4]
    · have h2 : ¬ x = n := by omega
      have h4 : x < n := by omega
      have e : putS n (o, false) x = (o ++ [x], false) := by unfold putS; simp [h1, h2]
      rw [e, ih hr]
      simp [ins, h4]
theorem mem_ins (l : List Nat) (n m : Nat) : m ∈ ins l n ↔ m = n ∨ m ∈ l := by
  induction l with
  | nil => simp [ins]
  | cons x l ih =>
    unfold ins
    split
    · simp only [List.mem_cons, ih]
      constructor
      · rintro (h | h | h) <;> simp [h]
      · rintro (h | h | h) <;> simp [h]
    · split
      · rename_i h; subst h; simp
      · simp
theorem ins_rising {l : List Nat} (h : Rising l) (n : Nat) : Rising (ins l n) := by
  induction l with
  | nil => simp [ins, Rising]
  | cons x l ih =>
    have hr : Rising l := (List.pairwise_cons.1 h).2
    have hx : ∀ y ∈ l, x < y := (List.pairwise_cons.1 h).1
    unfold ins
    split
    · rename_i h1
      refine List.pairwise_cons.2 ⟨fun y hy => ?_, ih hr⟩
      rcases (mem_ins l n y).1 hy with rfl | hy
      · exact h1
      · exact hx y hy
    · split
      · exact h
      · refine List.pairwise_cons.2 ⟨fun y hy => ?_, h⟩
        rcases List.mem_cons.1 hy with rfl | hy
        · omega
        · have := hx y hy; omega

theorem cell_one (w : World) (x : Value) (t : TypeId) : ∀ (j : Nat) (u : Value), [x][j]? = some u → (w.alloc (.cells #[x] t)).cell? ((⟨w.heap.size, 0, none⟩ : Addr).add j) = some u := by
  intro j u hu
  cases j with
  | zero =>
    rw [zero_add, World.cell?_alloc_new]
    simpa using hu
  | succ j => simp at hu

/-- a call that answers a new list of these numbers, or none. -/
def NumPost (w : World) (m : List Nat) (e : Ending) (w' : World) : Prop :=
  ∃ A n c, e = .returned (.slice A n c) ∧ m.length = n ∧ w'.ownsRow w.heap.size 28 1 (.slice A n c) n (nv m) ∧ Below w.heap.size w w'
def PutRel (w : World) (l : List Nat) (n len : Nat) (o d i : Value) (wr : World) : Prop :=
  ∃ (k m : Nat) (A : Option Addr) (c : Nat), k ≤ len ∧ i = .int .i64 (k : Int) ∧ o = .slice A m c ∧ d = .bool (putF n (l.take k)).2 ∧ (putF n (l.take k)).1.length = m ∧ wr.ownsRow w.heap.size 28 1 (.slice A m c) m (nv (putF n (l.take k)).1) ∧ Below w.heap.size w wr

theorem fitN_put {n : Nat} (hn : n < 18446744073709551616) {l : List Nat} (h : FitN l) (o : List Nat) (d : Bool) (ho : FitN o) : FitN (l.foldl (putS n) (o, d)).1 := by
  induction l generalizing o d with
  | nil => exact ho
  | cons x l ih =>
    have hx : x < 18446744073709551616 := h x (by simp)
    rw [List.foldl_cons]
    obtain ⟨o', d', hp⟩ : ∃ o' d', putS n (o, d) x = (o', d') := ⟨_, _, rfl⟩
    rw [hp]
    refine ih (fun y hy => h y (by simp [hy])) o' d' ?_
    have e : o' = (putS n (o, d) x).1 := by rw [hp]
    rw [e]
    unfold putS
    intro y hy
    split at hy <;> split at hy <;> simp at hy
    all_goals (first
      | (rcases hy with hy | rfl | rfl <;> first | exact ho y hy | exact hn | exact hx)
      | (rcases hy with hy | rfl <;> first | exact ho y hy | exact hn | exact hx)
      | exact ho y hy)

theorem put_rel {w wr : World} {l : List Nat} {n len k m : Nat} {A : Option Addr} {c : Nat} {o : List Nat} {d : Bool} (hk : k < len) (hs : putF n (l.take (k + 1)) = (o, d)) (hm : o.length = m) (ho : wr.ownsRow w.heap.size 28 1 (.slice A m c) m (nv o)) (hb : Below w.heap.size w wr) :
    PutRel w l n len (.slice A m c) (.bool d) (.int .i64 ((k : Int) + 1)) wr :=
  ⟨k + 1, m, A, c, hk, by go_num, rfl, by rw [hs], by rw [hs]; exact hm, by rw [hs]; exact ho, hb⟩
theorem num_grown {w wr w2 : World} {v : Value} {m : Nat} {xs : List Value} {o : Obj} (ho : wr.ownsRow w.heap.size 28 1 v m xs) (hb : Below w.heap.size w wr) (hg : (wr.alloc o).grownBy w2 v.ownBlock) : Below w.heap.size w w2 :=
  (hb.alloc hb.size _).grown hg (Nat.le_trans hb.size (by simp)) (fun k hk => (ho.lt k hk).1)

set_option maxHeartbeats 1000000 in
theorem put_any (w : World) (A : Option Addr) (l : List Nat) (len c n : Nat) (hl : l.length = len) (hb : Nums w w.heap.size A l) (h4 : len ≤ 4096) (hn : n < 18446744073709551616) :
    Calls Try.prog 57 #[.slice A len c, .int .u64 (n : Int)] w (NumPost w (putL l n)) := by
  obtain ⟨i0, hi0, hz0, hz1, hz2⟩ := info_parts num_info
  have HB := Lib.hid hb
  have HL := Lib.hid hl
  have HR : Hid (PutRel w l n len (.slice none 0 0) (.bool false) (.int .i64 0) w) := ⟨0, 0, none, 0, Nat.zero_le _, rfl, rfl, rfl, rfl, World.ownsRow_nil _ _ _ _, Below.refl _ _⟩
  clear hb hl
  go_enter Try.func57, Try.ntmps57
  go_wp2_with fail
  go_loopw [5, 6, 7] (fun o d i wr => PutRel w l n len o d i wr) (fun _ _ i _ => len - (intOf i).toNat)
  case atStart => exact HR.out
  case round =>
    clear HR
    obtain ⟨k, m, A5, c5, hk, rfl, rfl, rfl, hm, ho, hw⟩ := hrel
    have HO := Lib.hid ho
    have HW := Lib.hid hw
    have HM := Lib.hid hm
    have hm4 : m ≤ 4097 := by
      have h := putF_length n (l.take k)
      rw [hm, List.length_take] at h
      have := HL.out
      omega
    clear ho hw hm
    by_cases hlt : k < len
    · obtain ⟨ad, x, rfl, hlx, hx, hcell⟩ := (HB.out.up HW.out).at_ (k := k) (by rw [HL.out]; exact hlt)
      have HX := Lib.hid (putF_take (n := n) hlx)
      have HC : Hid (∀ W, Below w.heap.size w W → W.cell? (ad.add k) = some (.int .u64 (x : Int))) := fun W hW => by
        obtain ⟨ad', x', e, hlx', _, d1⟩ := (HB.out.up hW).at_ (k := k) (by rw [HL.out]; exact hlt)
        cases e
        rw [hlx] at hlx'
        cases hlx'
        exact d1
      clear hlx
      generalize putF n (l.take k) = s at *
      obtain ⟨o, d⟩ := s
      cases d with
      | true =>
        by_cases hxn : x = n
        · have hne : ((x : Int) != (n : Int)) = false := by rw [bne_eq_false_iff_eq]; omega
          have HP := Lib.hid (HX.out.trans (show putS n (o, true) x = (o, true) by unfold putS; simp [hxn]))
          have HR := Lib.hid (put_rel hlt HP.out HM.out HO.out HW.out)
          clear hxn
          go_wp2
          go_roundw
          case rel => exact HR.out
          case measure => simp [intOf]; omega
        · have hne : ((x : Int) != (n : Int)) = true := by rw [bne_iff_ne]; omega
          have HP := Lib.hid (HX.out.trans (show putS n (o, true) x = (o ++ [x], true) by unfold putS; simp [hxn]))
          clear hxn
          go_wp2_with (
          (at_builtin
           refine wpList_append_own _ rfl (.tmp 34) (.tmp 39) 29 rfl w.heap.size 28 i0 (.int .u64 0) 1 8 Try.underlying29 hi0 hz0 hz1 hz2 rfl (by decide) (.slice A5 m c5) m (nv o) rfl (HO.out.alloc _) ⟨wr.heap.size, 0, none⟩ 1 1 (nv [x]) rfl rfl (cell_one wr _ 28) (nv_one _) (by simp only [maxLen]; omega) (by omega) (Nat.le_trans HW.out.size (by simp)) ?_
           intro v1 w1 ho hg hat
           obtain ⟨g1, cap1, rfl, _⟩ := own_shape (w := w) ho (.inl (by omega))
           rw [← nv_append] at ho
           have HO1 := Lib.hid ho
           have HW1 := Lib.hid (num_grown HO.out HW.out hg)
           clear ho hg hat))
          have HR := Lib.hid (put_rel hlt HP.out (by rw [List.length_append, HM.out]; rfl) HO1.out HW1.out)
          go_roundw
          case rel => exact HR.out
          case measure => simp [intOf]; omega
      | false =>
        by_cases hnx : n ≤ x
        · have hge : decide ((n : Int) ≤ (x : Int)) = true := decide_eq_true (by omega)
          by_cases hxn : x = n
          · have hne : ((x : Int) != (n : Int)) = false := by rw [bne_eq_false_iff_eq]; omega
            have HP := Lib.hid (HX.out.trans (show putS n (o, false) x = (o ++ [n], true) by unfold putS; simp [hxn]))
            clear hxn
            go_wp2_with (
              (at_builtin
               refine wpList_append_own _ rfl (.tmp 24) (.tmp 26) 29 rfl w.heap.size 28 i0 (.int .u64 0) 1 8 Try.underlying29 hi0 hz0 hz1 hz2 rfl (by decide) (.slice A5 m c5) m (nv o) rfl (HO.out.alloc _) ⟨wr.heap.size, 0, none⟩ 1 1 (nv [n]) rfl rfl (cell_one wr _ 28) (nv_one _) (by simp only [maxLen]; omega) (by omega) (Nat.le_trans HW.out.size (by simp)) ?_
               intro v1 w1 ho hg hat
               obtain ⟨g1, cap1, rfl, _⟩ := own_shape (w := w) ho (.inl (by omega))
               rw [← nv_append] at ho
               have HO1 := Lib.hid ho
               have HW1 := Lib.hid (num_grown HO.out HW.out hg)
               clear ho hg hat
               have hc1 := HC.out w1 HW1.out))
            have HR := Lib.hid (put_rel hlt HP.out (by rw [List.length_append, HM.out]; rfl) HO1.out HW1.out)
            go_roundw
            case rel => exact HR.out
            case measure => simp [intOf]; omega
          · have hne : ((x : Int) != (n : Int)) = true := by rw [bne_iff_ne]; omega
            have HP := Lib.hid (HX.out.trans (show putS n (o, false) x = (o ++ [n] ++ [x], true) by unfold putS; simp [hxn, hnx]))
            clear hxn
            go_wp2_with (first
              | (at_builtin
                 refine wpList_append_own _ rfl (.tmp 24) (.tmp 26) 29 rfl w.heap.size 28 i0 (.int .u64 0) 1 8 Try.underlying29 hi0 hz0 hz1 hz2 rfl (by decide) (.slice A5 m c5) m (nv o) rfl (HO.out.alloc _) ⟨wr.heap.size, 0, none⟩ 1 1 (nv [n]) rfl rfl (cell_one wr _ 28) (nv_one _) (by simp only [maxLen]; omega) (by omega) (Nat.le_trans HW.out.size (by simp)) ?_
                 intro v1 w1 ho hg hat
                 obtain ⟨g1, cap1, rfl, _⟩ := own_shape (w := w) ho (.inl (by omega))
                 rw [← nv_append] at ho
                 have HO1 := Lib.hid ho
                 have HW1 := Lib.hid (num_grown HO.out HW.out hg)
                 clear ho hg hat
                 have hc1 := HC.out w1 HW1.out)
              | (at_builtin
                 refine wpList_append_own _ rfl (.tmp 34) (.tmp 39) 29 rfl w.heap.size 28 i0 (.int .u64 0) 1 8 Try.underlying29 hi0 hz0 hz1 hz2 rfl (by decide) (.slice (some ⟨g1, 0, none⟩) (m + 1) cap1) (m + 1) (nv (o ++ [n])) rfl (HO1.out.alloc _) ⟨w1.heap.size, 0, none⟩ 1 1 (nv [x]) rfl rfl (cell_one w1 _ 28) (nv_one _) (by simp only [maxLen]; omega) (by omega) (Nat.le_trans HW1.out.size (by simp)) ?_
                 intro v2 w2 ho hg hat
                 obtain ⟨g2, cap2, rfl, _⟩ := own_shape (w := w) ho (.inl (by omega))
                 rw [← nv_append] at ho
                 have HO2 := Lib.hid ho
                 have HW2 := Lib.hid (num_grown HO1.out HW1.out hg)
                 clear ho hg hat))
            have HR := Lib.hid (put_rel hlt HP.out (by rw [List.length_append, List.length_append, HM.out]; rfl) HO2.out HW2.out)
            go_roundw
            case rel => exact HR.out
            case measure => simp [intOf]; omega
        · have hge : decide ((n : Int) ≤ (x : Int)) = false := decide_eq_false (by omega)
          have hne : ((x : Int) != (n : Int)) = true := by rw [bne_iff_ne]; omega
          have HP := Lib.hid (HX.out.trans (show putS n (o, false) x = (o ++ [x], false) by unfold putS; simp [hnx, show ¬ x = n by omega]))
          have hxn2 : x < n := by omega
          have hxn3 : (x : Int) < (n : Int) := by omega
          clear hnx
          go_wp2_with (
            (at_builtin
             refine wpList_append_own _ rfl (.tmp 34) (.tmp 39) 29 rfl w.heap.size 28 i0 (.int .u64 0) 1 8 Try.underlying29 hi0 hz0 hz1 hz2 rfl (by decide) (.slice A5 m c5) m (nv o) rfl (HO.out.alloc _) ⟨wr.heap.size, 0, none⟩ 1 1 (nv [x]) rfl rfl (cell_one wr _ 28) (nv_one _) (by simp only [maxLen]; omega) (by omega) (Nat.le_trans HW.out.size (by simp)) ?_
             intro v1 w1 ho hg hat
             obtain ⟨g1, cap1, rfl, _⟩ := own_shape (w := w) ho (.inl (by omega))
             rw [← nv_append] at ho
             have HO1 := Lib.hid ho
             have HW1 := Lib.hid (num_grown HO.out HW.out hg)
             clear ho hg hat))
          have HR := Lib.hid (put_rel hlt HP.out (by rw [List.length_append, HM.out]; rfl) HO1.out HW1.out)
          go_roundw
          case rel => exact HR.out
          case measure => simp [intOf]; omega
    · obtain rfl : k = len := by omega
      have e : Hid (l.take k = l) := List.take_of_length_le (by rw [HL.out]; exact Nat.le_refl _)
      rw [e.out] at HO HM
      rw [e.out]
      have HP : Hid (putL l n = if (putF n l).2 = true then (putF n l).1 else (putF n l).1 ++ [n]) := rfl
      generalize putF n l = s at *
      obtain ⟨o, d⟩ := s
      cases d with
      | true =>
        go_wp2
        go_ret
        exact ⟨A5, m, c5, rfl, by rw [HP.out]; exact HM.out, by rw [HP.out]; exact HO.out, HW.out⟩
      | false =>
        go_wp2_with (
          (at_builtin
           refine wpList_append_own _ rfl (.tmp 43) (.tmp 45) 29 rfl w.heap.size 28 i0 (.int .u64 0) 1 8 Try.underlying29 hi0 hz0 hz1 hz2 rfl (by decide) (.slice A5 m c5) m (nv o) rfl (HO.out.alloc _) ⟨wr.heap.size, 0, none⟩ 1 1 (nv [n]) rfl rfl (cell_one wr _ 28) (nv_one _) (by simp only [maxLen]; omega) (by omega) (Nat.le_trans HW.out.size (by simp)) ?_
           intro v1 w1 ho hg hat
           obtain ⟨g1, cap1, rfl, _⟩ := own_shape (w := w) ho (.inl (by omega))
           rw [← nv_append] at ho
           have HO1 := Lib.hid ho
           have HW1 := Lib.hid (num_grown HO.out HW.out hg)
           clear ho hg hat))
        go_ret
        exact ⟨_, m + 1, cap1, rfl, by rw [HP.out]; simpa using HM.out, by rw [HP.out]; exact HO1.out, HW1.out⟩
end Go.Proofs.Ytaoojiacdkabbaa.Ru
