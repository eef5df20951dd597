/- The contracts of the program's 'Of' and 'Add'. Condition: at most 2^41 numbers, at most 2^41 runs. -/
import Derived.Test.YtaoojiacdkabbaaJoin
namespace Go.Proofs.Ytaoojiacdkabbaa.Ru
open Go.ChangeShapes Go.WideShapes Go.ChangeAt Go.RowKit Go.Shelf
set_option linter.unusedVariables false

/-- block g: n runs, the first ones are these. -/
def ORow (W : World) (g n : Nat) (o : List Run) : Prop := ∃ cur, W.heap[g]? = some (.cells cur 31 (0, 0)) ∧ cur.size = n * 2 ∧ cur.toList.take (o.length * 2) = rv o
theorem ORow.cells {W : World} {g n : Nat} {o : List Run} (h : ORow W g n o) (hk : o.length < n) : ∃ u v, W.cell? ⟨g, o.length * 2, none⟩ = some u ∧ W.cell? ⟨g, o.length * 2 + 1, none⟩ = some v ∧ W.frozen? ⟨g, o.length * 2, none⟩ = false ∧ W.frozen? ⟨g, o.length * 2 + 1, none⟩ = false := by
  obtain ⟨cur, h1, h2, h3⟩ := h
  refine ⟨cur[o.length * 2]'(by omega), cur[o.length * 2 + 1]'(by omega), ?_, ?_, by simp [World.frozen?, h1], by simp [World.frozen?, h1]⟩
  · simp [World.cell?, h1, Array.getElem?_eq_getElem (show o.length * 2 < cur.size by omega)]
  · simp [World.cell?, h1, Array.getElem?_eq_getElem (show o.length * 2 + 1 < cur.size by omega)]
theorem ORow.put {W : World} {g n : Nat} {o : List Run} (h : ORow W g n o) (hk : o.length < n) (x y : Nat) : ORow ((W.setCell ⟨g, o.length * 2, none⟩ (.int .u64 (x : Int))).setCell ⟨g, o.length * 2 + 1, none⟩ (.int .u64 (y : Int))) g n (o ++ [(x, y)]) := by
  obtain ⟨cur, h1, h2, h3⟩ := h
  have hlt := (Array.getElem?_eq_some_iff.1 h1).1
  refine ⟨(cur.setIfInBounds (o.length * 2) (.int .u64 (x : Int))).setIfInBounds (o.length * 2 + 1) (.int .u64 (y : Int)), ?_, by rw [Array.size_setIfInBounds, Array.size_setIfInBounds]; exact h2, ?_⟩
  · have h4 : (W.setCell ⟨g, o.length * 2, none⟩ (.int .u64 (x : Int))).heap[g]? = some (.cells (cur.setIfInBounds (o.length * 2) (.int .u64 (x : Int))) 31 (0, 0)) := by
      show (W.heap.modify g _)[g]? = _
      rw [Array.getElem?_modify, if_pos rfl, h1]
      rfl
    generalize W.setCell ⟨g, o.length * 2, none⟩ (.int .u64 (x : Int)) = W' at h4 ⊢
    show (W'.heap.modify g _)[g]? = _
    rw [Array.getElem?_modify, if_pos rfl, h4]
    rfl
  · apply List.ext_getElem?
    intro j
    rw [List.getElem?_take, rv_append, List.length_append, List.length_singleton]
    by_cases hj : j < (o.length + 1) * 2
    · rw [if_pos hj]
      have hr : (rv o)[j]? = if j < o.length * 2 then cur[j]? else none := by rw [← h3, List.getElem?_take]; simp
      have hrl : (rv o).length = o.length * 2 := rv_length o
      by_cases e1 : j < o.length * 2
      · rw [List.getElem?_append_left (by omega), hr, if_pos e1, Array.getElem?_toList, Array.getElem?_setIfInBounds_ne (by omega), Array.getElem?_setIfInBounds_ne (by omega)]
      · rw [List.getElem?_append_right (by omega), hrl, Array.getElem?_toList]
        by_cases e2 : j = o.length * 2
        · subst e2
          rw [Array.getElem?_setIfInBounds_ne (by omega), Array.getElem?_setIfInBounds_self_of_lt (by omega), Nat.sub_self]
          rfl
        · obtain rfl : j = o.length * 2 + 1 := by omega
          rw [Array.getElem?_setIfInBounds_self_of_lt (by rw [Array.size_setIfInBounds]; omega), show o.length * 2 + 1 - o.length * 2 = 1 by omega]
          rfl
    · rw [if_neg hj]
      exact (List.getElem?_eq_none (by rw [List.length_append, rv_length, rv_length, List.length_singleton]; omega)).symm
theorem ORow.stop {W : World} {B g n : Nat} {o : List Run} (h : ORow W g n o) (hB : B ≤ g) (hn : o.length = n) (h63 : n ≤ maxLen) : W.ownsRow B 31 2 (.slice (some ⟨g, 0, none⟩) n n) n (rv o) := by
  obtain ⟨cur, h1, h2, h3⟩ := h
  subst hn
  exact ⟨rv_length o, .inr ⟨g, o.length, cur, rfl, hB, h1, Nat.le_refl _, h63, h2, h3⟩⟩
theorem ORow.start {W : World} {B g n : Nat} {xs : List Value} (h : W.ownsRow B 31 2 (.slice (some ⟨g, 0, none⟩) n n) n xs) : ORow W g n [] := by
  obtain ⟨hlen, ⟨hz, _⟩ | ⟨g', cap', cur, e, hB, hheap, hle, hmx, hsz, htk⟩⟩ := h
  · cases hz
  · cases e
    exact ⟨cur, hheap, hsz, by simp [rv]⟩
def ones (l : List Nat) : List Run := l.map fun n => (n, n)
theorem ones_take {l : List Nat} {k x : Nat} (h : l[k]? = some x) : ones (l.take (k + 1)) = ones (l.take k) ++ [(x, x)] := by
  unfold ones
  rw [List.take_add_one, h]
  simp
theorem ones_length (l : List Nat) : (ones l).length = l.length := by unfold ones; simp
theorem ones_fit {l : List Nat} (h : FitN l) : Fit (ones l) := fun r hr => by
  obtain ⟨x, hx, rfl⟩ := List.mem_map.1 hr
  exact ⟨h x hx, h x hx⟩

set_option maxHeartbeats 1000000 in
theorem pof_any (w : World) (A : Option Addr) (l : List Nat) (n c : Nat) (hl : l.length = n) (hb : Nums w w.heap.size A l) (h41 : n ≤ 4398046511104) :
    Calls Try.prog 32 #[.slice A n c] w (RunPost w (ofL l)) := by
  obtain ⟨i0, hi0, hz0, hz1, hz2⟩ := info_parts run_info
  have HL := Lib.hid hl
  have HB := Lib.hid hb
  clear hl hb
  go_enter Try.func32, Try.ntmps32
  go_wp2_with (at_make; refine wpList_make_full _ rfl _ _ 22 rfl w.heap.size 31 i0 (.agg #[.int .u64 0, .int .u64 0]) 2 Try.underlying22 hi0 hz0 hz1 .i64 .i64 _ _ n rfl rfl rfl rfl (by rw [hz2]; omega) (by simp only [maxLen]; omega) (Nat.le_refl _) ?_; intro w1 ho1 hg1; have HO1 := Lib.hid (ORow.start ho1); have HW1 : Hid (Below w.heap.size w w1) := (Below.refl _ w).grown hg1 (Nat.le_refl _) (fun k e => by cases e); have HG1 : Hid (w.heap.size < w1.heap.size) := (ho1.lt w.heap.size rfl).2; clear ho1 hg1)
  go_loopw [11] (fun i wr => ∃ k : Nat, k ≤ n ∧ i = .int .i64 (k : Int) ∧ ORow wr w.heap.size n (ones (l.take k)) ∧ Below w.heap.size w wr) (fun i _ => n - (intOf i).toNat)
  case atStart => exact ⟨0, Nat.zero_le _, rfl, HO1.out, HW1.out⟩
  case round =>
    clear HO1 HW1
    obtain ⟨k, hk, rfl, hO, hW⟩ := hrel
    have HO := Lib.hid hO
    have HW := Lib.hid hW
    clear hO hW
    by_cases hlt : k < n
    · obtain ⟨ad, x, rfl, hlx, hx, q1⟩ := (HB.out.below HW.out).at_ (k := k) (by rw [HL.out]; exact hlt)
      have ho : (ones (l.take k)).length = k := by rw [ones_length, List.length_take, HL.out]; omega
      have hlt2 : (ones (l.take k)).length < n := by rw [ho]; exact hlt
      obtain ⟨u, v, c1, c2, f1, f2⟩ := HO.out.cells hlt2
      have HP := HO.out.put hlt2 x x
      rw [← ones_take hlx] at HP
      rw [ho] at c1 c2 f1 f2 HP
      have HP2 := Lib.hid HP
      have HW2 : Hid (Below w.heap.size w ((wr.setCell ⟨w.heap.size, k * 2, none⟩ (.int .u64 (x : Int))).setCell ⟨w.heap.size, k * 2 + 1, none⟩ (.int .u64 (x : Int)))) := (HW.out.setCell (p := ⟨w.heap.size, k * 2, none⟩) (Nat.le_refl _) _).setCell (p := ⟨w.heap.size, k * 2 + 1, none⟩) (Nat.le_refl _) _
      clear HP hlx ho hlt2
      go_wp2
      go_roundw
      case rel => exact ⟨k + 1, by omega, by go_num, HP2.out, HW2.out⟩
      case measure => simp [intOf]; omega
    · obtain rfl : k = n := by omega
      have hle : (ones l).length = k := by rw [ones_length]; exact HL.out
      have HOW : Hid (wr.ownsRow w.heap.size 31 2 (.slice (some ⟨w.heap.size, 0, none⟩) k k) k (rv (ones l))) := by
        have h := HO.out
        rw [List.take_of_length_le (by rw [HL.out]; exact Nat.le_refl _)] at h
        exact h.stop (Nat.le_refl _) hle (by simp only [maxLen]; omega)
      have HN : Hid (Calls Try.prog 20 #[.slice (some ⟨w.heap.size, 0, none⟩) k k] wr (RunPost wr (nrm (ones l)))) := pnorm_any wr _ (ones l) k k hle (runs_own HOW.out (ones_fit HB.out.1)) h41
      clear hle
      go_wp2_with fail
      refine HN.out.mono ?_
      rintro e w2 p2
      rw [show nrm (ones l) = ofL l from of_comes l] at p2
      obtain ⟨A5, n5, c5, rfl, h⟩ := p2.back HW.out
      have HH := Lib.hid h
      clear p2 h
      go_wp2
      go_ret
      exact ⟨A5, n5, c5, rfl, HH.out⟩

theorem add_comes (l : List Run) (n : Nat) : setL l (ofL [n]) 0 = setL l [(n, n)] 0 := by
  rw [← join_comes, ← join_comes]
  refine uniq (nrm_spec _).1 (nrm_spec _).1 fun m => ?_
  rw [(nrm_spec _).2, (nrm_spec _).2, has_append, has_append, (ofL_spec [n]).2, has_one]
  simp
theorem padd_any (w : World) (A1 : Option Addr) (l1 : List Run) (n1 c1 n : Nat) (hl1 : l1.length = n1) (hA1 : A1 = none → n1 = 0 ∧ c1 = 0) (hb1 : Runs w w.heap.size A1 l1) (h1 : n1 ≤ 2199023255552) (hn : n < 18446744073709551616) :
    Calls Try.prog 25 #[.slice A1 n1 c1, .int .u64 (n : Int)] w (RunPost w (setL l1 [(n, n)] 0)) := by
  have HL := Lib.hid hl1
  have HA := Lib.hid hA1
  have HB := Lib.hid hb1
  have L0 : Hid (Below w.heap.size w (w.alloc (.cells #[.int .u64 (n : Int)] 28))) := below_new _ _
  have HNU : Nums (w.alloc (.cells #[.int .u64 (n : Int)] 28)) (w.alloc (.cells #[.int .u64 (n : Int)] 28)).heap.size (some ⟨w.heap.size, 0, none⟩) [n] := by
    refine ⟨fun x hx => by obtain rfl := List.mem_singleton.1 hx; exact hn, fun _ => ⟨_, rfl, by simp, fun j u hu => ?_⟩⟩
    rw [zero_add, World.cell?_alloc_new]
    simpa [nv] using hu
  have H1 := Lib.hid (pof_any _ (some ⟨w.heap.size, 0, none⟩) [n] 1 1 rfl HNU (by omega))
  have hfit : Fit (ofL [n]) := fit_order (ofL_spec [n]).1
  have hlen := ofL_length [n]
  clear hl1 hA1 hb1 HNU
  go_enter Try.func25, Try.ntmps25
  go_wp2_with fail
  refine H1.out.mono ?_
  rintro e w1 p1
  obtain ⟨B1, m1, d1, rfl, e1, a1, f1, f1', r1, o1, b1⟩ := post_runs p1 hfit
  have W1 : Hid (Below w.heap.size w w1) := L0.out.trans (b1.mono L0.out.size)
  rw [e1] at hlen
  have H2 := Lib.hid (pjoin_any w1 A1 B1 l1 (ofL [n]) n1 m1 c1 d1 HL.out e1 HA.out a1 (HB.out.up W1.out) r1 h1 (by simp at hlen; omega))
  clear p1 r1 o1 b1 e1 a1 hlen
  go_wp2_with fail
  refine H2.out.mono ?_
  rintro e w2 p2
  rw [add_comes] at p2
  obtain ⟨A, q, c, rfl, h⟩ := p2.back W1.out
  have HH := Lib.hid h
  clear p2 h
  go_wp2
  go_ret
  exact ⟨A, q, c, rfl, HH.out⟩
end Go.Proofs.Ytaoojiacdkabbaa.Ru
