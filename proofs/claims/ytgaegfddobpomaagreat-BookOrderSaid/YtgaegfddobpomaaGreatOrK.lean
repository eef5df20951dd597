/- Words and contracts that the proofs of this seat stand on, part 11 of 39. -/
import Derived.Test.YtgaegfddobpomaaGreatOrJ
import Derived.Test.YtgaegfddobpomaaGreatOrC
import Derived.Lib.SlicesCompact
import Derived.Lib.SliceRun

namespace Go.Proofs.YtgaegfddobpomaaGreat.Dt
open Go.ChangeShapes Go.WideShapes Go.ChangeAt Go.RowKit Go.Lib
set_option linter.unusedVariables false
theorem dv_set {l : List Dot} {k : Nat} (r : Dot) : dv (l.set k r) = ((dv l).set (k * 2) (.int .u16 (r.1 : Int))).set (k * 2 + 1) (.int .u64 (r.2 : Int)) := by
 induction l generalizing k with
 | nil => simp [dv]
 | cons x l ih =>
   cases k with
   | zero => rfl
   | succ k =>
     have e : ∀ (y : Dot) (m : List Dot), dv (y :: m) = .int .u16 (y.1 : Int) :: .int .u64 (y.2 : Int) :: dv m := fun _ _ => rfl
     have e1 : (k + 1) * 2 = k * 2 + 2 := by omega
     rw [List.set_cons_succ, e, e, ih, e1]
     rfl
theorem dv_at {l : List Dot} {k : Nat} (hk : k < l.length) : (dv l)[k * 2]? = some (.int .u16 ((l.toArray[k]!).1 : Int)) ∧ (dv l)[k * 2 + 1]? = some (.int .u64 ((l.toArray[k]!).2 : Int)) := by
 have e : l.toArray[k]! = l[k] := by rw [getElem!_pos _ _ (by simpa using hk)]; simp
 rw [e]
 exact dv_get (List.getElem?_eq_getElem hk)
theorem row_at {w : World} {B g n cap : Nat} {d : List Dot} (h : w.ownsRow B 35 2 (.slice (some ⟨g, 0, none⟩) n cap) n (dv d)) (hd : d.length = n) {k : Nat} (hk : k < n) :
   (w.cell? ⟨g, k * 2, none⟩ = some (.int .u16 ((d.toArray[k]!).1 : Int)) ∧ w.cell? ⟨g, k * 2 + 1, none⟩ = some (.int .u64 ((d.toArray[k]!).2 : Int))) ∧ w.frozen? ⟨g, k * 2, none⟩ = false ∧ w.frozen? ⟨g, k * 2 + 1, none⟩ = false := by
 obtain ⟨h1, h2⟩ := dv_at (l := d) (k := k) (by omega)
 exact ⟨⟨(h.cellAt _ (by omega)).trans h1, (h.cellAt _ (by omega)).trans h2⟩, h.frozenAt _, h.frozenAt _⟩
theorem dv_cons (y : Dot) (m : List Dot) : dv (y :: m) = .int .u16 (y.1 : Int) :: .int .u64 (y.2 : Int) :: dv m := rfl
theorem dv_take (l : List Dot) (k : Nat) : (dv l).take (k * 2) = dv (l.take k) := by
 induction l generalizing k with
 | nil => simp [dv]
 | cons x l ih =>
   cases k with
   | zero => simp [dv]
   | succ k =>
     have e1 : (k + 1) * 2 = k * 2 + 2 := by omega
     rw [List.take_succ_cons, dv_cons, dv_cons, e1, List.take_succ_cons, List.take_succ_cons, ih]
theorem own_take {w : World} {B g n cap k : Nat} {xs : List Value} (h : w.ownsRow B 35 2 (.slice (some ⟨g, 0, none⟩) n cap) n xs) (hk : k ≤ n) : w.ownsRow B 35 2 (.slice (some ⟨g, 0, none⟩) k cap) k (xs.take (k * 2)) := by
 refine ⟨by rw [List.length_take, h.1]; omega, ?_⟩
 rcases h.2 with ⟨h', _⟩ | ⟨g', cap', cur, h', hb, hg, hnc, hcm, hcs, htake⟩
 · simp at h'
 · simp only [Value.slice.injEq, Option.some.injEq, Addr.mk.injEq, and_true, true_and] at h'
   obtain ⟨rfl, rfl⟩ := h'
   exact .inr ⟨g, cap, cur, rfl, hb, hg, by omega, hcm, hcs, by rw [← htake, List.take_take]; congr 1; omega⟩
theorem own_cells {w : World} {B g n cap : Nat} {xs : List Value} (o : Nat) (vs : List Value) (h : w.ownsRow B 35 2 (.slice (some ⟨g, 0, none⟩) n cap) n xs) : ∃ ys : List Value, (w.setCells g o vs).ownsRow B 35 2 (.slice (some ⟨g, 0, none⟩) n cap) n ys ∧ ys.take o = xs.take o ∧ w.grownBy (w.setCells g o vs) (some g) := by
 induction vs generalizing w xs o with
 | nil => exact ⟨xs, h, rfl, turn_refl _ _⟩
 | cons v vs ih =>
   obtain ⟨h1, h2⟩ := h.stored o v
   obtain ⟨ys, h3, h4, h5⟩ := ih (o + 1) h1
   refine ⟨ys, h3, ?_, h2.trans h5⟩
   have h6 := congrArg (List.take o) h4
   rw [List.take_take, List.take_take, show min o (o + 1) = o by omega] at h6
   rw [h6, List.take_set_of_le (Nat.le_refl _)]
theorem zeros_len (m : Nat) : (Builtin.zeroCells #[.int .u16 0, .int .u64 0] m).size = m * 2 := by simp [Builtin.zeroCells]
theorem zeros_one (m : Nat) : ∀ v ∈ (Builtin.zeroCells #[.int .u16 0, .int .u64 0] m).toList, v.oneCell' = true := by
 intro v hv
 simp [Builtin.zeroCells] at hv
 obtain ⟨i, _, rfl⟩ := hv
 rcases Nat.mod_two_eq_zero_or_one i with h | h <;> simp [h] <;> rfl
theorem run_clear {w : World} {B g n cap k : Nat} {xs : List Value} (h : w.ownsRow B 35 2 (.slice (some ⟨g, 0, none⟩) n cap) n xs) (hk : k < n) (c' : Nat) (ty : TypeId) :
   (Builtin.clear_ #[36] ty #[.slice (some ⟨g, k * 2, none⟩) (n - k) c']).run Tryz.prog w = .ok (.tuple #[]) (w.setCells g (k * 2) (Builtin.zeroCells #[.int .u16 0, .int .u64 0] (n - k)).toList) := by
 have hl : (Builtin.zeroCells #[.int .u16 0, .int .u64 0] (n - k)).toList.length = (n - k) * 2 := by rw [Array.length_toList, zeros_len]
 have hst := run_storeCells_cells (P := Tryz.prog) g (k * 2) (Builtin.zeroCells #[.int .u16 0, .int .u64 0] (n - k)).toList 0 w
   (fun j hj => by
     rw [hl] at hj
     have h1 := h.1
     rw [h.cellAt _ (by omega), List.getElem?_eq_getElem (by omega)]; rfl)
   (fun j hj => h.frozenAt _) (zeros_one _)
 simp only [Nat.add_zero] at hst
 obtain ⟨m, hm⟩ : ∃ m, n - k = m + 1 := ⟨n - k - 1, by omega⟩
 rw [hm] at hst ⊢
 simp [Builtin.clear_, run_underlying Tryz.underlying36, Value.cells, hst]
theorem comp_take {d : Array Dot} {n kk : Nat} {dk : List Dot} (h : CompInv d n kk dk.toArray) (hk : kk ≤ dk.length) : dk.take kk = compactUpTo d n := by
 apply List.ext_getElem?
 intro j
 rw [List.getElem?_take]
 by_cases hj : j < kk
 · rw [if_pos hj, h.low j hj, getElem!_pos dk.toArray j (by simpa using Nat.lt_of_lt_of_le hj hk), List.getElem?_eq_getElem (by omega)]
   simp
 · rw [if_neg hj, List.getElem?_eq_none (by rw [h.len]; omega)]
theorem grown_drew {w wr : World} {r : Option Nat} (h : w.grownBy wr r) (q : Nat) : w.grownBy (wr.drewN q) r := h.trans ⟨rfl, rfl, rfl, Nat.le_refl _, fun _ _ _ => rfl⟩
set_option maxHeartbeats 4000000 in
theorem pcompact_any (w : World) (B g cap n : Nat) (d : List Dot) (hn : d.length = n) (h62 : n < 4611686018427387904) (h : w.ownsRow B 35 2 (.slice (some ⟨g, 0, none⟩) n cap) n (dv d)) :
   Calls Tryz.prog 135 #[.slice (some ⟨g, 0, none⟩) n cap] w fun e w' => ∃ k, e = .returned (.slice (some ⟨g, 0, none⟩) k cap) ∧ k = (compactUpTo d.toArray n).length ∧ w'.ownsRow B 35 2 (.slice (some ⟨g, 0, none⟩) k cap) k (dv (compactUpTo d.toArray n)) ∧ w.grownBy w' (some g) := by
 have H := Lib.hid h
 have HN := Lib.hid hn
 have hcap := (own_len h).1
 clear h hn
 by_cases h2 : n < 2
 · have d2 : decide ((n : Int) < 2) = true := decide_eq_true (by omega)
   have e : compactUpTo d.toArray n = d := by
     rw [compactUpTo_all d.toArray n (fun j hj => keeps_lt_one _ j (by omega))]
     have := range_map_get d.toArray
     simp only [List.size_toArray, HN.out] at this
     rw [this]
   rw [e]
   go_enter Tryz.func135, Tryz.ntmps135
   go_wp2
   go_ret
   exact ⟨n, rfl, HN.out.symm, H.out, turn_refl _ _⟩
 · have d2 : decide ((n : Int) < 2) = false := decide_eq_false (by omega)
   go_enter Tryz.func135, Tryz.ntmps135
   go_wp2
   go_loopw [3] (fun i wr => ∃ k q : Nat, i = .int .i64 (k : Int) ∧ 1 ≤ k ∧ k ≤ n ∧ wr = w.drewN q ∧ ∀ j, j < k → keeps d.toArray j = true) (fun i _ => n - (intOf i).toNat)
   case atStart => exact ⟨1, 0, rfl, Nat.le_refl _, by omega, rfl, keeps_lt_one _⟩
   case round =>
     obtain ⟨k, q, rfl, hk1, hk, rfl, hall⟩ := hrel
     have A := Lib.hid hall
     clear hall
     by_cases hlt : k < n
     · obtain ⟨⟨c1, c2⟩, _, _⟩ := row_at H.out HN.out hlt
       obtain ⟨⟨c3, c4⟩, _, _⟩ := row_at H.out HN.out (k := k - 1) (by omega)
       generalize hx : d.toArray[k]! = x at c1 c2
       generalize hy : d.toArray[k - 1]! = y at c3 c4
       obtain ⟨x1, x2⟩ := x
       obtain ⟨y1, y2⟩ := y
       have BB := Lib.hid (And.intro hx hy)
       clear hx hy
       obtain ⟨i, rfl⟩ : ∃ i, k = i + 1 := ⟨k - 1, by omega⟩
       have ei : i + 1 - 1 = i := by omega
       rw [ei] at c3 c4
       clear ei
       by_cases hxy : x1 = y1 ∧ x2 = y2
       · obtain ⟨rfl, rfl⟩ := hxy
         have HS := Lib.hid (CompInv.start A.out (keeps_neg (d := d.toArray) (m := i + 1) (by omega) (by rw [BB.out.1, BB.out.2])))
         have hcap1 : i + 1 < cap := by omega
         have HCap := Lib.hid hcap
         clear hk1 hk hcap
         go_wp2_with fail
         go_quiet (fail)
         clear c1 c2 c3 c4
         go_wp2
         go_loopw [3, 5] (fun s3 s5 wr => ∃ (kk j : Nat) (dk : List Dot), s3 = .int .i64 (kk : Int) ∧ s5 = .int .i64 ((j : Int) + 1) ∧ i + 1 + (j + 1) ≤ n ∧ wr.ownsRow B 35 2 (.slice (some ⟨g, 0, none⟩) n cap) n (dv dk) ∧ dk.length = n ∧ CompInv d.toArray (i + 1 + (j + 1)) kk dk.toArray ∧ w.grownBy wr (some g)) (fun _ s5 _ => n - (intOf s5).toNat)
         case atStart => exact ⟨i + 1, 0, d, rfl, rfl, by omega, H.out, HN.out, HS.out, ⟨rfl, rfl, rfl, Nat.le_refl _, fun _ _ _ => rfl⟩⟩
         case round =>
           obtain ⟨kk, j, dk, rfl, rfl, hle, hw, hl, hI, hg⟩ := hrel
           have hkk := hI.lt
           have W := Lib.hid hw
           have L := Lib.hid hl
           have I := Lib.hid hI
           have G := Lib.hid hg
           clear hw hl hI hg
           by_cases hlt2 : i + 1 + (j + 1) < n
           · obtain ⟨⟨a1, a2⟩, _, _⟩ := row_at W.out L.out hlt2
             obtain ⟨⟨a3, a4⟩, _, _⟩ := row_at W.out L.out (k := i + 1 + j) (by omega)
             obtain ⟨⟨a5, a6⟩, f5, f6⟩ := row_at W.out L.out (k := kk) (by omega)
             rw [I.out.high (i + 1 + (j + 1)) (by omega), show (i + 1 + (j + 1)) * 2 = (i + 1) * 2 + (j + 1) * 2 by omega] at a1 a2
             rw [I.out.high (i + 1 + j) (by omega), show (i + 1 + j) * 2 = (i + 1) * 2 + j * 2 by omega] at a3 a4
             generalize hu : d.toArray[i + 1 + (j + 1)]! = u at a1 a2
             generalize hv : d.toArray[i + 1 + j]! = v at a3 a4
             generalize dk.toArray[kk]! = old at a5 a6
             have C := Lib.hid (And.intro hu hv)
             clear hu hv
             obtain ⟨u1, u2⟩ := u
             obtain ⟨v1, v2⟩ := v
             by_cases huv : u1 = v1 ∧ u2 = v2
             · obtain ⟨rfl, rfl⟩ := huv
               go_wp2_with fail
               go_quiet (fail)
               go_wp2
               go_roundw
               case rel => exact ⟨kk, j + 1, dk, rfl, by go_num, by omega, W.out, L.out, I.out.skip (keeps_neg (by omega) (by rw [C.out.1]; exact C.out.2.symm)), grown_drew G.out _⟩
               case measure => simp [intOf]; omega
             · have HK : Hid (CompInv d.toArray (i + 1 + (j + 1 + 1)) (kk + 1) (dk.set kk (u1, u2)).toArray) := by
                 have h1 := I.out.keep (by simp only [List.size_toArray]; rw [HN.out]; exact hlt2) (keeps_pos (by
                   rw [C.out.1]
                   intro e
                   have h2 := C.out.2
                   rw [show i + 1 + (j + 1) - 1 = i + 1 + j by omega] at e
                   rw [h2] at e
                   cases e
                   exact huv ⟨rfl, rfl⟩))
                 rw [C.out.1] at h1
                 have h3 : (dk.set kk (u1, u2)).toArray = dk.toArray.setIfInBounds kk (u1, u2) := by simp
                 rw [h3]
                 exact h1
               have HW : Hid (∀ q, ∃ V, V = ((wr.drewN q).setCell ⟨g, kk * 2, none⟩ (.int .u16 (u1 : Int))).setCell ⟨g, kk * 2 + 1, none⟩ (.int .u64 (u2 : Int)) ∧ V.ownsRow B 35 2 (.slice (some ⟨g, 0, none⟩) n cap) n (dv (dk.set kk (u1, u2))) ∧ w.grownBy V (some g)) := fun q => by
                 have h0 : (wr.drewN q).ownsRow B 35 2 (.slice (some ⟨g, 0, none⟩) n cap) n (dv dk) := W.out
                 obtain ⟨h1, g1⟩ := h0.stored (kk * 2) (.int .u16 (u1 : Int))
                 obtain ⟨h2, g2⟩ := h1.stored (kk * 2 + 1) (.int .u64 (u2 : Int))
                 exact ⟨_, rfl, by rw [dv_set]; exact h2, ((grown_drew G.out q).trans g1).trans g2⟩
               have hkn : kk < n := by omega
               have key : ((u1 : Int) == (v1 : Int)) = false ∨ (u1 = v1 ∧ ((u2 : Int) == (v2 : Int)) = false) := by
                 by_cases e : u1 = v1
                 · refine .inr ⟨e, ?_⟩; rw [beq_eq_false_iff_ne]; intro e2; exact huv ⟨e, by omega⟩
                 · refine .inl ?_; rw [beq_eq_false_iff_ne]; omega
               clear huv C hkk
               rcases key with k1 | ⟨rfl, k1⟩
               all_goals
                 go_wp2_with fail
                 go_quiet (fail)
                 go_wp2
                 go_roundw
                 case rel =>
                   obtain ⟨V, rfl, h1, h2⟩ := HW.out nq
                   exact ⟨kk + 1, j + 1, dk.set kk (u1, u2), by go_num, by go_num, by omega, h1, by rw [List.length_set]; exact L.out, HK.out, h2⟩
                 case measure => simp [intOf]; omega
           · have hend : i + 1 + (j + 1) = n := by omega
             have hkn : kk < n := by omega
             have hkc : kk < cap := Nat.lt_of_lt_of_le hkn HCap.out
             have hI := I.out
             rw [hend] at hI
             have HT := Lib.hid (comp_take hI (by rw [L.out]; omega))
             have HL := Lib.hid hI.len
             have hcl := fun ty => run_clear W.out hkn (cap - kk) ty
             obtain ⟨ys, hy1, hy2, hy3⟩ := own_cells (kk * 2) (Builtin.zeroCells #[.int .u16 0, .int .u64 0] (n - kk)).toList W.out
             have HY : Hid ((wr.setCells g (kk * 2) (Builtin.zeroCells #[.int .u16 0, .int .u64 0] (n - kk)).toList).ownsRow B 35 2 (.slice (some ⟨g, 0, none⟩) kk cap) kk (dv (compactUpTo d.toArray n))) := by
               have h1 := own_take hy1 (k := kk) (by omega)
               rw [hy2, dv_take, HT.out] at h1
               exact h1
             have HG := Lib.hid (G.out.trans hy3)
             clear hI hy1 hy2 hy3 hkk
             generalize wr.setCells g (kk * 2) (Builtin.zeroCells #[.int .u16 0, .int .u64 0] (n - kk)).toList = wz at hcl HY HG
             go_wp2
             go_ret
             exact ⟨kk, rfl, HL.out.symm, HY.out, HG.out⟩
       · have key : ((x1 : Int) == (y1 : Int)) = false ∨ (x1 = y1 ∧ ((x2 : Int) == (y2 : Int)) = false) := by
           by_cases e : x1 = y1
           · refine .inr ⟨e, ?_⟩; rw [beq_eq_false_iff_ne]; intro e2; exact hxy ⟨e, by omega⟩
           · refine .inl ?_; rw [beq_eq_false_iff_ne]; omega
         have HK : Hid (∀ j, j < i + 1 + 1 → keeps d.toArray j = true) := fun j hj => by
           by_cases e : j = i + 1
           · subst e
             refine keeps_pos ?_
             rw [BB.out.1, BB.out.2]
             intro e
             cases e
             exact hxy ⟨rfl, rfl⟩
           · exact A.out j (by omega)
         clear hxy hcap
         rcases key with k1 | ⟨rfl, k1⟩
         all_goals
           go_wp2_with fail
           go_quiet (fail)
           go_wp2
           go_roundw
           case rel => exact ⟨i + 1 + 1, _, by go_num, by omega, by omega, rfl, HK.out⟩
           case measure => simp [intOf]; omega
     · have e : compactUpTo d.toArray n = d := by
         obtain rfl : k = n := by omega
         rw [compactUpTo_all d.toArray k A.out]
         have := range_map_get d.toArray
         simp only [List.size_toArray, HN.out] at this
         rw [this]
       have E := Lib.hid e
       clear e
       go_wp2
       go_ret
       rw [E.out]
       exact ⟨n, rfl, HN.out.symm, H.out, ⟨rfl, rfl, rfl, Nat.le_refl _, fun _ _ _ => rfl⟩⟩
end Go.Proofs.YtgaegfddobpomaaGreat.Dt

namespace Go.Proofs.YtgaegfddobpomaaGreat.Dt
open Go.ChangeShapes Go.WideShapes Go.ChangeAt Go.RowKit
set_option linter.unusedVariables false
set_option maxRecDepth 4000
theorem pgood_x (w : World) (d : Dot) :
   Calls Tryz.prog 87 #[.agg #[.int .u16 (d.1 : Int), .int .u64 (d.2 : Int)]] w fun e w' => e = .returned (.bool (mayD d)) ∧ w' = w.alloc (.cells #[.int .u16 (d.1 : Int), .int .u64 (d.2 : Int)] 35) := by
 obtain ⟨a, n⟩ := d
 by_cases c1 : 1 ≤ a
 · have d1 : ((a : Int) != 0) = true := by rw [bne_iff_ne]; omega
   by_cases c2 : 1 ≤ n
   · have d2 : ((n : Int) != 0) = true := by rw [bne_iff_ne]; omega
     have hd : mayD (a, n) = decide ((n : Int) ≤ 281474976710655) := decide_eq_decide.2 ⟨fun h => by have := h.2.2; simp at this; omega, fun h => ⟨c1, c2, by simp; omega⟩⟩
     rw [hd]
     clear hd
     go_enter Tryz.func87, Tryz.ntmps87
     go_wp2
     go_ret
     exact ⟨rfl, rfl⟩
   · have hd : mayD (a, n) = false := decide_eq_false (fun h => c2 h.2.1)
     have d2 : ((n : Int) != 0) = false := by rw [bne_eq_false_iff_eq]; omega
     rw [hd]
     clear hd
     go_enter Tryz.func87, Tryz.ntmps87
     go_wp2
     go_ret
     exact ⟨rfl, rfl⟩
 · have hd : mayD (a, n) = false := decide_eq_false (fun h => c1 h.1)
   have d1 : ((a : Int) != 0) = false := by rw [bne_eq_false_iff_eq]; omega
   rw [hd]
   clear hd
   go_enter Tryz.func87, Tryz.ntmps87
   go_wp2
   go_ret
   exact ⟨rfl, rfl⟩
theorem box_at (w : World) (d : Dot) : ∀ V, Below (w.alloc (.cells #[.int .u16 (d.1 : Int), .int .u64 (d.2 : Int)] 35)).heap.size (w.alloc (.cells #[.int .u16 (d.1 : Int), .int .u64 (d.2 : Int)] 35)) V → V.cell? ⟨w.heap.size, 0, none⟩ = some (.int .u16 (d.1 : Int)) ∧ V.cell? ⟨w.heap.size, 1, none⟩ = some (.int .u64 (d.2 : Int)) := by
 intro V hV
 have h1 : (w.alloc (.cells #[.int .u16 (d.1 : Int), .int .u64 (d.2 : Int)] 35)).cell? ⟨w.heap.size, 0, none⟩ = some (.int .u16 (d.1 : Int)) := by simp [go_sem]
 have h2 : (w.alloc (.cells #[.int .u16 (d.1 : Int), .int .u64 (d.2 : Int)] 35)).cell? ⟨w.heap.size, 1, none⟩ = some (.int .u64 (d.2 : Int)) := by simp [go_sem]
 exact ⟨(hV.cell (World.block_lt_of_cell? _ _ h1)).trans h1, (hV.cell (World.block_lt_of_cell? _ _ h2)).trans h2⟩
end Go.Proofs.YtgaegfddobpomaaGreat.Dt
