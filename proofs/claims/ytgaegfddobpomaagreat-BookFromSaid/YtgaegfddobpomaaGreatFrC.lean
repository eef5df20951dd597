/- Words and contracts that the proofs of this seat stand on, part 3 of 28. -/
import Derived.Test.YtgaegfddobpomaaGreatFrB
import Derived.Deep.RegionHeld3
import Derived.Deep.DeepCutAuto

namespace Go.Proofs.YtgaegfddobpomaaGreat.Dt
open Go.ChangeShapes Go.WideShapes Go.ChangeAt Go.RowKit
set_option linter.unusedVariables false
theorem bel_alloc {w W : World} (o : Obj) (h : Below w.heap.size w W) : Below w.heap.size w (W.alloc o) := h.alloc h.size o
def PRel (w1 : World) (n : Nat) (f : Nat → List Dot) (v i : Value) (wr : World) : Prop :=
 ∃ k m A c, k ≤ n ∧ i = .int .i64 ((k : Nat) : Int) ∧ v = .slice A m c ∧ (f k).length = m ∧ wr.ownsRow w1.heap.size 35 2 (.slice A m c) m (dv (f k)) ∧ Below w1.heap.size w1 wr
theorem p_rel {w1 wr : World} {n k m c : Nat} {A : Option Addr} {f : Nat → List Dot} {o : List Dot} (hk : k < n) (hs : f (k + 1) = o) (hm : o.length = m) (ho : wr.ownsRow w1.heap.size 35 2 (.slice A m c) m (dv o)) (hb : Below w1.heap.size w1 wr) : PRel w1 n f (.slice A m c) (.int .i64 ((k : Int) + 1)) wr :=
 ⟨k + 1, m, A, c, hk, by go_num, rfl, by rw [hs]; exact hm, by rw [hs]; exact ho, hb⟩
set_option maxHeartbeats 8000000 in
theorem rput_any (w : World) (A0 : Option Addr) (l : List Dot) (n c0 : Nat) (d : Dot) (hl : l.length = n) (hb : Dots w w.heap.size A0 l) (h42 : n ≤ 4398046511104) :
   Calls Tryz.prog 78 #[.slice A0 n c0, .agg #[.int .u16 (d.1 : Int), .int .u64 (d.2 : Int)]] w (DotPost w (putD l d)) := by
 have HL := Lib.hid hl
 have HB1 : Hid (Below w.heap.size w (w.alloc (.cells #[.int .u16 (d.1 : Int), .int .u64 (d.2 : Int)] 35))) := below_new w _
 have hd0 : (w.alloc (.cells #[.int .u16 (d.1 : Int), .int .u64 (d.2 : Int)] 35)).cell? ⟨w.heap.size, 0, none⟩ = some (.int .u16 (d.1 : Int)) := by rw [World.cell?_alloc_mark]; rfl
 have hd1 : (w.alloc (.cells #[.int .u16 (d.1 : Int), .int .u64 (d.2 : Int)] 35)).cell? ⟨w.heap.size, 1, none⟩ = some (.int .u64 (d.2 : Int)) := by rw [World.cell?_alloc_mark]; rfl
 have H1 := Lib.hid (hb.up (below_new w (.cells #[.int .u16 (d.1 : Int), .int .u64 (d.2 : Int)] 35)))
 clear hb hl
 go_enter Tryz.func78, Tryz.ntmps78
 go_wp2_with fail
 generalize hw1 : w.alloc (.cells #[.int .u16 (d.1 : Int), .int .u64 (d.2 : Int)] 35) = w1 at *
 clear hw1
 have HD : Hid (∀ V, Below w1.heap.size w1 V → V.cell? ⟨w.heap.size, 0, none⟩ = some (.int .u16 (d.1 : Int)) ∧ V.cell? ⟨w.heap.size, 1, none⟩ = some (.int .u64 (d.2 : Int))) := fun V hV => ⟨(hV.cell (World.block_lt_of_cell? w1 _ hd0)).trans hd0, (hV.cell (World.block_lt_of_cell? w1 _ hd1)).trans hd1⟩
 clear hd0 hd1
 obtain ⟨f, hf⟩ : ∃ f : Nat → List Dot, f = fun k => (l.take k).filter (fun x => aheadD x d) := ⟨_, rfl⟩
 have HF : Hid (∀ k, (f k).length ≤ k) := Lib.hid (fun k => by rw [hf]; exact Nat.le_trans (List.length_filter_le _ _) (List.length_take_le _ _))
 have HFE : Hid (∀ k, f k = (l.take k).filter (fun x => aheadD x d)) := Lib.hid (fun k => by rw [hf])
 clear hf
 go_loopw [5, 6] (fun v i wr => PRel w1 n f v i wr) (fun _ i _ => n - (intOf i).toNat)
 case atStart => exact ⟨0, 0, none, 0, Nat.zero_le _, rfl, rfl, by rw [HFE.out]; rfl, by rw [HFE.out]; exact World.ownsRow_nil _ _ _ _, Below.refl _ _⟩
 case round =>
   obtain ⟨k, m, A, c, hk, rfl, rfl, hm, ho, hw⟩ := hrel
   have hmk : m ≤ k := by rw [← hm]; exact HF.out k
   have HM := Lib.hid hm
   have HO := Lib.hid ho
   have HW := Lib.hid hw
   clear hm ho hw
   by_cases hlt : k < n
   · obtain ⟨ad, x, rfl, hB, hlx, hx1, hx2, hcx⟩ := H1.out.cells (k := k) (by rw [HL.out]; exact hlt)
     have HN := Lib.hid (filter_next (fun x => aheadD x d) hlx)
     clear hlx
     have HC : Hid (∀ V, Below wr.heap.size wr V → (V.cell? (ad.add (k * 2)) = some (.int .u16 (x.1 : Int)) ∧ V.cell? ⟨(ad.add (k * 2)).block, (ad.add (k * 2)).off + 1, none⟩ = some (.int .u64 (x.2 : Int))) ∧ V.cell? ⟨w.heap.size, 0, none⟩ = some (.int .u16 (d.1 : Int)) ∧ V.cell? ⟨w.heap.size, 1, none⟩ = some (.int .u64 (d.2 : Int))) := fun V hV =>
       ⟨hcx V (HW.out.trans (hV.mono HW.out.size)), HD.out V (HW.out.trans (hV.mono HW.out.size))⟩
     clear hcx
     obtain ⟨⟨d1, d2⟩, d3, d4⟩ := HC.out wr (Below.refl _ _)
     go_wp2_with fail
     go_region_held3 (fun V => (V.cell? (ad.add (k * 2)) = some (.int .u16 (x.1 : Int)) ∧ V.cell? ⟨(ad.add (k * 2)).block, (ad.add (k * 2)).off + 1, none⟩ = some (.int .u64 (x.2 : Int))) ∧ V.cell? ⟨w.heap.size, 0, none⟩ = some (.int .u16 (d.1 : Int)) ∧ V.cell? ⟨w.heap.size, 1, none⟩ = some (.int .u64 (d.2 : Int))) (first | exact ⟨⟨d1, d2⟩, d3, d4⟩ | assumption | exact HC.out _ (by (repeat (first | exact Below.refl _ _ | assumption | apply bel_drew)))) (first
       | (go_at_call 70; (with_reducible refine (rcmp_later wr _ x d ?_).mono ?_); (repeat (first | exact Below.refl _ _ | assumption | apply bel_drew)); rintro e V ⟨rfl, bv⟩; have hcV := HC.out V bv))
     all_goals
       have HV : Hid (Below w1.heap.size w1 V) := HW.out.trans (bv.mono HW.out.size)
       have HOV := Lib.hid (own_kept HO.out bv)
       obtain ⟨⟨v1, v2⟩, _⟩ := hcV
       clear bv d1 d2 d3 d4
       rw [cmp_neg]
       cases ha : aheadD x d with
       | true =>
         rw [ha] at HN
         have HLO : Hid (m + 1 ≤ 8796093022208) := Lib.hid (by omega)
         have HWA : Hid (Below w1.heap.size w1 (V.alloc (.cells #[.int .u16 (x.1 : Int), .int .u64 (x.2 : Int)] 35))) := bel_alloc _ HV.out
         have HS : Hid (f (k + 1) = f k ++ [x]) := Lib.hid (by rw [HFE.out, HFE.out]; exact HN.out.trans (by rw [if_pos rfl]))
         clear ha
         go_wp2_with (at_builtin; refine wpList_any rfl (.tmp 21) (.tmp 26) rfl rfl _ w1.heap.size m (.slice A m c) (f k) (some ⟨V.heap.size, 0, none⟩) [x] 1 1 rfl rfl (HOV.out.alloc _) (fun h => by cases h) (lies_one V x) rfl HLO.out HWA.out.size ?_; intro A3 c3 V3 ho3 hg3; have HR := Lib.hid (p_rel hlt HS.out (by rw [List.length_append, HM.out]; rfl) ho3 (any_grown (HOV.out.alloc _) HWA.out hg3)); clear ho3 hg3)
         go_roundw
         case rel => exact HR.out
         case measure => simp [intOf]; omega
       | false =>
         rw [ha] at HN
         have HS : Hid (f (k + 1) = f k) := Lib.hid (by rw [HFE.out, HFE.out]; exact HN.out.trans (by rw [if_neg (by simp), List.append_nil]))
         have HR := Lib.hid (p_rel hlt HS.out HM.out HOV.out HV.out)
         clear ha v1 v2
         go_wp2
         go_roundw
         case rel => exact HR.out
         case measure => simp [intOf]; omega
   · obtain rfl : n = k := by omega
     have HE : Hid (f n = l.filter (fun x => aheadD x d)) := Lib.hid (by rw [HFE.out, List.take_of_length_le (by rw [HL.out]; exact Nat.le_refl _)])
     obtain ⟨d3, d4⟩ := HD.out wr HW.out
     have HLO : Hid (m + 1 ≤ 8796093022208) := Lib.hid (by omega)
     have HWA : Hid (Below w1.heap.size w1 (wr.alloc (.cells #[.int .u16 (d.1 : Int), .int .u64 (d.2 : Int)] 35))) := bel_alloc _ HW.out
     go_wp2_with (at_builtin; refine wpList_any rfl (.tmp 28) (.tmp 30) rfl rfl _ w1.heap.size m (.slice A m c) (f n) (some ⟨wr.heap.size, 0, none⟩) [d] 1 1 rfl rfl (HO.out.alloc _) (fun h => by cases h) (lies_one wr d) rfl HLO.out HWA.out.size ?_; intro A3 c3 V3 ho3 hg3; have HO3 := Lib.hid ho3; have HW3 := Lib.hid (any_grown (HO.out.alloc _) HWA.out hg3); clear ho3 hg3)
     obtain ⟨g, hg⟩ : ∃ g : Nat → List Dot, g = fun j => l.filter (fun x => aheadD x d) ++ [d] ++ (l.take j).filter (fun x => aheadD d x) := ⟨_, rfl⟩
     have HGE : Hid (∀ j, g j = l.filter (fun x => aheadD x d) ++ [d] ++ (l.take j).filter (fun x => aheadD d x)) := Lib.hid (fun j => by rw [hg])
     have HG : Hid (∀ j, (g j).length ≤ n + 1) := Lib.hid (fun j => by
       have h1 := put_length l d
       have h2 : ((l.take j).filter (fun x => aheadD d x)).length ≤ (l.filter (fun x => aheadD d x)).length := ((List.take_sublist j l).filter _).length_le
       rw [HL.out] at h1
       rw [HGE.out]
       unfold putD at h1
       simp only [List.length_append] at h1 ⊢
       omega)
     clear hg d3 d4 HLO
     have HS0 : Hid (g 0 = f n ++ [d]) := Lib.hid (by rw [HGE.out, HE.out]; simp)
     have HM0 : Hid ((f n ++ [d]).length = m + 1) := Lib.hid (by rw [List.length_append, HM.out]; rfl)
     clear hmk HF HFE HM HO HW HWA HE hlt hk
     generalize f n = fk at HS0 HM0 HO3
     go_loopw [5, 7] (fun v i wr => PRel w1 n g v i wr) (fun _ i _ => n - (intOf i).toNat)
     case atStart => exact ⟨0, m + 1, A3, c3, Nat.zero_le _, rfl, rfl, by rw [HS0.out]; exact HM0.out, by rw [HS0.out]; exact HO3.out, HW3.out⟩
     case round =>
       clear HS0 HM0 HO3 HW3
       obtain ⟨k, m, A, c, hk, rfl, rfl, hm, ho, hw⟩ := hrel
       have hmk : m ≤ n + 1 := by rw [← hm]; exact HG.out k
       have HM := Lib.hid hm
       have HO := Lib.hid ho
       have HW := Lib.hid hw
       clear hm ho hw
       by_cases hlt : k < n
       · obtain ⟨ad, x, rfl, hB, hlx, hx1, hx2, hcx⟩ := H1.out.cells (k := k) (by rw [HL.out]; exact hlt)
         have HN := Lib.hid (filter_next (fun x => aheadD d x) hlx)
         clear hlx
         have HC : Hid (∀ V, Below wr.heap.size wr V → (V.cell? (ad.add (k * 2)) = some (.int .u16 (x.1 : Int)) ∧ V.cell? ⟨(ad.add (k * 2)).block, (ad.add (k * 2)).off + 1, none⟩ = some (.int .u64 (x.2 : Int))) ∧ V.cell? ⟨w.heap.size, 0, none⟩ = some (.int .u16 (d.1 : Int)) ∧ V.cell? ⟨w.heap.size, 1, none⟩ = some (.int .u64 (d.2 : Int))) := fun V hV =>
           ⟨hcx V (HW.out.trans (hV.mono HW.out.size)), HD.out V (HW.out.trans (hV.mono HW.out.size))⟩
         clear hcx
         obtain ⟨⟨d1, d2⟩, d3, d4⟩ := HC.out wr (Below.refl _ _)
         go_wp2_with fail
         go_region_held3 (fun V => (V.cell? (ad.add (k * 2)) = some (.int .u16 (x.1 : Int)) ∧ V.cell? ⟨(ad.add (k * 2)).block, (ad.add (k * 2)).off + 1, none⟩ = some (.int .u64 (x.2 : Int))) ∧ V.cell? ⟨w.heap.size, 0, none⟩ = some (.int .u16 (d.1 : Int)) ∧ V.cell? ⟨w.heap.size, 1, none⟩ = some (.int .u64 (d.2 : Int))) (first | exact ⟨⟨d1, d2⟩, d3, d4⟩ | assumption | exact HC.out _ (by (repeat (first | exact Below.refl _ _ | assumption | apply bel_drew)))) (first
           | (go_at_call 70; (with_reducible refine (rcmp_later wr _ x d ?_).mono ?_); (repeat (first | exact Below.refl _ _ | assumption | apply bel_drew)); rintro e V ⟨rfl, bv⟩; have hcV := HC.out V bv))
         all_goals
           have HV : Hid (Below w1.heap.size w1 V) := HW.out.trans (bv.mono HW.out.size)
           have HOV := Lib.hid (own_kept HO.out bv)
           obtain ⟨⟨v1, v2⟩, _⟩ := hcV
           clear bv d1 d2 d3 d4
           rw [cmp_pos]
           cases ha : aheadD d x with
           | true =>
             rw [ha] at HN
             have HLO : Hid (m + 1 ≤ 8796093022208) := Lib.hid (by omega)
             have HWA : Hid (Below w1.heap.size w1 (V.alloc (.cells #[.int .u16 (x.1 : Int), .int .u64 (x.2 : Int)] 35))) := bel_alloc _ HV.out
             have HS : Hid (g (k + 1) = g k ++ [x]) := Lib.hid (by rw [HGE.out, HGE.out, List.append_assoc _ _ [x]]; exact congrArg _ (HN.out.trans (by rw [if_pos rfl])))
             clear ha
             go_wp2_with (at_builtin; refine wpList_any rfl (.tmp 45) (.tmp 50) rfl rfl _ w1.heap.size m (.slice A m c) (g k) (some ⟨V.heap.size, 0, none⟩) [x] 1 1 rfl rfl (HOV.out.alloc _) (fun h => by cases h) (lies_one V x) rfl HLO.out HWA.out.size ?_; intro A3 c3 V3 ho3 hg3; have HR := Lib.hid (p_rel hlt HS.out (by rw [List.length_append, HM.out]; rfl) ho3 (any_grown (HOV.out.alloc _) HWA.out hg3)); clear ho3 hg3)
             go_roundw
             case rel => exact HR.out
             case measure => simp [intOf]; omega
           | false =>
             rw [ha] at HN
             have HS : Hid (g (k + 1) = g k) := Lib.hid (by rw [HGE.out, HGE.out]; exact congrArg _ (HN.out.trans (by rw [if_neg (by simp), List.append_nil])))
             have HR := Lib.hid (p_rel hlt HS.out HM.out HOV.out HV.out)
             clear ha v1 v2
             go_wp2
             go_roundw
             case rel => exact HR.out
             case measure => simp [intOf]; omega
       · obtain rfl : n = k := by omega
         have HE2 : Hid (g n = putD l d) := Lib.hid (by rw [HGE.out, List.take_of_length_le (by rw [HL.out]; exact Nat.le_refl _)]; rfl)
         have HWE : Hid (Below w.heap.size w wr) := HB1.out.trans (HW.out.mono HB1.out.size)
         rw [HE2.out] at HM HO
         go_wp2
         go_ret
         exact ⟨A, m, c, rfl, HM.out, own_less HO.out HB1.out.size, HWE.out⟩
end Go.Proofs.YtgaegfddobpomaaGreat.Dt

namespace Go.Proofs.YtgaegfddobpomaaGreat.Ev
open Go.ChangeShapes Go.WideShapes Go.ChangeAt Go.RowKit
set_option linter.unusedVariables false
set_option maxRecDepth 4000
noncomputable def sortE (l : List Evt) : List Evt := l.foldl putE []
theorem take_one {α : Type} {l : List α} {k : Nat} {x : α} (h : l[k]? = some x) : l.take (k + 1) = l.take k ++ [x] := by rw [List.take_add_one, h]; rfl
theorem sort_next {l : List Evt} {k : Nat} {x : Evt} (h : l[k]? = some x) : sortE (l.take (k + 1)) = putE (sortE (l.take k)) x := by
 unfold sortE
 rw [take_one h, List.foldl_append]; rfl
theorem put_long (l : List Evt) (e : Evt) : (putE l e).length ≤ l.length + 1 := by
 unfold putE
 have h := st_long l e l.length
 split
 · omega
 · split
   · rename_i h1
     rw [if_pos h1] at h
     exact h
   · rename_i h1
     rw [if_neg h1] at h
     rw [List.length_append]
     simp only [List.length_cons, List.length_nil]
     omega
def dotsOne (m : List Dt.Dot) (x : Evt) : List Dt.Dot := x.kills.foldl Dt.putD (Dt.putD m x.dot)
def dotsE (l : List Evt) : List Dt.Dot := l.foldl dotsOne []
def dotsTo (l : List Evt) (k : Nat) : List Dt.Dot := (l.take k).foldl dotsOne []
def killsTo (m : List Dt.Dot) (x : Evt) (j : Nat) : List Dt.Dot := (x.kills.take j).foldl Dt.putD (Dt.putD m x.dot)
theorem dots_next {l : List Evt} {k : Nat} {x : Evt} (h : l[k]? = some x) : dotsTo l (k + 1) = dotsOne (dotsTo l k) x := by
 unfold dotsTo
 rw [take_one h, List.foldl_append]; rfl
theorem kills_next {m : List Dt.Dot} {x : Evt} {j : Nat} {d : Dt.Dot} (h : x.kills[j]? = some d) : killsTo m x (j + 1) = Dt.putD (killsTo m x j) d := by
 unfold killsTo
 rw [take_one h, List.foldl_append]; rfl
theorem kills_all {m : List Dt.Dot} {x : Evt} {n : Nat} (hn : x.kills.length = n) : killsTo m x n = dotsOne m x := by
 unfold killsTo dotsOne
 rw [List.take_of_length_le (by rw [hn]; exact Nat.le_refl _)]
theorem ahead_iff (a b : Dt.Dot) : Dt.aheadD a b = true ↔ a.1 < b.1 ∨ (a.1 = b.1 ∧ a.2 < b.2) := decide_eq_true_iff
theorem ahead_trans {a b c : Dt.Dot} (h1 : Dt.aheadD a b = true) (h2 : Dt.aheadD b c = true) : Dt.aheadD a c = true := by
 rw [ahead_iff] at *
 omega
theorem ahead_total {a b : Dt.Dot} (h : ¬ Dt.aheadD a b = true) (hn : b ≠ a) : Dt.aheadD b a = true := by
 rw [ahead_iff] at *
 have h3 : ¬ (b.1 = a.1 ∧ b.2 = a.2) := fun h => hn (Prod.ext h.1 h.2)
 omega
theorem ahead_not {a b : Dt.Dot} (h : Dt.aheadD a b = true) : ¬ Dt.aheadD b a = true := by
 rw [ahead_iff] at *
 omega
theorem ahead_ne {a b : Dt.Dot} (h : Dt.aheadD a b = true) : a ≠ b := by
 rw [ahead_iff] at h
 intro e
 subst e
 omega
theorem take_all {α : Type} (f : α → Bool) (l : List α) (h : ∀ x ∈ l, f x = true) : l.takeWhile f = l := by
 induction l with
 | nil => rfl
 | cons x l ih => rw [List.takeWhile_cons, h x (List.mem_cons_self ..), if_pos rfl, ih (fun y hy => h y (List.mem_cons_of_mem _ hy))]
theorem drop_all {α : Type} (f : α → Bool) (l : List α) (h : ∀ x ∈ l, f x = true) : l.dropWhile f = [] := by
 induction l with
 | nil => rfl
 | cons x l ih => rw [List.dropWhile_cons, h x (List.mem_cons_self ..), if_pos rfl, ih (fun y hy => h y (List.mem_cons_of_mem _ hy))]
def aft (e : Evt) (x : Evt) : Bool := Dt.aheadD e.dot x.dot
def nft (e : Evt) (x : Evt) : Bool := !aft e x
theorem step_true (e x : Evt) (acc : List Evt) : stepE e (true, acc) x = (true, acc ++ [x]) := by
 unfold stepE
 rw [if_neg (fun h => by cases h.2)]
theorem fold_true (e : Evt) (m acc : List Evt) : m.foldl (stepE e) (true, acc) = (true, acc ++ m) := by
 induction m generalizing acc with
 | nil => simp
 | cons x m ih => rw [List.foldl_cons, step_true, ih, List.append_assoc]; rfl
theorem fold_false (e : Evt) (m acc : List Evt) : m.foldl (stepE e) (false, acc) = if m.any (aft e) = true then (true, acc ++ (m.takeWhile (nft e) ++ e :: m.dropWhile (nft e))) else (false, acc ++ m) := by
 induction m generalizing acc with
 | nil => simp
 | cons x m ih =>
   rw [List.foldl_cons]
   cases hx : aft e x with
   | true =>
     have h1 : stepE e (false, acc) x = (true, acc ++ [e, x]) := by unfold stepE; rw [if_pos ⟨hx, rfl⟩]
     have h2 : nft e x = false := by unfold nft; rw [hx]; rfl
     rw [h1, fold_true, if_pos (by simp [hx])]
     simp [h2]
   | false =>
     have h1 : stepE e (false, acc) x = (false, acc ++ [x]) := by unfold stepE; rw [if_neg (fun h => by have := h.1; unfold aft at hx; rw [hx] at this; cases this)]
     have h2 : nft e x = true := by unfold nft; rw [hx]; rfl
     rw [h1, ih]
     by_cases hm : m.any (aft e) = true
     · rw [if_pos hm, if_pos (by simp [hm, hx])]
       simp [h2]
     · rw [if_neg hm, if_neg (by simp only [List.any_cons, hx, Bool.false_or]; exact hm)]
       simp
theorem put_new {l : List Evt} {e : Evt} (h : ∀ x ∈ l, x.dot ≠ e.dot) : putE l e = l.takeWhile (nft e) ++ e :: l.dropWhile (nft e) := by
 have h1 : stE l e l.length = if l.any (aft e) = true then (true, [] ++ (l.takeWhile (nft e) ++ e :: l.dropWhile (nft e))) else (false, [] ++ l) := by
   unfold stE
   rw [List.take_of_length_le (Nat.le_refl _), fold_false]
 unfold putE
 rw [if_neg (fun ⟨x, hx, hd⟩ => h x hx hd), h1]
 by_cases ha : l.any (aft e) = true
 · rw [if_pos ha, if_pos rfl]; rfl
 · rw [if_neg ha, if_neg (by simp)]
   have h2 : ∀ x ∈ l, nft e x = true := fun x hx => by
     unfold nft
     cases hf : aft e x with
     | false => rfl
     | true => exact absurd (List.any_eq_true.2 ⟨x, hx, hf⟩) ha
   have h3 := take_all (nft e) l h2
   have h4 := drop_all (nft e) l h2
   rw [h3, h4]; rfl
def OrdE (l : List Evt) : Prop := l.Pairwise fun a b => Dt.aheadD a.dot b.dot = true
theorem put_ord {l : List Evt} (e : Evt) (h : OrdE l) : OrdE (putE l e) := by
 by_cases hd : ∃ x ∈ l, x.dot = e.dot
 · unfold putE
   rw [if_pos hd]
   exact h
 · have hn : ∀ x ∈ l, x.dot ≠ e.dot := fun x hx hxd => hd ⟨x, hx, hxd⟩
   rw [put_new hn]
   have hl := List.takeWhile_append_dropWhile (p := nft e) (l := l)
   have h2 : OrdE (l.takeWhile (nft e) ++ l.dropWhile (nft e)) := by rw [hl]; exact h
   unfold OrdE at h2 ⊢
   rw [List.pairwise_append] at h2 ⊢
   obtain ⟨p1, p2, p3⟩ := h2
   have hb : ∀ b ∈ l.dropWhile (nft e), Dt.aheadD e.dot b.dot = true := by
     intro b hb
     cases hdw : l.dropWhile (nft e) with
     | nil => rw [hdw] at hb; cases hb
     | cons b0 r =>
       have h0 : nft e b0 = false := by
         have := List.head_dropWhile_not (nft e) (l := l) (by rw [hdw]; simp)
         simpa [hdw] using this
       have h1 : Dt.aheadD e.dot b0.dot = true := by unfold nft aft at h0; simpa using h0
       rw [hdw] at hb p2
       rcases List.mem_cons.1 hb with rfl | hb
       · exact h1
       · exact ahead_trans h1 ((List.pairwise_cons.1 p2).1 b hb)
   have ha : ∀ a ∈ l.takeWhile (nft e), Dt.aheadD a.dot e.dot = true := by
     intro a ha
     have h0 : nft e a = true := (List.all_eq_true.1 List.all_takeWhile) a ha
     have h1 : ¬ Dt.aheadD e.dot a.dot = true := by unfold nft aft at h0; simpa using h0
     exact ahead_total h1 (hn a ((List.takeWhile_sublist _).mem ha))
   refine ⟨p1, List.pairwise_cons.2 ⟨hb, p2⟩, fun a ha2 b hb2 => ?_⟩
   rcases List.mem_cons.1 hb2 with rfl | hb2
   · exact ha a ha2
   · exact p3 a ha2 b hb2
theorem sort_ord (l : List Evt) : OrdE (sortE l) := by
 have h : ∀ (m acc : List Evt), OrdE acc → OrdE (m.foldl putE acc) := by
   intro m
   induction m with
   | nil => intro acc h; exact h
   | cons x m ih => intro acc h; exact ih _ (put_ord x h)
 exact h l [] List.Pairwise.nil
theorem put_last {l : List Evt} {e : Evt} (h : ∀ x ∈ l, Dt.aheadD x.dot e.dot = true) : putE l e = l ++ [e] := by
 rw [put_new (fun x hx => ahead_ne (h x hx))]
 have h2 : ∀ x ∈ l, nft e x = true := fun x hx => by
   unfold nft aft
   cases hf : Dt.aheadD e.dot x.dot with
   | false => rfl
   | true => exact absurd hf (ahead_not (h x hx))
 rw [take_all (nft e) l h2, drop_all (nft e) l h2]
theorem sort_same {l : List Evt} (h : OrdE l) : sortE l = l := by
 have hk : ∀ k, k ≤ l.length → sortE (l.take k) = l.take k := by
   intro k
   induction k with
   | zero => intro _; rfl
   | succ k ih =>
     intro hk
     have hx := List.getElem?_eq_getElem (show k < l.length by omega)
     rw [sort_next hx, ih (by omega), take_one hx]
     refine put_last (fun x hx2 => ?_)
     obtain ⟨j, hj, rfl⟩ := List.getElem_of_mem hx2
     rw [List.getElem_take]
     rw [List.length_take] at hj
     exact List.pairwise_iff_getElem.1 h j k (by omega) (by omega) (by omega)
 have := hk l.length (Nat.le_refl _)
 rwa [List.take_of_length_le (Nat.le_refl _)] at this
theorem put_mem {l : List Evt} {e : Evt} (x : Evt) : x ∈ putE l e ↔ x ∈ l ∨ ((∀ y ∈ l, y.dot ≠ e.dot) ∧ x = e) := by
 by_cases hd : ∃ y ∈ l, y.dot = e.dot
 · obtain ⟨y, hy, hye⟩ := hd
   have h1 : putE l e = l := by unfold putE; rw [if_pos ⟨y, hy, hye⟩]
   rw [h1]
   exact ⟨.inl, fun h => h.resolve_right (fun h2 => h2.1 y hy hye)⟩
 · have hn : ∀ y ∈ l, y.dot ≠ e.dot := fun y hy h => hd ⟨y, hy, h⟩
   rw [put_new hn, List.mem_append, List.mem_cons]
   have hl := List.takeWhile_append_dropWhile (p := nft e) (l := l)
   constructor
   · rintro (h | h | h)
     · exact .inl (by rw [← hl]; exact List.mem_append_left _ h)
     · exact .inr ⟨hn, h⟩
     · exact .inl (by rw [← hl]; exact List.mem_append_right _ h)
   · rintro (h | ⟨_, h⟩)
     · rw [← hl, List.mem_append] at h
       rcases h with h | h
       · exact .inl h
       · exact .inr (.inr h)
     · exact .inr (.inl h)
theorem dot_there (l : List Evt) (k : Nat) : ∀ (i : Nat) (y : Evt), i < k → l[i]? = some y → ∃ z ∈ sortE (l.take k), z.dot = y.dot := by
 induction k with
 | zero => intro i y hi; omega
 | succ k ih =>
   intro i y hi hy
   rcases Nat.lt_or_ge k l.length with hk | hk
   · have hx := List.getElem?_eq_getElem hk
     rw [sort_next hx]
     rcases Nat.lt_succ_iff_lt_or_eq.1 hi with h | rfl
     · obtain ⟨z, hz, hd⟩ := ih i y h hy
       exact ⟨z, (put_mem z).2 (.inl hz), hd⟩
     · rw [hx] at hy
       cases hy
       by_cases hd : ∃ z ∈ sortE (l.take i), z.dot = l[i].dot
       · obtain ⟨z, hz, hzd⟩ := hd
         exact ⟨z, (put_mem z).2 (.inl hz), hzd⟩
       · exact ⟨l[i], (put_mem _).2 (.inr ⟨fun z hz h => hd ⟨z, hz, h⟩, rfl⟩), rfl⟩
   · have h1 : i < k := by have := (List.getElem?_eq_some_iff.1 hy).1; omega
     have e : l.take (k + 1) = l.take k := by rw [List.take_of_length_le (by omega), List.take_of_length_le hk]
     rw [e]
     exact ih i y h1 hy
def FirstE (l : List Evt) (x : Evt) : Prop := ∃ j : Nat, l[j]? = some x ∧ ∀ (i : Nat) (y : Evt), i < j → l[i]? = some y → y.dot ≠ x.dot
theorem sort_first (l : List Evt) (k : Nat) (x : Evt) : x ∈ sortE (l.take k) ↔ ∃ j : Nat, j < k ∧ l[j]? = some x ∧ ∀ (i : Nat) (y : Evt), i < j → l[i]? = some y → y.dot ≠ x.dot := by
 induction k with
 | zero => exact ⟨fun h => (by cases h), fun ⟨j, hj, _⟩ => by omega⟩
 | succ k ih =>
   rcases Nat.lt_or_ge k l.length with hk | hk
   · have hx := List.getElem?_eq_getElem hk
     rw [sort_next hx, put_mem, ih]
     constructor
     · rintro (⟨j, hj, h1, h2⟩ | ⟨h1, rfl⟩)
       · exact ⟨j, by omega, h1, h2⟩
       · refine ⟨k, Nat.lt_succ_self k, hx, fun i y hi hy hd => ?_⟩
         obtain ⟨z, hz, hzd⟩ := dot_there l k i y hi hy
         exact h1 z hz (hzd.trans hd)
     · rintro ⟨j, hj, h1, h2⟩
       rcases Nat.lt_succ_iff_lt_or_eq.1 hj with h | rfl
       · exact .inl ⟨j, h, h1, h2⟩
       · rw [hx] at h1
         cases h1
         refine .inr ⟨fun y hy hd => ?_, rfl⟩
         have hy2 : ∃ i : Nat, i < j ∧ l[i]? = some y := by
           have hm : ∀ (m : Nat) (y : Evt), y ∈ sortE (l.take m) → ∃ i : Nat, i < m ∧ l[i]? = some y := by
             intro m
             induction m with
             | zero => intro y h; cases h
             | succ m ihm =>
               intro y h
               rcases Nat.lt_or_ge m l.length with hm | hm
               · rw [sort_next (List.getElem?_eq_getElem hm), put_mem] at h
                 rcases h with h | ⟨_, rfl⟩
                 · obtain ⟨i, hi, h3⟩ := ihm y h
                   exact ⟨i, by omega, h3⟩
                 · exact ⟨m, Nat.lt_succ_self m, List.getElem?_eq_getElem hm⟩
               · have e : l.take (m + 1) = l.take m := by rw [List.take_of_length_le (by omega), List.take_of_length_le hm]
                 rw [e] at h
                 obtain ⟨i, hi, h3⟩ := ihm y h
                 exact ⟨i, by omega, h3⟩
           exact hm j y hy
         obtain ⟨i, hi, h3⟩ := hy2
         exact h2 i y hi h3 hd
   · have e : l.take (k + 1) = l.take k := by rw [List.take_of_length_le (by omega), List.take_of_length_le hk]
     rw [e, ih]
     exact ⟨fun ⟨j, hj, h⟩ => ⟨j, by omega, h⟩, fun ⟨j, hj, h1, h2⟩ => ⟨j, by have := (List.getElem?_eq_some_iff.1 h1).1; omega, h1, h2⟩⟩
theorem sort_mem (l : List Evt) (x : Evt) : x ∈ sortE l ↔ FirstE l x := by
 have h := sort_first l l.length x
 rw [List.take_of_length_le (Nat.le_refl _)] at h
 rw [h]
 exact ⟨fun ⟨j, _, h1, h2⟩ => ⟨j, h1, h2⟩, fun ⟨j, h1, h2⟩ => ⟨j, (List.getElem?_eq_some_iff.1 h1).1, h1, h2⟩⟩
theorem ord_uniq {l m : List Evt} (hl : OrdE l) (hm : OrdE m) (h : ∀ x, x ∈ l ↔ x ∈ m) : l = m := by
 induction l generalizing m with
 | nil =>
   cases m with
   | nil => rfl
   | cons y m => exact absurd ((h y).2 (List.mem_cons_self ..)) (by simp)
 | cons x l ih =>
   cases m with
   | nil => exact absurd ((h x).1 (List.mem_cons_self ..)) (by simp)
   | cons y m =>
     obtain ⟨a1, a2⟩ := List.pairwise_cons.1 hl
     obtain ⟨b1, b2⟩ := List.pairwise_cons.1 hm
     have hxy : x = y := by
       rcases List.mem_cons.1 ((h x).1 (List.mem_cons_self ..)) with e | e
       · exact e
       · rcases List.mem_cons.1 ((h y).2 (List.mem_cons_self ..)) with e2 | e2
         · exact e2.symm
         · exact absurd (b1 x e) (ahead_not (a1 y e2))
     subst hxy
     rw [ih a2 b2 (fun z => ?_)]
     constructor
     · intro hz
       rcases List.mem_cons.1 ((h z).1 (List.mem_cons_of_mem _ hz)) with e | e
       · subst e
         exact absurd rfl (ahead_ne (a1 z hz))
       · exact e
     · intro hz
       rcases List.mem_cons.1 ((h z).2 (List.mem_cons_of_mem _ hz)) with e | e
       · subst e
         exact absurd rfl (ahead_ne (b1 z hz))
       · exact e
theorem sort_uniq {l m : List Evt} (hm : OrdE m) (h : ∀ x, x ∈ m ↔ FirstE l x) : m = sortE l := ord_uniq hm (sort_ord l) (fun x => by rw [h, sort_mem])
end Go.Proofs.YtgaegfddobpomaaGreat.Ev

namespace Go.Proofs.YtgaegfddobpomaaGreat.Dt
open Go.ChangeShapes Go.WideShapes Go.ChangeAt Go.RowKit
set_option linter.unusedVariables false
theorem sort_next {l : List Dot} {k : Nat} {x : Dot} (h : l[k]? = some x) : sortD (l.take (k + 1)) = putD (sortD (l.take k)) x := by
 unfold sortD
 rw [take_next h, List.foldl_append]; rfl
theorem sort_fit (l : List Dot) (h : Fit l) (k : Nat) : Fit (sortD (l.take k)) ∧ (sortD (l.take k)).length ≤ k := by
 induction k with
 | zero => exact ⟨fun r hr => (by cases hr), Nat.le_refl _⟩
 | succ k ih =>
   by_cases hk : k < l.length
   · have hg := List.getElem?_eq_getElem hk
     rw [sort_next hg]
     exact ⟨fit_put ih.1 (h _ (List.getElem_mem hk)), Nat.le_trans (put_length _ _) (by omega)⟩
   · have e : l.take (k + 1) = l.take k := by rw [List.take_of_length_le (by omega), List.take_of_length_le (by omega)]
     rw [e]
     exact ⟨ih.1, by omega⟩
/-! The document's list of a list: its dots, each once, in order. Plain arithmetic. -/
theorem ahead_trans {a b c : Dot} (h1 : aheadD a b = true) (h2 : aheadD b c = true) : aheadD a c = true := by
 rw [ahead_iff] at *; omega
theorem ahead_not {a b : Dot} (h1 : aheadD a b = true) : aheadD b a = false := by
 cases h : aheadD b a with
 | false => rfl
 | true => rw [ahead_iff] at *; omega
theorem ahead_irr (a : Dot) : aheadD a a = false := by
 cases h : aheadD a a with
 | false => rfl
 | true => rw [ahead_iff] at h; omega
theorem ahead_all {a b : Dot} (h1 : aheadD a b = false) (h2 : a ≠ b) : aheadD b a = true := by
 rw [ahead_iff]
 have h3 : ¬ (a.1 < b.1 ∨ (a.1 = b.1 ∧ a.2 < b.2)) := fun h' => by rw [(ahead_iff a b).2 h'] at h1; exact absurd h1 (by simp)
 have h4 : ¬ (a.1 = b.1 ∧ a.2 = b.2) := fun h' => h2 (Prod.ext h'.1 h'.2)
 omega
def Ord (l : List Dot) : Prop := l.Pairwise (fun a b => aheadD a b = true)
theorem put_mem (l : List Dot) (d x : Dot) : x ∈ putD l d ↔ x = d ∨ x ∈ l := by
 unfold putD
 simp only [List.mem_append, List.mem_filter, List.mem_singleton]
 constructor
 · rintro ((h | h) | h)
   · exact .inr h.1
   · exact .inl h
   · exact .inr h.1
 · rintro (h | h)
   · exact .inl (.inr h)
   · by_cases h1 : aheadD x d = true
     · exact .inl (.inl ⟨h, h1⟩)
     · by_cases h2 : x = d
       · exact .inl (.inr h2)
       · exact .inr ⟨h, ahead_all (by simpa using h1) h2⟩
theorem put_ord {l : List Dot} (d : Dot) (h : Ord l) : Ord (putD l d) := by
 unfold putD Ord
 rw [List.pairwise_append, List.pairwise_append]
 refine ⟨⟨h.filter _, List.pairwise_singleton _ _, ?_⟩, h.filter _, ?_⟩
 · intro a ha b hb
   rw [List.mem_singleton.1 hb]
   exact (List.mem_filter.1 ha).2
 · intro a ha b hb
   have hb2 := (List.mem_filter.1 hb).2
   rcases List.mem_append.1 ha with ha | ha
   · exact ahead_trans (List.mem_filter.1 ha).2 hb2
   · rw [List.mem_singleton.1 ha]; exact hb2
theorem sort_from (l m : List Dot) (h : Ord m) : Ord (l.foldl putD m) ∧ ∀ x, x ∈ l.foldl putD m ↔ x ∈ m ∨ x ∈ l := by
 induction l generalizing m with
 | nil => exact ⟨h, fun x => by simp⟩
 | cons d l ih =>
   obtain ⟨h1, h2⟩ := ih (putD m d) (put_ord d h)
   refine ⟨h1, fun x => ?_⟩
   rw [List.foldl_cons, h2, put_mem, List.mem_cons]
   constructor
   · rintro ((h | h) | h)
     · exact .inr (.inl h)
     · exact .inl h
     · exact .inr (.inr h)
   · rintro (h | h | h)
     · exact .inl (.inr h)
     · exact .inl (.inl h)
     · exact .inr h
theorem sort_ord (l : List Dot) : Ord (sortD l) := (sort_from l [] List.Pairwise.nil).1
theorem sort_mem (l : List Dot) (x : Dot) : x ∈ sortD l ↔ x ∈ l := by rw [show sortD l = l.foldl putD [] from rfl, (sort_from l [] List.Pairwise.nil).2]; simp
theorem ord_uniq {l m : List Dot} (hl : Ord l) (hm : Ord m) (h : ∀ x, x ∈ l ↔ x ∈ m) : l = m := by
 induction l generalizing m with
 | nil =>
   cases m with
   | nil => rfl
   | cons b m => exact absurd ((h b).2 (List.mem_cons_self ..)) (by simp)
 | cons a l ih =>
   cases m with
   | nil => exact absurd ((h a).1 (List.mem_cons_self ..)) (by simp)
   | cons b m =>
     obtain ⟨hl1, hl2⟩ := List.pairwise_cons.1 hl
     obtain ⟨hm1, hm2⟩ := List.pairwise_cons.1 hm
     have hab : a = b := by
       rcases List.mem_cons.1 ((h a).1 (List.mem_cons_self ..)) with h1 | h1
       · exact h1
       · rcases List.mem_cons.1 ((h b).2 (List.mem_cons_self ..)) with h2 | h2
         · exact h2.symm
         · have h3 := hm1 a h1
           have h4 := hl1 b h2
           rw [ahead_not h3] at h4
           exact absurd h4 (by simp)
     subst hab
     congr 1
     refine ih hl2 hm2 fun x => ?_
     constructor
     · intro hx
       rcases List.mem_cons.1 ((h x).1 (List.mem_cons_of_mem _ hx)) with h1 | h1
       · have h2 := hl1 x hx
         rw [h1, ahead_irr] at h2
         exact absurd h2 (by simp)
       · exact h1
     · intro hx
       rcases List.mem_cons.1 ((h x).2 (List.mem_cons_of_mem _ hx)) with h1 | h1
       · have h2 := hm1 x hx
         rw [h1, ahead_irr] at h2
         exact absurd h2 (by simp)
       · exact h1
theorem sort_uniq {l m : List Dot} (hm : Ord m) (h : ∀ x, x ∈ m ↔ x ∈ l) : m = sortD l :=
 ord_uniq hm (sort_ord l) (fun x => by rw [h, sort_mem])
theorem rise_ord (l : List Dot) : riseB l = true ↔ Ord l := by
 induction l with
 | nil => simp [riseB, Ord]
 | cons a l ih =>
   cases l with
   | nil => simp [riseB, Ord]
   | cons b l =>
     rw [show riseB (a :: b :: l) = (aheadD a b && riseB (b :: l)) from rfl, Bool.and_eq_true, ih]
     unfold Ord
     rw [List.pairwise_cons (a := a)]
     constructor
     · rintro ⟨h1, h2⟩
       refine ⟨fun x hx => ?_, h2⟩
       rcases List.mem_cons.1 hx with rfl | hx
       · exact h1
       · exact ahead_trans h1 ((List.pairwise_cons.1 h2).1 x hx)
     · rintro ⟨h1, h2⟩
       exact ⟨h1 b (List.mem_cons_self ..), h2⟩
/-! Numbers of dots. -/
def numD (d : Dot) : Nat := d.1 * 281474976710656 + d.2 % 281474976710656
end Go.Proofs.YtgaegfddobpomaaGreat.Dt

namespace Go.Proofs.YtgaegfddobpomaaGreat.Kl
open Go.ChangeShapes Go.WideShapes Go.ChangeAt Go.RowKit
set_option linter.unusedVariables false
theorem puts_mem (l m : List Dt.Dot) (d : Dt.Dot) : d ∈ l.foldl Dt.putD m ↔ d ∈ m ∨ d ∈ l := by
 induction l generalizing m with
 | nil => simp
 | cons x l ih =>
   rw [List.foldl_cons, ih, Dt.put_mem, List.mem_cons]
   constructor
   · rintro ((h | h) | h)
     · exact .inr (.inl h)
     · exact .inl h
     · exact .inr (.inr h)
   · rintro (h | h | h)
     · exact .inl (.inr h)
     · exact .inl (.inl h)
     · exact .inr h
theorem one_mem (m : List Dt.Dot) (x : Ev.Evt) (d : Dt.Dot) : d ∈ Ev.dotsOne m x ↔ d ∈ m ∨ d = x.dot ∨ d ∈ x.kills := by
 unfold Ev.dotsOne
 rw [puts_mem, Dt.put_mem]
 constructor
 · rintro ((h | h) | h)
   · exact .inr (.inl h)
   · exact .inl h
   · exact .inr (.inr h)
 · rintro (h | h | h)
   · exact .inl (.inr h)
   · exact .inl (.inl h)
   · exact .inr h
theorem dots_from (l : List Ev.Evt) (m : List Dt.Dot) (d : Dt.Dot) : d ∈ l.foldl Ev.dotsOne m ↔ d ∈ m ∨ ∃ x ∈ l, d = x.dot ∨ d ∈ x.kills := by
 induction l generalizing m with
 | nil => simp
 | cons x l ih =>
   rw [List.foldl_cons, ih, one_mem]
   constructor
   · rintro ((h | h) | ⟨y, hy, h⟩)
     · exact .inl h
     · exact .inr ⟨x, List.mem_cons_self .., h⟩
     · exact .inr ⟨y, List.mem_cons_of_mem _ hy, h⟩
   · rintro (h | ⟨y, hy, h⟩)
     · exact .inl (.inl h)
     · rcases List.mem_cons.1 hy with rfl | hy
       · exact .inl (.inr h)
       · exact .inr ⟨y, hy, h⟩
theorem dots_mem (l : List Ev.Evt) (d : Dt.Dot) : d ∈ Ev.dotsE l ↔ ∃ x ∈ l, d = x.dot ∨ d ∈ x.kills := by
 unfold Ev.dotsE
 rw [dots_from]
 simp
def editB (cid f : Nat) (x : Ev.Evt) : Bool := decide (x.kind = 1) && decide (x.cid = cid) && decide (x.fld = f)
def delB (cid : Nat) (x : Ev.Evt) : Bool := decide (x.kind = 1) && decide (x.cid = cid)
def deadB (l : List Ev.Evt) (d : Dt.Dot) : Bool := l.any fun x => decide (d ∈ x.kills)
theorem dead_iff (l : List Ev.Evt) (d : Dt.Dot) : deadB l d = true ↔ ∃ x ∈ l, d ∈ x.kills := by
 unfold deadB
 rw [List.any_eq_true]
 simp
def liveB (s : List Ev.Evt) (x : Ev.Evt) : Bool := decide (x.kind = 1) && !deadB s x.dot
noncomputable def liveE (l : List Ev.Evt) : List Ev.Evt := (Ev.sortE l).filter (liveB (Ev.sortE l))
def killsB (k cid f : Nat) (x : Ev.Evt) : Bool := if k = 1 then editB cid f x else delB cid x
def stayB (k cid f : Nat) (x : Ev.Evt) : Bool := !decide (x.cid = cid) || (decide (k = 1) && !decide (x.fld = f))
noncomputable def newK (l : List Ev.Evt) (k cid f : Nat) : List Dt.Dot := Ev.dotsE ((liveE l).filter (killsB k cid f))
noncomputable def wantE (l : List Ev.Evt) (k cid f : Nat) (e : Ev.Evt) : List Ev.Evt := if k = 1 then Ev.putE (((liveE l).filter (stayB k cid f)).foldl Ev.putE []) e else ((liveE l).filter (stayB k cid f)).foldl Ev.putE []
end Go.Proofs.YtgaegfddobpomaaGreat.Kl

namespace Go.Proofs.YtgaegfddobpomaaGreat.Ev
open Go.ChangeShapes Go.WideShapes Go.ChangeAt Go.RowKit
set_option linter.unusedVariables false
set_option maxRecDepth 4000
def DPost (w : World) (l : List Dt.Dot) (e : Ending) (w' : World) : Prop := ∃ A n c, e = .returned (.slice A n c) ∧ DotsAt w' w'.heap.size A l n c ∧ Below w.heap.size w w'
theorem dpost_of {w w' : World} {m : List Dt.Dot} {e : Ending} (h : Dt.DotPost w m e w') (hf : Dt.Fit m) (hw : m.length ≤ 8796093022208) : DPost w m e w' := by
 obtain ⟨A, n, c, rfl, h1, h2, h3, h4, h5, _, h7⟩ := Dt.post_dots h hf
 exact ⟨A, n, c, rfl, ⟨h1, h2, h3, h4, by rw [← h1]; exact hw, h5⟩, h7⟩
theorem rputd_any (w : World) (A0 : Option Addr) (l : List Dt.Dot) (n c0 : Nat) (d : Dt.Dot) (h : DotsAt w w.heap.size A0 l n c0) (hd : d.1 < 65536 ∧ d.2 < 18446744073709551616) (h42 : n ≤ 4398046511104) :
   Calls Tryz.prog 78 #[.slice A0 n c0, .agg #[.int .u16 (d.1 : Int), .int .u64 (d.2 : Int)]] w (DPost w (Dt.putD l d)) := by
 refine (Dt.rput_any w A0 l n c0 d h.len h.dots h42).mono ?_
 intro e w' hp
 have h1 := Dt.put_length l d
 have h2 := h.len
 exact dpost_of hp (Dt.fit_put h.dots.1 hd) (by omega)
theorem kills_long (m : List Dt.Dot) (x : Evt) (j : Nat) : (killsTo m x j).length ≤ m.length + 1 + j := by
 induction j with
 | zero =>
   have := Dt.put_length m x.dot
   show (Dt.putD m x.dot).length ≤ _
   omega
 | succ j ih =>
   rcases Nat.lt_or_ge j x.kills.length with h | h
   · rw [kills_next (List.getElem?_eq_getElem h)]
     have := Dt.put_length (killsTo m x j) x.kills[j]
     omega
   · have e : killsTo m x (j + 1) = killsTo m x j := by
       unfold killsTo
       rw [List.take_of_length_le (by omega), List.take_of_length_le h]
     rw [e]; omega
theorem dots_long {l : List Evt} (hk : ∀ x ∈ l, x.kills.length ≤ 1024) (k : Nat) : (dotsTo l k).length ≤ k * 1025 := by
 induction k with
 | zero => simp [dotsTo]
 | succ k ih =>
   rcases Nat.lt_or_ge k l.length with h | h
   · rw [dots_next (List.getElem?_eq_getElem h), ← kills_all rfl]
     have h1 := kills_long (dotsTo l k) l[k] l[k].kills.length
     have h2 := hk _ (List.getElem_mem h)
     omega
   · have e : dotsTo l (k + 1) = dotsTo l k := by
       unfold dotsTo
       rw [List.take_of_length_le (by omega), List.take_of_length_le h]
     have h3 : (dotsTo l (k + 1)).length = (dotsTo l k).length := congrArg List.length e
     omega
set_option maxHeartbeats 8000000 in
theorem rdots_any (w : World) (A0 : Option Addr) (l : List Evt) (n c0 : Nat) (hl : EventsAt w w.heap.size A0 l n c0) (hn : n ≤ 1024) (hk : ∀ x ∈ l, x.kills.length ≤ 1024) :
   Calls Tryz.prog 43 #[.slice A0 n c0] w (DPost w (dotsE l)) := by
 have HL := Lib.hid hl
 have HKL := Lib.hid (fun k => dots_long hk k)
 have HKS := Lib.hid hk
 clear hl hk
 go_enter Tryz.func43, Tryz.ntmps43
 go_wp2_with fail
 go_loopw [3, 4] (fun v i wr => ∃ (k m : Nat) (A : Option Addr) (c : Nat), k ≤ n ∧ i = .int .i64 (k : Int) ∧ v = .slice A m c ∧ DotsAt wr wr.heap.size A (dotsTo l k) m c ∧ Below w.heap.size w wr) (fun _ i _ => n - (intOf i).toNat)
 case atStart => exact ⟨0, 0, none, 0, Nat.zero_le _, rfl, rfl, DotsAt.none_ _ _, Below.refl _ _⟩
 case round =>
   obtain ⟨k, m, A, c, hk, rfl, rfl, ho, hw⟩ := hrel
   have HO := Lib.hid ho
   have HW := Lib.hid hw
   clear ho hw
   by_cases hlt : k < n
   · obtain ⟨ad, q, y, rfl, hB, hly, hq, cq⟩ := HL.out.at_ hlt
     have HQ : Hid (∀ V, Below w.heap.size w V → CellsAt V (ad.add (k * 7)) q ∧ DotsAt V V.heap.size q.adr y.kills q.len q.cap) := Lib.hid (fun V hV => ⟨cq.kept hV, (hq.up hV).kills⟩)
     have hyd := is_dot hq
     have hfd := hq.fits.dot
     rw [hyd] at hfd
     have HY := Lib.hid hyd
     have hql : q.len ≤ 1024 := by rw [← hq.kills.len]; exact HKS.out _ (List.mem_of_getElem? hly)
     have HN := Lib.hid (dots_next hly)
     have HKN := Lib.hid (kills_all (m := dotsTo l k) hq.kills.len)
     have hmk := HKL.out k
     rw [HO.out.len] at hmk
     have CP := rputd_any wr A (dotsTo l k) m c (q.dev, q.num) HO.out hfd (by omega)
     obtain ⟨e0, e1, e2, e3, e4, e5, e6⟩ := (HQ.out wr HW.out).1
     clear hly hq cq hyd hfd
     go_wp2_with fail
     refine CP.mono ?_
     rintro e V ⟨A3, m3, c3, rfl, ho3, hb3⟩
     have HO3 : Hid (DotsAt V V.heap.size A3 (killsTo (dotsTo l k) y 0) m3 c3) := Lib.hid (by show DotsAt V V.heap.size A3 (Dt.putD (dotsTo l k) y.dot) m3 c3; rw [HY.out]; exact ho3)
     have HW3 := Lib.hid (HW.out.trans (hb3.mono HW.out.size))
     clear ho3 hb3 CP e0 e1 e2 e3 e4 e5 e6
     go_wp2_with fail
     go_loopw [3, 5] (fun v i wr => ∃ (j m : Nat) (A : Option Addr) (c : Nat), j ≤ q.len ∧ i = .int .i64 (j : Int) ∧ v = .slice A m c ∧ DotsAt wr wr.heap.size A (killsTo (dotsTo l k) y j) m c ∧ Below w.heap.size w wr) (fun _ i _ => q.len - (intOf i).toNat)
     case atStart => exact ⟨0, m3, A3, c3, Nat.zero_le _, rfl, rfl, HO3.out, HW3.out⟩
     case round =>
       clear HO HW HO3 HW3
       obtain ⟨j, m4, A4, c4, hj, rfl, rfl, ho, hw⟩ := hrel
       have HO := Lib.hid ho
       have HW := Lib.hid hw
       clear ho hw
       obtain ⟨⟨e0, e1, e2, e3, e4, e5, e6⟩, hd⟩ := HQ.out wr HW.out
       have HD := Lib.hid hd
       clear hd
       by_cases hjl : j < q.len
       · obtain ⟨a2, x1, x2, ea, hlx, hx1, hx2, c1, c2⟩ := HD.out.dots.at_ (k := j) (by rw [HD.out.len]; exact hjl)
         have c2' : wr.cell? ⟨(a2.add (j * 2)).block, (a2.add (j * 2)).off + 1, none⟩ = some (.int .u64 (x2 : Int)) := by rw [Dt.add_next]; exact c2
         have HKJ := Lib.hid (kills_next (m := dotsTo l k) hlx)
         have h4 := kills_long (dotsTo l k) y j
         have h5 := HKL.out k
         rw [HO.out.len] at h4
         have CP := rputd_any wr A4 (killsTo (dotsTo l k) y j) m4 c4 (x1, x2) HO.out ⟨hx1, hx2⟩ (by omega)
         rw [ea] at e6
         clear c2 hlx h4 h5
         go_wp2_with fail
         refine CP.mono ?_
         rintro e V ⟨A5, m5, c5, rfl, ho3, hb3⟩
         rw [← HKJ.out] at ho3
         have HO3 := Lib.hid ho3
         have HW3 := Lib.hid (HW.out.trans (hb3.mono HW.out.size))
         clear ho3 hb3 CP e0 e1 e2 e3 e4 e5 e6 c1 c2'
         go_wp2
         go_roundw
         case rel => exact ⟨j + 1, m5, A5, c5, by omega, by go_num, rfl, HO3.out, HW3.out⟩
         case measure => simp [intOf]; omega
       · obtain rfl : j = q.len := by omega
         have HE : Hid (killsTo (dotsTo l k) y q.len = dotsTo l (k + 1)) := Lib.hid (by rw [HKN.out, HN.out])
         rw [HE.out] at HO
         have hk1 : k + 1 ≤ n := by omega
         go_wp2_with fail
         go_roundw
         case rel => exact ⟨k + 1, m4, A4, c4, hk1, by go_num, rfl, HO.out, HW.out⟩
         case measure => simp [intOf]; omega
   · obtain rfl : k = n := by omega
     have e : Hid (dotsTo l k = dotsE l) := Lib.hid (by unfold dotsTo dotsE; rw [List.take_of_length_le (by rw [HL.out.len]; exact Nat.le_refl _)])
     rw [e.out] at HO
     go_wp2
     go_ret
     exact ⟨A, m, c, rfl, HO.out, HW.out⟩
end Go.Proofs.YtgaegfddobpomaaGreat.Ev

namespace Go.Proofs.YtgaegfddobpomaaGreat.Kl
open Go.ChangeShapes Go.WideShapes Go.ChangeAt Go.RowKit
set_option linter.unusedVariables false
set_option maxRecDepth 4000
abbrev dbox (d : Dt.Dot) : Obj := .cells #[.int .u16 (d.1 : Int), .int .u64 (d.2 : Int)] 35
theorem dbox_cells (w V : World) (d : Dt.Dot) (hb : Below (w.alloc (dbox d)).heap.size (w.alloc (dbox d)) V) : V.cell? ⟨w.heap.size, 0, none⟩ = some (.int .u16 (d.1 : Int)) ∧ V.cell? ⟨w.heap.size, 1, none⟩ = some (.int .u64 (d.2 : Int)) :=
 ⟨Ev.stays hb (by rw [World.cell?_alloc_mark]; rfl), Ev.stays hb (by rw [World.cell?_alloc_mark]; rfl)⟩
theorem rhas_later (w W : World) (A : Option Addr) (l : List Dt.Dot) (n c : Nat) (d : Dt.Dot) (h : Ev.DotsAt W W.heap.size A l n c) (hW : Below w.heap.size w W) :
   Calls Tryz.prog 34 #[.slice A n c, .agg #[.int .u16 (d.1 : Int), .int .u64 (d.2 : Int)]] W fun e V => e = .returned (.bool (decide (d ∈ l))) ∧ Below w.heap.size w V :=
 (Dt.rhas_any W A l n c d h.len h.dots (Nat.le_trans h.wide (by decide))).mono fun e V ⟨h1, h2⟩ => ⟨h1, hW.trans (h2.mono hW.size)⟩
theorem dead_next {l : List Ev.Evt} {k : Nat} {y : Ev.Evt} (d : Dt.Dot) (h : l[k]? = some y) : deadB (l.take (k + 1)) d = (deadB (l.take k) d || decide (d ∈ y.kills)) := by
 unfold deadB
 rw [Ev.take_one h, List.any_append]
 simp
theorem dead_hit {l : List Ev.Evt} {k : Nat} {y : Ev.Evt} {d : Dt.Dot} (h : l[k]? = some y) (hd : decide (d ∈ y.kills) = true) : deadB l d = true :=
 (dead_iff l d).2 ⟨y, List.mem_of_getElem? h, of_decide_eq_true hd⟩
set_option maxHeartbeats 4000000 in
theorem rdead_any (w : World) (A0 : Option Addr) (l : List Ev.Evt) (n c0 : Nat) (d : Dt.Dot) (hl : Ev.EventsAt w w.heap.size A0 l n c0) :
   Calls Tryz.prog 71 #[.slice A0 n c0, .agg #[.int .u16 (d.1 : Int), .int .u64 (d.2 : Int)]] w fun e w' => e = .returned (.bool (deadB l d)) ∧ Below w.heap.size w w' := by
 obtain ⟨d1, d2⟩ := d
 have HB : Hid (Below w.heap.size w (w.alloc (dbox (d1, d2)))) := Lib.hid (Ev.below_new _ _)
 have HL := Lib.hid (hl.up HB.out)
 have HX := Lib.hid (fun V hV => dbox_cells w V (d1, d2) hV)
 have h63 : n ≤ 2199023255552 := hl.wide
 clear hl
 simp only [dbox] at HB HL HX
 go_enter Tryz.func71, Tryz.ntmps71
 go_wp2
 generalize w.alloc (.cells #[.int .u16 (d1 : Int), .int .u64 (d2 : Int)] 35) = w1 at *
 go_loopw [5] (fun i wr => ∃ k : Nat, k ≤ n ∧ i = .int .i64 (k : Int) ∧ deadB (l.take k) (d1, d2) = false ∧ Below w1.heap.size w1 wr) (fun i _ => n - (intOf i).toNat)
 case atStart => exact ⟨0, Nat.zero_le _, rfl, by simp [deadB], Below.refl _ _⟩
 case round =>
   obtain ⟨k, hk, rfl, ht, hw⟩ := hrel
   have HT := Lib.hid ht
   have HW := Lib.hid hw
   clear ht hw
   by_cases hlt : k < n
   · obtain ⟨ad, q, y, rfl, hB, hly, hq, cq⟩ := (HL.out.up HW.out).at_ hlt
     have HC : Hid (∀ V, Below wr.heap.size wr V → V.cell? ⟨(ad.add (k * 7)).block, (ad.add (k * 7)).off + 6, none⟩ = some (.slice q.adr q.len q.cap) ∧ V.cell? ⟨w.heap.size, 0, none⟩ = some (.int .u16 (d1 : Int)) ∧ V.cell? ⟨w.heap.size, 1, none⟩ = some (.int .u64 (d2 : Int))) := Lib.hid (fun V hV => by
       have h2 := HX.out V (HW.out.trans (hV.mono HW.out.size))
       exact ⟨(cq.kept hV).c6, h2.1, h2.2⟩)
     have HN := dead_next (d1, d2) hly
     rw [HT.out, Bool.false_or] at HN
     have HH := Lib.hid (fun h => dead_hit (d := (d1, d2)) hly h)
     have CH := fun V (hV : Below wr.heap.size wr V) => rhas_later wr V q.adr y.kills q.len q.cap (d1, d2) ((hq.up hV).kills) hV
     obtain ⟨b, hb⟩ : ∃ b, decide ((d1, d2) ∈ y.kills) = b := ⟨_, rfl⟩
     simp only [hb] at CH
     rw [hb] at HN HH
     have HNN := Lib.hid HN
     obtain ⟨x6, x7, x8⟩ := HC.out wr (Below.refl _ _)
     clear hly hq cq hb HN
     go_wp2_with fail
     go_region_held3 (fun V => V.cell? ⟨(ad.add (k * 7)).block, (ad.add (k * 7)).off + 6, none⟩ = some (.slice q.adr q.len q.cap) ∧ V.cell? ⟨w.heap.size, 0, none⟩ = some (.int .u16 (d1 : Int)) ∧ V.cell? ⟨w.heap.size, 1, none⟩ = some (.int .u64 (d2 : Int))) (first | exact ⟨x6, x7, x8⟩ | assumption | exact HC.out _ (by (repeat (first | exact Below.refl _ _ | assumption | apply Ev.bel_drew)))) (first
       | (go_at_call 34; (with_reducible refine (CH _ ?_).mono ?_); (repeat (first | exact Below.refl _ _ | assumption | apply Ev.bel_drew)); rintro e V ⟨rfl, bv⟩; have hcV := HC.out V bv))
     all_goals
       have HV : Hid (Below w1.heap.size w1 V) := HW.out.trans (bv.mono HW.out.size)
       clear bv x6 x7 x8 hcV HC CH
       cases b with
       | true =>
         have HD := Lib.hid (HH.out rfl)
         go_wp2
         go_ret
         exact ⟨Ev.ret_bool HD.out.symm, HB.out.trans (HV.out.mono HB.out.size)⟩
       | false =>
         go_wp2
         go_roundw
         case rel => exact ⟨k + 1, by omega, by go_num, HNN.out, HV.out⟩
         case measure => simp [intOf]; omega
   · obtain rfl : k = n := by omega
     have HD : Hid (deadB l (d1, d2) = false) := Lib.hid (by
       have h := HT.out
       rwa [List.take_of_length_le (by rw [HL.out.len]; exact Nat.le_refl _)] at h)
     go_wp2
     go_ret
     exact ⟨Ev.ret_bool HD.out.symm, HB.out.trans (HW.out.mono HB.out.size)⟩
def SRel (w : World) (n : Nat) (l : List Ev.Evt) (f : Ev.Evt → Bool) (v i : Value) (wr : World) : Prop :=
 ∃ k m A c ps, k ≤ n ∧ i = .int .i64 ((k : Nat) : Int) ∧ v = .slice A m c ∧ ps.length = m ∧ Ev.Match w w.heap.size ps ((l.take k).filter f) ∧ wr.ownsRow w.heap.size 38 7 (.slice A m c) m (Ev.ev ps) ∧ Below w.heap.size w wr
theorem s_start (w : World) (n : Nat) (l : List Ev.Evt) (f : Ev.Evt → Bool) : SRel w n l f (.slice none 0 0) (.int .i64 0) w :=
 ⟨0, 0, none, 0, [], Nat.zero_le _, rfl, rfl, rfl, by rw [List.take_zero]; exact Ev.Match.nil_ _ _, World.ownsRow_nil _ _ _ _, Below.refl _ _⟩
theorem s_skip {w wr : World} {n k m c : Nat} {l : List Ev.Evt} {f : Ev.Evt → Bool} {A : Option Addr} {ps : List Ev.EV} {y : Ev.Evt} (hk : k < n) (hy : l[k]? = some y) (hf : f y = false) (hm : ps.length = m) (hma : Ev.Match w w.heap.size ps ((l.take k).filter f)) (ho : wr.ownsRow w.heap.size 38 7 (.slice A m c) m (Ev.ev ps)) (hb : Below w.heap.size w wr) :
   SRel w n l f (.slice A m c) (.int .i64 ((k : Int) + 1)) wr :=
 ⟨k + 1, m, A, c, ps, hk, by go_num, rfl, hm, by rw [Ev.take_one hy, List.filter_append]; simp only [List.filter_cons, hf, List.filter_nil, Bool.false_eq_true, if_false, List.append_nil]; exact hma, ho, hb⟩
theorem s_take {w wr : World} {n k m c : Nat} {l : List Ev.Evt} {f : Ev.Evt → Bool} {A : Option Addr} {ps : List Ev.EV} {q : Ev.EV} {y : Ev.Evt} (hk : k < n) (hy : l[k]? = some y) (hf : f y = true) (hq : Ev.EventIs w w.heap.size q y) (hm : ps.length = m) (hma : Ev.Match w w.heap.size ps ((l.take k).filter f)) (ho : wr.ownsRow w.heap.size 38 7 (.slice A (m + 1) c) (m + 1) (Ev.ev (ps ++ [q]))) (hb : Below w.heap.size w wr) :
   SRel w n l f (.slice A (m + 1) c) (.int .i64 ((k : Int) + 1)) wr :=
 ⟨k + 1, m + 1, A, c, ps ++ [q], hk, by go_num, rfl, by rw [List.length_append, hm]; rfl, by rw [Ev.take_one hy, List.filter_append]; simp only [List.filter_cons, hf, List.filter_nil, if_true]; exact hma.snoc hq, ho, hb⟩
theorem s_long {w : World} {ps : List Ev.EV} {l : List Ev.Evt} {f : Ev.Evt → Bool} {k m : Nat} (hm : ps.length = m) (h : Ev.Match w w.heap.size ps ((l.take k).filter f)) : m ≤ k := by
 have h1 := List.length_filter_le f (l.take k)
 have h2 := List.length_take_le k l
 have h3 := h.1
 omega
theorem s_done {w wr : World} {l : List Ev.Evt} {f : Ev.Evt → Bool} {A : Option Addr} {n m c : Nat} {ps : List Ev.EV} (hn : l.length = n) (h40 : n ≤ 1099511627776) (hm : ps.length = m) (hma : Ev.Match w w.heap.size ps ((l.take n).filter f)) (ho : wr.ownsRow w.heap.size 38 7 (.slice A m c) m (Ev.ev ps)) (hb : Below w.heap.size w wr) : Ev.EventsAt wr wr.heap.size A (l.filter f) m c := by
 have h1 := s_long hm hma
 rw [List.take_of_length_le (by omega)] at hma
 exact Ev.own_events hb hma hm (by omega) ho
theorem eq_u8 (a b : Nat) : ((a : Int) == (b : Int)) = decide (a = b) := by
 rw [Bool.eq_iff_iff, beq_iff_eq, decide_eq_true_iff]
 omega
theorem eq_one (a : Nat) : ((a : Int) == 1) = decide (a = 1) := eq_u8 a 1
end Go.Proofs.YtgaegfddobpomaaGreat.Kl

namespace Go.Proofs.YtgaegfddobpomaaGreat.Bk
open Go.ChangeShapes Go.WideShapes Go.ChangeAt Go.RowKit
set_option linter.unusedVariables false
abbrev Bs : Type := (Dt.Dot → Bool) × List Ev.Evt
def leftB (x : Ev.Evt) (z : Ev.Evt) : Bool := !decide (z.kind = 1) || !decide (z.dot ∈ x.kills)
noncomputable def putS (good : Ev.Evt → Bool) (b : Bs) (x : Ev.Evt) : Bs := if good x = true ∧ b.1 x.dot = false then (fun d => b.1 d || (decide (d = x.dot) || decide (d ∈ x.kills)), Ev.putE (b.2.filter (leftB x)) x) else b
structure Inv (good : Ev.Evt → Bool) (p : List Ev.Evt) (b : Bs) : Prop where
 seen : ∀ d, b.1 d = true ↔ ∃ x ∈ p, good x = true ∧ (d = x.dot ∨ d ∈ x.kills)
 ord : Ev.OrdE b.2
 mem : ∀ z, z ∈ b.2 ↔ z ∈ p ∧ good z = true ∧ ∀ y ∈ p, good y = true → z.dot ∉ y.kills
structure Fine (s : List Ev.Evt) : Prop where
 one : ∀ x ∈ s, ∀ y ∈ s, x.dot = y.dot → x = y
 own : ∀ x ∈ s, x.dot ∉ x.kills
 edit : ∀ x ∈ s, ∀ y ∈ s, y.dot ∈ x.kills → y.kind = 1
 all : ∀ x ∈ s, ∀ y ∈ s, y.dot ∈ x.kills → ∀ d ∈ y.kills, d ∈ x.kills
end Go.Proofs.YtgaegfddobpomaaGreat.Bk
