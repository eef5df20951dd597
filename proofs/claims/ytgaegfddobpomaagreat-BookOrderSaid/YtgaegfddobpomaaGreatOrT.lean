/- Words and contracts that the proofs of this seat stand on, part 20 of 39. -/
import Derived.Test.YtgaegfddobpomaaGreatOrS
import Derived.Test.YtgaegfddobpomaaGreatOrH
import Derived.Deep.RegionHeld3
import Derived.StillTailTactics

namespace Go.Proofs.YtgaegfddobpomaaGreat.Ru
open Go.ChangeShapes Go.WideShapes Go.ChangeAt Go.RowKit Go.Shelf
set_option linter.unusedVariables false
attribute [local go_sem] Oper.semAt_some
def Pair (W : World) (B : Nat) (r : Run) : Prop := W.heap[B]? = some (.cells #[.int .u64 (r.1 : Int), .int .u64 (r.2 : Int)] 68 (0, 0))
theorem Pair.lt {W : World} {B : Nat} {r : Run} (h : Pair W B r) : B < W.heap.size := (Array.getElem?_eq_some_iff.1 h).1
theorem Pair.new (W : World) (r : Run) : Pair (W.alloc (.cells #[.int .u64 (r.1 : Int), .int .u64 (r.2 : Int)] 68)) W.heap.size r := World.alloc_heap_new W _
theorem Pair.cell1 {W : World} {B : Nat} {r : Run} (h : Pair W B r) : W.cell? ⟨B, 0, none⟩ = some (.int .u64 (r.1 : Int)) := by simp [World.cell?, show W.heap[B]? = _ from h]
theorem Pair.cell2 {W : World} {B : Nat} {r : Run} (h : Pair W B r) : W.cell? ⟨B, 1, none⟩ = some (.int .u64 (r.2 : Int)) := by simp [World.cell?, show W.heap[B]? = _ from h]
theorem Pair.kept {W W' : World} {row : Option Nat} {B : Nat} {r : Run} (h : Pair W B r) (hg : W.grownBy W' row) (hne : some B ≠ row) : Pair W' B r := (hg.block B h.lt hne).trans h
theorem Pair.below {W W' : World} {B : Nat} {r : Run} (h : Pair W B r) (hb : Below W.heap.size W W') : Pair W' B r := (hb.block B h.lt).trans h
theorem pair_own (r : Run) (B B0 : Nat) : OwnFrom B0 (fun (_ : Unit) W => Pair W B r) := fun s X Y row hs hg hrow =>
 hs.kept hg (fun e' => by obtain ⟨_, o, ho, hc⟩ := hrow B e'.symm; rw [show X.heap[B]? = _ from hs] at ho; cases ho; cases hc)
def inAny (l : List Run) (n : Nat) : Bool := l.any fun r => decide (r.1 ≤ n) && decide (n ≤ r.2)
theorem inAny_snoc (l : List Run) (r : Run) (n : Nat) : inAny (l ++ [r]) n = (inAny l n || (decide (r.1 ≤ n) && decide (n ≤ r.2))) := by unfold inAny; simp
theorem inAny_part {l m : List Run} (h : l <+: m) {n : Nat} (hl : inAny l n = true) : inAny m n = true := by
 obtain ⟨k, rfl⟩ := h
 unfold inAny at *
 rw [List.any_append, hl]; rfl
theorem inAny_tells (l : List Run) (n : Nat) : inAny (tells l) n = has l n := by
 rw [← has_tells l n]
 unfold inAny has
 rw [Bool.eq_iff_iff, List.any_eq_true, List.any_eq_true]
 constructor
 · rintro ⟨r, h1, h2⟩
   exact ⟨r, h1, by rw [(List.mem_filter.1 h1).2, h2]; rfl⟩
 · rintro ⟨r, h1, h2⟩
   refine ⟨r, h1, ?_⟩
   rw [Bool.and_eq_true] at h2
   exact h2.2
set_option maxRecDepth 100000 in
set_option maxHeartbeats 4000000 in
theorem phas_any (w : World) (A : Option Addr) (l : List Run) (len c n : Nat) (hl : l.length = len) (hb : Runs w w.heap.size A l) (h63 : len ≤ 9223372036854775807) :
   Calls Tryz.prog 90 #[.slice A len c, .int .u64 (n : Int)] w fun e w' => e = .returned (.bool (has l n)) ∧ Below w.heap.size w w' := by
 have HB := Lib.hid hb
 have HL := Lib.hid hl
 clear hb hl
 refine (callsIn_wide (n := 6)).1 ?_
 refine callsIn_of_wp_marks Tryz.func90 rfl trivial ?_ rfl
 simp only [Tryz.ntmps90, List.size_toArray, List.length_cons, List.length_nil, Nat.reduceAdd, Nat.reduceSub, Array.replicate_succ, Array.replicate_zero, List.push_toArray, List.append_toArray, List.nil_append, List.cons_append]
 gi_wp2_with fail
 refine ⟨trivial, callsIn_wide.2 ((telling_any _ A len c).mono ?_)⟩
 rintro e w' ⟨rfl, rfl⟩
 gi_wp2
 have b0 := ((Boxed.new w 33 (.int .u64 (n : Int))).alloc (.cells #[.bool false] 4)).alloc (.cells #[.slice A len c] 69)
 have b1 := (Boxed.new (w.alloc (.cells #[.int .u64 (n : Int)] 33)) 4 (.bool false)).alloc (.cells #[.slice A len c] 69)
 have b2 := Boxed.new ((w.alloc (.cells #[.int .u64 (n : Int)] 33)).alloc (.cells #[.bool false] 4)) 69 (.slice A len c)
 simp only [World.size_alloc] at b1 b2
 have hB0 : Below w.heap.size w (((w.alloc (.cells #[.int .u64 (n : Int)] 33)).alloc (.cells #[.bool false] 4)).alloc (.cells #[.slice A len c] 69)) := (((Below.refl _ w).alloc (Nat.le_refl _) _).alloc (by simp) _).alloc (by simp; omega) _
 have hsz : (((w.alloc (.cells #[.int .u64 (n : Int)] 33)).alloc (.cells #[.bool false] 4)).alloc (.cells #[.slice A len c] 69)).heap.size = w.heap.size + 3 := by simp
 obtain ⟨W0, hW0⟩ : ∃ W0, ((w.alloc (.cells #[.int .u64 (n : Int)] 33)).alloc (.cells #[.bool false] 4)).alloc (.cells #[.slice A len c] 69) = W0 := ⟨_, rfl⟩
 rw [hW0] at b0 b1 b2 hB0 hsz ⊢
 clear hW0
 refine wpIn_rangeFunc_ownH rfl (by omega) (gf := 156) (lb := #[.pointer (some ⟨w.heap.size + 1 + 1, 0, none⟩)]) rfl trivial (enters_of Tryz.func156 (by kernel_rfl) rfl)
   (telling_stops (6 - 1) (by omega) (w.heap.size + 1 + 1) w.heap.size A len c l HL.out h63 W0 (by omega) (by omega) b2.cell (HB.out.below hB0)) belowK_t (belowK_b (by omega)) (Below.refl _ _) (fun _ => rfl)
   (fun pre W => ((Boxed W w.heap.size 33 (.int .u64 (n : Int)) ∧ Boxed W (w.heap.size + 1) 4 (.bool false)) ∧ Below w.heap.size w W) ∧ inAny pre n = false)
   (fun k pre W => (Boxed W (w.heap.size + 1) 4 (.bool true) ∧ Below w.heap.size w W) ∧ (k = .ret ∧ inAny pre n = true))
   (OwnFrom.and (OwnFrom.and (OwnFrom.and (Own.from (boxed_own _ _ (fun _ => _)) _) (Own.from (boxed_own _ _ (fun _ => _)) _)) (ownFrom_below (Nat.le_refl _) (by omega))) (ownFrom_pure _ (fun pre => inAny pre n = false)))
   (fun k => OwnFrom.and (OwnFrom.and (Own.from (boxed_own _ _ (fun _ => _)) _) (ownFrom_below (Nat.le_refl _) (by omega))) (ownFrom_pure _ (fun pre => k = .ret ∧ inAny pre n = true)))
   ⟨⟨⟨b0, b1⟩, hB0⟩, rfl⟩
   (fun x a' W => ∃ Bx, w.heap.size + 1 < Bx ∧ Pair W Bx x ∧ a' = { tmps := #[.slice A len c, .int .u64 (n : Int), undef, .pointer (some ⟨w.heap.size, 0, none⟩), .pointer (some ⟨w.heap.size + 1, 0, none⟩), .pointer (some ⟨Bx, 0, none⟩), .slice A len c, .func (.func 156) #[] #[.pointer (some ⟨w.heap.size + 1 + 1, 0, none⟩)], .agg #[.int .u64 (x.1 : Int), .int .u64 (x.2 : Int)], undef, undef, undef, undef, undef, undef, undef, undef, undef, undef], defers := [] })
   (fun x a' _ X Y row hs hg hr => by obtain ⟨Bx, h1, h2, h3⟩ := hs; exact ⟨Bx, h1, pair_own x Bx _ () X Y row h2 hg hr, h3⟩)
   ?assign ?body ?done ?stop
 case assign =>
   rintro l2 pre x W K ⟨⟨⟨c0, c1⟩, hB1⟩, hp⟩ hK
   simp only [encR]
   gi_wp2
   exact hK _ _ ((KeepsOthers.alloc _ _).from _) ((Below.refl _ W).alloc hB1.size _) ⟨⟨⟨c0.alloc _, c1.alloc _⟩, hB1.alloc hB1.size _⟩, hp⟩ ⟨W.heap.size, c1.lt, Pair.new W x, rfl⟩
 case body =>
   rintro l2 pre x a' W hl2 ⟨r, hr⟩ ⟨⟨⟨c0, c1⟩, hB1⟩, hp⟩ ⟨Bx, hBx, bX, rfl⟩ hlt
   have d0 := c0.cell
   have d1 := c1.cell
   have f1 := c1.frozen
   have e1 := bX.cell1
   have e2 := bX.cell2
   have HP := Lib.hid hp
   clear hp hlt
   have hs := inAny_snoc pre x n
   rw [HP.out, Bool.false_or] at hs
   have HS := Lib.hid hs
   clear hs
   by_cases k1 : x.1 ≤ n
   · by_cases k2 : n ≤ x.2
     · have t1 : decide ((x.1 : Int) ≤ (n : Int)) = true := decide_eq_true (by omega)
       have t2 : decide ((n : Int) ≤ (x.2 : Int)) = true := decide_eq_true (by omega)
       gi_wp2
       exact ⟨(KeepsOthers.setCell _ _ _).from _, ⟨c1.set _, hB1.setCell (p := ⟨w.heap.size + 1, 0, none⟩) (by simp) _⟩, rfl, by rw [HS.out]; simp [k1, k2]⟩
     · have t1 : decide ((x.1 : Int) ≤ (n : Int)) = true := decide_eq_true (by omega)
       have t2 : decide ((n : Int) ≤ (x.2 : Int)) = false := decide_eq_false (by omega)
       gi_wp2
       exact ⟨KeepsFrom.refl _ _, Below.refl _ _, ⟨⟨c0, c1⟩, hB1⟩, by rw [HS.out]; simp [k2]⟩
   · have t1 : decide ((x.1 : Int) ≤ (n : Int)) = false := decide_eq_false (by omega)
     gi_wp2
     exact ⟨KeepsFrom.refl _ _, Below.refl _ _, ⟨⟨c0, c1⟩, hB1⟩, by rw [HS.out]; simp [k1]⟩
 case done =>
   rintro D ys W hD rfl ⟨⟨⟨c0, c1⟩, hB1⟩, hp⟩ hK
   have d1 := c1.cell
   have f1 := c1.frozen
   gi_wp2
   have hK' := (KeepsOthers.setCell W ⟨w.heap.size + 1, 0, none⟩ (.bool false)).same D _ hK rfl
   refine ⟨by simp, .inl ⟨_, _, rfl, run_takeDeferred hK', ?_⟩⟩
   have hc5 := cell_kept (c1.set (.bool false)).cell (grownBy_putObj' _ D (.deferred none)) (fun r e => by cases e; exact ⟨_, hK', rfl⟩)
   refine ⟨.bool false, ?_, by rw [← inAny_tells, hp], (hB1.setCell (p := ⟨w.heap.size + 1, 0, none⟩) (by simp) _).trans (belowK_b (w := w) (Nat.le_refl _) _ D _ _ (by omega) hK' rfl rfl)⟩
   simp [results, Tryz.f90, go_sem, hc5]
 case stop =>
   rintro D k pre W hD hpre ⟨⟨c1, hB1⟩, rfl, hp⟩ hK
   gi_wp2
   refine ⟨by simp, .inl ⟨_, _, rfl, run_takeDeferred hK, ?_⟩⟩
   have hc5 := cell_kept c1.cell (grownBy_putObj' _ D (.deferred none)) (fun r e => by cases e; exact ⟨_, hK, rfl⟩)
   refine ⟨.bool true, ?_, by rw [← inAny_tells, inAny_part hpre hp], hB1.trans (belowK_b (w := w) (Nat.le_refl _) W D _ _ (by omega) hK rfl rfl)⟩
   simp [results, Tryz.f90, go_sem, hc5]
attribute [local go_sem] Oper.semAt_some
theorem rv_pair (r : Run) : rv [r] = [.int .u64 (r.1 : Int), .int .u64 (r.2 : Int)] := rfl
theorem pair_at (W : World) (r : Run) : ∀ (j : Nat) (u : Value), (rv [r])[j]? = some u → (W.alloc (.cells #[.int .u64 (r.1 : Int), .int .u64 (r.2 : Int)] 68)).cell? ((⟨W.heap.size, 0, none⟩ : Addr).add j) = some u := by
 intro j u hu
 rw [zero_add, World.cell?_alloc_new]
 rw [rv_pair] at hu
 simpa using hu
theorem row_own (n₀ B e size B0 : Nat) (f : List Run → List Value) : OwnFrom B0 (fun (pre : List Run) W => ∃ A k c, Boxed W B 69 (.slice A k c) ∧ k = pre.length ∧ W.ownsRow n₀ e size (.slice A k c) k (f pre)) := by
 rintro s X Y row ⟨A, k, c, hv, hk, hr⟩ hg hrow
 refine ⟨A, k, c, hv.kept hg (fun e' => ?_), hk, hr.kept hg ?_⟩
 · obtain ⟨_, o, ho, hc⟩ := hrow B e'.symm
   rw [show X.heap[B]? = _ from hv] at ho; cases ho; cases hc
 · rcases hr.2 with ⟨h, _⟩ | ⟨g, cap, cur, h, _, hgb, _⟩
   · exact .inl (by rw [h]; rfl)
   · refine .inr fun e' => ?_
     rw [h] at e'
     obtain ⟨_, o, ho, hc⟩ := hrow g (by simpa [Value.ownBlock] using e'.symm)
     rw [hgb] at ho; cases ho; cases hc
set_option maxRecDepth 100000 in
set_option maxHeartbeats 4000000 in
theorem seq_any (w : World) (Bs : Nat) (A : Option Addr) (l : List Run) (len c : Nat) (hl : l.length = len) (hB : Bs < w.heap.size) (hc : w.cell? ⟨Bs, 0, none⟩ = some (.slice A len c)) (hb : Runs w w.heap.size A l) (h41 : len ≤ 4398046511104) :
   Calls Tryz.prog 174 #[.slice none 0 0, .func (.func 156) #[] #[.pointer (some ⟨Bs, 0, none⟩)]] w (RunPost w (tells l)) := by
 obtain ⟨i0, hi0, hz0, hz1, hz2⟩ := info_parts run_info
 have HB := Lib.hid hb
 have HL := Lib.hid hl
 have HT : Hid ((tells l).length ≤ 4398046511104) := Nat.le_trans (List.length_filter_le _ _) (by rw [hl]; exact h41)
 clear hb hl
 refine (callsIn_wide (n := 6)).1 ?_
 refine callsIn_of_wp_marks Tryz.func174 rfl trivial ?_ rfl
 simp only [Tryz.ntmps174, List.size_toArray, List.length_cons, List.length_nil, Nat.reduceAdd, Nat.reduceSub, Array.replicate_succ, Array.replicate_zero, List.push_toArray, List.append_toArray, List.nil_append, List.cons_append]
 gi_wp2
 have b0 := Boxed.new w 69 (.slice none 0 0)
 have hB0 : Below w.heap.size w (w.alloc (.cells #[.slice none 0 0] 69)) := below_new w _
 have hsz : (w.alloc (.cells #[.slice none 0 0] 69)).heap.size = w.heap.size + 1 := by simp
 obtain ⟨W0, hW0⟩ : ∃ W0, w.alloc (.cells #[.slice none 0 0] 69) = W0 := ⟨_, rfl⟩
 rw [hW0] at b0 hB0 hsz ⊢
 clear hW0
 refine wpIn_rangeFunc_ownH rfl (by omega) (gf := 156) (lb := #[.pointer (some ⟨Bs, 0, none⟩)]) rfl trivial (enters_of Tryz.func156 (by kernel_rfl) rfl)
   (telling_stops (6 - 1) (by omega) Bs w.heap.size A len c l HL.out (by omega) W0 (by omega) (by omega) ((hB0.cell (p := ⟨Bs, 0, none⟩) hB).trans hc) (HB.out.below hB0)) belowK_t (belowK_b (by omega)) (Below.refl _ _) (fun _ => rfl)
   (fun pre W => (∃ A k c, Boxed W w.heap.size 69 (.slice A k c) ∧ k = pre.length ∧ W.ownsRow w.heap.size 68 2 (.slice A k c) k (rv pre)) ∧ Below w.heap.size w W)
   (fun _ _ _ => False)
   (OwnFrom.and (row_own _ _ _ _ _ rv) (ownFrom_below (Nat.le_refl _) (by omega)))
   (fun _ _ _ _ _ hs _ _ => hs)
   ⟨⟨none, 0, 0, b0, rfl, World.ownsRow_nil _ _ _ _⟩, hB0⟩
   (fun x a' W => ∃ Bx, w.heap.size < Bx ∧ Pair W Bx x ∧ a' = { tmps := #[.slice none 0 0, .func (.func 156) #[] #[.pointer (some ⟨Bs, 0, none⟩)], .pointer (some ⟨w.heap.size, 0, none⟩), undef, .slice none 0 0, .pointer (some ⟨Bx, 0, none⟩), .func (.func 156) #[] #[.pointer (some ⟨Bs, 0, none⟩)], .agg #[.int .u64 (x.1 : Int), .int .u64 (x.2 : Int)], undef, undef, undef, undef, undef], defers := [] })
   (fun x a' _ X Y row hs hg hr => by obtain ⟨Bx, h1, h2, h3⟩ := hs; exact ⟨Bx, h1, pair_own x Bx _ () X Y row h2 hg hr, h3⟩)
   ?assign ?body ?done ?stop
 case assign =>
   rintro l2 pre x W K ⟨⟨A1, k1, cp, bS, hk1, hrow⟩, hB1⟩ hK
   simp only [encR]
   gi_wp2
   exact hK _ _ ((KeepsOthers.alloc _ _).from _) ((Below.refl _ W).alloc hB1.size _) ⟨⟨A1, k1, cp, bS.alloc _, hk1, hrow.alloc _⟩, hB1.alloc hB1.size _⟩ ⟨W.heap.size, bS.lt, Pair.new W x, rfl⟩
 case body =>
   rintro l2 pre x a' W hl2 ⟨r, hr⟩ ⟨⟨A1, k1, cp, bS, rfl, hrow⟩, hB1⟩ ⟨Bx, hBx, bX, rfl⟩ hlt
   have hlen : pre.length < 4398046511104 := Nat.lt_of_lt_of_le hlt HT.out
   have cS := bS.cell
   have e1 := bX.cell1
   have e2 := bX.cell2
   have HR := Lib.hid hrow
   have HW := Lib.hid hB1
   have BS := Lib.hid bS
   clear hrow hB1 bS hlt
   gi_wp2_with (gi_at_builtin; refine wpListIn_append_own _ rfl _ _ 69 rfl w.heap.size 68 i0 (.agg #[.int .u64 0, .int .u64 0]) 2 16 Tryz.underlying69 hi0 hz0 hz1 hz2 rfl (by decide) _ _ _ rfl (HR.out.alloc _) ⟨W.heap.size, 0, none⟩ 1 1 (rv [x]) rfl rfl (pair_at W x) (rv_one _) (by simp only [maxLen]; omega) (by omega) (by have := HW.out.size; simp; omega) ?_; intro v' w1 hown' hgrow hat; obtain ⟨g', cap', rfl⟩ := ownsRow_succ hown'; obtain ⟨hv1, hv2, hr2, hk2, hb2⟩ := BS.out.appended (by decide) HR.out HW.out.size (Nat.le_refl _) hown' hgrow; have hc1 := hv1.cell; have hf1 := hv1.frozen)
   exact ⟨hk2.from _, hb2, ⟨_, _, _, hv2, by simp, by rw [rv_append]; exact hr2⟩, HW.out.trans hb2⟩
 case done =>
   rintro D ys W hD rfl ⟨⟨A1, k1, cp, bS, rfl, hrow⟩, hB1⟩ hK
   have cS := bS.cell
   gi_wp2
   refine ⟨by simp, .inl ⟨_, _, rfl, run_takeDeferred hK, ?_⟩⟩
   exact ⟨_, results_tmp rfl _ _ _, A1, _, cp, rfl, rfl, ownsRow_putObj hrow _ hK rfl, hB1.trans (belowK_b (w := w) (Nat.le_refl _) W D _ _ (by omega) hK rfl rfl)⟩
 case stop =>
   rintro D k pre W _ _ h _
   exact h.elim
theorem collect_any (w : World) (Bs : Nat) (A : Option Addr) (l : List Run) (len c : Nat) (hl : l.length = len) (hB : Bs < w.heap.size) (hc : w.cell? ⟨Bs, 0, none⟩ = some (.slice A len c)) (hb : Runs w w.heap.size A l) (h41 : len ≤ 4398046511104) :
   Calls Tryz.prog 157 #[.func (.func 156) #[] #[.pointer (some ⟨Bs, 0, none⟩)]] w (RunPost w (tells l)) := by
 have H := Lib.hid (seq_any w Bs A l len c hl hB hc hb h41)
 clear hl hc hb
 go_enter Tryz.func157, Tryz.ntmps157
 go_wp2_with fail
 refine H.out.mono ?_
 rintro e w' ⟨A1, n1, c1, rfl, h⟩
 have HH := Lib.hid h
 clear h
 go_wp2
 go_ret
 exact ⟨A1, n1, c1, rfl, HH.out⟩
end Go.Proofs.YtgaegfddobpomaaGreat.Ru

namespace Go.Proofs.YtgaegfddobpomaaGreat.Ru
open Go.ChangeShapes Go.WideShapes Go.ChangeAt Go.RowKit Go.Shelf
set_option linter.unusedVariables false
set_option maxRecDepth 4000
def JRow (W : World) (g cap : Nat) (o : List Run) (k n : Nat) (l : List Run) : Prop :=
 ∃ cur, W.heap[g]? = some (.cells cur 68 (0, 0)) ∧ cur.size = cap * 2 ∧ cur.toList.take (o.length * 2) = rv o ∧ ∀ j, k * 2 ≤ j → j < n * 2 → cur[j]? = (rv l)[j]?
theorem JRow.below {W W' : World} {g cap k n : Nat} {o l : List Run} (h : JRow W g cap o k n l) (hb : Below W.heap.size W W') : JRow W' g cap o k n l := by
 obtain ⟨cur, h1, h2⟩ := h
 exact ⟨cur, (hb.block g (Array.getElem?_eq_some_iff.1 h1).1).trans h1, h2⟩
theorem JRow.start {W : World} {B g cap n : Nat} {l : List Run} (h : W.ownsRow B 68 2 (.slice (some ⟨g, 0, none⟩) n cap) n (rv l)) (hl : l.length = n) : JRow W g cap [] 0 n l := by
 obtain ⟨hlen, ⟨hz, _⟩ | ⟨g', cap', cur, e, hB, hheap, hle, hmx, hsz, htk⟩⟩ := h
 · cases hz
 · cases e
   refine ⟨cur, hheap, hsz, by simp [rv], fun j _ hj => ?_⟩
   rw [← htk, List.getElem?_take, if_pos hj]
   simp
theorem JRow.next {W : World} {g cap k n : Nat} {o l : List Run} (h : JRow W g cap o k n l) (hk : k < n) {r : Run} (hr : l[k]? = some r) :
   W.cell? ⟨g, k * 2, none⟩ = some (.int .u64 (r.1 : Int)) ∧ W.cell? ⟨g, k * 2 + 1, none⟩ = some (.int .u64 (r.2 : Int)) := by
 obtain ⟨cur, h1, h2, h3, h4⟩ := h
 obtain ⟨g1, g2⟩ := rv_get hr
 have c1 := h4 (k * 2) (by omega) (by omega)
 have c2 := h4 (k * 2 + 1) (by omega) (by omega)
 rw [g1] at c1
 rw [g2] at c2
 exact ⟨by simp [World.cell?, h1, c1], by simp [World.cell?, h1, c2]⟩
theorem rv_snoc_get (o : List Run) (s : Run) : (rv (o ++ [s]))[o.length * 2]? = some (.int .u64 (s.1 : Int)) ∧ (rv (o ++ [s]))[o.length * 2 + 1]? = some (.int .u64 (s.2 : Int)) := rv_get (by simp)
theorem JRow.last {W : World} {g cap k n : Nat} {o l : List Run} {s : Run} (h : JRow W g cap (o ++ [s]) k n l) :
   W.cell? ⟨g, o.length * 2, none⟩ = some (.int .u64 (s.1 : Int)) ∧ W.cell? ⟨g, o.length * 2 + 1, none⟩ = some (.int .u64 (s.2 : Int)) ∧ W.frozen? ⟨g, o.length * 2 + 1, none⟩ = false := by
 obtain ⟨cur, h1, h2, h3, h4⟩ := h
 obtain ⟨g1, g2⟩ := rv_snoc_get o s
 rw [← h3, List.getElem?_take, if_pos (by rw [List.length_append, List.length_singleton]; omega)] at g1
 rw [← h3, List.getElem?_take, if_pos (by rw [List.length_append, List.length_singleton]; omega)] at g2
 rw [Array.getElem?_toList] at g1 g2
 exact ⟨by simp [World.cell?, h1, g1], by simp [World.cell?, h1, g2], by simp [World.frozen?, h1]⟩
theorem JRow.app {W : World} {g cap k n : Nat} {o l : List Run} {r : Run} (h : JRow W g cap o k n l) (hk : k < n) (ho : o.length ≤ k) (hn : n ≤ cap) (a : Addr) (c : Nat) (ha : ∀ (j : Nat) (u : Value), (rv [r])[j]? = some u → W.cell? (a.add j) = some u) :
   ∃ W', (Builtin.append_ #[69, 69] 69 #[.slice (some ⟨g, 0, none⟩) o.length cap, .slice (some a) 1 c]).run Tryz.prog W = .ok (.slice (some ⟨g, 0, none⟩) (o.length + 1) cap) W' ∧ JRow W' g cap (o ++ [r]) (k + 1) n l ∧ W.grownBy W' (some g) := by
 obtain ⟨i0, hi0, hz0, hz1, hz2⟩ := info_parts run_info
 obtain ⟨cur, h1, h2, h3, h4⟩ := h
 have hr := run_append_room (P := Tryz.prog) W 69 69 68 i0 Tryz.underlying69 hi0 g o.length cap cur h1 a 1 c (rv [r]) (by rw [hz1]; rfl) ha (rv_one _) (by omega) (by rw [hz1, h2]; show o.length * 2 + 2 ≤ cap * 2; omega)
 rw [hz1] at hr
 refine ⟨_, hr, ⟨_, setRow_heap W g cur _ 68 _ h1, ?_, ?_, ?_⟩, ⟨rfl, rfl, rfl, by simp, fun k _ hk => setRow_other W g k _ (fun e => hk (by simp [e]))⟩⟩
 · simp only [List.size_toArray, List.length_append, List.length_take, List.length_drop, Array.length_toList, rv_length, List.length_singleton]
   omega
 · rw [h3, List.length_append, List.length_singleton, rv_append]
   rw [show (o.length + 1) * 2 = (rv o ++ rv [r]).length by rw [List.length_append, rv_length, rv_length]; simp; omega]
   exact List.take_left
 · intro j hj1 hj2
   rw [← h4 j (by omega) hj2, h3]
   have e : (rv o ++ rv [r]).length = o.length * 2 + 2 := by rw [List.length_append, rv_length, rv_length]; rfl
   rw [List.getElem?_toArray, List.getElem?_append_right (by omega), e, List.getElem?_drop, Array.getElem?_toList]
   congr 1
   rw [rv_length, List.length_singleton]
   omega
theorem JRow.set {W : World} {g cap k n : Nat} {o l : List Run} {s : Run} (h : JRow W g cap (o ++ [s]) k n l) (hk : o.length + 1 ≤ k + 1) (x : Nat) :
   JRow (W.setCell ⟨g, o.length * 2 + 1, none⟩ (.int .u64 (x : Int))) g cap (o ++ [(s.1, x)]) (k + 1) n l := by
 obtain ⟨cur, h1, h2, h3, h4⟩ := h
 have hlt := (Array.getElem?_eq_some_iff.1 h1).1
 refine ⟨cur.setIfInBounds (o.length * 2 + 1) (.int .u64 (x : Int)), ?_, by rw [Array.size_setIfInBounds]; exact h2, ?_, ?_⟩
 · show (W.heap.modify g _)[g]? = _
   rw [Array.getElem?_modify, if_pos rfl, h1]
   rfl
 · rw [Array.toList_setIfInBounds, List.take_set, List.length_append, List.length_singleton]
   rw [List.length_append, List.length_singleton] at h3
   rw [h3, rv_append, rv_append, List.set_append_right _ _ (by rw [rv_length]; omega), rv_length]
   rw [show o.length * 2 + 1 - o.length * 2 = 1 by omega]
   rfl
 · intro j hj1 hj2
   rw [← h4 j (by omega) hj2, Array.getElem?_setIfInBounds_ne (by omega)]
theorem JRow.stop {W : World} {B g cap n : Nat} {o l : List Run} (h : JRow W g cap o n n l) (hB : B ≤ g) (ho : o.length ≤ n) (hn : n ≤ cap) (hmx : cap ≤ maxLen) : W.ownsRow B 68 2 (.slice (some ⟨g, 0, none⟩) o.length cap) o.length (rv o) := by
 obtain ⟨cur, h1, h2, h3, h4⟩ := h
 exact ⟨rv_length o, .inr ⟨g, cap, cur, rfl, hB, h1, by omega, hmx, h2, h3⟩⟩
theorem wpList_join {ops : Array Oper} {rest : List Oper} {o : Oper} {a : Act} {Q : Exit → Act → World → Prop} (hgd : o.guard = none) (s x : Operand) (ho : o.op = .call { callee := .builtin .append, args := #[s, x], argTypes := #[69, 69] }) (hty : o.type = 69)
   (W : World) (g cap k n : Nat) (d l : List Run) (m : Nat) (r : Run) (ad : Addr) (c : Nat) (hs : a.eval s = .slice (some ⟨g, 0, none⟩) m cap) (hx : a.eval x = .slice (some ad) 1 c) (hm : d.length = m) (h : JRow W g cap d k n l) (hk : k < n) (hd : m ≤ k) (hn : n ≤ cap)
   (ha : ∀ (j : Nat) (u : Value), (rv [r])[j]? = some u → W.cell? (ad.add j) = some u)
   (hK : ∀ W', JRow W' g cap (d ++ [r]) (k + 1) n l → W.grownBy W' (some g) → wpList Tryz.prog ops Q rest (a.put o.dst (.slice (some ⟨g, 0, none⟩) (m + 1) cap)) W') : wpList Tryz.prog ops Q (o :: rest) a W := by
 refine wpList_plain hgd fun K hQ => ?_
 subst hm
 obtain ⟨W', hr, h2, h3⟩ := h.app hk hd hn ad c ha
 rw [← hty] at hr
 unfold Oper.wp execOp
 simp only [ho, resolve, invoke, builtin, Sem.run_bind, Sem.run_pure, Result.andThen_ok, List.map_toArray, List.map_cons, List.map_nil, hs, hx]
 rw [hty] at hr ⊢
 rw [hr]
 exact hQ _ _ (hK _ h2 h3)
theorem turn_set (w : World) (g i : Nat) (u : Value) : w.grownBy (w.setCell ⟨g, i, none⟩ u) (some g) :=
 ⟨rfl, rfl, rfl, by simp [World.setCell], fun k _ hne => Below.heap_setCell w ⟨g, i, none⟩ u k (fun e => hne (by rw [e]))⟩
theorem apart_later (w W : World) (s r : Run) (h : s.2 ≤ 281474976710656) (bel : Below w.heap.size w W) :
   Calls Tryz.prog 146 #[.agg #[.int .u64 (s.1 : Int), .int .u64 (s.2 : Int)], .agg #[.int .u64 (r.1 : Int), .int .u64 (r.2 : Int)]] W fun e w' => e = .returned (.bool (decide (s.2 + 1 < r.1))) ∧ Below w.heap.size w w' :=
 (apart_any W s.1 s.2 r.1 r.2 h).mono fun _ _ ⟨h1, h2⟩ => ⟨h1, bel.trans (h2.mono bel.size)⟩
def JRel (w : World) (g cap n : Nat) (l : List Run) (v i : Value) (wr : World) : Prop :=
 ∃ k m : Nat, k ≤ n ∧ i = .int .i64 (k : Int) ∧ (joinL (l.take k)).length = m ∧ v = .slice (some ⟨g, 0, none⟩) m cap ∧ JRow wr g cap (joinL (l.take k)) k n l ∧ w.grownBy wr (some g)
theorem j_rel {w wr : World} {g cap n k m : Nat} {l o : List Run} (hk : k < n) (hs : joinL (l.take (k + 1)) = o) (hm : o.length = m) (h : JRow wr g cap o (k + 1) n l) (hg : w.grownBy wr (some g)) : JRel w g cap n l (.slice (some ⟨g, 0, none⟩) m cap) (.int .i64 ((k : Int) + 1)) wr :=
 ⟨k + 1, m, hk, by go_num, by rw [hs]; exact hm, rfl, by rw [hs]; exact h, hg⟩
theorem grown_trans {A B C : World} {row : Option Nat} (h : A.grownBy B row) (k : B.grownBy C row) : A.grownBy C row :=
 ⟨k.os.trans h.os, k.tape.trans h.tape, k.output.trans h.output, Nat.le_trans h.size k.size, fun i hi hne => (k.block i (Nat.lt_of_lt_of_le hi h.size) hne).trans (h.block i hi hne)⟩
set_option maxHeartbeats 2000000 in
theorem joined_any (w : World) (B g cap n : Nat) (l : List Run) (hl : l.length = n) (h : w.ownsRow B 68 2 (.slice (some ⟨g, 0, none⟩) n cap) n (rv l)) (hm : ∀ r ∈ l, mayR r = true) (hr : Rise l) (h42 : n ≤ 4398046511104) :
   Calls Tryz.prog 161 #[.slice (some ⟨g, 0, none⟩) n cap] w fun e w' => ∃ m, e = .returned (.slice (some ⟨g, 0, none⟩) m cap) ∧ (joinL l).length = m ∧ w'.ownsRow B 68 2 (.slice (some ⟨g, 0, none⟩) m cap) m (rv (joinL l)) ∧ w.grownBy w' (some g) := by
 have hlt := h.lt g rfl
 have hBg := hlt.1
 obtain ⟨hcap, hmx, _⟩ := own_len h
 have JS := Lib.hid (JRow.start h hl)
 have HL := Lib.hid hl
 have HM := Lib.hid hm
 have HR := Lib.hid hr
 have HU : Hid (∀ k, InOrder (joinL (l.take k)) ∧ (joinL (l.take k)).length ≤ k) := fun k => joinL_upto hm hr k
 clear h hl hm hr
 go_enter Tryz.func161, Tryz.ntmps161
 go_wp2
 go_loopw [3, 11] (fun v i wr => JRel w g cap n l v i wr) (fun _ i _ => n - (intOf i).toNat)
 case atStart => exact ⟨0, 0, Nat.zero_le _, rfl, rfl, rfl, JS.out, turn_refl _ _⟩
 case round =>
   obtain ⟨k, m, hk, rfl, hm, rfl, hj, hg⟩ := hrel
   have HJ := Lib.hid hj
   have HG := Lib.hid hg
   have HE := Lib.hid hm
   have hmk : m ≤ k := by rw [← hm]; exact (HU.out k).2
   clear hj hg hm
   by_cases hlt2 : k < n
   · obtain ⟨r, hrk⟩ : ∃ r, l[k]? = some r := ⟨_, List.getElem?_eq_getElem (by rw [HL.out]; exact hlt2)⟩
     have RK := Lib.hid hrk
     obtain ⟨q1, q2⟩ := HJ.out.next hlt2 hrk
     have TK := Lib.hid (joinL_take hrk)
     have MR : Hid (mayR r = true) := HM.out r (List.mem_of_getElem? hrk)
     have HIo := Lib.hid (HU.out k).1
     clear hrk
     generalize joinL (l.take k) = o at HJ HE TK HIo
     have L0 : Hid (Below wr.heap.size wr (wr.alloc (.cells #[.int .u64 (r.1 : Int), .int .u64 (r.2 : Int)] 68))) := below_new _ _
     have P0 := Lib.hid (Pair.new wr r)
     rcases snoc_cases o with rfl | ⟨o', s, rfl⟩
     · obtain rfl : m = 0 := HE.out.symm
       go_wp2_with fail
       go_quiet (fail)
       have P1 : Pair ((wr.alloc (.cells #[.int .u64 (r.1 : Int), .int .u64 (r.2 : Int)] 68)).drewN nq) wr.heap.size r := P0.out
       have L1 : Hid (Below wr.heap.size wr ((wr.alloc (.cells #[.int .u64 (r.1 : Int), .int .u64 (r.2 : Int)] 68)).drewN nq)) := L0.out.trans ⟨rfl, rfl, rfl, Nat.le_refl _, fun _ _ => rfl⟩
       generalize (wr.alloc (.cells #[.int .u64 (r.1 : Int), .int .u64 (r.2 : Int)] 68)).drewN nq = V at P1 L1 ⊢
       have J1 := Lib.hid ((HJ.out.below L1.out).below (below_new V (.cells #[.int .u64 (r.1 : Int), .int .u64 (r.2 : Int)] 68)))
       have G1 : Hid (w.grownBy (V.alloc (.cells #[.int .u64 (r.1 : Int), .int .u64 (r.2 : Int)] 68)) (some g)) := grown_trans HG.out (turn_below (L1.out.trans ((below_new V _).mono L1.out.size)) _)
       have p1 := P1.cell1
       have p2 := P1.cell2
       clear P1 q1 q2 hlt
       go_wp2_with (at_builtin; refine wpList_join rfl (.tmp 28) (.tmp 30) rfl rfl _ g cap k n [] l 0 r ⟨V.heap.size, 0, none⟩ 1 rfl rfl rfl J1.out hlt2 (by omega) hcap (pair_at V r) ?_; intro W' hj' hg'; have HR := Lib.hid (j_rel hlt2 TK.out rfl hj' (grown_trans G1.out hg')); clear hj' hg')
       go_roundw
       case rel => exact HR.out
       case measure => simp [intOf]; omega
     · obtain ⟨z, hz⟩ : ∃ z, o'.length = z := ⟨_, rfl⟩
       obtain rfl : m = z + 1 := by rw [← HE.out, List.length_append, hz]; rfl
       have HZ := Lib.hid hz
       have hs2 : s.2 ≤ 281474976710656 := by have := (may_iff s).1 (HIo.out.1 s (by simp)); omega
       have hr2 : r.2 ≤ 281474976710656 := by have := (may_iff r).1 MR.out; omega
       have J0 := Lib.hid (HJ.out.below L0.out)
       have HCR : Hid (∀ V, Below (wr.alloc (.cells #[.int .u64 (r.1 : Int), .int .u64 (r.2 : Int)] 68)).heap.size (wr.alloc (.cells #[.int .u64 (r.1 : Int), .int .u64 (r.2 : Int)] 68)) V → (V.cell? ⟨g, z * 2, none⟩ = some (.int .u64 (s.1 : Int)) ∧ V.cell? ⟨g, z * 2 + 1, none⟩ = some (.int .u64 (s.2 : Int))) ∧ V.cell? ⟨wr.heap.size, 0, none⟩ = some (.int .u64 (r.1 : Int)) ∧ V.cell? ⟨wr.heap.size, 1, none⟩ = some (.int .u64 (r.2 : Int))) := fun V hV => by
         obtain ⟨c1, c2, _⟩ := (J0.out.below hV).last
         rw [HZ.out] at c1 c2
         exact ⟨⟨c1, c2⟩, (P0.out.below hV).cell1, (P0.out.below hV).cell2⟩
       have HV0 : Hid (∀ V, Below (wr.alloc (.cells #[.int .u64 (r.1 : Int), .int .u64 (r.2 : Int)] 68)).heap.size (wr.alloc (.cells #[.int .u64 (r.1 : Int), .int .u64 (r.2 : Int)] 68)) V → (JRow V g cap (o' ++ [s]) k n l ∧ Pair V wr.heap.size r) ∧ w.grownBy V (some g)) := fun V hV => ⟨⟨J0.out.below hV, P0.out.below hV⟩, grown_trans HG.out (turn_below (L0.out.trans (hV.mono L0.out.size)) _)⟩
       have hzk : z < n := by omega
       have hzz : z < z + 1 := Nat.lt_succ_self z
       have hz0 : decide ((z : Int) < 0) = false := decide_eq_false (by omega)
       have hz1 : (0 : Int) ≤ (z : Int) := by omega
       have hz2 : (z : Int) < (z : Int) + 1 := by omega
       have hz3 : ¬ ((z : Int) + 1 ≤ (z : Int)) := by omega
       have hz4 : ¬ ((z : Int) < 0) := by omega
       clear hz q1 q2 hlt
       obtain ⟨q1, q2⟩ := HJ.out.next hlt2 RK.out
       go_wp2_with fail
       clear q1 q2
       obtain ⟨⟨d1, d2⟩, d3, d4⟩ := HCR.out _ (Below.refl _ _)
       generalize wr.alloc (.cells #[.int .u64 (r.1 : Int), .int .u64 (r.2 : Int)] 68) = V0 at HCR HV0 d1 d2 d3 d4 ⊢
       go_region_held3 (fun V => (V.cell? ⟨g, z * 2, none⟩ = some (.int .u64 (s.1 : Int)) ∧ V.cell? ⟨g, z * 2 + 1, none⟩ = some (.int .u64 (s.2 : Int))) ∧ V.cell? ⟨wr.heap.size, 0, none⟩ = some (.int .u64 (r.1 : Int)) ∧ V.cell? ⟨wr.heap.size, 1, none⟩ = some (.int .u64 (r.2 : Int))) (first | exact ⟨⟨d1, d2⟩, d3, d4⟩ | exact HCR.out _ (by (repeat (first | exact Below.refl _ _ | assumption | apply bel_drew)))) (first | (go_at_call 146; (with_reducible refine (apart_later V0 _ s r hs2 ?_).mono ?_); (repeat (first | exact Below.refl _ _ | assumption | apply bel_drew)); rintro e V ⟨rfl, bv⟩; have hcV := HCR.out V bv))
       obtain ⟨⟨JV0, PV0⟩, GV0⟩ := HV0.out V bv
       have JV := Lib.hid JV0
       have PV := Lib.hid PV0
       have GV := Lib.hid GV0
       clear JV0 PV0 GV0 bv hcV d1 d2 d3 d4 HCR HV0 J0 L0 P0
       have p1 := PV.out.cell1
       have p2 := PV.out.cell2
       by_cases hf : s.2 + 1 < r.1
       · have hfd : decide (s.2 + 1 < r.1) = true := decide_eq_true hf
         rw [joinS_far hf] at TK
         rw [hfd]
         clear hf hfd hz1 hz2 hz3 hz4 hz0
         have J1 := Lib.hid (JV.out.below (below_new V (.cells #[.int .u64 (r.1 : Int), .int .u64 (r.2 : Int)] 68)))
         have G1 : Hid (w.grownBy (V.alloc (.cells #[.int .u64 (r.1 : Int), .int .u64 (r.2 : Int)] 68)) (some g)) := grown_trans GV.out (turn_below (below_new V _) _)
         go_wp2_with (at_builtin; refine wpList_join rfl (.tmp 28) (.tmp 30) rfl rfl _ g cap k n (o' ++ [s]) l (z + 1) r ⟨V.heap.size, 0, none⟩ 1 rfl rfl HE.out J1.out hlt2 (by omega) hcap (pair_at V r) ?_; intro W' hj' hg'; have HR := Lib.hid (j_rel hlt2 TK.out (by rw [List.length_append, HE.out]) hj' (grown_trans G1.out hg')); clear hj' hg')
         go_roundw
         case rel => exact HR.out
         case measure => simp [intOf]; omega
       · have hfd : decide (s.2 + 1 < r.1) = false := decide_eq_false hf
         rw [joinS_near hf] at TK
         rw [hfd]
         obtain ⟨_, c2, c3⟩ := JV.out.last
         rw [HZ.out] at c2 c3
         by_cases hc : s.2 < r.2
         · clear hf hfd hz0
           go_wp2_with fail
           go_still_tail 12, (by kernel_rfl)
           have J2 : Hid (JRow (V.drew.setCell ⟨g, z * 2 + 1, none⟩ (.int .u64 (r.2 : Int))) g cap (o' ++ [(s.1, max s.2 r.2)]) (k + 1) n l) := by
             have h1 : JRow V.drew g cap (o' ++ [s]) k n l := JV.out
             have h2 := h1.set (by rw [HZ.out]; omega) r.2
             rw [HZ.out] at h2
             rw [show max s.2 r.2 = r.2 by omega]
             exact h2
           have G2 : Hid (w.grownBy (V.drew.setCell ⟨g, z * 2 + 1, none⟩ (.int .u64 (r.2 : Int))) (some g)) := by
             have h1 : w.grownBy V.drew (some g) := ⟨GV.out.os, GV.out.tape, GV.out.output, GV.out.size, GV.out.block⟩
             exact grown_trans h1 (turn_set _ _ _ _)
           have HR := Lib.hid (j_rel hlt2 TK.out (by rw [List.length_append, HZ.out]) J2.out G2.out)
           have c4 : V.drew.cell? ⟨g, z * 2 + 1, none⟩ = some (.int .u64 (s.2 : Int)) := c2
           have c5 : V.drew.frozen? ⟨g, z * 2 + 1, none⟩ = false := c3
           clear c2 c3 p1 p2 J2 G2 JV GV PV
           change wpList _ _ _ _ _ V.drew
           generalize V.drew = V2 at *
           go_wp2
           go_roundw
           case rel => exact HR.out
           case measure => simp [intOf]; omega
         · clear hf hfd hz0
           go_wp2_with fail
           go_still_tail 12, (by kernel_rfl)
           have J2 : Hid (JRow (V.drew.setCell ⟨g, z * 2 + 1, none⟩ (.int .u64 (s.2 : Int))) g cap (o' ++ [(s.1, max s.2 r.2)]) (k + 1) n l) := by
             have h1 : JRow V.drew g cap (o' ++ [s]) k n l := JV.out
             have h2 := h1.set (by rw [HZ.out]; omega) s.2
             rw [HZ.out] at h2
             rw [show max s.2 r.2 = s.2 by omega]
             exact h2
           have G2 : Hid (w.grownBy (V.drew.setCell ⟨g, z * 2 + 1, none⟩ (.int .u64 (s.2 : Int))) (some g)) := by
             have h1 : w.grownBy V.drew (some g) := ⟨GV.out.os, GV.out.tape, GV.out.output, GV.out.size, GV.out.block⟩
             exact grown_trans h1 (turn_set _ _ _ _)
           have HR := Lib.hid (j_rel hlt2 TK.out (by rw [List.length_append, HZ.out]) J2.out G2.out)
           have c4 : V.drew.cell? ⟨g, z * 2 + 1, none⟩ = some (.int .u64 (s.2 : Int)) := c2
           have c5 : V.drew.frozen? ⟨g, z * 2 + 1, none⟩ = false := c3
           clear c2 c3 p1 p2 J2 G2 JV GV PV
           change wpList _ _ _ _ _ V.drew
           generalize V.drew = V2 at *
           go_wp2
           go_roundw
           case rel => exact HR.out
           case measure => simp [intOf]; omega
   · obtain rfl : k = n := by omega
     have e : Hid (l.take k = l) := List.take_of_length_le (by rw [HL.out]; exact Nat.le_refl _)
     rw [e.out] at HJ HE
     go_wp2
     go_ret
     exact ⟨m, rfl, HE.out, by rw [← HE.out]; exact HJ.out.stop hBg (by rw [HE.out]; exact hmk) hcap hmx, HG.out⟩
end Go.Proofs.YtgaegfddobpomaaGreat.Ru
