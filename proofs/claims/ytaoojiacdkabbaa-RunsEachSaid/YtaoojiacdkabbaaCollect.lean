/- The contract of slices.Collect of the runs that tell something: a new list of them, in their order. Condition: at most 2^42 runs. -/
import Derived.Test.YtaoojiacdkabbaaHas
import Derived.Test.YtaoojiacdkabbaaAnswers
namespace Go.Proofs.Ytaoojiacdkabbaa.Ru
open Go.ChangeShapes Go.WideShapes Go.ChangeAt Go.RowKit Go.Shelf
set_option linter.unusedVariables false

attribute [local go_sem] Oper.semAt_some

theorem rv_pair (r : Run) : rv [r] = [.int .u64 (r.1 : Int), .int .u64 (r.2 : Int)] := rfl
theorem pair_at (W : World) (r : Run) : ∀ (j : Nat) (u : Value), (rv [r])[j]? = some u → (W.alloc (.cells #[.int .u64 (r.1 : Int), .int .u64 (r.2 : Int)] 31)).cell? ((⟨W.heap.size, 0, none⟩ : Addr).add j) = some u := by
  intro j u hu
  rw [zero_add, World.cell?_alloc_new]
  rw [rv_pair] at hu
  simpa using hu
theorem row_own (n₀ B e size B0 : Nat) (f : List Run → List Value) : OwnFrom B0 (fun (pre : List Run) W => ∃ A k c, Boxed W B 22 (.slice A k c) ∧ k = pre.length ∧ W.ownsRow n₀ e size (.slice A k c) k (f pre)) := by
  rintro s X Y row ⟨A, k, c, hv, hk, hr⟩ hg hrow
  refine ⟨A, k, c, hv.kept hg (fun e' => ?_), hk, hr.kept hg ?_⟩
  · obtain ⟨_, o, ho, hc⟩ := hrow B e'.symm
    rw [show X.heap[B]? = _ from hv] at ho; cases ho; cases hc
  · rcases hr.2 with ⟨h, _⟩ | ⟨g, cap, cur, h, _, hgb, _⟩
    · exact .inl (by rw [h]; rfl)
    · refine .inr fun e' => ?_
      rw [h] at e'
      obtain ⟨_, o, ho, hc⟩ := hrow g (by simpa [Value.ownBlock] using e'.symm)
      rw [hgb] at ho; cases ho; cases hc

set_option maxRecDepth 100000 in
set_option maxHeartbeats 4000000 in
theorem seq_any (w : World) (Bs : Nat) (A : Option Addr) (l : List Run) (len c : Nat) (hl : l.length = len) (hB : Bs < w.heap.size) (hc : w.cell? ⟨Bs, 0, none⟩ = some (.slice A len c)) (hb : Runs w w.heap.size A l) (h41 : len ≤ 4398046511104) :
    Calls Try.prog 52 #[.slice none 0 0, .func (.func 53) #[] #[.pointer (some ⟨Bs, 0, none⟩)]] w (RunPost w (tells l)) := by
  obtain ⟨i0, hi0, hz0, hz1, hz2⟩ := info_parts run_info
  have HB := Lib.hid hb
  have HL := Lib.hid hl
  have HT : Hid ((tells l).length ≤ 4398046511104) := Nat.le_trans (List.length_filter_le _ _) (by rw [hl]; exact h41)
  clear hb hl
  refine (callsIn_wide (n := 6)).1 ?_
  refine callsIn_of_wp_marks Try.func52 rfl trivial ?_ rfl
  simp only [Try.ntmps52, List.size_toArray, List.length_cons, List.length_nil, Nat.reduceAdd, Nat.reduceSub, Array.replicate_succ, Array.replicate_zero, List.push_toArray, List.append_toArray, List.nil_append, List.cons_append]
  gi_wp2
  have b0 := Boxed.new w 22 (.slice none 0 0)
  have hB0 : Below w.heap.size w (w.alloc (.cells #[.slice none 0 0] 22)) := below_new w _
  have hsz : (w.alloc (.cells #[.slice none 0 0] 22)).heap.size = w.heap.size + 1 := by simp
  obtain ⟨W0, hW0⟩ : ∃ W0, w.alloc (.cells #[.slice none 0 0] 22) = W0 := ⟨_, rfl⟩
  rw [hW0] at b0 hB0 hsz ⊢
  clear hW0
  refine wpIn_rangeFunc_ownH rfl (by omega) (gf := 53) (lb := #[.pointer (some ⟨Bs, 0, none⟩)]) rfl trivial (enters_of Try.func53 (by kernel_rfl) rfl)
    (telling_stops (6 - 1) (by omega) Bs w.heap.size A len c l HL.out (by omega) W0 (by omega) (by omega) ((hB0.cell (p := ⟨Bs, 0, none⟩) hB).trans hc) (HB.out.below hB0)) belowK_t (belowK_b (by omega)) (Below.refl _ _) (fun _ => rfl)
    (fun pre W => (∃ A k c, Boxed W w.heap.size 22 (.slice A k c) ∧ k = pre.length ∧ W.ownsRow w.heap.size 31 2 (.slice A k c) k (rv pre)) ∧ Below w.heap.size w W)
    (fun _ _ _ => False)
    (OwnFrom.and (row_own _ _ _ _ _ rv) (ownFrom_below (Nat.le_refl _) (by omega)))
    (fun _ _ _ _ _ hs _ _ => hs)
    ⟨⟨none, 0, 0, b0, rfl, World.ownsRow_nil _ _ _ _⟩, hB0⟩
    (fun x a' W => ∃ Bx, w.heap.size < Bx ∧ Pair W Bx x ∧ a' = { tmps := #[.slice none 0 0, .func (.func 53) #[] #[.pointer (some ⟨Bs, 0, none⟩)], .pointer (some ⟨w.heap.size, 0, none⟩), undef, .slice none 0 0, .pointer (some ⟨Bx, 0, none⟩), .func (.func 53) #[] #[.pointer (some ⟨Bs, 0, none⟩)], .agg #[.int .u64 (x.1 : Int), .int .u64 (x.2 : Int)], undef, undef, undef, undef, undef], defers := [] })
    (fun x a' _ X Y row hs hg hr => by obtain ⟨Bx, h1, h2, h3⟩ := hs; exact ⟨Bx, h1, pair_own x Bx _ () X Y row h2 hg hr, h3⟩)
    ?assign ?body ?done ?stop
  case assign =>
    rintro l2 pre x W K ⟨⟨A1, k1, cp, bS, hk1, hrow⟩, hB1⟩ hK
    simp only [encR]
    gi_wp2
    exact hK _ _ ((KeepsOthers.alloc _ _).from _) ((Below.refl _ W).alloc hB1.size _) ⟨⟨A1, k1, cp, bS.alloc _, hk1, hrow.alloc _⟩, hB1.alloc hB1.size _⟩ ⟨W.heap.size, bS.lt, Pair.new W x, rfl⟩
  case body =>
    rintro l2 pre x a' W hl2 ⟨r, hr⟩ ⟨⟨A1, k1, cp, bS, rfl, hrow⟩, hB1⟩ ⟨Bx, hBx, bX, rfl⟩ hlt
    have hlen : pre.length < 4398046511104 := Nat.lt_of_lt_of_le hlt HT.out
    have cS := bS.cell
    have e1 := bX.cell1
    have e2 := bX.cell2
    have HR := Lib.hid hrow
    have HW := Lib.hid hB1
    have BS := Lib.hid bS
    clear hrow hB1 bS hlt
    gi_wp2_with (gi_at_builtin; refine wpListIn_append_own _ rfl _ _ 22 rfl w.heap.size 31 i0 (.agg #[.int .u64 0, .int .u64 0]) 2 16 Try.underlying22 hi0 hz0 hz1 hz2 rfl (by decide) _ _ _ rfl (HR.out.alloc _) ⟨W.heap.size, 0, none⟩ 1 1 (rv [x]) rfl rfl (pair_at W x) (rv_one _) (by simp only [maxLen]; omega) (by omega) (by have := HW.out.size; simp; omega) ?_; intro v' w1 hown' hgrow hat; obtain ⟨g', cap', rfl⟩ := ownsRow_succ hown'; obtain ⟨hv1, hv2, hr2, hk2, hb2⟩ := BS.out.appended (by decide) HR.out HW.out.size (Nat.le_refl _) hown' hgrow; have hc1 := hv1.cell; have hf1 := hv1.frozen)
    exact ⟨hk2.from _, hb2, ⟨_, _, _, hv2, by simp, by rw [rv_append]; exact hr2⟩, HW.out.trans hb2⟩
  case done =>
    rintro D ys W hD rfl ⟨⟨A1, k1, cp, bS, rfl, hrow⟩, hB1⟩ hK
    have cS := bS.cell
    gi_wp2
    refine ⟨by simp, .inl ⟨_, _, rfl, run_takeDeferred hK, ?_⟩⟩
    exact ⟨_, results_tmp rfl _ _ _, A1, _, cp, rfl, rfl, ownsRow_putObj hrow _ hK rfl, hB1.trans (belowK_b (w := w) (Nat.le_refl _) W D _ _ (by omega) hK rfl rfl)⟩
  case stop =>
    rintro D k pre W _ _ h _
    exact h.elim

theorem collect_any (w : World) (Bs : Nat) (A : Option Addr) (l : List Run) (len c : Nat) (hl : l.length = len) (hB : Bs < w.heap.size) (hc : w.cell? ⟨Bs, 0, none⟩ = some (.slice A len c)) (hb : Runs w w.heap.size A l) (h41 : len ≤ 4398046511104) :
    Calls Try.prog 40 #[.func (.func 53) #[] #[.pointer (some ⟨Bs, 0, none⟩)]] w (RunPost w (tells l)) := by
  have H := Lib.hid (seq_any w Bs A l len c hl hB hc hb h41)
  clear hl hc hb
  go_enter Try.func40, Try.ntmps40
  go_wp2_with fail
  refine H.out.mono ?_
  rintro e w' ⟨A1, n1, c1, rfl, h⟩
  have HH := Lib.hid h
  clear h
  go_wp2
  go_ret
  exact ⟨A1, n1, c1, rfl, HH.out⟩
end Go.Proofs.Ytaoojiacdkabbaa.Ru
