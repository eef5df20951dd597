/- The contract of the program's 'Last'. For every list of runs that any machine can hold. -/
import Derived.Test.YtaoojiacdkabbaaHas
namespace Go.Proofs.Ytaoojiacdkabbaa.Ru
open Go.ChangeShapes Go.WideShapes Go.ChangeAt Go.RowKit Go.Shelf
set_option linter.unusedVariables false

attribute [local go_sem] Oper.semAt_some

/-- the greatest Hi. -/
def maxHi (l : List Run) : Nat := l.foldl (fun m r => max m r.2) 0
theorem maxHi_snoc (l : List Run) (r : Run) : maxHi (l ++ [r]) = max (maxHi l) r.2 := by unfold maxHi; simp
theorem maxHi_spec (l : List Run) : (∀ r ∈ l, r.2 ≤ maxHi l) ∧ (l = [] ∨ ∃ r ∈ l, r.2 = maxHi l) := by
  have key : ∀ (n : Nat) (l : List Run), l.length = n → (∀ r ∈ l, r.2 ≤ maxHi l) ∧ (l = [] ∨ ∃ r ∈ l, r.2 = maxHi l) := by
    intro n
    induction n with
    | zero => intro l hl; rw [List.eq_nil_of_length_eq_zero hl]; exact ⟨fun r hr => (by cases hr), .inl rfl⟩
    | succ n ih =>
      intro l hl
      rcases snoc_cases l with rfl | ⟨o, s, rfl⟩
      · simp at hl
      · obtain ⟨h1, h2⟩ := ih o (by simpa using hl)
        rw [maxHi_snoc]
        refine ⟨fun r hr => ?_, .inr ?_⟩
        · rcases List.mem_append.1 hr with hr | hr
          · have := h1 r hr; omega
          · obtain rfl := List.mem_singleton.1 hr; omega
        · by_cases hm : maxHi o ≤ s.2
          · exact ⟨s, by simp, by omega⟩
          · rcases h2 with rfl | ⟨r, hr, e⟩
            · exact absurd (Nat.zero_le _) hm
            · exact ⟨r, by simp [hr], by omega⟩
  exact key _ l rfl
theorem last_comes (l : List Run) : maxHi (tells l) = lastR (nrm l) := by
  obtain ⟨h1, h2⟩ := nrm_spec l
  obtain ⟨s1, s2⟩ := last_spec h1
  obtain ⟨m1, m2⟩ := maxHi_spec (tells l)
  have up : has (nrm l) (lastR (nrm l)) = true → lastR (nrm l) ≤ maxHi (tells l) := fun h => by
    rw [h2, ← has_tells] at h
    obtain ⟨r, hr, ht⟩ := (has_iff _ _).1 h
    have := ((tst_iff r _).1 ht).2.2
    have := m1 r hr
    omega
  rcases m2 with hn | ⟨r, hr, e⟩
  · rcases s2 with ⟨h0, _⟩ | h
    · rw [h0, hn]; rfl
    · rw [h2, ← has_tells, hn] at h
      cases h
  · have hm : mayR r = true := (List.mem_filter.1 hr).2
    have mm := (may_iff r).1 hm
    have hh : has (nrm l) (maxHi (tells l)) = true := by
      rw [h2, ← has_tells]
      exact (has_iff _ _).2 ⟨r, hr, (tst_iff _ _).2 ⟨hm, by omega, by omega⟩⟩
    have a1 := s1 _ hh
    rcases s2 with ⟨h0, _⟩ | h
    · omega
    · have := up h; omega

set_option maxRecDepth 100000 in
set_option maxHeartbeats 4000000 in
theorem plast_any (w : World) (A : Option Addr) (l : List Run) (len c : Nat) (hl : l.length = len) (hb : Runs w w.heap.size A l) (h63 : len ≤ 9223372036854775807) :
    Calls Try.prog 30 #[.slice A len c] w fun e w' => e = .returned (.int .u64 ((lastR (nrm l) : Nat) : Int)) ∧ Below w.heap.size w w' := by
  rw [← last_comes]
  have HB := Lib.hid hb
  have HL := Lib.hid hl
  clear hb hl
  refine (callsIn_wide (n := 6)).1 ?_
  refine callsIn_of_wp_marks Try.func30 rfl trivial ?_ rfl
  simp only [Try.ntmps30, List.size_toArray, List.length_cons, List.length_nil, Nat.reduceAdd, Nat.reduceSub, Array.replicate_succ, Array.replicate_zero, List.push_toArray, List.append_toArray, List.nil_append, List.cons_append]
  gi_wp2_with fail
  refine ⟨trivial, callsIn_wide.2 ((telling_any _ A len c).mono ?_)⟩
  rintro e w' ⟨rfl, rfl⟩
  gi_wp2
  have b0 := (Boxed.new w 28 (.int .u64 0)).alloc (.cells #[.slice A len c] 22)
  have b2 := Boxed.new (w.alloc (.cells #[.int .u64 0] 28)) 22 (.slice A len c)
  simp only [World.size_alloc] at b2
  have hB0 : Below w.heap.size w ((w.alloc (.cells #[.int .u64 0] 28)).alloc (.cells #[.slice A len c] 22)) := ((Below.refl _ w).alloc (Nat.le_refl _) _).alloc (by simp) _
  have hsz : ((w.alloc (.cells #[.int .u64 0] 28)).alloc (.cells #[.slice A len c] 22)).heap.size = w.heap.size + 2 := by simp
  obtain ⟨W0, hW0⟩ : ∃ W0, (w.alloc (.cells #[.int .u64 0] 28)).alloc (.cells #[.slice A len c] 22) = W0 := ⟨_, rfl⟩
  rw [hW0] at b0 b2 hB0 hsz ⊢
  clear hW0
  refine wpIn_rangeFunc_ownH rfl (by omega) (gf := 53) (lb := #[.pointer (some ⟨w.heap.size + 1, 0, none⟩)]) rfl trivial (enters_of Try.func53 (by kernel_rfl) rfl)
    (telling_stops (6 - 1) (by omega) (w.heap.size + 1) w.heap.size A len c l HL.out h63 W0 (by omega) (by omega) b2.cell (HB.out.below hB0)) belowK_t (belowK_b (by omega)) (Below.refl _ _) (fun _ => rfl)
    (fun pre W => Boxed W w.heap.size 28 (.int .u64 ((maxHi pre : Nat) : Int)) ∧ Below w.heap.size w W)
    (fun _ _ _ => False)
    (OwnFrom.and (Own.from (boxed_own _ _ (fun pre => .int .u64 ((maxHi pre : Nat) : Int))) _) (ownFrom_below (Nat.le_refl _) (by omega)))
    (fun _ _ _ _ _ hs _ _ => hs)
    ⟨b0, hB0⟩
    (fun x a' W => ∃ Bx, w.heap.size < Bx ∧ Pair W Bx x ∧ a' = { tmps := #[.slice A len c, undef, .int .u64 0, .pointer (some ⟨w.heap.size, 0, none⟩), .pointer (some ⟨Bx, 0, none⟩), .slice A len c, .func (.func 53) #[] #[.pointer (some ⟨w.heap.size + 1, 0, none⟩)], .agg #[.int .u64 (x.1 : Int), .int .u64 (x.2 : Int)], undef, undef, undef, undef, undef], defers := [] })
    (fun x a' _ X Y row hs hg hr => by obtain ⟨Bx, h1, h2, h3⟩ := hs; exact ⟨Bx, h1, pair_own x Bx _ () X Y row h2 hg hr, h3⟩)
    ?assign ?body ?done ?stop
  case assign =>
    rintro l2 pre x W K ⟨c0, hB1⟩ hK
    simp only [encR]
    gi_wp2
    exact hK _ _ ((KeepsOthers.alloc _ _).from _) ((Below.refl _ W).alloc hB1.size _) ⟨c0.alloc _, hB1.alloc hB1.size _⟩ ⟨W.heap.size, c0.lt, Pair.new W x, rfl⟩
  case body =>
    rintro l2 pre x a' W hl2 ⟨r, hr⟩ ⟨c0, hB1⟩ ⟨Bx, hBx, bX, rfl⟩ hlt
    have HS : Hid (maxHi (pre ++ [x]) = max (maxHi pre) x.2) := maxHi_snoc pre x
    generalize maxHi pre = m at c0 HS
    have d0 := c0.cell
    have f0 := c0.frozen
    have e2 := bX.cell2
    clear hlt
    by_cases hc : m < x.2
    · gi_wp2
      exact ⟨(KeepsOthers.setCell _ _ _).from _, (Below.refl _ W).setCell (p := ⟨w.heap.size, 0, none⟩) (Nat.le_refl _) _, by rw [HS.out, show max m x.2 = x.2 by omega]; exact c0.set _, hB1.setCell (p := ⟨w.heap.size, 0, none⟩) (Nat.le_refl _) _⟩
    · gi_wp2
      exact ⟨(KeepsOthers.setCell _ _ _).from _, (Below.refl _ W).setCell (p := ⟨w.heap.size, 0, none⟩) (Nat.le_refl _) _, by rw [HS.out, show max m x.2 = m by omega]; exact c0.set _, hB1.setCell (p := ⟨w.heap.size, 0, none⟩) (Nat.le_refl _) _⟩
  case done =>
    rintro D ys W hD rfl ⟨c0, hB1⟩ hK
    have d0 := c0.cell
    gi_wp2
    refine ⟨by simp, .inl ⟨_, _, rfl, run_takeDeferred hK, ?_⟩⟩
    exact ⟨_, results_tmp rfl _ _ _, rfl, hB1.trans (belowK_b (w := w) (Nat.le_refl _) W D _ _ (by omega) hK rfl rfl)⟩
  case stop =>
    rintro D k pre W _ _ h _
    exact h.elim
end Go.Proofs.Ytaoojiacdkabbaa.Ru
