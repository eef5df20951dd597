/- The contracts of the program's 'gaps', 'Meet', 'Minus' and 'Within'. Condition: at most 2^41 runs a side. -/
import Derived.Test.YtaoojiacdkabbaaCommon
namespace Go.Proofs.Ytaoojiacdkabbaa.Ru
open Go.ChangeShapes Go.WideShapes Go.ChangeAt Go.RowKit Go.Shelf
set_option linter.unusedVariables false

theorem RunPost.back {w W w' : World} {m : List Run} {e : Ending} (h : RunPost W m e w') (hb : Below w.heap.size w W) : RunPost w m e w' := by
  obtain ⟨A, n, c, rfl, hn, ho, hb'⟩ := h
  exact ⟨A, n, c, rfl, hn, own_less ho hb.size, hb.trans (hb'.mono hb.size)⟩
structure GRel (w : World) (l : List Run) (A : Option Addr) (m c nx k : Nat) (o : List Run) (wr : World) : Prop where
  ho : o.length = m
  hm : m ≤ k
  hr : wr.ownsRow w.heap.size 31 2 (.slice A m c) m (rv o)
  bel : Below w.heap.size w wr
  hs : o ++ gapS nx (l.drop k) = gapS 1 l
  hx : nx ≤ 281474976710656
theorem gap_step {w wr V : World} {l o : List Run} {A A3 : Option Addr} {m c c3 nx k : Nat} {r : Run} (h : GRel w l A m c nx k o wr) (hr : l[k]? = some r) (h2 : r.2 ≤ 281474976710655) (ho : V.ownsRow w.heap.size 31 2 (.slice A3 (m + 1) c3) (m + 1) (rv (o ++ [(nx, r.1 - 1)]))) (bel : Below w.heap.size w V) :
    GRel w l A3 (m + 1) c3 (r.2 + 1) (k + 1) (o ++ [(nx, r.1 - 1)]) V := by
  have hm := h.hm
  refine ⟨by rw [List.length_append, h.ho]; rfl, by omega, ho, bel, ?_, by omega⟩
  have hk : k < l.length := (List.getElem?_eq_some_iff.1 hr).1
  have hd : l.drop k = r :: l.drop (k + 1) := by
    rw [List.drop_eq_getElem_cons hk]
    rw [List.getElem?_eq_getElem hk] at hr
    rw [Option.some.inj hr]
  have hs := h.hs
  rw [hd, gapS] at hs
  rw [List.append_assoc]
  exact hs

set_option maxHeartbeats 1000000 in
theorem gaps_any (w : World) (A1 : Option Addr) (l : List Run) (n c1 : Nat) (hl : l.length = n) (hb : Runs w w.heap.size A1 l) (h42 : n ≤ 4398046511104) (hi : ∀ r ∈ l, mayR r = true) :
    Calls Try.prog 38 #[.slice A1 n c1] w (RunPost w (gapS 1 l)) := by
  have HL := Lib.hid hl
  have HB := Lib.hid hb
  have HI := Lib.hid hi
  have HS : Hid (GRel w l none 0 0 1 0 [] w) := ⟨rfl, Nat.le_refl _, World.ownsRow_nil _ _ _ _, Below.refl _ _, rfl, by omega⟩
  clear hl hb hi
  go_enter Try.func38, Try.ntmps38
  go_wp2
  go_loopw [3, 4, 9] (fun vo vn i wr => ∃ (A : Option Addr) (m c nx k : Nat) (o : List Run), k ≤ n ∧ vo = .slice A m c ∧ vn = .int .u64 (nx : Int) ∧ i = .int .i64 (k : Int) ∧ GRel w l A m c nx k o wr) (fun _ _ i _ => n - (intOf i).toNat)
  case atStart => exact ⟨none, 0, 0, 1, 0, [], Nat.zero_le _, rfl, rfl, rfl, HS.out⟩
  case round =>
    clear HS
    obtain ⟨A, m, c, nx, k, o, hk, rfl, rfl, rfl, hR⟩ := hrel
    have HR := Lib.hid hR
    have hmk := hR.hm
    have hnx := hR.hx
    clear hR
    by_cases hlt : k < n
    · obtain ⟨ad, lo, hi, rfl, hlk, hlo, hhi, q1, q2⟩ := (HB.out.below HR.out.bel).at_ (k := k) (by rw [HL.out]; exact hlt)
      have LK := Lib.hid hlk
      have mr := (may_iff (lo, hi)).1 (HI.out _ (List.mem_of_getElem? hlk))
      have mr1 : 1 ≤ lo := mr.1
      have mr2 : hi ≤ 281474976710655 := mr.2.2
      have q3 : wr.cell? ⟨(ad.add (k * 2)).block, (ad.add (k * 2)).off + 1, none⟩ = some (.int .u64 (hi : Int)) := by rw [add_next]; exact q2
      have P0 := Lib.hid (Pair.new wr (lo, hi))
      have HW0 : Hid (Below w.heap.size w (wr.alloc (.cells #[.int .u64 (lo : Int), .int .u64 (hi : Int)] 31))) := HR.out.bel.alloc HR.out.bel.size _
      have HO0 : Hid ((wr.alloc (.cells #[.int .u64 (lo : Int), .int .u64 (hi : Int)] 31)).ownsRow w.heap.size 31 2 (.slice A m c) m (rv o)) := HR.out.hr.alloc _
      have w1 : IntKind.u64.wrap ((lo : Int) - 1) = ((lo - 1 : Nat) : Int) := by simp [IntKind.wrap, IntKind.bits, IntKind.signed]; omega
      have w2 : IntKind.u64.wrap ((hi : Int) + 1) = ((hi + 1 : Nat) : Int) := by simp [IntKind.wrap, IntKind.bits, IntKind.signed]; omega
      clear hlk q2 mr
      obtain ⟨p2, hp2⟩ : ∃ p, lo - 1 = p := ⟨_, rfl⟩
      obtain ⟨nx2, hn2⟩ : ∃ p, hi + 1 = p := ⟨_, rfl⟩
      rw [hp2] at w1
      rw [hn2] at w2
      have E1 := Lib.hid hp2
      have E2 := Lib.hid hn2
      clear hp2 hn2
      have LI : Hid (Lies ((wr.alloc (.cells #[.int .u64 (lo : Int), .int .u64 (hi : Int)] 31)).alloc (.cells #[.int .u64 (nx : Int), .int .u64 (p2 : Int)] 31)) ((wr.alloc (.cells #[.int .u64 (lo : Int), .int .u64 (hi : Int)] 31)).alloc (.cells #[.int .u64 (nx : Int), .int .u64 (p2 : Int)] 31)).heap.size (some ⟨wr.heap.size + 1, 0, none⟩) (rv [(nx, p2)])) := by
        have h := lies_one (wr.alloc (.cells #[.int .u64 (lo : Int), .int .u64 (hi : Int)] 31)) (nx, p2)
        rw [show (wr.alloc (.cells #[.int .u64 (lo : Int), .int .u64 (hi : Int)] 31)).heap.size = wr.heap.size + 1 by simp] at h
        exact h
      have HW2 : Hid (Below w.heap.size w ((wr.alloc (.cells #[.int .u64 (lo : Int), .int .u64 (hi : Int)] 31)).alloc (.cells #[.int .u64 (nx : Int), .int .u64 (p2 : Int)] 31))) := HW0.out.alloc HW0.out.size _
      have HP0 : Hid (∀ V, (wr.alloc (.cells #[.int .u64 (lo : Int), .int .u64 (hi : Int)] 31)).alloc (.cells #[.int .u64 (nx : Int), .int .u64 (p2 : Int)] 31) |>.grownBy V (Value.slice A m c).ownBlock → V.cell? ⟨wr.heap.size, 1, none⟩ = some (.int .u64 (hi : Int))) := fun V hg => by
        refine ((P0.out.below (below_new _ _)).kept hg (fun e => ?_)).cell2
        have := (HR.out.hr.lt _ e.symm).2
        omega
      go_wp2_with (at_builtin; refine wpList_any rfl (.tmp 13) (.tmp 19) rfl rfl _ w.heap.size m (.slice A m c) o (some ⟨wr.heap.size + 1, 0, none⟩) [(nx, p2)] 1 1 rfl rfl (HO0.out.alloc _) (fun h => by cases h) LI.out rfl (by omega) HW2.out.size ?_; intro A3 c3 V3 ho3 hg3; have HW3 := Lib.hid (any_grown (HO0.out.alloc _) HW2.out hg3); have HO3 := Lib.hid ho3; have r3 := HP0.out V3 hg3; clear ho3 hg3)
      have HR2 : Hid (GRel w l A3 (m + 1) c3 nx2 (k + 1) (o ++ [(nx, p2)]) V3) := by
        have h : GRel w l A3 (m + 1) c3 (hi + 1) (k + 1) (o ++ [(nx, lo - 1)]) V3 := gap_step HR.out LK.out mr2 (by show V3.ownsRow w.heap.size 31 2 (.slice A3 (m + 1) c3) (m + 1) (rv (o ++ [(nx, lo - 1)])); rw [E1.out]; exact HO3.out) HW3.out
        rw [E1.out, E2.out] at h
        exact h
      go_roundw
      case rel => exact ⟨A3, m + 1, c3, nx2, k + 1, _, by omega, rfl, rfl, by go_num, HR2.out⟩
      case measure => simp [intOf]; omega
    · obtain rfl : k = n := by omega
      have he : Hid (o ++ [(nx, 281474976710655)] = gapS 1 l) := by
        have h := HR.out.hs
        rw [List.drop_of_length_le (by rw [HL.out]; exact Nat.le_refl _)] at h
        exact h
      have HWA : Hid (Below w.heap.size w (wr.alloc (.cells #[.int .u64 (nx : Int), .int .u64 281474976710655] 31))) := HR.out.bel.alloc HR.out.bel.size _
      go_wp2_with (at_builtin; refine wpList_any rfl (.tmp 25) (.tmp 28) rfl rfl _ w.heap.size m (.slice A m c) o (some ⟨wr.heap.size, 0, none⟩) [(nx, 281474976710655)] 1 1 rfl rfl (HR.out.hr.alloc _) (fun h => by cases h) (lies_one wr (nx, 281474976710655)) rfl (by omega) HWA.out.size ?_; intro A3 c3 V3 ho3 hg3; have HW3 := Lib.hid (any_grown (HR.out.hr.alloc _) HWA.out hg3); have HO3 := Lib.hid ho3; clear ho3 hg3)
      go_ret
      exact ⟨A3, m + 1, c3, rfl, by rw [← he.out, List.length_append, HR.out.ho]; rfl, by rw [← he.out]; exact HO3.out, HW3.out⟩

theorem fit_sep {l : List Run} (h : ∀ r ∈ l, okR r) (hb : ∀ r ∈ l, r.1 ≤ 281474976710656) : Fit l := fun r hr => by
  have := hb r hr
  rcases h r hr with h | h
  · have := (may_iff r).1 h; omega
  · omega
theorem gap_low : ∀ (l : List Run) (nx : Nat), (∀ r ∈ l, mayR r = true) → nx ≤ 281474976710656 → ∀ r ∈ gapS nx l, r.1 ≤ 281474976710656
  | [], nx, _, h, r, hr => by obtain rfl := List.mem_singleton.1 hr; exact h
  | s :: l, nx, hm, h, r, hr => by
    rw [gapS] at hr
    have := (may_iff s).1 (hm s (by simp))
    rcases List.mem_cons.1 hr with rfl | hr
    · exact h
    · exact gap_low l (s.2 + 1) (fun x hx => hm x (by simp [hx])) (by omega) r hr

theorem pmeet_any (w : World) (A1 A2 : Option Addr) (l1 l2 : List Run) (n1 n2 c1 c2 : Nat) (hl1 : l1.length = n1) (hl2 : l2.length = n2) (hb1 : Runs w w.heap.size A1 l1) (hb2 : Runs w w.heap.size A2 l2) (h1 : n1 ≤ 4398046511104) (h2 : n2 ≤ 4398046511104) :
    Calls Try.prog 13 #[.slice A1 n1 c1, .slice A2 n2 c2] w (RunPost w (setL l1 l2 1)) := by
  have H1 := Lib.hid (pnorm_any w A1 l1 n1 c1 hl1 hb1 h1)
  have HB2 := Lib.hid hb2
  have HL2 := Lib.hid hl2
  have k1 := nrm_length l1
  have k2 := nrm_length l2
  rw [hl1] at k1
  rw [hl2] at k2
  clear hl1 hl2 hb1 hb2
  go_enter Try.func13, Try.ntmps13
  go_wp2_with fail
  refine H1.out.mono ?_
  rintro e w1 p1
  obtain ⟨B1, m1, d1, rfl, e1, _, f1, f1', r1, o1, b1⟩ := post_runs p1 (fit_order (nrm_spec l1).1)
  have R1 := Lib.hid r1
  have E1 := Lib.hid e1
  have W1 := Lib.hid b1
  have H2 := Lib.hid (pnorm_any w1 A2 l2 n2 c2 HL2.out (HB2.out.up b1) h2)
  rw [e1] at k1
  clear p1 r1 o1 b1 e1
  go_wp2_with fail
  refine H2.out.mono ?_
  rintro e w2 p2
  obtain ⟨B2, m2, d2, rfl, e2, _, f2, f2', r2, o2, b2⟩ := post_runs p2 (fit_order (nrm_spec l2).1)
  rw [e2] at k2
  have H3 := Lib.hid (common_any w2 B1 B2 (nrm l1) (nrm l2) m1 m2 d1 d2 E1.out e2 (R1.out.up b2) r2 (by omega) (by omega) ⟨f1, f1'⟩ ⟨f2, f2'⟩)
  have W2 : Hid (Below w.heap.size w w2) := W1.out.trans (b2.mono W1.out.size)
  clear p2 r2 o2 b2 e2
  go_wp2_with fail
  refine H3.out.mono ?_
  rintro e w3 p3
  rw [meet_comes] at p3
  obtain ⟨A, n, c, rfl, h⟩ := p3.back W2.out
  have HH := Lib.hid h
  clear p3 h
  go_wp2
  go_ret
  exact ⟨A, n, c, rfl, HH.out⟩
theorem pminus_any (w : World) (A1 A2 : Option Addr) (l1 l2 : List Run) (n1 n2 c1 c2 : Nat) (hl1 : l1.length = n1) (hl2 : l2.length = n2) (hb1 : Runs w w.heap.size A1 l1) (hb2 : Runs w w.heap.size A2 l2) (h1 : n1 ≤ 2199023255552) (h2 : n2 ≤ 2199023255552) :
    Calls Try.prog 15 #[.slice A1 n1 c1, .slice A2 n2 c2] w (RunPost w (setL l1 l2 2)) := by
  have H1 := Lib.hid (pnorm_any w A1 l1 n1 c1 hl1 hb1 (by omega))
  have HB2 := Lib.hid hb2
  have HL2 := Lib.hid hl2
  have k1 := nrm_length l1
  have k2 := nrm_length l2
  rw [hl1] at k1
  rw [hl2] at k2
  clear hl1 hl2 hb1 hb2
  go_enter Try.func15, Try.ntmps15
  go_wp2_with fail
  refine H1.out.mono ?_
  rintro e w1 p1
  obtain ⟨B1, m1, d1, rfl, e1, _, f1, f1', r1, o1, b1⟩ := post_runs p1 (fit_order (nrm_spec l1).1)
  have R1 := Lib.hid r1
  have E1 := Lib.hid e1
  have W1 := Lib.hid b1
  have H2 := Lib.hid (pnorm_any w1 A2 l2 n2 c2 HL2.out (HB2.out.up b1) (by omega))
  rw [e1] at k1
  clear p1 r1 o1 b1 e1
  go_wp2_with fail
  refine H2.out.mono ?_
  rintro e w2 p2
  obtain ⟨B2, m2, d2, rfl, e2, _, f2, f2', r2, o2, b2⟩ := post_runs p2 (fit_order (nrm_spec l2).1)
  rw [e2] at k2
  have HG := Lib.hid (gaps_any w2 B2 (nrm l2) m2 d2 e2 r2 (by omega) (nrm_spec l2).1.1)
  have E2 := Lib.hid e2
  have R2 := Lib.hid (R1.out.up b2)
  have W2 : Hid (Below w.heap.size w w2) := W1.out.trans (b2.mono W1.out.size)
  clear p2 r2 o2 b2 e2
  go_wp2_with fail
  refine HG.out.mono ?_
  rintro e w3 p3
  obtain ⟨g1, g2, _, g4⟩ := gap_nrm l2
  obtain ⟨B3, m3, d3, rfl, e3, _, f3, f3', r3, o3, b3⟩ := post_runs p3 (fit_sep g2 (gap_low _ 1 (nrm_spec l2).1.1 (by omega)))
  rw [E2.out] at g4
  have k3 : m3 ≤ 4398046511104 := by omega
  have H3 := Lib.hid (common_any w3 B1 B3 (nrm l1) (gapS 1 (nrm l2)) m1 m3 d1 d3 E1.out e3 (R2.out.up b3) r3 (by omega) k3 ⟨f1, f1'⟩ ⟨f3, f3'⟩)
  have W3 : Hid (Below w.heap.size w w3) := W2.out.trans (b3.mono W2.out.size)
  clear p3 r3 o3 b3 e3 g1 g2 g4
  go_wp2_with fail
  refine H3.out.mono ?_
  rintro e w4 p4
  rw [minus_comes] at p4
  obtain ⟨A, n, c, rfl, h⟩ := p4.back W3.out
  have HH := Lib.hid h
  clear p4 h
  go_wp2
  go_ret
  exact ⟨A, n, c, rfl, HH.out⟩
theorem within_any (w : World) (A1 A2 : Option Addr) (l1 l2 : List Run) (n1 n2 c1 c2 : Nat) (hl1 : l1.length = n1) (hl2 : l2.length = n2) (hb1 : Runs w w.heap.size A1 l1) (hb2 : Runs w w.heap.size A2 l2) (h1 : n1 ≤ 2199023255552) (h2 : n2 ≤ 2199023255552) :
    Calls Try.prog 17 #[.slice A1 n1 c1, .slice A2 n2 c2] w fun e w' => e = .returned (.bool (decide ((setL l1 l2 2).length = 0))) ∧ Below w.heap.size w w' := by
  have H := Lib.hid (pminus_any w A1 A2 l1 l2 n1 n2 c1 c2 hl1 hl2 hb1 hb2 h1 h2)
  clear hl1 hl2 hb1 hb2
  go_enter Try.func17, Try.ntmps17
  go_wp2_with fail
  refine H.out.mono ?_
  rintro e w' ⟨A, n, c, rfl, hn, ho, hb⟩
  have HB := Lib.hid hb
  have HD : Hid (((n : Int) == 0) = decide ((setL l1 l2 2).length = 0)) := by
    show _ = _
    rw [hn, Bool.eq_iff_iff, decide_eq_true_iff, beq_iff_eq]; omega
  clear ho hb hn
  go_wp2
  go_ret
  exact ⟨ret_bool HD.out, HB.out⟩
end Go.Proofs.Ytaoojiacdkabbaa.Ru
