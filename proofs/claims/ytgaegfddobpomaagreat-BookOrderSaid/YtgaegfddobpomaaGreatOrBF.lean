/- Words and contracts that the proofs of this seat stand on, part 32 of 39. -/
import Derived.Test.YtgaegfddobpomaaGreatOrBE
import Derived.Test.YtgaegfddobpomaaGreatOrBD

namespace Go.Proofs.YtgaegfddobpomaaGreat.Ru
open Go.ChangeShapes Go.WideShapes Go.ChangeAt Go.RowKit Go.Shelf
set_option linter.unusedVariables false
set_option maxRecDepth 4000
theorem RunPost.back {w W w' : World} {m : List Run} {e : Ending} (h : RunPost W m e w') (hb : Below w.heap.size w W) : RunPost w m e w' := by
 obtain ⟨A, n, c, rfl, hn, ho, hb'⟩ := h
 exact ⟨A, n, c, rfl, hn, own_less ho hb.size, hb.trans (hb'.mono hb.size)⟩
structure GRel (w : World) (l : List Run) (A : Option Addr) (m c nx k : Nat) (o : List Run) (wr : World) : Prop where
 ho : o.length = m
 hm : m ≤ k
 hr : wr.ownsRow w.heap.size 68 2 (.slice A m c) m (rv o)
 bel : Below w.heap.size w wr
 hs : o ++ gapS nx (l.drop k) = gapS 1 l
 hx : nx ≤ 281474976710656
theorem gap_step {w wr V : World} {l o : List Run} {A A3 : Option Addr} {m c c3 nx k : Nat} {r : Run} (h : GRel w l A m c nx k o wr) (hr : l[k]? = some r) (h2 : r.2 ≤ 281474976710655) (ho : V.ownsRow w.heap.size 68 2 (.slice A3 (m + 1) c3) (m + 1) (rv (o ++ [(nx, r.1 - 1)]))) (bel : Below w.heap.size w V) :
   GRel w l A3 (m + 1) c3 (r.2 + 1) (k + 1) (o ++ [(nx, r.1 - 1)]) V := by
 have hm := h.hm
 refine ⟨by rw [List.length_append, h.ho]; rfl, by omega, ho, bel, ?_, by omega⟩
 have hk : k < l.length := (List.getElem?_eq_some_iff.1 hr).1
 have hd : l.drop k = r :: l.drop (k + 1) := by
   rw [List.drop_eq_getElem_cons hk]
   rw [List.getElem?_eq_getElem hk] at hr
   rw [Option.some.inj hr]
 have hs := h.hs
 rw [hd, gapS] at hs
 rw [List.append_assoc]
 exact hs
set_option maxHeartbeats 1000000 in
theorem gaps_any (w : World) (A1 : Option Addr) (l : List Run) (n c1 : Nat) (hl : l.length = n) (hb : Runs w w.heap.size A1 l) (h42 : n ≤ 4398046511104) (hi : ∀ r ∈ l, mayR r = true) :
   Calls Tryz.prog 172 #[.slice A1 n c1] w (RunPost w (gapS 1 l)) := by
 have HL := Lib.hid hl
 have HB := Lib.hid hb
 have HI := Lib.hid hi
 have HS : Hid (GRel w l none 0 0 1 0 [] w) := ⟨rfl, Nat.le_refl _, World.ownsRow_nil _ _ _ _, Below.refl _ _, rfl, by omega⟩
 clear hl hb hi
 go_enter Tryz.func172, Tryz.ntmps172
 go_wp2
 go_loopw [3, 4, 9] (fun vo vn i wr => ∃ (A : Option Addr) (m c nx k : Nat) (o : List Run), k ≤ n ∧ vo = .slice A m c ∧ vn = .int .u64 (nx : Int) ∧ i = .int .i64 (k : Int) ∧ GRel w l A m c nx k o wr) (fun _ _ i _ => n - (intOf i).toNat)
 case atStart => exact ⟨none, 0, 0, 1, 0, [], Nat.zero_le _, rfl, rfl, rfl, HS.out⟩
 case round =>
   clear HS
   obtain ⟨A, m, c, nx, k, o, hk, rfl, rfl, rfl, hR⟩ := hrel
   have HR := Lib.hid hR
   have hmk := hR.hm
   have hnx := hR.hx
   clear hR
   by_cases hlt : k < n
   · obtain ⟨ad, lo, hi, rfl, hlk, hlo, hhi, q1, q2⟩ := (HB.out.below HR.out.bel).at_ (k := k) (by rw [HL.out]; exact hlt)
     have LK := Lib.hid hlk
     have mr := (may_iff (lo, hi)).1 (HI.out _ (List.mem_of_getElem? hlk))
     have mr1 : 1 ≤ lo := mr.1
     have mr2 : hi ≤ 281474976710655 := mr.2.2
     have q3 : wr.cell? ⟨(ad.add (k * 2)).block, (ad.add (k * 2)).off + 1, none⟩ = some (.int .u64 (hi : Int)) := by rw [add_next]; exact q2
     have P0 := Lib.hid (Pair.new wr (lo, hi))
     have HW0 : Hid (Below w.heap.size w (wr.alloc (.cells #[.int .u64 (lo : Int), .int .u64 (hi : Int)] 68))) := HR.out.bel.alloc HR.out.bel.size _
     have HO0 : Hid ((wr.alloc (.cells #[.int .u64 (lo : Int), .int .u64 (hi : Int)] 68)).ownsRow w.heap.size 68 2 (.slice A m c) m (rv o)) := HR.out.hr.alloc _
     have w1 : IntKind.u64.wrap ((lo : Int) - 1) = ((lo - 1 : Nat) : Int) := by simp [IntKind.wrap, IntKind.bits, IntKind.signed]; omega
     have w2 : IntKind.u64.wrap ((hi : Int) + 1) = ((hi + 1 : Nat) : Int) := by simp [IntKind.wrap, IntKind.bits, IntKind.signed]; omega
     clear hlk q2 mr
     obtain ⟨p2, hp2⟩ : ∃ p, lo - 1 = p := ⟨_, rfl⟩
     obtain ⟨nx2, hn2⟩ : ∃ p, hi + 1 = p := ⟨_, rfl⟩
     rw [hp2] at w1
     rw [hn2] at w2
     have E1 := Lib.hid hp2
     have E2 := Lib.hid hn2
     clear hp2 hn2
     have LI : Hid (Lies ((wr.alloc (.cells #[.int .u64 (lo : Int), .int .u64 (hi : Int)] 68)).alloc (.cells #[.int .u64 (nx : Int), .int .u64 (p2 : Int)] 68)) ((wr.alloc (.cells #[.int .u64 (lo : Int), .int .u64 (hi : Int)] 68)).alloc (.cells #[.int .u64 (nx : Int), .int .u64 (p2 : Int)] 68)).heap.size (some ⟨wr.heap.size + 1, 0, none⟩) (rv [(nx, p2)])) := by
       have h := lies_one (wr.alloc (.cells #[.int .u64 (lo : Int), .int .u64 (hi : Int)] 68)) (nx, p2)
       rw [show (wr.alloc (.cells #[.int .u64 (lo : Int), .int .u64 (hi : Int)] 68)).heap.size = wr.heap.size + 1 by simp] at h
       exact h
     have HW2 : Hid (Below w.heap.size w ((wr.alloc (.cells #[.int .u64 (lo : Int), .int .u64 (hi : Int)] 68)).alloc (.cells #[.int .u64 (nx : Int), .int .u64 (p2 : Int)] 68))) := HW0.out.alloc HW0.out.size _
     have HP0 : Hid (∀ V, (wr.alloc (.cells #[.int .u64 (lo : Int), .int .u64 (hi : Int)] 68)).alloc (.cells #[.int .u64 (nx : Int), .int .u64 (p2 : Int)] 68) |>.grownBy V (Value.slice A m c).ownBlock → V.cell? ⟨wr.heap.size, 1, none⟩ = some (.int .u64 (hi : Int))) := fun V hg => by
       refine ((P0.out.below (below_new _ _)).kept hg (fun e => ?_)).cell2
       have := (HR.out.hr.lt _ e.symm).2
       omega
     go_wp2_with (at_builtin; refine wpList_any rfl (.tmp 13) (.tmp 19) rfl rfl _ w.heap.size m (.slice A m c) o (some ⟨wr.heap.size + 1, 0, none⟩) [(nx, p2)] 1 1 rfl rfl (HO0.out.alloc _) (fun h => by cases h) LI.out rfl (by omega) HW2.out.size ?_; intro A3 c3 V3 ho3 hg3; have HW3 := Lib.hid (any_grown (HO0.out.alloc _) HW2.out hg3); have HO3 := Lib.hid ho3; have r3 := HP0.out V3 hg3; clear ho3 hg3)
     have HR2 : Hid (GRel w l A3 (m + 1) c3 nx2 (k + 1) (o ++ [(nx, p2)]) V3) := by
       have h : GRel w l A3 (m + 1) c3 (hi + 1) (k + 1) (o ++ [(nx, lo - 1)]) V3 := gap_step HR.out LK.out mr2 (by show V3.ownsRow w.heap.size 68 2 (.slice A3 (m + 1) c3) (m + 1) (rv (o ++ [(nx, lo - 1)])); rw [E1.out]; exact HO3.out) HW3.out
       rw [E1.out, E2.out] at h
       exact h
     go_roundw
     case rel => exact ⟨A3, m + 1, c3, nx2, k + 1, _, by omega, rfl, rfl, by go_num, HR2.out⟩
     case measure => simp [intOf]; omega
   · obtain rfl : k = n := by omega
     have he : Hid (o ++ [(nx, 281474976710655)] = gapS 1 l) := by
       have h := HR.out.hs
       rw [List.drop_of_length_le (by rw [HL.out]; exact Nat.le_refl _)] at h
       exact h
     have HWA : Hid (Below w.heap.size w (wr.alloc (.cells #[.int .u64 (nx : Int), .int .u64 281474976710655] 68))) := HR.out.bel.alloc HR.out.bel.size _
     go_wp2_with (at_builtin; refine wpList_any rfl (.tmp 25) (.tmp 28) rfl rfl _ w.heap.size m (.slice A m c) o (some ⟨wr.heap.size, 0, none⟩) [(nx, 281474976710655)] 1 1 rfl rfl (HR.out.hr.alloc _) (fun h => by cases h) (lies_one wr (nx, 281474976710655)) rfl (by omega) HWA.out.size ?_; intro A3 c3 V3 ho3 hg3; have HW3 := Lib.hid (any_grown (HR.out.hr.alloc _) HWA.out hg3); have HO3 := Lib.hid ho3; clear ho3 hg3)
     go_ret
     exact ⟨A3, m + 1, c3, rfl, by rw [← he.out, List.length_append, HR.out.ho]; rfl, by rw [← he.out]; exact HO3.out, HW3.out⟩
theorem fit_sep {l : List Run} (h : ∀ r ∈ l, okR r) (hb : ∀ r ∈ l, r.1 ≤ 281474976710656) : Fit l := fun r hr => by
 have := hb r hr
 rcases h r hr with h | h
 · have := (may_iff r).1 h; omega
 · omega
theorem gap_low : ∀ (l : List Run) (nx : Nat), (∀ r ∈ l, mayR r = true) → nx ≤ 281474976710656 → ∀ r ∈ gapS nx l, r.1 ≤ 281474976710656
 | [], nx, _, h, r, hr => by obtain rfl := List.mem_singleton.1 hr; exact h
 | s :: l, nx, hm, h, r, hr => by
   rw [gapS] at hr
   have := (may_iff s).1 (hm s (by simp))
   rcases List.mem_cons.1 hr with rfl | hr
   · exact h
   · exact gap_low l (s.2 + 1) (fun x hx => hm x (by simp [hx])) (by omega) r hr
theorem pmeet_any (w : World) (A1 A2 : Option Addr) (l1 l2 : List Run) (n1 n2 c1 c2 : Nat) (hl1 : l1.length = n1) (hl2 : l2.length = n2) (hb1 : Runs w w.heap.size A1 l1) (hb2 : Runs w w.heap.size A2 l2) (h1 : n1 ≤ 4398046511104) (h2 : n2 ≤ 4398046511104) :
   Calls Tryz.prog 167 #[.slice A1 n1 c1, .slice A2 n2 c2] w (RunPost w (setL l1 l2 1)) := by
 have H1 := Lib.hid (pnorm_any w A1 l1 n1 c1 hl1 hb1 h1)
 have HB2 := Lib.hid hb2
 have HL2 := Lib.hid hl2
 have k1 := nrm_length l1
 have k2 := nrm_length l2
 rw [hl1] at k1
 rw [hl2] at k2
 clear hl1 hl2 hb1 hb2
 go_enter Tryz.func167, Tryz.ntmps167
 go_wp2_with fail
 refine H1.out.mono ?_
 rintro e w1 p1
 obtain ⟨B1, m1, d1, rfl, e1, _, f1, f1', r1, o1, b1⟩ := post_runs p1 (fit_order (nrm_spec l1).1)
 have R1 := Lib.hid r1
 have E1 := Lib.hid e1
 have W1 := Lib.hid b1
 have H2 := Lib.hid (pnorm_any w1 A2 l2 n2 c2 HL2.out (HB2.out.up b1) h2)
 rw [e1] at k1
 clear p1 r1 o1 b1 e1
 go_wp2_with fail
 refine H2.out.mono ?_
 rintro e w2 p2
 obtain ⟨B2, m2, d2, rfl, e2, _, f2, f2', r2, o2, b2⟩ := post_runs p2 (fit_order (nrm_spec l2).1)
 rw [e2] at k2
 have H3 := Lib.hid (common_any w2 B1 B2 (nrm l1) (nrm l2) m1 m2 d1 d2 E1.out e2 (R1.out.up b2) r2 (by omega) (by omega) ⟨f1, f1'⟩ ⟨f2, f2'⟩)
 have W2 : Hid (Below w.heap.size w w2) := W1.out.trans (b2.mono W1.out.size)
 clear p2 r2 o2 b2 e2
 go_wp2_with fail
 refine H3.out.mono ?_
 rintro e w3 p3
 rw [meet_comes] at p3
 obtain ⟨A, n, c, rfl, h⟩ := p3.back W2.out
 have HH := Lib.hid h
 clear p3 h
 go_wp2
 go_ret
 exact ⟨A, n, c, rfl, HH.out⟩
theorem pminus_any (w : World) (A1 A2 : Option Addr) (l1 l2 : List Run) (n1 n2 c1 c2 : Nat) (hl1 : l1.length = n1) (hl2 : l2.length = n2) (hb1 : Runs w w.heap.size A1 l1) (hb2 : Runs w w.heap.size A2 l2) (h1 : n1 ≤ 2199023255552) (h2 : n2 ≤ 2199023255552) :
   Calls Tryz.prog 151 #[.slice A1 n1 c1, .slice A2 n2 c2] w (RunPost w (setL l1 l2 2)) := by
 have H1 := Lib.hid (pnorm_any w A1 l1 n1 c1 hl1 hb1 (by omega))
 have HB2 := Lib.hid hb2
 have HL2 := Lib.hid hl2
 have k1 := nrm_length l1
 have k2 := nrm_length l2
 rw [hl1] at k1
 rw [hl2] at k2
 clear hl1 hl2 hb1 hb2
 go_enter Tryz.func151, Tryz.ntmps151
 go_wp2_with fail
 refine H1.out.mono ?_
 rintro e w1 p1
 obtain ⟨B1, m1, d1, rfl, e1, _, f1, f1', r1, o1, b1⟩ := post_runs p1 (fit_order (nrm_spec l1).1)
 have R1 := Lib.hid r1
 have E1 := Lib.hid e1
 have W1 := Lib.hid b1
 have H2 := Lib.hid (pnorm_any w1 A2 l2 n2 c2 HL2.out (HB2.out.up b1) (by omega))
 rw [e1] at k1
 clear p1 r1 o1 b1 e1
 go_wp2_with fail
 refine H2.out.mono ?_
 rintro e w2 p2
 obtain ⟨B2, m2, d2, rfl, e2, _, f2, f2', r2, o2, b2⟩ := post_runs p2 (fit_order (nrm_spec l2).1)
 rw [e2] at k2
 have HG := Lib.hid (gaps_any w2 B2 (nrm l2) m2 d2 e2 r2 (by omega) (nrm_spec l2).1.1)
 have E2 := Lib.hid e2
 have R2 := Lib.hid (R1.out.up b2)
 have W2 : Hid (Below w.heap.size w w2) := W1.out.trans (b2.mono W1.out.size)
 clear p2 r2 o2 b2 e2
 go_wp2_with fail
 refine HG.out.mono ?_
 rintro e w3 p3
 obtain ⟨g1, g2, _, g4⟩ := gap_nrm l2
 obtain ⟨B3, m3, d3, rfl, e3, _, f3, f3', r3, o3, b3⟩ := post_runs p3 (fit_sep g2 (gap_low _ 1 (nrm_spec l2).1.1 (by omega)))
 rw [E2.out] at g4
 have k3 : m3 ≤ 4398046511104 := by omega
 have H3 := Lib.hid (common_any w3 B1 B3 (nrm l1) (gapS 1 (nrm l2)) m1 m3 d1 d3 E1.out e3 (R2.out.up b3) r3 (by omega) k3 ⟨f1, f1'⟩ ⟨f3, f3'⟩)
 have W3 : Hid (Below w.heap.size w w3) := W2.out.trans (b3.mono W2.out.size)
 clear p3 r3 o3 b3 e3 g1 g2 g4
 go_wp2_with fail
 refine H3.out.mono ?_
 rintro e w4 p4
 rw [minus_comes] at p4
 obtain ⟨A, n, c, rfl, h⟩ := p4.back W3.out
 have HH := Lib.hid h
 clear p4 h
 go_wp2
 go_ret
 exact ⟨A, n, c, rfl, HH.out⟩
end Go.Proofs.YtgaegfddobpomaaGreat.Ru

namespace Go.Proofs.YtgaegfddobpomaaGreat.Cx
open Go.ChangeShapes Go.WideShapes Go.ChangeAt Go.RowKit Go.Maps
set_option linter.unusedVariables false
set_option maxRecDepth 4000
theorem grown_far {a b c : World} {row row2 : Option Nat} (h1 : a.grownBy b row) (h2 : b.grownBy c row2) (hr : ∀ k, row2 = some k → a.heap.size ≤ k) : a.grownBy c row :=
 ⟨h2.os.trans h1.os, h2.tape.trans h1.tape, h2.output.trans h1.output, Nat.le_trans h1.size h2.size, fun k hk hne => (h2.block k (Nat.lt_of_lt_of_le hk h1.size) (fun e => by have := hr k e.symm; omega)).trans (h1.block k hk hne)⟩
theorem set_raw (a b : List Part) (how : Int) (d : Nat) : Ru.setL (rawC a d) (rawC b d) how = Ru.setL (runsC a d) (runsC b d) how := by
 refine Ru.uniq (Ru.set_spec _ _ _).1 (Ru.set_spec _ _ _).1 fun n => ?_
 rw [(Ru.set_spec _ _ _).2, (Ru.set_spec _ _ _).2, ← nrm_raw a d, ← nrm_raw b d, (Ru.nrm_spec _).2, (Ru.nrm_spec _).2]
theorem set_none (l : List Run) (how : Int) (h : how = 1 ∨ how = 2) : Ru.setL [] l how = [] := Ru.empty_of (Ru.set_spec _ _ _).1 fun n => by
 rw [(Ru.set_spec _ _ _).2, Ru.has_nil]
 rcases h with rfl | rfl <;> unfold Ru.inB <;> simp
abbrev leftF (left : Lit → Bool) (a b : List Part) (how : Int) : Nat → List Run := fun d => if left (keyL d) = true then [] else Ru.setL (rawC a d) (rawC b d) how
theorem leftF_start {w : World} {b0 : Nat} {D : DataW Value} {g : Nat → Option Sl} {a : List Part} (hh : HoldsS D g) (hs : SlsAt w b0 g (rawC a)) (b : List Part) (how : Int) (h : how = 1 ∨ how = 2) : leftF (Maps.has D) a b how = fun _ => [] := by
 funext d
 unfold leftF
 by_cases hk : Maps.has D (keyL d) = true
 · rw [if_pos hk]
 · rw [if_neg hk]
   rcases hs d with ⟨_, q⟩ | ⟨s, q, _⟩
   · rw [q, set_none _ _ h]
   · exact absurd (hh.some_ d (by rw [q]; rfl)).2 hk
theorem leftF_end {left : Lit → Bool} (a b : List Part) (how : Int) (hl : ∀ kl, left kl = false) : leftF left a b how = fun d => Ru.setL (runsC a d) (runsC b d) how := by
 funext d
 unfold leftF
 rw [hl, if_neg (by simp), set_raw]
theorem leftF_put {left : Lit → Bool} (a b : List Part) (how : Int) (d : Nat) : (fun e => if e = d then Ru.setL (rawC a d) (rawC b d) how else leftF left a b how e) = leftF (fun z => left z && !z.sameKey (keyL d)) a b how := by
 funext e
 unfold leftF
 simp only [same_key]
 by_cases he : e = d
 · subst he; simp
 · simp [he]
theorem nrm_set (a b : List Run) (how : Int) : Ru.nrm (Ru.setL a b how) = Ru.setL a b how := (Ru.nrm_uniq (Ru.set_spec _ _ _).1 fun _ => rfl).symm
theorem tells_by {a b : List Part} (ha : FitC a) (hb : FitC b) (how : Int) : Tells (fun d => Ru.nrm (Ru.setL (runsC a d) (runsC b d) how)) := by
 have e : (fun d => Ru.nrm (Ru.setL (runsC a d) (runsC b d) how)) = fun d => Ru.setL (runsC a d) (runsC b d) how := funext fun d => nrm_set _ _ _
 rw [e]
 exact tells_both ha hb how
theorem list_by (a b : List Part) (how : Int) : listC (fun d => Ru.nrm (Ru.setL (runsC a d) (runsC b d) how)) = setC a b how := by
 have e : (fun d => Ru.nrm (Ru.setL (runsC a d) (runsC b d) how)) = fun d => Ru.setL (runsC a d) (runsC b d) how := funext fun d => nrm_set _ _ _
 rw [e]; rfl
theorem run_short {a : List Part} {k : Nat} (h : Wide k a) (d : Nat) : (runsC a d).length ≤ k := by
 rw [← nrm_raw]
 exact Nat.le_trans (Ru.nrm_length _) (raw_short h d)
theorem by_short {a b : List Part} (ha : Wide 268435456 a) (hb : Wide 268435456 b) (how : Int) (h : how = 1 ∨ how = 2) (d : Nat) : (Ru.setL (runsC a d) (runsC b d) how).length ≤ 536870913 := by
 have q1 := run_short ha d
 have q2 := run_short hb d
 rcases h with rfl | rfl
 · have := Ru.set_length1 (runsC a d) (runsC b d); omega
 · have := Ru.set_length2 (runsC a d) (runsC b d); omega
set_option maxHeartbeats 4000000 in
theorem pmeet_by (w : World) (A1 A2 : Option Addr) (a b : List Part) (n1 n2 c1 c2 : Nat) (h1 : CtxAt w A1 a n1 c1) (h2 : CtxAt w A2 b n2 c2) (ha : Wide 268435456 a) (hb : Wide 268435456 b) :
   Calls Tryz.prog 150 #[.slice A1 n1 c1, .slice A2 n2 c2, .func (.func 167) #[] #[]] w (CtxPost w (setC a b 1)) := by
 have hmm := @run_makeMap Tryz.prog
 have CB := pbydev_any w A2 b n2 c2 h2 hb
 have H1 := Lib.hid h1
 have HA := Lib.hid ha
 have HLA := Lib.hid (fun d => raw_short ha d)
 have HLB := Lib.hid (fun d => raw_short hb d)
 have HT := Lib.hid (tells_by h1.fit h2.fit 1)
 have HLS := Lib.hid (by_short ha hb 1 (.inl rfl))
 have hn1 : n1 ≤ 268435456 := by rw [← h1.len]; exact ha.1
 rw [← list_by]
 clear h1 h2 ha hb
 go_enter Tryz.func150, Tryz.ntmps150
 go_wp2_with fail
 refine CB.mono ?_
 rintro e w1 ⟨rfl, hM, hb⟩
 have HB1 := Lib.hid hb
 have HM1 := Lib.hid hM
 have HB2 : Hid (Below w1.heap.size w1 (w1.alloc (.map #[] 0))) := Lib.hid (Dt.below_new _ _)
 have HMB : Hid (∀ B, w1.heap.size < B → MapS (w1.alloc (.map #[] 0)) B w1.heap.size 0 (fun _ => [])) := Lib.hid (fun B hB => mapS_new w1 B hB)
 have CA := pbydev_any (w1.alloc (.map #[] 0)) A1 a n1 c1 ((H1.out.up hb).up HB2.out) HA.out
 have hsz : (w1.alloc (.map #[] 0)).heap.size = w1.heap.size + 1 := by simp
 rw [hsz] at CA
 clear hM hb CB
 go_wp2_with fail
 generalize w1.alloc (.map #[] 0) = w2 at *
 refine CA.mono ?_
 rintro e w3 ⟨rfl, hM3, hb3⟩
 have hs3 := hM3.lt
 have HB3 : Hid (Below w1.heap.size w1 w3) := Lib.hid (HB2.out.trans (hb3.mono (by omega)))
 have HMB3 : Hid (MapS w3 (w3.heap.size + 1) w1.heap.size 0 (fun _ => [])) := Lib.hid ((HMB.out _ (by omega)).up (hsz ▸ hb3))
 obtain ⟨hbB, D, g, hown, hh, hs⟩ := hM3.mapS
 have HH := Lib.hid hh
 have HSL := Lib.hid hs
 have HWN := Lib.hid hown
 have hszD := hown.size_le
 have HST := Lib.hid (leftF_start hh hs b 1 (.inl rfl))
 clear hh hown hs hb3 CA HMB HB2 hsz hM3
 go_wp2_with (first
   | (at_range; refine wpList_range_own _ rfl _ 118 rfl 32 69 law16 Tryz.underlying118 _ (w1.heap.size + 1) n1 _ rfl HWN.out ?_; intro w0 hrg0 hg0 hs0)
   | go_in)
 have HR0 := Lib.hid hrg0
 have HB0 : Hid (Below w1.heap.size w1 w0) := Lib.hid (HB3.out.grown hg0 (by omega) (fun j hj => by cases hj))
 have HG0 : Hid (w3.grownBy w0 (some w1.heap.size)) := Lib.hid (hg0.but _)
 have HMB0 : Hid (MapS w0 (w3.heap.size + 1) w1.heap.size 0 (leftF (Maps.has D) a b 1)) := Lib.hid (by
   rw [HST.out]
   exact HMB3.out.up ((Below.refl _ w3).grown hg0 (Nat.le_refl _) (fun j hj => by cases hj)))
 have HS0 := Lib.hid hs0
 clear hrg0 hg0 hs0
 go_frame
 go_loopw [] (fun wr => ∃ (left : Lit → Bool) (cnt j : Nat), wr.ranges Tryz.prog 32 valS (w1.heap.size + 1) w3.heap.size n1 D left cnt ∧ j + cnt ≤ n1 ∧ MapS wr (w3.heap.size + 1) w1.heap.size j (leftF left a b 1) ∧ w3.grownBy wr (some w1.heap.size) ∧ Below w1.heap.size w1 wr ∧ w3.heap.size < wr.heap.size) (fun wr => wr.rangeLeft (w1.heap.size + 1) w3.heap.size)
 case atStart => exact ⟨_, _, 0, HR0.out, by omega, HMB0.out, HG0.out, HB0.out, by rw [HS0.out]; exact Nat.lt_succ_self _⟩
 case round =>
   obtain ⟨left, cnt, j, hrg, hj, hmb, hgr, hw, hws⟩ := hrel
   have HMR := Lib.hid hmb
   have HGR := Lib.hid hgr
   have HW := Lib.hid hw
   have HRL := Lib.hid hrg.left_eq
   clear hmb hw hgr
   go_wp2_with (first
     | (at_next; refine wpList_nextS rfl _ rfl (w1.heap.size + 1) w3.heap.size n1 _ _ _ rfl hrg ?_ ?_)
     | go_in)
   · intro hc0 hl0
     have HE := Lib.hid (HMR.out.turn (leftF_end a b 1 hl0))
     have CI := pinord_any psorts wr _ _ _ _ HE.out HT.out (fun d => by have := HLS.out d; omega) (by omega)
     have HWF : Hid (Below w.heap.size w wr) := Lib.hid (HB1.out.trans (HW.out.mono HB1.out.size))
     clear hrg
     go_wp2_with fail
     refine CI.mono ?_
     intro e V hp
     obtain ⟨A5, n5, c5, ps, rfl, h2⟩ := cpost_up HWF.out hp
     have HP := Lib.hid h2
     clear hp h2 CI
     go_wp2
     go_ret
     exact ⟨A5, n5, c5, ps, rfl, HP.out⟩
   · intro x sl wn cnt1 hwx hlx hat hrg1 hlt hg1 hs1 hen
     obtain ⟨d, rfl, hd, hR, hRB⟩ := entryS HH.out HSL.out hwx hat
     have HW1 : Hid (Below w1.heap.size w1 wn) := Lib.hid (HW.out.grown hg1 HW.out.size (fun k hk => by cases hk; omega))
     have HGN : Hid (w3.grownBy wn (some w1.heap.size)) := Lib.hid (grown_far HGR.out hg1 (fun k hk => by cases hk; exact Nat.le_refl _))
     have HRn := Lib.hid (hR.grown HGN.out (fun ad e e2 => by have := hRB ad e; injection e2 with e2; omega))
     have HO1 := Lib.hid ((HM1.out.up HW1.out).mapS)
     have HMW : Hid (MapS wn (w3.heap.size + 1) w1.heap.size j (leftF left a b 1)) := Lib.hid (HMR.out.other hg1 (by omega) (Nat.lt_succ_self _))
     have HR1 := Lib.hid hrg1
     have HPUT := Lib.hid (leftF_put (left := left) a b 1 d)
     have hsn : w3.heap.size < wn.heap.size := by rw [hs1]; exact hws
     clear hg1 hrg hrg1 hat hwx hs1 hlx hR hRB hws
     go_wp2_with (first
       | (at_lookup; refine wpList_lookS (by rfl) _ _ rfl (w.heap.size + 1) w.heap.size n2 d (rawC b) rfl HO1.out hd rfl ?_; intro A4 k4 c4 hA4
          have CM := Ru.pmeet_any wn sl.adr A4 (rawC a d) (rawC b d) sl.len k4 sl.cap c4 HRn.out.len hA4.len HRn.out.runs hA4.runs (by rw [← HRn.out.len]; have := HLA.out d; omega) (by rw [← hA4.len]; have := HLB.out d; omega)
          clear hA4)
       | (go_at_call 167; refine CM.mono ?_; intro e w4 hp
          obtain ⟨A5, k5, c5, rfl, hR5, hb5, hnew⟩ := runs_post hp (Ru.set_spec _ _ _).1
          have HR5 := Lib.hid hR5
          have HB5 := Lib.hid hb5
          have HNW := Lib.hid hnew
          have HM5 := Lib.hid (HMW.out.up hb5)
          clear hp hR5 hb5 hnew CM hen)
       | (at_mapUpdate; refine wpList_putS rfl _ _ _ rfl (w3.heap.size + 1) w1.heap.size j d (leftF left a b 1) A5 _ k5 c5 rfl HM5.out (by omega) hd rfl rfl HR5.out (fun ad e => by have := HNW.out ad e; omega) ?_; intro w6 hm6 hg6)
       | go_in)
     have HR6 := Lib.hid ((HR1.out.kept (bel_grown HB5.out none) (fun e => by cases e) (fun e => by cases e)).kept hg6 (fun e => by injection e with e; omega) (fun e => by injection e with e; omega))
     have HM6 : Hid (MapS w6 (w3.heap.size + 1) w1.heap.size (j + 1) (leftF (fun z => left z && !z.sameKey (keyL d)) a b 1)) := Lib.hid (hm6.turn HPUT.out)
     have HG6 : Hid (w3.grownBy w6 (some w1.heap.size)) := Lib.hid ((HGN.out.trans (bel_grown HB5.out _)).trans hg6)
     have HW5 := Lib.hid (HW1.out.trans (HB5.out.mono HW1.out.size))
     have HW6 : Hid (Below w1.heap.size w1 w6) := Lib.hid (HW5.out.grown hg6 HW5.out.size (fun k hk => by cases hk; exact Nat.le_refl _))
     have hs6 : w3.heap.size < w6.heap.size := Nat.lt_of_lt_of_le hsn (Nat.le_trans HB5.out.size hg6.size)
     refine ⟨?_, ?_⟩
     · repeat (first | exact ⟨⟨_, cnt1, j + 1, HR6.out, by omega, HM6.out, HG6.out, HW6.out, hs6⟩, rfl⟩ | apply Exists.intro)
     · rw [HR6.out.left_eq, HRL.out]
       exact hlt
set_option maxHeartbeats 1000000 in
theorem pmeet_any (w : World) (A1 A2 : Option Addr) (a b : List Part) (n1 n2 c1 c2 : Nat) (h1 : CtxAt w A1 a n1 c1) (h2 : CtxAt w A2 b n2 c2) (ha : Wide 268435456 a) (hb : Wide 268435456 b) :
   Calls Tryz.prog 140 #[.slice A1 n1 c1, .slice A2 n2 c2] w (CtxPost w (setC a b 1)) := by
 have CB := pmeet_by w A1 A2 a b n1 n2 c1 c2 h1 h2 ha hb
 clear h1 h2 ha hb
 go_enter Tryz.func140, Tryz.ntmps140
 go_wp2_with fail
 refine CB.mono ?_
 intro e w2 hp
 obtain ⟨A5, n5, c5, ps, rfl, h2⟩ := hp
 have HP := Lib.hid h2
 clear h2 CB
 go_wp2
 go_ret
 exact ⟨A5, n5, c5, ps, rfl, HP.out⟩
set_option maxHeartbeats 4000000 in
theorem pminus_by (w : World) (A1 A2 : Option Addr) (a b : List Part) (n1 n2 c1 c2 : Nat) (h1 : CtxAt w A1 a n1 c1) (h2 : CtxAt w A2 b n2 c2) (ha : Wide 268435456 a) (hb : Wide 268435456 b) :
   Calls Tryz.prog 150 #[.slice A1 n1 c1, .slice A2 n2 c2, .func (.func 151) #[] #[]] w (CtxPost w (setC a b 2)) := by
 have hmm := @run_makeMap Tryz.prog
 have CB := pbydev_any w A2 b n2 c2 h2 hb
 have H1 := Lib.hid h1
 have HA := Lib.hid ha
 have HLA := Lib.hid (fun d => raw_short ha d)
 have HLB := Lib.hid (fun d => raw_short hb d)
 have HT := Lib.hid (tells_by h1.fit h2.fit 2)
 have HLS := Lib.hid (by_short ha hb 2 (.inr rfl))
 have hn1 : n1 ≤ 268435456 := by rw [← h1.len]; exact ha.1
 rw [← list_by]
 clear h1 h2 ha hb
 go_enter Tryz.func150, Tryz.ntmps150
 go_wp2_with fail
 refine CB.mono ?_
 rintro e w1 ⟨rfl, hM, hb⟩
 have HB1 := Lib.hid hb
 have HM1 := Lib.hid hM
 have HB2 : Hid (Below w1.heap.size w1 (w1.alloc (.map #[] 0))) := Lib.hid (Dt.below_new _ _)
 have HMB : Hid (∀ B, w1.heap.size < B → MapS (w1.alloc (.map #[] 0)) B w1.heap.size 0 (fun _ => [])) := Lib.hid (fun B hB => mapS_new w1 B hB)
 have CA := pbydev_any (w1.alloc (.map #[] 0)) A1 a n1 c1 ((H1.out.up hb).up HB2.out) HA.out
 have hsz : (w1.alloc (.map #[] 0)).heap.size = w1.heap.size + 1 := by simp
 rw [hsz] at CA
 clear hM hb CB
 go_wp2_with fail
 generalize w1.alloc (.map #[] 0) = w2 at *
 refine CA.mono ?_
 rintro e w3 ⟨rfl, hM3, hb3⟩
 have hs3 := hM3.lt
 have HB3 : Hid (Below w1.heap.size w1 w3) := Lib.hid (HB2.out.trans (hb3.mono (by omega)))
 have HMB3 : Hid (MapS w3 (w3.heap.size + 1) w1.heap.size 0 (fun _ => [])) := Lib.hid ((HMB.out _ (by omega)).up (hsz ▸ hb3))
 obtain ⟨hbB, D, g, hown, hh, hs⟩ := hM3.mapS
 have HH := Lib.hid hh
 have HSL := Lib.hid hs
 have HWN := Lib.hid hown
 have hszD := hown.size_le
 have HST := Lib.hid (leftF_start hh hs b 2 (.inr rfl))
 clear hh hown hs hb3 CA HMB HB2 hsz hM3
 go_wp2_with (first
   | (at_range; refine wpList_range_own _ rfl _ 118 rfl 32 69 law16 Tryz.underlying118 _ (w1.heap.size + 1) n1 _ rfl HWN.out ?_; intro w0 hrg0 hg0 hs0)
   | go_in)
 have HR0 := Lib.hid hrg0
 have HB0 : Hid (Below w1.heap.size w1 w0) := Lib.hid (HB3.out.grown hg0 (by omega) (fun j hj => by cases hj))
 have HG0 : Hid (w3.grownBy w0 (some w1.heap.size)) := Lib.hid (hg0.but _)
 have HMB0 : Hid (MapS w0 (w3.heap.size + 1) w1.heap.size 0 (leftF (Maps.has D) a b 2)) := Lib.hid (by
   rw [HST.out]
   exact HMB3.out.up ((Below.refl _ w3).grown hg0 (Nat.le_refl _) (fun j hj => by cases hj)))
 have HS0 := Lib.hid hs0
 clear hrg0 hg0 hs0
 go_frame
 go_loopw [] (fun wr => ∃ (left : Lit → Bool) (cnt j : Nat), wr.ranges Tryz.prog 32 valS (w1.heap.size + 1) w3.heap.size n1 D left cnt ∧ j + cnt ≤ n1 ∧ MapS wr (w3.heap.size + 1) w1.heap.size j (leftF left a b 2) ∧ w3.grownBy wr (some w1.heap.size) ∧ Below w1.heap.size w1 wr ∧ w3.heap.size < wr.heap.size) (fun wr => wr.rangeLeft (w1.heap.size + 1) w3.heap.size)
 case atStart => exact ⟨_, _, 0, HR0.out, by omega, HMB0.out, HG0.out, HB0.out, by rw [HS0.out]; exact Nat.lt_succ_self _⟩
 case round =>
   obtain ⟨left, cnt, j, hrg, hj, hmb, hgr, hw, hws⟩ := hrel
   have HMR := Lib.hid hmb
   have HGR := Lib.hid hgr
   have HW := Lib.hid hw
   have HRL := Lib.hid hrg.left_eq
   clear hmb hw hgr
   go_wp2_with (first
     | (at_next; refine wpList_nextS rfl _ rfl (w1.heap.size + 1) w3.heap.size n1 _ _ _ rfl hrg ?_ ?_)
     | go_in)
   · intro hc0 hl0
     have HE := Lib.hid (HMR.out.turn (leftF_end a b 2 hl0))
     have CI := pinord_any psorts wr _ _ _ _ HE.out HT.out (fun d => by have := HLS.out d; omega) (by omega)
     have HWF : Hid (Below w.heap.size w wr) := Lib.hid (HB1.out.trans (HW.out.mono HB1.out.size))
     clear hrg
     go_wp2_with fail
     refine CI.mono ?_
     intro e V hp
     obtain ⟨A5, n5, c5, ps, rfl, h2⟩ := cpost_up HWF.out hp
     have HP := Lib.hid h2
     clear hp h2 CI
     go_wp2
     go_ret
     exact ⟨A5, n5, c5, ps, rfl, HP.out⟩
   · intro x sl wn cnt1 hwx hlx hat hrg1 hlt hg1 hs1 hen
     obtain ⟨d, rfl, hd, hR, hRB⟩ := entryS HH.out HSL.out hwx hat
     have HW1 : Hid (Below w1.heap.size w1 wn) := Lib.hid (HW.out.grown hg1 HW.out.size (fun k hk => by cases hk; omega))
     have HGN : Hid (w3.grownBy wn (some w1.heap.size)) := Lib.hid (grown_far HGR.out hg1 (fun k hk => by cases hk; exact Nat.le_refl _))
     have HRn := Lib.hid (hR.grown HGN.out (fun ad e e2 => by have := hRB ad e; injection e2 with e2; omega))
     have HO1 := Lib.hid ((HM1.out.up HW1.out).mapS)
     have HMW : Hid (MapS wn (w3.heap.size + 1) w1.heap.size j (leftF left a b 2)) := Lib.hid (HMR.out.other hg1 (by omega) (Nat.lt_succ_self _))
     have HR1 := Lib.hid hrg1
     have HPUT := Lib.hid (leftF_put (left := left) a b 2 d)
     have hsn : w3.heap.size < wn.heap.size := by rw [hs1]; exact hws
     clear hg1 hrg hrg1 hat hwx hs1 hlx hR hRB hws
     go_wp2_with (first
       | (at_lookup; refine wpList_lookS (by rfl) _ _ rfl (w.heap.size + 1) w.heap.size n2 d (rawC b) rfl HO1.out hd rfl ?_; intro A4 k4 c4 hA4
          have CM := Ru.pminus_any wn sl.adr A4 (rawC a d) (rawC b d) sl.len k4 sl.cap c4 HRn.out.len hA4.len HRn.out.runs hA4.runs (by rw [← HRn.out.len]; have := HLA.out d; omega) (by rw [← hA4.len]; have := HLB.out d; omega)
          clear hA4)
       | (go_at_call 151; refine CM.mono ?_; intro e w4 hp
          obtain ⟨A5, k5, c5, rfl, hR5, hb5, hnew⟩ := runs_post hp (Ru.set_spec _ _ _).1
          have HR5 := Lib.hid hR5
          have HB5 := Lib.hid hb5
          have HNW := Lib.hid hnew
          have HM5 := Lib.hid (HMW.out.up hb5)
          clear hp hR5 hb5 hnew CM hen)
       | (at_mapUpdate; refine wpList_putS rfl _ _ _ rfl (w3.heap.size + 1) w1.heap.size j d (leftF left a b 2) A5 _ k5 c5 rfl HM5.out (by omega) hd rfl rfl HR5.out (fun ad e => by have := HNW.out ad e; omega) ?_; intro w6 hm6 hg6)
       | go_in)
     have HR6 := Lib.hid ((HR1.out.kept (bel_grown HB5.out none) (fun e => by cases e) (fun e => by cases e)).kept hg6 (fun e => by injection e with e; omega) (fun e => by injection e with e; omega))
     have HM6 : Hid (MapS w6 (w3.heap.size + 1) w1.heap.size (j + 1) (leftF (fun z => left z && !z.sameKey (keyL d)) a b 2)) := Lib.hid (hm6.turn HPUT.out)
     have HG6 : Hid (w3.grownBy w6 (some w1.heap.size)) := Lib.hid ((HGN.out.trans (bel_grown HB5.out _)).trans hg6)
     have HW5 := Lib.hid (HW1.out.trans (HB5.out.mono HW1.out.size))
     have HW6 : Hid (Below w1.heap.size w1 w6) := Lib.hid (HW5.out.grown hg6 HW5.out.size (fun k hk => by cases hk; exact Nat.le_refl _))
     have hs6 : w3.heap.size < w6.heap.size := Nat.lt_of_lt_of_le hsn (Nat.le_trans HB5.out.size hg6.size)
     refine ⟨?_, ?_⟩
     · repeat (first | exact ⟨⟨_, cnt1, j + 1, HR6.out, by omega, HM6.out, HG6.out, HW6.out, hs6⟩, rfl⟩ | apply Exists.intro)
     · rw [HR6.out.left_eq, HRL.out]
       exact hlt
set_option maxHeartbeats 1000000 in
theorem pminus_any (w : World) (A1 A2 : Option Addr) (a b : List Part) (n1 n2 c1 c2 : Nat) (h1 : CtxAt w A1 a n1 c1) (h2 : CtxAt w A2 b n2 c2) (ha : Wide 268435456 a) (hb : Wide 268435456 b) :
   Calls Tryz.prog 113 #[.slice A1 n1 c1, .slice A2 n2 c2] w (CtxPost w (setC a b 2)) := by
 have CB := pminus_by w A1 A2 a b n1 n2 c1 c2 h1 h2 ha hb
 clear h1 h2 ha hb
 go_enter Tryz.func113, Tryz.ntmps113
 go_wp2_with fail
 refine CB.mono ?_
 intro e w2 hp
 obtain ⟨A5, n5, c5, ps, rfl, h2⟩ := hp
 have HP := Lib.hid h2
 clear h2 CB
 go_wp2
 go_ret
 exact ⟨A5, n5, c5, ps, rfl, HP.out⟩
theorem pwithin_any (w : World) (A1 A2 : Option Addr) (a b : List Part) (n1 n2 c1 c2 : Nat) (h1 : CtxAt w A1 a n1 c1) (h2 : CtxAt w A2 b n2 c2) (ha : Wide 268435456 a) (hb : Wide 268435456 b) :
   Calls Tryz.prog 67 #[.slice A1 n1 c1, .slice A2 n2 c2] w fun e w' => e = .returned (.bool (withinC a b)) ∧ Below w.heap.size w w' := by
 have CB := pminus_any w A1 A2 a b n1 n2 c1 c2 h1 h2 ha hb
 have HWI : Hid (withinC a b = decide ((setC a b 2).length = 0)) := Lib.hid (decide_eq_decide.2 ⟨fun h => by rw [h]; rfl, fun h => List.eq_nil_of_length_eq_zero h⟩)
 rw [HWI.out]
 clear h1 h2 ha hb HWI
 generalize setC a b 2 = R at *
 go_enter Tryz.func67, Tryz.ntmps67
 go_wp2_with fail
 refine CB.mono ?_
 intro e w2 hp
 obtain ⟨A5, n5, c5, rfl, hA, hb⟩ := post_ctx hp
 have HB := Lib.hid hb
 have HL := Lib.hid hA.len
 clear hp hA hb CB
 by_cases h0 : n5 = 0
 · have e1 : ((n5 : Int) == 0) = true := by rw [beq_iff_eq]; omega
   have e2 : Hid (decide (R.length = 0) = true) := Lib.hid (decide_eq_true (by rw [HL.out]; exact h0))
   clear h0
   go_wp2
   go_ret
   exact ⟨Ru.ret_bool e2.out.symm, HB.out⟩
 · have e1 : ((n5 : Int) == 0) = false := by rw [beq_eq_false_iff_ne]; omega
   have e2 : Hid (decide (R.length = 0) = false) := Lib.hid (decide_eq_false (by rw [HL.out]; exact h0))
   clear h0
   go_wp2
   go_ret
   exact ⟨Ru.ret_bool e2.out.symm, HB.out⟩
theorem psame_any (w : World) (A1 A2 : Option Addr) (a b : List Part) (n1 n2 c1 c2 : Nat) (h1 : CtxAt w A1 a n1 c1) (h2 : CtxAt w A2 b n2 c2) (ha : Wide 268435456 a) (hb : Wide 268435456 b) :
   Calls Tryz.prog 59 #[.slice A1 n1 c1, .slice A2 n2 c2] w fun e w' => e = .returned (.bool (sameC a b)) ∧ Below w.heap.size w w' := by
 have C1 := pwithin_any w A1 A2 a b n1 n2 c1 c2 h1 h2 ha hb
 have C2 := Lib.hid (fun W (hW : Below w.heap.size w W) => pwithin_any W A2 A1 b a n2 n1 c2 c1 (h2.up hW) (h1.up hW) hb ha)
 have HE := Lib.hid (same_both h1.fit h2.fit)
 rw [HE.out]
 clear h1 h2 ha hb HE
 generalize withinC a b = x at *
 generalize withinC b a = y at *
 cases x with
 | false =>
   go_enter Tryz.func59, Tryz.ntmps59
   go_wp2_with fail
   refine C1.mono ?_
   rintro e w2 ⟨rfl, hb⟩
   have HB := Lib.hid hb
   clear hb C1
   go_wp2
   go_ret
   exact ⟨rfl, HB.out⟩
 | true =>
   go_enter Tryz.func59, Tryz.ntmps59
   go_wp2_with fail
   refine C1.mono ?_
   rintro e w2 ⟨rfl, hb⟩
   have HB := Lib.hid hb
   have C3 := C2.out w2 hb
   clear hb C1
   go_wp2_with fail
   refine C3.mono ?_
   rintro e w3 ⟨rfl, hb3⟩
   have HB3 := Lib.hid (HB.out.trans (hb3.mono HB.out.size))
   clear hb3 C3
   go_wp2
   go_ret
   exact ⟨by rw [Bool.true_and]; rfl, HB3.out⟩
end Go.Proofs.YtgaegfddobpomaaGreat.Cx
