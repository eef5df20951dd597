/- Words and contracts that the proofs of this seat stand on, part 21 of 22. -/
import Derived.Test.YtmebokpgiehgmaaGreatMgT
import Derived.Deep.SlicePairs
import Derived.Test.YtmebokpgiehgmaaGreatMgK
import Derived.Test.YtmebokpgiehgmaaGreatMgI
import Derived.Test.YtmebokpgiehgmaaGreatMgN

/- The contracts of the program's 'common' and 'gaps'. Condition: at most 2^42 runs a side. -/
namespace Go.Proofs.YtmebokpgiehgmaaGreat.Ru
open Go.ChangeShapes Go.WideShapes Go.ChangeAt Go.RowKit Go.Shelf
set_option linter.unusedVariables false
set_option maxRecDepth 4000

theorem com_length : ∀ (N : Nat) (a b : List Run), a.length + b.length ≤ N → (com a b).length ≤ a.length + b.length
  | N, [], b, _ => by rw [com_nil]; simp
  | N, x :: a, [], _ => by rw [com_nil']; simp
  | 0, x :: a, y :: b, h => by simp at h
  | N + 1, x :: a, y :: b, h => by
    simp only [List.length_cons] at h
    rw [com_cons, List.length_append]
    have h1 : (if mayR (both x y) = true then [both x y] else []).length ≤ 1 := by split <;> simp
    have h2 : (if x.2 < y.2 then com a (y :: b) else com (x :: a) b).length ≤ a.length + b.length + 1 := by
      split
      · have := com_length N a (y :: b) (by simp only [List.length_cons]; omega)
        simp only [List.length_cons] at this
        omega
      · have := com_length N (x :: a) b (by simp only [List.length_cons]; omega)
        simp only [List.length_cons] at this
        omega
    simp only [List.length_cons]
    omega
theorem fit_both {x y : Run} (hx : x.1 < 18446744073709551616 ∧ x.2 < 18446744073709551616) (hy : y.1 < 18446744073709551616 ∧ y.2 < 18446744073709551616) : (both x y).1 < 18446744073709551616 ∧ (both x y).2 < 18446744073709551616 := by
  show max x.1 y.1 < _ ∧ min x.2 y.2 < _
  omega
theorem Runs.head {w : World} {B : Nat} {A : Option Addr} {r : Run} {l : List Run} (h : Runs w B A (r :: l)) :
    ∃ ad : Addr, A = some ad ∧ ad.block < B ∧ w.cell? ad = some (.int .u64 (r.1 : Int)) ∧ w.cell? ⟨ad.block, ad.off + 1, none⟩ = some (.int .u64 (r.2 : Int)) ∧ Runs w B (some (ad.add 2)) l := by
  obtain ⟨ad, e, hB, hc⟩ := h.2 (by rw [rv_length]; simp)
  refine ⟨ad, e, hB, ?_, hc 1 _ rfl, fun s hs => h.1 s (by simp [hs]), fun hl => ⟨_, rfl, by rw [block_add]; exact hB, fun j u hu => ?_⟩⟩
  · have := hc 0 _ rfl
    rwa [show ad.add 0 = ad from by unfold Addr.add; simp] at this
  · rw [add_add]
    refine hc (2 + j) u ?_
    rw [show rv (r :: l) = [.int .u64 (r.1 : Int), .int .u64 (r.2 : Int)] ++ rv l from rfl, List.getElem?_append_right (by simp)]
    simpa using hu

theorem bel_alloc {w W : World} (o : Obj) (h : Below w.heap.size w W) : Below w.heap.size w (W.alloc o) := h.alloc h.size o
def lenV : Value → Nat
  | .slice _ n _ => n
  | _ => 0
structure CRel (w : World) (l1 l2 : List Run) (A1 A2 A : Option Addr) (m1 m2 m c1 c2 c : Nat) (a b o : List Run) (wr : World) : Prop where
  ha : a.length = m1
  hb : b.length = m2
  ho : o.length = m
  ra : Runs w w.heap.size A1 a
  rb : Runs w w.heap.size A2 b
  h1 : m1 ≤ c1 ∧ c1 ≤ 9223372036854775807
  h2 : m2 ≤ c2 ∧ c2 ≤ 9223372036854775807
  hr : wr.ownsRow w.heap.size 50 2 (.slice A m c) m (rv o)
  bel : Below w.heap.size w wr
  hs : o ++ com a b = com l1 l2

theorem runs_tail {w : World} {B : Nat} {ad : Addr} {l : List Run} {z c : Nat} (h : Runs w B (some (ad.add 2)) l) (hl : l.length = z) (hz : z + 1 ≤ c) : Runs w B (if c = 1 then some ad else some ⟨ad.block, ad.off + 2, none⟩) l := by
  split
  · rename_i hc
    rw [List.eq_nil_of_length_eq_zero (l := l) (by omega)]
    exact Runs.none_ _ _ _
  · have e : ad.add 2 = ⟨ad.block, ad.off + 2, none⟩ := by unfold Addr.add; simp
    rw [← e]; exact h
theorem com_left {w : World} {l1 l2 : List Run} {ad1 : Addr} {A2 A A3 : Option Addr} {z1 m2 m c1 c2 c c3 mt : Nat} {x y : Run} {a b o t : List Run} {wr V : World}
    (h : CRel w l1 l2 (some ad1) A2 A (z1 + 1) m2 m c1 c2 c (x :: a) (y :: b) o wr) (hlt : x.2 < y.2) (ra : Runs w w.heap.size (some (ad1.add 2)) a) (ht : (if mayR (both x y) = true then [both x y] else []) = t) (hm : m + t.length = mt)
    (hr : V.ownsRow w.heap.size 50 2 (.slice A3 mt c3) mt (rv (o ++ t))) (bel : Below w.heap.size w V) : CRel w l1 l2 (if c1 = 1 then some ad1 else some ⟨ad1.block, ad1.off + 2, none⟩) A2 A3 z1 m2 mt (c1 - 1) c2 c3 a (y :: b) (o ++ t) V := by
  have hl : a.length = z1 := by have := h.ha; simpa using this
  have hk := h.h1
  refine ⟨hl, h.hb, by rw [List.length_append, h.ho, hm], runs_tail ra hl hk.1, h.rb, by omega, h.h2, hr, bel, ?_⟩
  have hs := h.hs
  rw [com_cons, ht, if_pos hlt] at hs
  rw [List.append_assoc]; exact hs
theorem com_right {w : World} {l1 l2 : List Run} {ad2 : Addr} {A1 A A3 : Option Addr} {z2 m1 m c1 c2 c c3 mt : Nat} {x y : Run} {a b o t : List Run} {wr V : World}
    (h : CRel w l1 l2 A1 (some ad2) A m1 (z2 + 1) m c1 c2 c (x :: a) (y :: b) o wr) (hlt : ¬ x.2 < y.2) (rb : Runs w w.heap.size (some (ad2.add 2)) b) (ht : (if mayR (both x y) = true then [both x y] else []) = t) (hm : m + t.length = mt)
    (hr : V.ownsRow w.heap.size 50 2 (.slice A3 mt c3) mt (rv (o ++ t))) (bel : Below w.heap.size w V) : CRel w l1 l2 A1 (if c2 = 1 then some ad2 else some ⟨ad2.block, ad2.off + 2, none⟩) A3 m1 z2 mt c1 (c2 - 1) c3 (x :: a) b (o ++ t) V := by
  have hl : b.length = z2 := by have := h.hb; simpa using this
  have hk := h.h2
  refine ⟨h.ha, hl, by rw [List.length_append, h.ho, hm], h.ra, runs_tail rb hl hk.1, h.h1, by omega, hr, bel, ?_⟩
  have hs := h.hs
  rw [com_cons, ht, if_neg hlt] at hs
  rw [List.append_assoc]; exact hs
theorem crel_drewN {w V : World} {l1 l2 a b o : List Run} {A1 A2 A : Option Addr} {m1 m2 m c1 c2 c : Nat} (h : CRel w l1 l2 A1 A2 A m1 m2 m c1 c2 c a b o V) (k : Nat) : CRel w l1 l2 A1 A2 A m1 m2 m c1 c2 c a b o (V.drewN k) :=
  ⟨h.ha, h.hb, h.ho, h.ra, h.rb, h.h1, h.h2, h.hr, h.bel.trans ⟨rfl, rfl, rfl, Nat.le_refl _, fun _ _ => rfl⟩, h.hs⟩

set_option maxHeartbeats 4000000 in
theorem common_any (w : World) (A1 A2 : Option Addr) (l1 l2 : List Run) (n1 n2 c1 c2 : Nat) (hl1 : l1.length = n1) (hl2 : l2.length = n2) (hb1 : Runs w w.heap.size A1 l1) (hb2 : Runs w w.heap.size A2 l2) (h1 : n1 ≤ 4398046511104) (h2 : n2 ≤ 4398046511104)
    (k1 : n1 ≤ c1 ∧ c1 ≤ 9223372036854775807) (k2 : n2 ≤ c2 ∧ c2 ≤ 9223372036854775807) :
    Calls Tryz.prog 54 #[.slice A1 n1 c1, .slice A2 n2 c2] w (RunPost w (com l1 l2)) := by
  obtain ⟨i0, hi0, hz0, hz1, hz2⟩ := info_parts run_info
  have HN : Hid ((com l1 l2).length ≤ 8796093022208) := Nat.le_trans (com_length _ l1 l2 (Nat.le_refl _)) (by omega)
  have HS : Hid (CRel w l1 l2 A1 A2 none n1 n2 0 c1 c2 0 l1 l2 [] w) := ⟨hl1, hl2, rfl, hb1, hb2, k1, k2, World.ownsRow_nil _ _ _ _, Below.refl _ _, rfl⟩
  clear hl1 hl2 hb1 hb2 k1 k2
  go_enter Tryz.func54, Tryz.ntmps54
  go_wp2
  go_loopw [0, 1, 5] (fun va vb vo wr => ∃ (A1 A2 A : Option Addr) (m1 m2 m c1 c2 c : Nat) (a b o : List Run), va = .slice A1 m1 c1 ∧ vb = .slice A2 m2 c2 ∧ vo = .slice A m c ∧ CRel w l1 l2 A1 A2 A m1 m2 m c1 c2 c a b o wr) (fun va vb _ _ => lenV va + lenV vb)
  case atStart => exact ⟨A1, A2, none, n1, n2, 0, c1, c2, 0, l1, l2, [], rfl, rfl, rfl, HS.out⟩
  case round =>
    clear HS A1 A2 n1 n2 c1 c2 h1 h2
    obtain ⟨A1, A2, A, m1, m2, m, c1, c2, c, a, b, o, rfl, rfl, rfl, hR⟩ := hrel
    have HR := Lib.hid hR
    have q1 := hR.h1
    have q2 := hR.h2
    clear hR
    rcases a with _ | ⟨x, a⟩
    · obtain rfl : m1 = 0 := HR.out.ha.symm
      have he : Hid (o = com l1 l2) := by have := HR.out.hs; rwa [com_nil, List.append_nil] at this
      go_wp2
      go_ret
      exact ⟨A, m, c, rfl, by rw [← he.out]; exact HR.out.ho, by rw [← he.out]; exact HR.out.hr, HR.out.bel⟩
    · rcases b with _ | ⟨y, b⟩
      · obtain rfl : m2 = 0 := HR.out.hb.symm
        obtain ⟨z1, rfl⟩ : ∃ z, m1 = z + 1 := ⟨a.length, HR.out.ha.symm⟩
        have he : Hid (o = com l1 l2) := by have := HR.out.hs; rwa [com_nil', List.append_nil] at this
        have hp : (0 : Int) < ((z1 : Nat) : Int) + 1 := by omega
        go_wp2
        go_ret
        exact ⟨A, m, c, rfl, by rw [← he.out]; exact HR.out.ho, by rw [← he.out]; exact HR.out.hr, HR.out.bel⟩
      · obtain ⟨z1, rfl⟩ : ∃ z, m1 = z + 1 := ⟨a.length, HR.out.ha.symm⟩
        obtain ⟨z2, rfl⟩ : ∃ z, m2 = z + 1 := ⟨b.length, HR.out.hb.symm⟩
        obtain ⟨ad1, rfl, hB1, d1, d2, ra'⟩ := HR.out.ra.head
        obtain ⟨ad2, rfl, hB2, e1, e2, rb'⟩ := HR.out.rb.head
        have RA := Lib.hid ra'
        have RB := Lib.hid rb'
        have hx := HR.out.ra.1 x (by simp)
        have hy := HR.out.rb.1 y (by simp)
        have HC : Hid (∀ V, Below w.heap.size w V → (V.cell? ad1 = some (.int .u64 (x.1 : Int)) ∧ V.cell? ⟨ad1.block, ad1.off + 1, none⟩ = some (.int .u64 (x.2 : Int))) ∧ V.cell? ad2 = some (.int .u64 (y.1 : Int)) ∧ V.cell? ⟨ad2.block, ad2.off + 1, none⟩ = some (.int .u64 (y.2 : Int))) := fun V hV =>
          ⟨⟨(hV.cell hB1).trans d1, (hV.cell (p := ⟨ad1.block, ad1.off + 1, none⟩) hB1).trans d2⟩, (hV.cell hB2).trans e1, (hV.cell (p := ⟨ad2.block, ad2.off + 1, none⟩) hB2).trans e2⟩
        clear d1 d2 e1 e2 ra' rb'
        obtain ⟨⟨d1, d2⟩, e1, e2⟩ := HC.out wr HR.out.bel
        have hp1 : (0 : Int) < ((z1 : Nat) : Int) + 1 := by omega
        have hp2 : (0 : Int) < ((z2 : Nat) : Int) + 1 := by omega
        go_wp2_with fail
        obtain ⟨p, hpp⟩ : ∃ p, both x y = p := ⟨_, rfl⟩
        have M1 : max (x.1 : Int) (y.1 : Int) = (p.1 : Int) := by rw [← hpp]; show max (x.1 : Int) (y.1 : Int) = ((max x.1 y.1 : Nat) : Int); omega
        have M2 : min (x.2 : Int) (y.2 : Int) = (p.2 : Int) := by rw [← hpp]; show min (x.2 : Int) (y.2 : Int) = ((min x.2 y.2 : Nat) : Int); omega
        have PP := Lib.hid hpp
        clear hpp
        go_region_held3 (fun V => (V.cell? ad1 = some (.int .u64 (x.1 : Int)) ∧ V.cell? ⟨ad1.block, ad1.off + 1, none⟩ = some (.int .u64 (x.2 : Int))) ∧ V.cell? ad2 = some (.int .u64 (y.1 : Int)) ∧ V.cell? ⟨ad2.block, ad2.off + 1, none⟩ = some (.int .u64 (y.2 : Int))) (first | exact ⟨⟨d1, d2⟩, e1, e2⟩ | exact HC.out _ (by (repeat (first | exact HR.out.bel | apply bel_alloc | apply bel_drew)))) (fail)
        all_goals
          have P0 : Hid (Pair (wr.alloc (.cells #[.int .u64 (p.1 : Int), .int .u64 (p.2 : Int)] 50)).drew wr.heap.size p) := Pair.new wr p
          have HW1 : Hid (Below w.heap.size w (wr.alloc (.cells #[.int .u64 (p.1 : Int), .int .u64 (p.2 : Int)] 50)).drew) := (HR.out.bel.alloc HR.out.bel.size _).drew
          have HO1 : Hid ((wr.alloc (.cells #[.int .u64 (p.1 : Int), .int .u64 (p.2 : Int)] 50)).drew.ownsRow w.heap.size 50 2 (.slice A m c) m (rv o)) := HR.out.hr.alloc _
          clear d1 d2 e1 e2 M1 M2
          generalize (wr.alloc (.cells #[.int .u64 (p.1 : Int), .int .u64 (p.2 : Int)] 50)).drew = W1 at P0 HW1 HO1 ⊢
          have f1 := P0.out.cell1
          have f2 := P0.out.cell2
          go_wp2_with fail
          refine (tells_any W1 p.1 p.2).mono ?_
          rintro e V ⟨rfl, hb2⟩
          have L2 := Lib.hid hb2
          have PV := Lib.hid (P0.out.below hb2)
          clear f1 f2
          have HWV : Hid (Below w.heap.size w V) := HW1.out.trans (L2.out.mono HW1.out.size)
          have HOV := Lib.hid (own_kept HO1.out L2.out)
          clear hb2 L2 HW1 HO1 P0
          by_cases hm : mayR (p.1, p.2) = true
          · rw [hm]
            have p1 := PV.out.cell1
            have p2 := PV.out.cell2
            have HLO : Hid (m + 1 ≤ 8796093022208) := by
              have h := HR.out.hs
              have h2 := HN.out
              rw [← h, com_cons, PP.out, if_pos hm, List.length_append, List.length_append, HR.out.ho] at h2
              simp only [List.length_singleton] at h2
              show m + 1 ≤ _
              omega
            have HWA : Hid (Below w.heap.size w (V.alloc (.cells #[.int .u64 (p.1 : Int), .int .u64 (p.2 : Int)] 50))) := HWV.out.alloc HWV.out.size _
            go_wp2_with (at_builtin; refine wpList_any rfl (.tmp 36) (.tmp 38) rfl rfl _ w.heap.size m (.slice A m c) o (some ⟨V.heap.size, 0, none⟩) [p] 1 1 rfl rfl (HOV.out.alloc _) (fun h => by cases h) (lies_one V p) rfl HLO.out HWA.out.size ?_; intro A3 c3 V3 ho3 hg3; have HW3 := Lib.hid (any_grown (HOV.out.alloc _) HWA.out hg3); have HO3 := Lib.hid ho3; clear ho3 hg3)
            obtain ⟨⟨d1, d2⟩, e1, e2⟩ := HC.out V3 HW3.out
            have ht : Hid ((if mayR (both x y) = true then [both x y] else []) = [p]) := by show _ = _; rw [PP.out, if_pos hm]
            clear hm p1 p2 HWA HLO HOV HWV PV
            by_cases hlt : x.2 < y.2
            · have hld : decide ((x.2 : Int) < (y.2 : Int)) = true := decide_eq_true (by omega)
              have HR2 := Lib.hid (com_left HR.out hlt RA.out ht.out rfl HO3.out HW3.out)
              go_quiet (fail)
              go_wp2
              exact ⟨⟨_, _, _, _, _, _, _, _, _, _, _, _, rfl, rfl, rfl, crel_drewN HR2.out _⟩, by simp [lenV]⟩
            · have hld : decide ((x.2 : Int) < (y.2 : Int)) = false := decide_eq_false (by omega)
              have HR2 := Lib.hid (com_right HR.out hlt RB.out ht.out rfl HO3.out HW3.out)
              go_wp2_with fail
              go_quiet (fail)
              go_wp2
              exact ⟨⟨_, _, _, _, _, _, _, _, _, _, _, _, rfl, rfl, rfl, crel_drewN HR2.out _⟩, by simp [lenV]⟩
          · have hm' : mayR (p.1, p.2) = false := by simpa using hm
            rw [hm']
            obtain ⟨⟨d1, d2⟩, e1, e2⟩ := HC.out V HWV.out
            have ht : Hid ((if mayR (both x y) = true then [both x y] else []) = []) := by show _ = _; rw [PP.out, if_neg hm]
            have HOV2 : Hid (V.ownsRow w.heap.size 50 2 (.slice A m c) m (rv (o ++ []))) := by rw [List.append_nil]; exact HOV.out
            clear hm HOV PV
            by_cases hlt : x.2 < y.2
            · have hld : decide ((x.2 : Int) < (y.2 : Int)) = true := decide_eq_true (by omega)
              have HR2 := Lib.hid (com_left HR.out hlt RA.out ht.out rfl HOV2.out HWV.out)
              go_wp2_with fail
              go_quiet (fail)
              go_wp2
              exact ⟨⟨_, _, _, _, _, _, _, _, _, _, _, _, rfl, rfl, rfl, crel_drewN HR2.out _⟩, by simp [lenV]⟩
            · have hld : decide ((x.2 : Int) < (y.2 : Int)) = false := decide_eq_false (by omega)
              have HR2 := Lib.hid (com_right HR.out hlt RB.out ht.out rfl HOV2.out HWV.out)
              go_wp2_with fail
              go_quiet (fail)
              go_wp2
              exact ⟨⟨_, _, _, _, _, _, _, _, _, _, _, _, rfl, rfl, rfl, crel_drewN HR2.out _⟩, by simp [lenV]⟩
end Go.Proofs.YtmebokpgiehgmaaGreat.Ru

/- The contracts of the program's 'gaps', 'Meet', 'Minus' and 'Within'. Condition: at most 2^41 runs a side. -/
namespace Go.Proofs.YtmebokpgiehgmaaGreat.Ru
open Go.ChangeShapes Go.WideShapes Go.ChangeAt Go.RowKit Go.Shelf
set_option linter.unusedVariables false
set_option maxRecDepth 4000

theorem RunPost.back {w W w' : World} {m : List Run} {e : Ending} (h : RunPost W m e w') (hb : Below w.heap.size w W) : RunPost w m e w' := by
  obtain ⟨A, n, c, rfl, hn, ho, hb'⟩ := h
  exact ⟨A, n, c, rfl, hn, own_less ho hb.size, hb.trans (hb'.mono hb.size)⟩
structure GRel (w : World) (l : List Run) (A : Option Addr) (m c nx k : Nat) (o : List Run) (wr : World) : Prop where
  ho : o.length = m
  hm : m ≤ k
  hr : wr.ownsRow w.heap.size 50 2 (.slice A m c) m (rv o)
  bel : Below w.heap.size w wr
  hs : o ++ gapS nx (l.drop k) = gapS 1 l
  hx : nx ≤ 281474976710656
theorem gap_step {w wr V : World} {l o : List Run} {A A3 : Option Addr} {m c c3 nx k : Nat} {r : Run} (h : GRel w l A m c nx k o wr) (hr : l[k]? = some r) (h2 : r.2 ≤ 281474976710655) (ho : V.ownsRow w.heap.size 50 2 (.slice A3 (m + 1) c3) (m + 1) (rv (o ++ [(nx, r.1 - 1)]))) (bel : Below w.heap.size w V) :
    GRel w l A3 (m + 1) c3 (r.2 + 1) (k + 1) (o ++ [(nx, r.1 - 1)]) V := by
  have hm := h.hm
  refine ⟨by rw [List.length_append, h.ho]; rfl, by omega, ho, bel, ?_, by omega⟩
  have hk : k < l.length := (List.getElem?_eq_some_iff.1 hr).1
  have hd : l.drop k = r :: l.drop (k + 1) := by
    rw [List.drop_eq_getElem_cons hk]
    rw [List.getElem?_eq_getElem hk] at hr
    rw [Option.some.inj hr]
  have hs := h.hs
  rw [hd, gapS] at hs
  rw [List.append_assoc]
  exact hs

theorem fit_sep {l : List Run} (h : ∀ r ∈ l, okR r) (hb : ∀ r ∈ l, r.1 ≤ 281474976710656) : Fit l := fun r hr => by
  have := hb r hr
  rcases h r hr with h | h
  · have := (may_iff r).1 h; omega
  · omega
theorem gap_low : ∀ (l : List Run) (nx : Nat), (∀ r ∈ l, mayR r = true) → nx ≤ 281474976710656 → ∀ r ∈ gapS nx l, r.1 ≤ 281474976710656
  | [], nx, _, h, r, hr => by obtain rfl := List.mem_singleton.1 hr; exact h
  | s :: l, nx, hm, h, r, hr => by
    rw [gapS] at hr
    have := (may_iff s).1 (hm s (by simp))
    rcases List.mem_cons.1 hr with rfl | hr
    · exact h
    · exact gap_low l (s.2 + 1) (fun x hx => hm x (by simp [hx])) (by omega) r hr

theorem pmeet_any (w : World) (A1 A2 : Option Addr) (l1 l2 : List Run) (n1 n2 c1 c2 : Nat) (hl1 : l1.length = n1) (hl2 : l2.length = n2) (hb1 : Runs w w.heap.size A1 l1) (hb2 : Runs w w.heap.size A2 l2) (h1 : n1 ≤ 4398046511104) (h2 : n2 ≤ 4398046511104) :
    Calls Tryz.prog 34 #[.slice A1 n1 c1, .slice A2 n2 c2] w (RunPost w (setL l1 l2 1)) := by
  have H1 := Lib.hid (pnorm_any w A1 l1 n1 c1 hl1 hb1 h1)
  have HB2 := Lib.hid hb2
  have HL2 := Lib.hid hl2
  have k1 := nrm_length l1
  have k2 := nrm_length l2
  rw [hl1] at k1
  rw [hl2] at k2
  clear hl1 hl2 hb1 hb2
  go_enter Tryz.func34, Tryz.ntmps34
  go_wp2_with fail
  refine H1.out.mono ?_
  rintro e w1 p1
  obtain ⟨B1, m1, d1, rfl, e1, _, f1, f1', r1, o1, b1⟩ := post_runs p1 (fit_order (nrm_spec l1).1)
  have R1 := Lib.hid r1
  have E1 := Lib.hid e1
  have W1 := Lib.hid b1
  have H2 := Lib.hid (pnorm_any w1 A2 l2 n2 c2 HL2.out (HB2.out.up b1) h2)
  rw [e1] at k1
  clear p1 r1 o1 b1 e1
  go_wp2_with fail
  refine H2.out.mono ?_
  rintro e w2 p2
  obtain ⟨B2, m2, d2, rfl, e2, _, f2, f2', r2, o2, b2⟩ := post_runs p2 (fit_order (nrm_spec l2).1)
  rw [e2] at k2
  have H3 := Lib.hid (common_any w2 B1 B2 (nrm l1) (nrm l2) m1 m2 d1 d2 E1.out e2 (R1.out.up b2) r2 (by omega) (by omega) ⟨f1, f1'⟩ ⟨f2, f2'⟩)
  have W2 : Hid (Below w.heap.size w w2) := W1.out.trans (b2.mono W1.out.size)
  clear p2 r2 o2 b2 e2
  go_wp2_with fail
  refine H3.out.mono ?_
  rintro e w3 p3
  rw [meet_comes] at p3
  obtain ⟨A, n, c, rfl, h⟩ := p3.back W2.out
  have HH := Lib.hid h
  clear p3 h
  go_wp2
  go_ret
  exact ⟨A, n, c, rfl, HH.out⟩
end Go.Proofs.YtmebokpgiehgmaaGreat.Ru

/- The contracts of the program's Meet, Minus, Within and Same of layer ctx. Condition: each context of at most 2^28 parts, of at most 2^28 runs together. -/
namespace Go.Proofs.YtmebokpgiehgmaaGreat.Cx
open Go.ChangeShapes Go.WideShapes Go.ChangeAt Go.RowKit Go.Maps
set_option linter.unusedVariables false
set_option maxRecDepth 4000

theorem grown_far {a b c : World} {row row2 : Option Nat} (h1 : a.grownBy b row) (h2 : b.grownBy c row2) (hr : ∀ k, row2 = some k → a.heap.size ≤ k) : a.grownBy c row :=
  ⟨h2.os.trans h1.os, h2.tape.trans h1.tape, h2.output.trans h1.output, Nat.le_trans h1.size h2.size, fun k hk hne => (h2.block k (Nat.lt_of_lt_of_le hk h1.size) (fun e => by have := hr k e.symm; omega)).trans (h1.block k hk hne)⟩
theorem set_raw (a b : List Part) (how : Int) (d : Nat) : Ru.setL (rawC a d) (rawC b d) how = Ru.setL (runsC a d) (runsC b d) how := by
  refine Ru.uniq (Ru.set_spec _ _ _).1 (Ru.set_spec _ _ _).1 fun n => ?_
  rw [(Ru.set_spec _ _ _).2, (Ru.set_spec _ _ _).2, ← nrm_raw a d, ← nrm_raw b d, (Ru.nrm_spec _).2, (Ru.nrm_spec _).2]
theorem set_none (l : List Run) (how : Int) (h : how = 1 ∨ how = 2) : Ru.setL [] l how = [] := Ru.empty_of (Ru.set_spec _ _ _).1 fun n => by
  rw [(Ru.set_spec _ _ _).2, Ru.has_nil]
  rcases h with rfl | rfl <;> unfold Ru.inB <;> simp
/-- what comes of both, of the devices that are no longer to come. -/
abbrev leftF (left : Lit → Bool) (a b : List Part) (how : Int) : Nat → List Run := fun d => if left (keyL d) = true then [] else Ru.setL (rawC a d) (rawC b d) how
theorem leftF_start {w : World} {b0 : Nat} {D : DataW Value} {g : Nat → Option Sl} {a : List Part} (hh : HoldsS D g) (hs : SlsAt w b0 g (rawC a)) (b : List Part) (how : Int) (h : how = 1 ∨ how = 2) : leftF (Maps.has D) a b how = fun _ => [] := by
  funext d
  unfold leftF
  by_cases hk : Maps.has D (keyL d) = true
  · rw [if_pos hk]
  · rw [if_neg hk]
    rcases hs d with ⟨_, q⟩ | ⟨s, q, _⟩
    · rw [q, set_none _ _ h]
    · exact absurd (hh.some_ d (by rw [q]; rfl)).2 hk
theorem leftF_end {left : Lit → Bool} (a b : List Part) (how : Int) (hl : ∀ kl, left kl = false) : leftF left a b how = fun d => Ru.setL (runsC a d) (runsC b d) how := by
  funext d
  unfold leftF
  rw [hl, if_neg (by simp), set_raw]
theorem leftF_put {left : Lit → Bool} (a b : List Part) (how : Int) (d : Nat) : (fun e => if e = d then Ru.setL (rawC a d) (rawC b d) how else leftF left a b how e) = leftF (fun z => left z && !z.sameKey (keyL d)) a b how := by
  funext e
  unfold leftF
  simp only [same_key]
  by_cases he : e = d
  · subst he; simp
  · simp [he]
theorem nrm_set (a b : List Run) (how : Int) : Ru.nrm (Ru.setL a b how) = Ru.setL a b how := (Ru.nrm_uniq (Ru.set_spec _ _ _).1 fun _ => rfl).symm
theorem tells_by {a b : List Part} (ha : FitC a) (hb : FitC b) (how : Int) : Tells (fun d => Ru.nrm (Ru.setL (runsC a d) (runsC b d) how)) := by
  have e : (fun d => Ru.nrm (Ru.setL (runsC a d) (runsC b d) how)) = fun d => Ru.setL (runsC a d) (runsC b d) how := funext fun d => nrm_set _ _ _
  rw [e]
  exact tells_both ha hb how
theorem list_by (a b : List Part) (how : Int) : listC (fun d => Ru.nrm (Ru.setL (runsC a d) (runsC b d) how)) = setC a b how := by
  have e : (fun d => Ru.nrm (Ru.setL (runsC a d) (runsC b d) how)) = fun d => Ru.setL (runsC a d) (runsC b d) how := funext fun d => nrm_set _ _ _
  rw [e]; rfl
theorem run_short {a : List Part} {k : Nat} (h : Wide k a) (d : Nat) : (runsC a d).length ≤ k := by
  rw [← nrm_raw]
  exact Nat.le_trans (Ru.nrm_length _) (raw_short h d)
theorem by_short {a b : List Part} (ha : Wide 268435456 a) (hb : Wide 268435456 b) (how : Int) (h : how = 1 ∨ how = 2) (d : Nat) : (Ru.setL (runsC a d) (runsC b d) how).length ≤ 536870913 := by
  have q1 := run_short ha d
  have q2 := run_short hb d
  rcases h with rfl | rfl
  · have := Ru.set_length1 (runsC a d) (runsC b d); omega
  · have := Ru.set_length2 (runsC a d) (runsC b d); omega
set_option maxHeartbeats 4000000 in
theorem pmeet_by (w : World) (A1 A2 : Option Addr) (a b : List Part) (n1 n2 c1 c2 : Nat) (h1 : CtxAt w A1 a n1 c1) (h2 : CtxAt w A2 b n2 c2) (ha : Wide 268435456 a) (hb : Wide 268435456 b) :
    Calls Tryz.prog 33 #[.slice A1 n1 c1, .slice A2 n2 c2, .func (.func 34) #[] #[]] w (CtxPost w (setC a b 1)) := by
  have hmm := @run_makeMap Tryz.prog
  have CB := pbydev_any w A2 b n2 c2 h2 hb
  have H1 := Lib.hid h1
  have HA := Lib.hid ha
  have HLA := Lib.hid (fun d => raw_short ha d)
  have HLB := Lib.hid (fun d => raw_short hb d)
  have HT := Lib.hid (tells_by h1.fit h2.fit 1)
  have HLS := Lib.hid (by_short ha hb 1 (.inl rfl))
  have hn1 : n1 ≤ 268435456 := by rw [← h1.len]; exact ha.1
  rw [← list_by]
  clear h1 h2 ha hb
  go_enter Tryz.func33, Tryz.ntmps33
  go_wp2_with fail
  refine CB.mono ?_
  rintro e w1 ⟨rfl, hM, hb⟩
  have HB1 := Lib.hid hb
  have HM1 := Lib.hid hM
  have HB2 : Hid (Below w1.heap.size w1 (w1.alloc (.map #[] 0))) := Lib.hid (Dt.below_new _ _)
  have HMB : Hid (∀ B, w1.heap.size < B → MapS (w1.alloc (.map #[] 0)) B w1.heap.size 0 (fun _ => [])) := Lib.hid (fun B hB => mapS_new w1 B hB)
  have CA := pbydev_any (w1.alloc (.map #[] 0)) A1 a n1 c1 ((H1.out.up hb).up HB2.out) HA.out
  have hsz : (w1.alloc (.map #[] 0)).heap.size = w1.heap.size + 1 := by simp
  rw [hsz] at CA
  clear hM hb CB
  go_wp2_with fail
  generalize w1.alloc (.map #[] 0) = w2 at *
  refine CA.mono ?_
  rintro e w3 ⟨rfl, hM3, hb3⟩
  have hs3 := hM3.lt
  have HB3 : Hid (Below w1.heap.size w1 w3) := Lib.hid (HB2.out.trans (hb3.mono (by omega)))
  have HMB3 : Hid (MapS w3 (w3.heap.size + 1) w1.heap.size 0 (fun _ => [])) := Lib.hid ((HMB.out _ (by omega)).up (hsz ▸ hb3))
  obtain ⟨hbB, D, g, hown, hh, hs⟩ := hM3.mapS
  have HH := Lib.hid hh
  have HSL := Lib.hid hs
  have HWN := Lib.hid hown
  have hszD := hown.size_le
  have HST := Lib.hid (leftF_start hh hs b 1 (.inl rfl))
  clear hh hown hs hb3 CA HMB HB2 hsz hM3
  go_wp2_with (first
    | (at_range; refine wpList_range_own _ rfl _ 71 rfl 25 42 law16 Tryz.underlying71 _ (w1.heap.size + 1) n1 _ rfl HWN.out ?_; intro w0 hrg0 hg0 hs0)
    | go_in)
  have HR0 := Lib.hid hrg0
  have HB0 : Hid (Below w1.heap.size w1 w0) := Lib.hid (HB3.out.grown hg0 (by omega) (fun j hj => by cases hj))
  have HG0 : Hid (w3.grownBy w0 (some w1.heap.size)) := Lib.hid (hg0.but _)
  have HMB0 : Hid (MapS w0 (w3.heap.size + 1) w1.heap.size 0 (leftF (Maps.has D) a b 1)) := Lib.hid (by
    rw [HST.out]
    exact HMB3.out.up ((Below.refl _ w3).grown hg0 (Nat.le_refl _) (fun j hj => by cases hj)))
  have HS0 := Lib.hid hs0
  clear hrg0 hg0 hs0
  go_frame
  go_loopw [] (fun wr => ∃ (left : Lit → Bool) (cnt j : Nat), wr.ranges Tryz.prog 25 valS (w1.heap.size + 1) w3.heap.size n1 D left cnt ∧ j + cnt ≤ n1 ∧ MapS wr (w3.heap.size + 1) w1.heap.size j (leftF left a b 1) ∧ w3.grownBy wr (some w1.heap.size) ∧ Below w1.heap.size w1 wr ∧ w3.heap.size < wr.heap.size) (fun wr => wr.rangeLeft (w1.heap.size + 1) w3.heap.size)
  case atStart => exact ⟨_, _, 0, HR0.out, by omega, HMB0.out, HG0.out, HB0.out, by rw [HS0.out]; exact Nat.lt_succ_self _⟩
  case round =>
    obtain ⟨left, cnt, j, hrg, hj, hmb, hgr, hw, hws⟩ := hrel
    have HMR := Lib.hid hmb
    have HGR := Lib.hid hgr
    have HW := Lib.hid hw
    have HRL := Lib.hid hrg.left_eq
    clear hmb hw hgr
    go_wp2_with (first
      | (at_next; refine wpList_nextS rfl _ rfl (w1.heap.size + 1) w3.heap.size n1 _ _ _ rfl hrg ?_ ?_)
      | go_in)
    · intro hc0 hl0
      have HE := Lib.hid (HMR.out.turn (leftF_end a b 1 hl0))
      have CI := pinord_any psorts wr _ _ _ _ HE.out HT.out (fun d => by have := HLS.out d; omega) (by omega)
      have HWF : Hid (Below w.heap.size w wr) := Lib.hid (HB1.out.trans (HW.out.mono HB1.out.size))
      clear hrg
      go_wp2_with fail
      refine CI.mono ?_
      intro e V hp
      obtain ⟨A5, n5, c5, ps, rfl, h2⟩ := cpost_up HWF.out hp
      have HP := Lib.hid h2
      clear hp h2 CI
      go_wp2
      go_ret
      exact ⟨A5, n5, c5, ps, rfl, HP.out⟩
    · intro x sl wn cnt1 hwx hlx hat hrg1 hlt hg1 hs1 hen
      obtain ⟨d, rfl, hd, hR, hRB⟩ := entryS HH.out HSL.out hwx hat
      have HW1 : Hid (Below w1.heap.size w1 wn) := Lib.hid (HW.out.grown hg1 HW.out.size (fun k hk => by cases hk; omega))
      have HGN : Hid (w3.grownBy wn (some w1.heap.size)) := Lib.hid (grown_far HGR.out hg1 (fun k hk => by cases hk; exact Nat.le_refl _))
      have HRn := Lib.hid (hR.grown HGN.out (fun ad e e2 => by have := hRB ad e; injection e2 with e2; omega))
      have HO1 := Lib.hid ((HM1.out.up HW1.out).mapS)
      have HMW : Hid (MapS wn (w3.heap.size + 1) w1.heap.size j (leftF left a b 1)) := Lib.hid (HMR.out.other hg1 (by omega) (Nat.lt_succ_self _))
      have HR1 := Lib.hid hrg1
      have HPUT := Lib.hid (leftF_put (left := left) a b 1 d)
      have hsn : w3.heap.size < wn.heap.size := by rw [hs1]; exact hws
      clear hg1 hrg hrg1 hat hwx hs1 hlx hR hRB hws
      go_wp2_with (first
        | (at_lookup; refine wpList_lookS (by rfl) _ _ rfl (w.heap.size + 1) w.heap.size n2 d (rawC b) rfl HO1.out hd rfl ?_; intro A4 k4 c4 hA4
           have CM := Ru.pmeet_any wn sl.adr A4 (rawC a d) (rawC b d) sl.len k4 sl.cap c4 HRn.out.len hA4.len HRn.out.runs hA4.runs (by rw [← HRn.out.len]; have := HLA.out d; omega) (by rw [← hA4.len]; have := HLB.out d; omega)
           clear hA4)
        | (go_at_call 34; refine CM.mono ?_; intro e w4 hp
           obtain ⟨A5, k5, c5, rfl, hR5, hb5, hnew⟩ := runs_post hp (Ru.set_spec _ _ _).1
           have HR5 := Lib.hid hR5
           have HB5 := Lib.hid hb5
           have HNW := Lib.hid hnew
           have HM5 := Lib.hid (HMW.out.up hb5)
           clear hp hR5 hb5 hnew CM hen)
        | (at_mapUpdate; refine wpList_putS rfl _ _ _ rfl (w3.heap.size + 1) w1.heap.size j d (leftF left a b 1) A5 _ k5 c5 rfl HM5.out (by omega) hd rfl rfl HR5.out (fun ad e => by have := HNW.out ad e; omega) ?_; intro w6 hm6 hg6)
        | go_in)
      have HR6 := Lib.hid ((HR1.out.kept (bel_grown HB5.out none) (fun e => by cases e) (fun e => by cases e)).kept hg6 (fun e => by injection e with e; omega) (fun e => by injection e with e; omega))
      have HM6 : Hid (MapS w6 (w3.heap.size + 1) w1.heap.size (j + 1) (leftF (fun z => left z && !z.sameKey (keyL d)) a b 1)) := Lib.hid (hm6.turn HPUT.out)
      have HG6 : Hid (w3.grownBy w6 (some w1.heap.size)) := Lib.hid ((HGN.out.trans (bel_grown HB5.out _)).trans hg6)
      have HW5 := Lib.hid (HW1.out.trans (HB5.out.mono HW1.out.size))
      have HW6 : Hid (Below w1.heap.size w1 w6) := Lib.hid (HW5.out.grown hg6 HW5.out.size (fun k hk => by cases hk; exact Nat.le_refl _))
      have hs6 : w3.heap.size < w6.heap.size := Nat.lt_of_lt_of_le hsn (Nat.le_trans HB5.out.size hg6.size)
      refine ⟨?_, ?_⟩
      · repeat (first | exact ⟨⟨_, cnt1, j + 1, HR6.out, by omega, HM6.out, HG6.out, HW6.out, hs6⟩, rfl⟩ | apply Exists.intro)
      · rw [HR6.out.left_eq, HRL.out]
        exact hlt
set_option maxHeartbeats 1000000 in
theorem pmeet_any (w : World) (A1 A2 : Option Addr) (a b : List Part) (n1 n2 c1 c2 : Nat) (h1 : CtxAt w A1 a n1 c1) (h2 : CtxAt w A2 b n2 c2) (ha : Wide 268435456 a) (hb : Wide 268435456 b) :
    Calls Tryz.prog 19 #[.slice A1 n1 c1, .slice A2 n2 c2] w (CtxPost w (setC a b 1)) := by
  have CB := pmeet_by w A1 A2 a b n1 n2 c1 c2 h1 h2 ha hb
  clear h1 h2 ha hb
  go_enter Tryz.func19, Tryz.ntmps19
  go_wp2_with fail
  refine CB.mono ?_
  intro e w2 hp
  obtain ⟨A5, n5, c5, ps, rfl, h2⟩ := hp
  have HP := Lib.hid h2
  clear h2 CB
  go_wp2
  go_ret
  exact ⟨A5, n5, c5, ps, rfl, HP.out⟩
end Go.Proofs.YtmebokpgiehgmaaGreat.Cx

/- The contract of the program's Keep of layer kills: ctx.Of of the list, met with the context, gone over dot by dot. For every list of at most 1024 dots, and every context of few parts. -/
namespace Go.Proofs.YtmebokpgiehgmaaGreat.Kl
open Go.ChangeShapes Go.WideShapes Go.ChangeAt Go.RowKit
set_option linter.unusedVariables false
set_option maxRecDepth 4000

/-- append to a list of one's own; and where it lies then. -/
theorem run_any5 (w : World) (B k : Nat) (v : Value) (xs : List Dt.Dot) (A : Option Addr) (m : List Dt.Dot) (n c : Nat) (ho : w.ownsRow B 28 2 v k (Dt.dv xs)) (hA : A = none → n = 0 ∧ c = 0) (hb : Dt.Lies w w.heap.size A (Dt.dv m)) (hl : m.length = n)
    (hn : k + n ≤ 8796093022208) (hB : B ≤ w.heap.size) :
    ∃ A' c' w', (Builtin.append_ #[22, 22] 22 #[v, .slice A n c]).run Tryz.prog w = .ok (.slice A' (k + n) c') w' ∧
      w'.ownsRow B 28 2 (.slice A' (k + n) c') (k + n) (Dt.dv (xs ++ m)) ∧ w.grownBy w' v.ownBlock ∧ ((Value.slice A' (k + n) c').ownBlock = v.ownBlock ∨ (Value.slice A' (k + n) c').ownBlock = some w.heap.size) := by
  obtain ⟨i0, hi0, hz0, hz1, hz2⟩ := info_parts Dt.dot_info
  cases A with
  | none =>
    obtain ⟨rfl, rfl⟩ := hA rfl
    obtain rfl := List.eq_nil_of_length_eq_zero hl
    obtain ⟨A', c', rfl⟩ := Dt.own_form ho
    exact ⟨A', c', w, run_append_owned_none (P := Tryz.prog) (w := w) B 22 22 28 i0 2 Tryz.underlying22 hi0 _ k (Dt.dv xs) ho, by rw [List.append_nil]; exact ho, Dt.turn_refl _ _, .inl rfl⟩
  | some ad =>
    have hc : ∀ j u, (Dt.dv m)[j]? = some u → w.cell? (ad.add j) = some u := by
      intro j u hu
      have hjl : j < (Dt.dv m).length := (List.getElem?_eq_some_iff.1 hu).1
      obtain ⟨ad', e, hadb, hc⟩ := hb (by omega)
      obtain rfl := Option.some.inj e
      exact hc j u hu
    obtain ⟨v', w', hr, h2, h3, hat, h5⟩ := run_append_own_at (P := Tryz.prog) w B 22 22 28 i0 (.agg #[.int .u16 0, .int .u64 0]) 2 16 Tryz.underlying22 hi0 hz0 hz1 hz2 rfl (by decide) v k (Dt.dv xs) ho ad n c (Dt.dv m) (by rw [Dt.dv_length, hl]) hc (Dt.dv_one m) (by simp only [maxLen]; omega) (by omega) hB
    obtain ⟨A', c', rfl⟩ := Dt.own_form h2
    exact ⟨A', c', w', hr, by rw [Dt.dv_append]; exact h2, h3, h5⟩
theorem wpList_any5 {ops : Array Oper} {rest : List Oper} {o : Oper} {a : Act} {Q : Exit → Act → World → Prop} (hgd : o.guard = none) (s x : Operand) (ho : o.op = .call { callee := .builtin .append, args := #[s, x], argTypes := #[22, 22] }) (hty : o.type = 22)
    (w : World) (B k : Nat) (v : Value) (xs : List Dt.Dot) (A : Option Addr) (m : List Dt.Dot) (n c : Nat) (hs : a.eval s = v) (hx : a.eval x = .slice A n c) (hw : w.ownsRow B 28 2 v k (Dt.dv xs)) (hA : A = none → n = 0 ∧ c = 0) (hb : Dt.Lies w w.heap.size A (Dt.dv m)) (hl : m.length = n)
    (hn : k + n ≤ 8796093022208) (hB : B ≤ w.heap.size)
    (hK : ∀ A' c' w', w'.ownsRow B 28 2 (.slice A' (k + n) c') (k + n) (Dt.dv (xs ++ m)) → w.grownBy w' v.ownBlock → ((Value.slice A' (k + n) c').ownBlock = v.ownBlock ∨ (Value.slice A' (k + n) c').ownBlock = some w.heap.size) → wpList Tryz.prog ops Q rest (a.put o.dst (.slice A' (k + n) c')) w') : wpList Tryz.prog ops Q (o :: rest) a w := by
  refine wpList_plain hgd fun K hQ => ?_
  obtain ⟨A', c', w', hr, h2, h3, h5⟩ := run_any5 w B k v xs A m n c hw hA hb hl hn hB
  rw [← hty] at hr
  unfold Oper.wp execOp
  simp only [ho, resolve, invoke, builtin, Sem.run_bind, Sem.run_pure, Result.andThen_ok, List.map_toArray, List.map_cons, List.map_nil, hs, hx]
  rw [hty] at hr ⊢
  rw [hr]
  exact hQ _ _ (hK _ _ _ h2 h3 h5)
theorem own_far {w : World} {B n c : Nat} {A : Option Addr} {xs : List Value} (h : w.ownsRow B 28 2 (.slice A n c) n xs) : 0 < n → ∀ ad : Addr, A = some ad → B ≤ ad.block := fun _ ad e => by
  subst e
  exact (h.lt ad.block rfl).1
theorem own_dots' {w : World} {B n c : Nat} {A : Option Addr} {m : List Dt.Dot} (h : w.ownsRow B 28 2 (.slice A n c) n (Dt.dv m)) (hf : Dt.Fit m) (hw : n ≤ 8796093022208) : Ev.DotsAt w w.heap.size A m n c := by
  have h1 := h.1
  rw [Dt.dv_length] at h1
  obtain ⟨h2, h3, h4⟩ := Dt.own_len h
  exact ⟨by omega, h4, h2, h3, hw, Dt.dots_own h hf⟩
/-- the program's Sort of dots: a list of its own comes out. -/
theorem psort_far (w : World) (A0 : Option Addr) (l : List Dt.Dot) (n c0 : Nat) (h : Ev.DotsAt w w.heap.size A0 l n c0) : Calls Tryz.prog 21 #[.slice A0 n c0] w (DotsFar w (Dt.sortD l)) := by
  refine (Dt.psort_any w A0 l n c0 h.len h.nil h.dots h.wide).mono ?_
  intro e V hp
  have hf := (Dt.sort_fit l h.dots.1 l.length).1
  rw [List.take_of_length_le (Nat.le_refl _)] at hf
  obtain ⟨A, m, c, rfl, h1, h2, h3, h4, h5, h6, h7⟩ := Dt.post_dots hp hf
  exact ⟨A, m, c, rfl, ⟨h1, h2, h3, h4, by have := sortd_len l; have := h.len; have := h.wide; omega, h5⟩, own_far h6, h7⟩
/-- a list of one's own that does not lie in block q. -/
def Not (v : Value) (q : Nat) : Prop := ∀ j, v.ownBlock = some j → j ≠ q
theorem Not.next {w : World} {v v' : Value} {q : Nat} (h : Not v q) (h5 : v'.ownBlock = v.ownBlock ∨ v'.ownBlock = some w.heap.size) (hq : q < w.heap.size) : Not v' q := fun j hj => by
  rcases h5 with h5 | h5
  · rw [h5] at hj; exact h j hj
  · rw [h5] at hj; cases hj; omega
theorem not_cell {w w' : World} {v : Value} {q k : Nat} {u : Value} (h : Not v q) (hg : w.grownBy w' v.ownBlock) (hc : w.cell? ⟨q, k, none⟩ = some u) : w'.cell? ⟨q, k, none⟩ = some u := hg.cell hc (fun e => h q e.symm rfl)
/-- what the loops know: the list so far. -/
structure KRel (w2 : World) (xs : List Dt.Dot) (A : Option Addr) (m c : Nat) (wr : World) : Prop where
  len : xs.length = m
  own : wr.ownsRow w2.heap.size 28 2 (.slice A m c) m (Dt.dv xs)
  bel : Below w2.heap.size w2 wr
theorem KRel.alloc {w2 wr : World} {xs : List Dt.Dot} {A : Option Addr} {m c : Nat} (h : KRel w2 xs A m c wr) (o : Obj) : KRel w2 xs A m c (wr.alloc o) := ⟨h.len, h.own.alloc o, Ev.bel_alloc o h.bel⟩
theorem KRel.not {w2 wr : World} {xs : List Dt.Dot} {A : Option Addr} {m c : Nat} (h : KRel w2 xs A m c wr) : Not (.slice A m c) wr.heap.size := fun j hj => by have := (h.own.lt j hj).2; omega
theorem KRel.more {w2 V w' : World} {xs : List Dt.Dot} {A A' : Option Addr} {m c c' : Nat} {d : Dt.Dot} (h : KRel w2 xs A m c V) (ho : w'.ownsRow w2.heap.size 28 2 (.slice A' (m + 1) c') (m + 1) (Dt.dv (xs ++ [d]))) (hg : V.grownBy w' (Value.slice A m c).ownBlock) : KRel w2 (xs ++ [d]) A' (m + 1) c' w' :=
  ⟨by rw [List.length_append, h.len]; rfl, ho, Dt.any_grown h.own h.bel hg⟩
/-- a run's box. -/
theorem rbox_at (w : World) (lo hi : Nat) : ∀ V, Below (w.alloc (.cells #[.int .u64 (lo : Int), .int .u64 (hi : Int)] 50)).heap.size (w.alloc (.cells #[.int .u64 (lo : Int), .int .u64 (hi : Int)] 50)) V → V.cell? ⟨w.heap.size, 0, none⟩ = some (.int .u64 (lo : Int)) ∧ V.cell? ⟨w.heap.size, 1, none⟩ = some (.int .u64 (hi : Int)) := fun V hV =>
  ⟨Ev.stays hV (by simp [go_sem]), Ev.stays hV (by simp [go_sem])⟩

set_option maxHeartbeats 8000000 in
theorem pkeep_any (w : World) (A0 A2 : Option Addr) (l : List Dt.Dot) (x : List Cx.Part) (n c0 n2 c2 : Nat) (hl : Ev.DotsAt w w.heap.size A0 l n c0) (hx : Cx.CtxAt w A2 x n2 c2) (hn : n ≤ 1024) (hf : Cx.fewC x = true) :
    Calls Tryz.prog 7 #[.slice A0 n c0, .slice A2 n2 c2] w (DotsFar w (Dt.sortD (l.filter (Cx.hasC x)))) := by
  have CO := Cx.pof_any w A0 l n c0 ⟨hl.len, hl.nil, hl.cap, hl.max, hl.dots⟩ (by omega)
  have HWO : Hid (Cx.Wide 268435456 (Cx.ofC l)) := Lib.hid ((of_wide hl.dots.1).more (by rw [hl.len]; omega))
  have HWX : Hid (Cx.Wide 268435456 x) := Lib.hid ((Cx.small_wide (Cx.few_is hf)).more (by decide))
  have HOM := Lib.hid (Cx.ord_set (Cx.ord_of hl.dots.1).fit hx.fit 1)
  have HBD := Lib.hid (both_dots hl.dots.1 hx.fit)
  have HX := Lib.hid hx
  have HFT : Hid (Dt.Fit (Dt.sortD (l.filter (Cx.hasC x)))) := Lib.hid (fun r hr => hl.dots.1 r (List.mem_filter.1 ((Dt.sort_mem _ _).1 hr)).1)
  have hln : (Dt.sortD (l.filter (Cx.hasC x))).length ≤ 1024 := by
    have h1 := sortd_len (l.filter (Cx.hasC x))
    have h2 := List.length_filter_le (Cx.hasC x) l
    have h3 := hl.len
    omega
  rw [← HBD.out] at hln HFT ⊢
  clear hl hx hf
  go_enter Tryz.func7, Tryz.ntmps7
  go_wp2_with fail
  refine CO.mono ?_
  intro e w1 hp
  obtain ⟨A3, n3, c3, rfl, h3, hb1⟩ := Cx.post_ctx hp
  have CM := Cx.pmeet_any w1 A3 A2 (Cx.ofC l) x n3 n2 c3 c2 h3 (HX.out.up hb1) HWO.out HWX.out
  have HB1 := Lib.hid hb1
  clear CO hp h3 hb1
  go_wp2_with fail
  refine CM.mono ?_
  intro e w2 hp
  obtain ⟨A4, n4, c4, rfl, h4, hb2⟩ := Cx.post_ctx hp
  have HB2 := Lib.hid (HB1.out.trans (hb2.mono HB1.out.size))
  have H4 := Lib.hid h4
  have hn4 : n4 ≤ 9223372036854775807 := Nat.le_trans h4.cap h4.max
  have HPT := Lib.hid (ord_parts' HOM.out)
  clear CM hp h4 hb2 HBD HWO HWX HX HB1 HOM
  generalize Cx.setC (Cx.ofC l) x 1 = M at *
  go_wp2
  go_loopw [5, 16] (fun v vi wr => ∃ (k m : Nat) (A : Option Addr) (c : Nat), k ≤ n4 ∧ vi = .int .i64 (k : Int) ∧ v = .slice A m c ∧ KRel w2 (dotsC (M.take k)) A m c wr) (fun _ vi _ => n4 - (intOf vi).toNat)
  case atStart => exact ⟨0, 0, none, 0, Nat.zero_le _, rfl, rfl, rfl, World.ownsRow_nil _ _ _ _, Below.refl _ _⟩
  case round =>
    obtain ⟨k, m, A, c, hk, rfl, rfl, hrel⟩ := hrel
    have HR := Lib.hid hrel
    clear hrel
    by_cases hlt : k < n4
    · obtain ⟨ad, p, y, rfl, hB, hy, hp, hcell⟩ := H4.out.cells hlt
      have HY := Lib.hid hy
      have HP := Lib.hid hp
      have hpl : p.len ≤ 9223372036854775807 := Nat.le_trans hp.cap hp.max
      obtain ⟨g1, g2⟩ := hcell wr HR.out.bel
      obtain ⟨hy1, hy2, hy3⟩ := HPT.out y (List.mem_of_getElem? hy)
      have HIO := Lib.hid hy3
      obtain ⟨z1, z2⟩ := Cx.pbox_at wr y.1 p.adr p.len p.cap _ (Below.refl _ _)
      have HZ1 := Lib.hid z1
      have HRB := Lib.hid (HR.out.alloc (.cells #[.int .u16 (y.1 : Int), .slice p.adr p.len p.cap] 44))
      have HNB := Lib.hid HR.out.not
      have HPB : Hid (wr.heap.size < (wr.alloc (.cells #[.int .u16 (y.1 : Int), .slice p.adr p.len p.cap] 44)).heap.size) := Lib.hid (by simp)
      clear hy hp hcell hy2 hy3 HR
      go_wp2
      generalize wr.alloc (.cells #[.int .u16 (y.1 : Int), .slice p.adr p.len p.cap] 44) = w3 at *
      generalize wr.heap.size = pb at *
      clear g1 g2 z1 z2
      go_loopw [5, 23] (fun v vj wr => ∃ (j m : Nat) (A : Option Addr) (c : Nat), j ≤ p.len ∧ vj = .int .i64 (j : Int) ∧ v = .slice A m c ∧ KRel w2 (dotsC (M.take k) ++ (y.2.take j).flatMap (runD y.1)) A m c wr ∧ Not (.slice A m c) pb ∧ wr.cell? ⟨pb, 0, none⟩ = some (.int .u16 (y.1 : Int)) ∧ pb < wr.heap.size) (fun _ vj _ => p.len - (intOf vj).toNat)
      case atStart => exact ⟨0, m, A, c, Nat.zero_le _, rfl, rfl, by simpa using HRB.out, HNB.out, HZ1.out, HPB.out⟩
      case round =>
        obtain ⟨j, m, A, c, hj, rfl, rfl, hrel, hnb, hzb, hpb⟩ := hrel
        have HR := Lib.hid hrel
        have HNB := Lib.hid hnb
        have HZB := Lib.hid hzb
        have HPB := Lib.hid hpb
        clear hrel hnb hzb hpb
        by_cases hjl : j < p.len
        · obtain ⟨ad2, lo, hi, hpa, hr, hlo, hhi, c1, c3⟩ := (HP.out.runs.below HR.out.bel).at_ (k := j) (by rw [HP.out.len]; exact hjl)
          have c3' : wr.cell? ⟨(ad2.add (j * 2)).block, (ad2.add (j * 2)).off + 1, none⟩ = some (.int .u64 (hi : Int)) := by rw [Dt.add_next]; exact c3
          have HRN := Lib.hid hr
          have hmr := (Ru.may_iff (lo, hi)).1 (HIO.out.1 (lo, hi) (List.mem_of_getElem? hr))
          simp only at hmr
          obtain ⟨hm1, hm2, hm3⟩ := hmr
          have HB4 := Lib.hid (Ev.below_new wr (.cells #[.int .u64 (lo : Int), .int .u64 (hi : Int)] 50))
          have HRA := Lib.hid (HR.out.alloc (.cells #[.int .u64 (lo : Int), .int .u64 (hi : Int)] 50))
          have HNR := Lib.hid HR.out.not
          have HZA := Lib.hid (Ev.stays HB4.out HZB.out)
          obtain ⟨z1, z2⟩ := rbox_at wr lo hi _ (Below.refl _ _)
          have HZ2 := Lib.hid z2
          have HRS : Hid (wr.heap.size < (wr.alloc (.cells #[.int .u64 (lo : Int), .int .u64 (hi : Int)] 50)).heap.size) := Lib.hid (by simp)
          have HPS : Hid (pb < (wr.alloc (.cells #[.int .u64 (lo : Int), .int .u64 (hi : Int)] 50)).heap.size) := Lib.hid (by have := HPB.out; simp; omega)
          clear hr c3 HR HZB HPB HB4
          go_wp2
          generalize wr.alloc (.cells #[.int .u64 (lo : Int), .int .u64 (hi : Int)] 50) = w5 at *
          generalize wr.heap.size = rb at *
          clear z1 z2 c1 c3' hpa
          go_loopw [5, 10] (fun v vn wr => ∃ (nn m : Nat) (A : Option Addr) (c : Nat), lo ≤ nn ∧ nn ≤ hi + 1 ∧ vn = .int .u64 (nn : Int) ∧ v = .slice A m c ∧ KRel w2 (dotsC (M.take k) ++ ((y.2.take j).flatMap (runD y.1) ++ runTo y.1 (lo, hi) (nn - lo))) A m c wr ∧ Not (.slice A m c) pb ∧ Not (.slice A m c) rb ∧ wr.cell? ⟨pb, 0, none⟩ = some (.int .u16 (y.1 : Int)) ∧ wr.cell? ⟨rb, 1, none⟩ = some (.int .u64 (hi : Int)) ∧ pb < wr.heap.size ∧ rb < wr.heap.size) (fun _ vn _ => hi + 1 - (intOf vn).toNat)
          case atStart => exact ⟨lo, m, A, c, Nat.le_refl _, by omega, rfl, rfl, by simpa [runTo] using HRA.out, HNB.out, HNR.out, HZA.out, HZ2.out, HPS.out, HRS.out⟩
          case round =>
            obtain ⟨nn, m, A, c, hi0, hi1, rfl, rfl, hrel, hnp, hnr, hzp, hzr, hps, hrs⟩ := hrel
            have HR := Lib.hid hrel
            have HNP := Lib.hid hnp
            have HNR := Lib.hid hnr
            have HZP := Lib.hid hzp
            have HPS := Lib.hid hps
            have HRS := Lib.hid hrs
            clear hrel hnp hnr hps hrs
            by_cases hil : nn ≤ hi
            · have hle : decide ((nn : Int) ≤ (hi : Int)) = true := decide_eq_true (by omega)
              have hmost := gath_most (i := nn - lo) HY.out HRN.out (by simp only; omega)
              rw [HR.out.len] at hmost
              have HLO : Hid (m + 1 ≤ 8796093022208) := Lib.hid (by omega)
              have hwr : IntKind.u64.wrap ((nn : Int) + 1) = (nn : Int) + 1 := by
                simp [IntKind.wrap, IntKind.bits, IntKind.signed]; omega
              have HBA : Hid (w2.heap.size ≤ (wr.alloc (.cells #[.int .u16 (y.1 : Int), .int .u64 (nn : Int)] 28)).heap.size) := Lib.hid (HR.out.alloc _).bel.size
              have HRA := Lib.hid (HR.out.alloc (.cells #[.int .u16 (y.1 : Int), .int .u64 (nn : Int)] 28))
              have hb6 := Ev.below_new wr (.cells #[.int .u16 (y.1 : Int), .int .u64 (nn : Int)] 28)
              have HZP6 := Lib.hid (Ev.stays hb6 hzp)
              have HZR6 := Lib.hid (Ev.stays hb6 hzr)
              have HSZ := Lib.hid hb6.size
              have hLD := Dt.lies_one wr (y.1, nn)
              simp only at hLD
              have HLD := Lib.hid hLD
              have HNX : Hid (runTo y.1 (lo, hi) (nn + 1 - lo) = runTo y.1 (lo, hi) (nn - lo) ++ [(y.1, nn)]) := Lib.hid (by
                have h := run_next y.1 (lo, hi) (nn - lo)
                rw [show nn - lo + 1 = nn + 1 - lo by omega, show (lo, hi).1 + (nn - lo) = nn by simp only; omega] at h
                exact h)
              clear hmost hb6 hLD
              go_wp2_with (at_builtin; refine wpList_any5 rfl (.tmp 35) (.tmp 40) rfl rfl _ w2.heap.size m (.slice A m c) (dotsC (M.take k) ++ ((y.2.take j).flatMap (runD y.1) ++ runTo y.1 (lo, hi) (nn - lo))) (some ⟨wr.heap.size, 0, none⟩) [(y.1, nn)] 1 1 rfl rfl HRA.out.own (fun h => by cases h) HLD.out rfl HLO.out HBA.out ?_; intro A6 c6 w6 ho6 hg6 h6
                           have HR6 := Lib.hid (HRA.out.more ho6 hg6)
                           have HN6 := Lib.hid (HNP.out.next h6 (Nat.lt_of_lt_of_le HPS.out HSZ.out))
                           have HN7 := Lib.hid (HNR.out.next h6 (Nat.lt_of_lt_of_le HRS.out HSZ.out))
                           have hzp6 := not_cell HNP.out hg6 HZP6.out
                           have hzr6 := not_cell HNR.out hg6 HZR6.out
                           have HS6 := Lib.hid (Nat.le_trans HSZ.out hg6.size)
                           clear hzp hzr ho6 hg6 h6)
              go_roundw
              case rel => exact ⟨nn + 1, m + 1, A6, c6, by omega, by omega, by simp, rfl, by rw [HNX.out]; have h := HR6.out; simp only [List.append_assoc] at h ⊢; exact h, HN6.out, HN7.out, hzp6, hzr6, Nat.lt_of_lt_of_le HPS.out HS6.out, Nat.lt_of_lt_of_le HRS.out HS6.out⟩
              case measure => simp [intOf]; omega
            · have hle : decide ((nn : Int) ≤ (hi : Int)) = false := decide_eq_false (by omega)
              have hie : nn - lo = hi + 1 - lo := by omega
              have HRN2 : Hid ((y.2.take (j + 1)).flatMap (runD y.1) = (y.2.take j).flatMap (runD y.1) ++ runTo y.1 (lo, hi) (nn - lo)) := Lib.hid (by rw [part_next HRN.out, hie]; rfl)
              rw [← HRN2.out] at HR
              clear hie
              go_wp2
              go_roundw
              case rel => exact ⟨j + 1, m, A, c, by omega, by go_num, rfl, HR.out, HNP.out, HZP.out, HPS.out⟩
              case measure => simp [intOf]; omega
        · obtain rfl : j = p.len := by omega
          have e : y.2.take p.len = y.2 := List.take_of_length_le (by rw [HP.out.len]; exact Nat.le_refl _)
          rw [e] at HR
          have HN : Hid (KRel w2 (dotsC (M.take (k + 1))) A m c wr) := Lib.hid (by rw [dotsC_next HY.out]; exact HR.out)
          clear e HR
          go_wp2
          go_roundw
          case rel => exact ⟨k + 1, m, A, c, by omega, by go_num, rfl, HN.out⟩
          case measure => simp [intOf]; omega
    · obtain rfl : k = n4 := by omega
      have e : M.take k = M := List.take_of_length_le (by rw [H4.out.len]; exact Nat.le_refl _)
      rw [e] at HR
      have hmn : m ≤ 1024 := by rw [← HR.out.len]; exact hln
      have HD := Lib.hid (own_dots' HR.out.own HFT.out (by omega))
      have HF := Lib.hid (own_far HR.out.own)
      clear e
      go_wp2
      go_ret
      exact ⟨A, m, c, rfl, HD.out, (fun h0 ad e => Nat.le_trans HB2.out.size (HF.out h0 ad e)), HB2.out.trans (HR.out.bel.mono HB2.out.size)⟩
end Go.Proofs.YtmebokpgiehgmaaGreat.Kl
