/- The contracts of the program's 'common' and 'gaps'. Condition: at most 2^42 runs a side. -/
import Derived.Test.YtaoojiacdkabbaaApp
import Derived.Deep.SlicePairs
namespace Go.Proofs.Ytaoojiacdkabbaa.Ru
open Go.ChangeShapes Go.WideShapes Go.ChangeAt Go.RowKit Go.Shelf
set_option linter.unusedVariables false

theorem com_length : ∀ (N : Nat) (a b : List Run), a.length + b.length ≤ N → (com a b).length ≤ a.length + b.length
  | N, [], b, _ => by rw [com_nil]; simp
  | N, x :: a, [], _ => by rw [com_nil']; simp
  | 0, x :: a, y :: b, h => by simp at h
  | N + 1, x :: a, y :: b, h => by
    simp only [List.length_cons] at h
    rw [com_cons, List.length_append]
    have h1 : (if mayR (both x y) = true then [both x y] else []).length ≤ 1 := by split <;> simp
    have h2 : (if x.2 < y.2 then com a (y :: b) else com (x :: a) b).length ≤ a.length + b.length + 1 := by
      split
      · have := com_length N a (y :: b) (by simp only [List.length_cons]; omega)
        simp only [List.length_cons] at this
        omega
      · have := com_length N (x :: a) b (by simp only [List.length_cons]; omega)
        simp only [List.length_cons] at this
        omega
    simp only [List.length_cons]
    omega
theorem fit_both {x y : Run} (hx : x.1 < 18446744073709551616 ∧ x.2 < 18446744073709551616) (hy : y.1 < 18446744073709551616 ∧ y.2 < 18446744073709551616) : (both x y).1 < 18446744073709551616 ∧ (both x y).2 < 18446744073709551616 := by
  show max x.1 y.1 < _ ∧ min x.2 y.2 < _
  omega
theorem Runs.head {w : World} {B : Nat} {A : Option Addr} {r : Run} {l : List Run} (h : Runs w B A (r :: l)) :
    ∃ ad : Addr, A = some ad ∧ ad.block < B ∧ w.cell? ad = some (.int .u64 (r.1 : Int)) ∧ w.cell? ⟨ad.block, ad.off + 1, none⟩ = some (.int .u64 (r.2 : Int)) ∧ Runs w B (some (ad.add 2)) l := by
  obtain ⟨ad, e, hB, hc⟩ := h.2 (by rw [rv_length]; simp)
  refine ⟨ad, e, hB, ?_, hc 1 _ rfl, fun s hs => h.1 s (by simp [hs]), fun hl => ⟨_, rfl, by rw [block_add]; exact hB, fun j u hu => ?_⟩⟩
  · have := hc 0 _ rfl
    rwa [show ad.add 0 = ad from by unfold Addr.add; simp] at this
  · rw [add_add]
    refine hc (2 + j) u ?_
    rw [show rv (r :: l) = [.int .u64 (r.1 : Int), .int .u64 (r.2 : Int)] ++ rv l from rfl, List.getElem?_append_right (by simp)]
    simpa using hu

theorem bel_alloc {w W : World} (o : Obj) (h : Below w.heap.size w W) : Below w.heap.size w (W.alloc o) := h.alloc h.size o
def lenV : Value → Nat
  | .slice _ n _ => n
  | _ => 0
structure CRel (w : World) (l1 l2 : List Run) (A1 A2 A : Option Addr) (m1 m2 m c1 c2 c : Nat) (a b o : List Run) (wr : World) : Prop where
  ha : a.length = m1
  hb : b.length = m2
  ho : o.length = m
  ra : Runs w w.heap.size A1 a
  rb : Runs w w.heap.size A2 b
  h1 : m1 ≤ c1 ∧ c1 ≤ 9223372036854775807
  h2 : m2 ≤ c2 ∧ c2 ≤ 9223372036854775807
  hr : wr.ownsRow w.heap.size 31 2 (.slice A m c) m (rv o)
  bel : Below w.heap.size w wr
  hs : o ++ com a b = com l1 l2

theorem runs_tail {w : World} {B : Nat} {ad : Addr} {l : List Run} {z c : Nat} (h : Runs w B (some (ad.add 2)) l) (hl : l.length = z) (hz : z + 1 ≤ c) : Runs w B (if c = 1 then some ad else some ⟨ad.block, ad.off + 2, none⟩) l := by
  split
  · rename_i hc
    rw [List.eq_nil_of_length_eq_zero (l := l) (by omega)]
    exact Runs.none_ _ _ _
  · have e : ad.add 2 = ⟨ad.block, ad.off + 2, none⟩ := by unfold Addr.add; simp
    rw [← e]; exact h
theorem com_left {w : World} {l1 l2 : List Run} {ad1 : Addr} {A2 A A3 : Option Addr} {z1 m2 m c1 c2 c c3 mt : Nat} {x y : Run} {a b o t : List Run} {wr V : World}
    (h : CRel w l1 l2 (some ad1) A2 A (z1 + 1) m2 m c1 c2 c (x :: a) (y :: b) o wr) (hlt : x.2 < y.2) (ra : Runs w w.heap.size (some (ad1.add 2)) a) (ht : (if mayR (both x y) = true then [both x y] else []) = t) (hm : m + t.length = mt)
    (hr : V.ownsRow w.heap.size 31 2 (.slice A3 mt c3) mt (rv (o ++ t))) (bel : Below w.heap.size w V) : CRel w l1 l2 (if c1 = 1 then some ad1 else some ⟨ad1.block, ad1.off + 2, none⟩) A2 A3 z1 m2 mt (c1 - 1) c2 c3 a (y :: b) (o ++ t) V := by
  have hl : a.length = z1 := by have := h.ha; simpa using this
  have hk := h.h1
  refine ⟨hl, h.hb, by rw [List.length_append, h.ho, hm], runs_tail ra hl hk.1, h.rb, by omega, h.h2, hr, bel, ?_⟩
  have hs := h.hs
  rw [com_cons, ht, if_pos hlt] at hs
  rw [List.append_assoc]; exact hs
theorem com_right {w : World} {l1 l2 : List Run} {ad2 : Addr} {A1 A A3 : Option Addr} {z2 m1 m c1 c2 c c3 mt : Nat} {x y : Run} {a b o t : List Run} {wr V : World}
    (h : CRel w l1 l2 A1 (some ad2) A m1 (z2 + 1) m c1 c2 c (x :: a) (y :: b) o wr) (hlt : ¬ x.2 < y.2) (rb : Runs w w.heap.size (some (ad2.add 2)) b) (ht : (if mayR (both x y) = true then [both x y] else []) = t) (hm : m + t.length = mt)
    (hr : V.ownsRow w.heap.size 31 2 (.slice A3 mt c3) mt (rv (o ++ t))) (bel : Below w.heap.size w V) : CRel w l1 l2 A1 (if c2 = 1 then some ad2 else some ⟨ad2.block, ad2.off + 2, none⟩) A3 m1 z2 mt c1 (c2 - 1) c3 (x :: a) b (o ++ t) V := by
  have hl : b.length = z2 := by have := h.hb; simpa using this
  have hk := h.h2
  refine ⟨h.ha, hl, by rw [List.length_append, h.ho, hm], h.ra, runs_tail rb hl hk.1, h.h1, by omega, hr, bel, ?_⟩
  have hs := h.hs
  rw [com_cons, ht, if_neg hlt] at hs
  rw [List.append_assoc]; exact hs
theorem crel_drewN {w V : World} {l1 l2 a b o : List Run} {A1 A2 A : Option Addr} {m1 m2 m c1 c2 c : Nat} (h : CRel w l1 l2 A1 A2 A m1 m2 m c1 c2 c a b o V) (k : Nat) : CRel w l1 l2 A1 A2 A m1 m2 m c1 c2 c a b o (V.drewN k) :=
  ⟨h.ha, h.hb, h.ho, h.ra, h.rb, h.h1, h.h2, h.hr, h.bel.trans ⟨rfl, rfl, rfl, Nat.le_refl _, fun _ _ => rfl⟩, h.hs⟩

set_option maxHeartbeats 4000000 in
theorem common_any (w : World) (A1 A2 : Option Addr) (l1 l2 : List Run) (n1 n2 c1 c2 : Nat) (hl1 : l1.length = n1) (hl2 : l2.length = n2) (hb1 : Runs w w.heap.size A1 l1) (hb2 : Runs w w.heap.size A2 l2) (h1 : n1 ≤ 4398046511104) (h2 : n2 ≤ 4398046511104)
    (k1 : n1 ≤ c1 ∧ c1 ≤ 9223372036854775807) (k2 : n2 ≤ c2 ∧ c2 ≤ 9223372036854775807) :
    Calls Try.prog 37 #[.slice A1 n1 c1, .slice A2 n2 c2] w (RunPost w (com l1 l2)) := by
  obtain ⟨i0, hi0, hz0, hz1, hz2⟩ := info_parts run_info
  have HN : Hid ((com l1 l2).length ≤ 8796093022208) := Nat.le_trans (com_length _ l1 l2 (Nat.le_refl _)) (by omega)
  have HS : Hid (CRel w l1 l2 A1 A2 none n1 n2 0 c1 c2 0 l1 l2 [] w) := ⟨hl1, hl2, rfl, hb1, hb2, k1, k2, World.ownsRow_nil _ _ _ _, Below.refl _ _, rfl⟩
  clear hl1 hl2 hb1 hb2 k1 k2
  go_enter Try.func37, Try.ntmps37
  go_wp2
  go_loopw [0, 1, 5] (fun va vb vo wr => ∃ (A1 A2 A : Option Addr) (m1 m2 m c1 c2 c : Nat) (a b o : List Run), va = .slice A1 m1 c1 ∧ vb = .slice A2 m2 c2 ∧ vo = .slice A m c ∧ CRel w l1 l2 A1 A2 A m1 m2 m c1 c2 c a b o wr) (fun va vb _ _ => lenV va + lenV vb)
  case atStart => exact ⟨A1, A2, none, n1, n2, 0, c1, c2, 0, l1, l2, [], rfl, rfl, rfl, HS.out⟩
  case round =>
    clear HS A1 A2 n1 n2 c1 c2 h1 h2
    obtain ⟨A1, A2, A, m1, m2, m, c1, c2, c, a, b, o, rfl, rfl, rfl, hR⟩ := hrel
    have HR := Lib.hid hR
    have q1 := hR.h1
    have q2 := hR.h2
    clear hR
    rcases a with _ | ⟨x, a⟩
    · obtain rfl : m1 = 0 := HR.out.ha.symm
      have he : Hid (o = com l1 l2) := by have := HR.out.hs; rwa [com_nil, List.append_nil] at this
      go_wp2
      go_ret
      exact ⟨A, m, c, rfl, by rw [← he.out]; exact HR.out.ho, by rw [← he.out]; exact HR.out.hr, HR.out.bel⟩
    · rcases b with _ | ⟨y, b⟩
      · obtain rfl : m2 = 0 := HR.out.hb.symm
        obtain ⟨z1, rfl⟩ : ∃ z, m1 = z + 1 := ⟨a.length, HR.out.ha.symm⟩
        have he : Hid (o = com l1 l2) := by have := HR.out.hs; rwa [com_nil', List.append_nil] at this
        have hp : (0 : Int) < ((z1 : Nat) : Int) + 1 := by omega
        go_wp2
        go_ret
        exact ⟨A, m, c, rfl, by rw [← he.out]; exact HR.out.ho, by rw [← he.out]; exact HR.out.hr, HR.out.bel⟩
      · obtain ⟨z1, rfl⟩ : ∃ z, m1 = z + 1 := ⟨a.length, HR.out.ha.symm⟩
        obtain ⟨z2, rfl⟩ : ∃ z, m2 = z + 1 := ⟨b.length, HR.out.hb.symm⟩
        obtain ⟨ad1, rfl, hB1, d1, d2, ra'⟩ := HR.out.ra.head
        obtain ⟨ad2, rfl, hB2, e1, e2, rb'⟩ := HR.out.rb.head
        have RA := Lib.hid ra'
        have RB := Lib.hid rb'
        have hx := HR.out.ra.1 x (by simp)
        have hy := HR.out.rb.1 y (by simp)
        have HC : Hid (∀ V, Below w.heap.size w V → (V.cell? ad1 = some (.int .u64 (x.1 : Int)) ∧ V.cell? ⟨ad1.block, ad1.off + 1, none⟩ = some (.int .u64 (x.2 : Int))) ∧ V.cell? ad2 = some (.int .u64 (y.1 : Int)) ∧ V.cell? ⟨ad2.block, ad2.off + 1, none⟩ = some (.int .u64 (y.2 : Int))) := fun V hV =>
          ⟨⟨(hV.cell hB1).trans d1, (hV.cell (p := ⟨ad1.block, ad1.off + 1, none⟩) hB1).trans d2⟩, (hV.cell hB2).trans e1, (hV.cell (p := ⟨ad2.block, ad2.off + 1, none⟩) hB2).trans e2⟩
        clear d1 d2 e1 e2 ra' rb'
        obtain ⟨⟨d1, d2⟩, e1, e2⟩ := HC.out wr HR.out.bel
        have hp1 : (0 : Int) < ((z1 : Nat) : Int) + 1 := by omega
        have hp2 : (0 : Int) < ((z2 : Nat) : Int) + 1 := by omega
        go_wp2_with fail
        obtain ⟨p, hpp⟩ : ∃ p, both x y = p := ⟨_, rfl⟩
        have M1 : max (x.1 : Int) (y.1 : Int) = (p.1 : Int) := by rw [← hpp]; show max (x.1 : Int) (y.1 : Int) = ((max x.1 y.1 : Nat) : Int); omega
        have M2 : min (x.2 : Int) (y.2 : Int) = (p.2 : Int) := by rw [← hpp]; show min (x.2 : Int) (y.2 : Int) = ((min x.2 y.2 : Nat) : Int); omega
        have PP := Lib.hid hpp
        clear hpp
        go_region_held3 (fun V => (V.cell? ad1 = some (.int .u64 (x.1 : Int)) ∧ V.cell? ⟨ad1.block, ad1.off + 1, none⟩ = some (.int .u64 (x.2 : Int))) ∧ V.cell? ad2 = some (.int .u64 (y.1 : Int)) ∧ V.cell? ⟨ad2.block, ad2.off + 1, none⟩ = some (.int .u64 (y.2 : Int))) (first | exact ⟨⟨d1, d2⟩, e1, e2⟩ | exact HC.out _ (by (repeat (first | exact HR.out.bel | apply bel_alloc | apply bel_drew)))) (fail)
        all_goals
          have P0 : Hid (Pair (wr.alloc (.cells #[.int .u64 (p.1 : Int), .int .u64 (p.2 : Int)] 31)).drew wr.heap.size p) := Pair.new wr p
          have HW1 : Hid (Below w.heap.size w (wr.alloc (.cells #[.int .u64 (p.1 : Int), .int .u64 (p.2 : Int)] 31)).drew) := (HR.out.bel.alloc HR.out.bel.size _).drew
          have HO1 : Hid ((wr.alloc (.cells #[.int .u64 (p.1 : Int), .int .u64 (p.2 : Int)] 31)).drew.ownsRow w.heap.size 31 2 (.slice A m c) m (rv o)) := HR.out.hr.alloc _
          clear d1 d2 e1 e2 M1 M2
          generalize (wr.alloc (.cells #[.int .u64 (p.1 : Int), .int .u64 (p.2 : Int)] 31)).drew = W1 at P0 HW1 HO1 ⊢
          have f1 := P0.out.cell1
          have f2 := P0.out.cell2
          go_wp2_with fail
          refine (tells_any W1 p.1 p.2).mono ?_
          rintro e V ⟨rfl, hb2⟩
          have L2 := Lib.hid hb2
          have PV := Lib.hid (P0.out.below hb2)
          clear f1 f2
          have HWV : Hid (Below w.heap.size w V) := HW1.out.trans (L2.out.mono HW1.out.size)
          have HOV := Lib.hid (own_kept HO1.out L2.out)
          clear hb2 L2 HW1 HO1 P0
          by_cases hm : mayR (p.1, p.2) = true
          · rw [hm]
            have p1 := PV.out.cell1
            have p2 := PV.out.cell2
            have HLO : Hid (m + 1 ≤ 8796093022208) := by
              have h := HR.out.hs
              have h2 := HN.out
              rw [← h, com_cons, PP.out, if_pos hm, List.length_append, List.length_append, HR.out.ho] at h2
              simp only [List.length_singleton] at h2
              show m + 1 ≤ _
              omega
            have HWA : Hid (Below w.heap.size w (V.alloc (.cells #[.int .u64 (p.1 : Int), .int .u64 (p.2 : Int)] 31))) := HWV.out.alloc HWV.out.size _
            go_wp2_with (at_builtin; refine wpList_any rfl (.tmp 36) (.tmp 38) rfl rfl _ w.heap.size m (.slice A m c) o (some ⟨V.heap.size, 0, none⟩) [p] 1 1 rfl rfl (HOV.out.alloc _) (fun h => by cases h) (lies_one V p) rfl HLO.out HWA.out.size ?_; intro A3 c3 V3 ho3 hg3; have HW3 := Lib.hid (any_grown (HOV.out.alloc _) HWA.out hg3); have HO3 := Lib.hid ho3; clear ho3 hg3)
            obtain ⟨⟨d1, d2⟩, e1, e2⟩ := HC.out V3 HW3.out
            have ht : Hid ((if mayR (both x y) = true then [both x y] else []) = [p]) := by show _ = _; rw [PP.out, if_pos hm]
            clear hm p1 p2 HWA HLO HOV HWV PV
            by_cases hlt : x.2 < y.2
            · have hld : decide ((x.2 : Int) < (y.2 : Int)) = true := decide_eq_true (by omega)
              have HR2 := Lib.hid (com_left HR.out hlt RA.out ht.out rfl HO3.out HW3.out)
              go_quiet (fail)
              go_wp2
              exact ⟨⟨_, _, _, _, _, _, _, _, _, _, _, _, rfl, rfl, rfl, crel_drewN HR2.out _⟩, by simp [lenV]⟩
            · have hld : decide ((x.2 : Int) < (y.2 : Int)) = false := decide_eq_false (by omega)
              have HR2 := Lib.hid (com_right HR.out hlt RB.out ht.out rfl HO3.out HW3.out)
              go_wp2_with fail
              go_quiet (fail)
              go_wp2
              exact ⟨⟨_, _, _, _, _, _, _, _, _, _, _, _, rfl, rfl, rfl, crel_drewN HR2.out _⟩, by simp [lenV]⟩
          · have hm' : mayR (p.1, p.2) = false := by simpa using hm
            rw [hm']
            obtain ⟨⟨d1, d2⟩, e1, e2⟩ := HC.out V HWV.out
            have ht : Hid ((if mayR (both x y) = true then [both x y] else []) = []) := by show _ = _; rw [PP.out, if_neg hm]
            have HOV2 : Hid (V.ownsRow w.heap.size 31 2 (.slice A m c) m (rv (o ++ []))) := by rw [List.append_nil]; exact HOV.out
            clear hm HOV PV
            by_cases hlt : x.2 < y.2
            · have hld : decide ((x.2 : Int) < (y.2 : Int)) = true := decide_eq_true (by omega)
              have HR2 := Lib.hid (com_left HR.out hlt RA.out ht.out rfl HOV2.out HWV.out)
              go_wp2_with fail
              go_quiet (fail)
              go_wp2
              exact ⟨⟨_, _, _, _, _, _, _, _, _, _, _, _, rfl, rfl, rfl, crel_drewN HR2.out _⟩, by simp [lenV]⟩
            · have hld : decide ((x.2 : Int) < (y.2 : Int)) = false := decide_eq_false (by omega)
              have HR2 := Lib.hid (com_right HR.out hlt RB.out ht.out rfl HOV2.out HWV.out)
              go_wp2_with fail
              go_quiet (fail)
              go_wp2
              exact ⟨⟨_, _, _, _, _, _, _, _, _, _, _, _, rfl, rfl, rfl, crel_drewN HR2.out _⟩, by simp [lenV]⟩
end Go.Proofs.Ytaoojiacdkabbaa.Ru
