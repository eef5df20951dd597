/- The contract of the program's Plain of layer ctx. Condition: at most 2^42 dots. -/
import Derived.Test.YtegclhgfibfanaaKO
import Derived.Test.YtegclhgfibfanaaKE
import Derived.Test.YtegclhgfibfanaaKF
namespace Go.Proofs.Ytegclhgfibfanaa.Cx
open Go.ChangeShapes Go.WideShapes Go.ChangeAt Go.RowKit Go.Maps
set_option linter.unusedVariables false
set_option maxRecDepth 4000

set_option maxHeartbeats 4000000 in
theorem pplain_any (w : World) (A1 : Option Addr) (l : List Dot) (n1 c1 : Nat) (h1 : DotsAt w A1 l n1 c1) (hn1 : n1 ≤ 4398046511104) :
    Calls Try.prog 18 #[.slice A1 n1 c1] w (CtxPost w (plainC l)) := by
  have CN := Dt.pnorm_long Dt.psort_any w A1 l n1 c1 h1.len h1.dots (by omega)
  have HNF := Lib.hid (Dt.fit_norm h1.fit)
  have HNL : Hid ((Dt.normV l).length ≤ 65536) := Lib.hid (Dt.list_length _)
  obtain ⟨R, hR⟩ : ∃ R, plainC l = R := ⟨_, rfl⟩
  have HR : Hid ((Dt.normV l).map (fun x => ((x.1, [(1, x.2)]) : Part)) = R) := Lib.hid (by rw [← hR]; rfl)
  rw [hR]
  clear h1 hR
  go_enter Try.func18, Try.ntmps18
  go_wp2_with fail
  refine CN.mono ?_
  rintro e w1 hp
  obtain ⟨A, n, c, rfl, hn, hA, _, _, hd, _, hb⟩ := Dt.post_dots hp HNF.out
  generalize Dt.normV l = N at HNF HNL HR hn hd
  have HN := Lib.hid hn
  have HD := Lib.hid hd
  have HB := Lib.hid hb
  have hnl : n ≤ 65536 := by rw [← hn]; exact HNL.out
  obtain ⟨g, hg⟩ : ∃ g : Nat → List Part, g = fun k => (N.take k).map (fun x => ((x.1, [(1, x.2)]) : Part)) := ⟨_, rfl⟩
  have HGE : Hid (∀ k, g k = (N.take k).map (fun x => ((x.1, [(1, x.2)]) : Part))) := Lib.hid (fun k => by rw [hg])
  have HGL : Hid (∀ k, (g k).length ≤ k) := Lib.hid (fun k => by rw [hg]; show ((N.take k).map _).length ≤ k; rw [List.length_map]; exact List.length_take_le _ _)
  have HGN : Hid (g n = R) := Lib.hid (by rw [HGE.out, List.take_of_length_le (by rw [HN.out]; exact Nat.le_refl _)]; exact HR.out)
  clear hp hA hn hd hb CN HR hg
  go_wp2_with fail
  go_loopw [3, 9] (fun v i wr => SRel w1 n g v i wr) (fun _ i _ => n - (intOf i).toNat)
  case atStart => exact ⟨0, 0, none, 0, [], Nat.zero_le _, rfl, rfl, by rw [HGE.out]; rfl, World.ownsRow_nil _ _ _ _, by rw [HGE.out]; exact Match.nil_ _, (fun p hp => by cases hp), Below.refl _ _⟩
  case round =>
    obtain ⟨k, m, A2, c2, ps, hk, rfl, rfl, hm, ho, hma, hap, hw⟩ := hrel
    have hmk : m ≤ k := by rw [← hm]; exact HGL.out k
    have HM := Lib.hid hm
    have HO := Lib.hid ho
    have HW := Lib.hid hw
    have HMA := Lib.hid hma
    have HAP := Lib.hid hap
    clear hm ho hw hma hap
    by_cases hlt : k < n
    · obtain ⟨ad, x, rfl, hB, hlx, hx1, hx2, hcx⟩ := HD.out.cells (k := k) (by rw [HN.out]; exact hlt)
      have HE := Lib.hid (plain_next hlx)
      rw [← HGE.out, ← HGE.out] at HE
      obtain ⟨x1, x2⟩ := x
      dsimp only at hx1 hx2 hcx
      obtain ⟨d1, d2⟩ := hcx wr HW.out
      have HX := Lib.hid (Dt.box_at wr (x1, x2))
      clear hlx hcx
      obtain ⟨o0, ho0⟩ : ∃ o : Obj, o = .cells #[.int .u16 (x1 : Int), .int .u64 (x2 : Int)] 27 := ⟨_, rfl⟩
      obtain ⟨o1, ho1⟩ : ∃ o : Obj, o = .cells #[.int .u64 1, .int .u64 (x2 : Int)] 59 := ⟨_, rfl⟩
      obtain ⟨o2, ho2⟩ : ∃ o : Obj, o = .cells #[.int .u16 (x1 : Int), .slice (some ⟨wr.heap.size + 1, 0, none⟩) 1 1] 47 := ⟨_, rfl⟩
      have hs0 : (wr.alloc o0).heap.size = wr.heap.size + 1 := by simp
      have hs1 : ((wr.alloc o0).alloc o1).heap.size = wr.heap.size + 2 := by simp
      have HBW : Hid (Below wr.heap.size wr (((wr.alloc o0).alloc o1).alloc o2)) := Lib.hid (bel_alloc _ (bel_alloc _ (bel_alloc _ (Below.refl _ _))))
      have HRU : Hid (RunsAt ((wr.alloc o0).alloc o1) (some ⟨wr.heap.size + 1, 0, none⟩) [(1, x2)] 1 1) := Lib.hid (by rw [ho1]; exact run_lit (wr.alloc o0) _ 1 x2 hs0.symm (by decide) hx2)
      have HB2 : Hid (Below ((wr.alloc o0).alloc o1).heap.size ((wr.alloc o0).alloc o1) (((wr.alloc o0).alloc o1).alloc o2)) := Lib.hid (bel_alloc _ (Below.refl _ _))
      have HP1 : Hid (PartIs (((wr.alloc o0).alloc o1).alloc o2) (((wr.alloc o0).alloc o1).alloc o2).heap.size ⟨x1, some ⟨wr.heap.size + 1, 0, none⟩, 1, 1⟩ (x1, [(1, x2)])) := Lib.hid (by
        have h2 := HRU.out.up HB2.out
        exact ⟨rfl, hx1, h2.len, h2.nil, h2.cap, h2.max, h2.runs⟩)
      have HM1 := Lib.hid ((HMA.out.up HBW.out).snoc HP1.out)
      have HOB := Lib.hid (own_block_lt HO.out)
      have hs2 : (((wr.alloc o0).alloc o1).alloc o2).heap.size = wr.heap.size + 3 := by simp
      have HA1 : Hid (Apart (((wr.alloc o0).alloc o1).alloc o2) (ps ++ [⟨x1, some ⟨wr.heap.size + 1, 0, none⟩, 1, 1⟩]) (Value.slice A2 m c2).ownBlock) := Lib.hid (Apart.snoc (HAP.out.up HBW.out.size) (ad := ⟨wr.heap.size + 1, 0, none⟩) rfl (by rw [hs2]; show wr.heap.size + 1 < _; omega) (fun e => by
        have h1 := HOB.out (wr.heap.size + 1) e.symm
        omega))
      have HO1 : Hid ((((wr.alloc o0).alloc o1).alloc o2).ownsRow w1.heap.size 47 2 (.slice A2 m c2) m (cv ps)) := Lib.hid (Dt.own_kept HO.out HBW.out)
      have HW1 : Hid (Below w1.heap.size w1 (((wr.alloc o0).alloc o1).alloc o2)) := Lib.hid (HW.out.trans (HBW.out.mono HW.out.size))
      have HCL : Hid (∀ (j : Nat) (u : Value), (cv [⟨x1, some ⟨wr.heap.size + 1, 0, none⟩, 1, 1⟩])[j]? = some u → (((wr.alloc o0).alloc o1).alloc o2).cell? ((⟨wr.heap.size + 2, 0, none⟩ : Addr).add j) = some u) := Lib.hid (fun j u hu => by
        have h1 := part_at ((wr.alloc o0).alloc o1) ⟨x1, some ⟨wr.heap.size + 1, 0, none⟩, 1, 1⟩ j u hu
        rw [ho2]
        rw [hs1] at h1
        exact h1)
      have HSR : Hid (∀ (A5 : Option Addr) (c5 : Nat) (w5 : World), w5.ownsRow w1.heap.size 47 2 (.slice A5 (m + 1) c5) (m + 1) (cv (ps ++ [⟨x1, some ⟨wr.heap.size + 1, 0, none⟩, 1, 1⟩])) → World.grownBy (((wr.alloc o0).alloc o1).alloc o2) w5 (Value.slice A2 m c2).ownBlock →
          ((Value.slice A5 (m + 1) c5).ownBlock = (Value.slice A2 m c2).ownBlock ∨ (Value.slice A5 (m + 1) c5).ownBlock = some (((wr.alloc o0).alloc o1).alloc o2).heap.size) → SRel w1 n g (.slice A5 (m + 1) c5) (.int .i64 ((k : Int) + 1)) w5) := Lib.hid (fun A5 c5 w5 ho5 hg5 hl5 => by
        refine ⟨k + 1, m + 1, A5, c5, ps ++ [⟨x1, some ⟨wr.heap.size + 1, 0, none⟩, 1, 1⟩], by omega, by go_num, rfl, by rw [HE.out, List.length_append, HM.out]; rfl, ho5, by rw [HE.out]; exact HM1.out.grown hg5 HA1.out, ?_, HW1.out.grown hg5 HW1.out.size (fun j hj => (own_block_lt HO.out j hj).1)⟩
        rcases hl5 with hl5 | hl5
        · rw [hl5]; exact HA1.out.up hg5.size
        · rw [hl5]; exact (HA1.out.turn (Nat.le_refl _)).up hg5.size)
      have HXC : Hid (∀ V, Below (wr.alloc o0).heap.size (wr.alloc o0) V → V.cell? ⟨wr.heap.size, 0, none⟩ = some (.int .u16 (x1 : Int)) ∧ V.cell? ⟨wr.heap.size, 1, none⟩ = some (.int .u64 (x2 : Int))) := Lib.hid (by rw [ho0]; exact HX.out)
      clear HE HM1 HA1 HP1 HRU HB2 HBW HM HO HW HMA HAP HOB HX hs0 hs1 hs2
      obtain ⟨d3, d4⟩ := HXC.out _ (Below.refl _ _)
      subst ho0 ho1 ho2
      go_wp2_with (first
        | (at_builtin; refine wpList_part rfl (.tmp 13) (.tmp 21) rfl rfl _ w1.heap.size m (.slice A2 m c2) ps ⟨wr.heap.size + 2, 0, none⟩ ⟨x1, some ⟨wr.heap.size + 1, 0, none⟩, 1, 1⟩ rfl rfl HO1.out HCL.out (by omega) HW1.out.size ?_; intro A5 c5 w5 ho5 hg5 hl5
           have HS := Lib.hid (HSR.out A5 c5 w5 ho5 hg5 hl5)
           clear ho5 hg5 hl5 d1 d2 d3 d4 HSR HO1 HCL HXC HW1)
        | go_in)
      go_roundw
      case rel => exact HS.out
      case measure => simp [intOf]; omega
    · obtain rfl : n = k := by omega
      rw [HGN.out] at HM HMA
      go_wp2
      go_ret
      exact ⟨A2, m, c2, ps, rfl, HM.out, Dt.own_less HO.out HB.out.size, HMA.out, HB.out.trans (HW.out.mono HB.out.size)⟩
end Go.Proofs.Ytegclhgfibfanaa.Cx
