/- Words and contracts that the proofs of this seat stand on, part 30 of 39. -/
import Derived.Test.YtgaegfddobpomaaGreatOrS
import Derived.Test.YtgaegfddobpomaaGreatOrBC
import Derived.Shelf.SlSortCmp.WholeK
import Derived.Test.YtgaegfddobpomaaGreatProg
import Derived.Test.YtgaegfddobpomaaGreatOrK

namespace Go.Proofs.YtgaegfddobpomaaGreat.Cx
open Go.ChangeShapes Go.WideShapes Go.ChangeAt Go.RowKit Go.Maps
set_option linter.unusedVariables false
set_option maxRecDepth 4000
theorem neS_iter {w : World} {b r n k c size e : Nat} {B : Nat} {D : DataW Value} {left : Lit → Bool} {cnt : Nat} {A : Option Addr} {xs : List Value} (h : w.ranges Tryz.prog 32 valS b r n D left cnt) (ho : w.ownsRow B e size (.slice A k c) k xs) :
   (Value.slice A k c).ownBlock = none ∨ (Value.slice A k c).ownBlock ≠ some r := by
 rcases ho.2 with ⟨h1, _⟩ | ⟨g, cap, cur, h1, _, h2, _⟩
 · cases h1; exact .inl rfl
 · cases h1
   right
   intro e
   have e2 : g = r := by simpa [Value.ownBlock] using e
   obtain ⟨es, clock, since, seen, c0, _, _, _, _, h3, _⟩ := h
   rw [← e2, h2] at h3
   cases h3
theorem ownS_from {w : World} {B k c size e : Nat} {A : Option Addr} {xs : List Value} (ho : w.ownsRow B e size (.slice A k c) k xs) : ∀ j, (Value.slice A k c).ownBlock = some j → B ≤ j := by
 intro j hj
 exact (ho.lt j hj).1
def ApartR (w : World) (r : Nat) (ps : List PV) (row : Option Nat) : Prop := ∀ p ∈ ps, ∃ ad, p.adr = some ad ∧ r < ad.block ∧ ad.block < w.heap.size ∧ some ad.block ≠ row
theorem ApartR.apart {w : World} {r : Nat} {ps : List PV} {row : Option Nat} (h : ApartR w r ps row) : Apart w ps row := fun p hp => by
 obtain ⟨ad, e, _, h2, h3⟩ := h p hp
 exact ⟨ad, e, h2, h3⟩
theorem ApartR.iter {w : World} {r : Nat} {ps : List PV} {row : Option Nat} (h : ApartR w r ps row) : Apart w ps (some r) := fun p hp => by
 obtain ⟨ad, e, h1, h2, _⟩ := h p hp
 exact ⟨ad, e, h2, fun e2 => by injection e2 with e2; omega⟩
theorem ApartR.up {w w' : World} {r : Nat} {ps : List PV} {row : Option Nat} (h : ApartR w r ps row) (hs : w.heap.size ≤ w'.heap.size) : ApartR w' r ps row := fun p hp => by
 obtain ⟨ad, e, h1, h2, h3⟩ := h p hp
 exact ⟨ad, e, h1, Nat.lt_of_lt_of_le h2 hs, h3⟩
theorem ApartR.snoc {w : World} {r : Nat} {ps : List PV} {row : Option Nat} {p : PV} {ad : Addr} (h : ApartR w r ps row) (e : p.adr = some ad) (h1 : r < ad.block) (h2 : ad.block < w.heap.size) (hne : some ad.block ≠ row) : ApartR w r (ps ++ [p]) row := fun q hq => by
 rcases List.mem_append.1 hq with hq | hq
 · exact h q hq
 · obtain rfl := List.mem_singleton.1 hq
   exact ⟨ad, e, h1, h2, hne⟩
theorem ApartR.grown {w w' : World} {r : Nat} {ps : List PV} {row row' : Option Nat} (h : ApartR w r ps row) (hs : w.heap.size ≤ w'.heap.size) (hr : row' = row ∨ row' = some w.heap.size) : ApartR w' r ps row' := fun p hp => by
 obtain ⟨ad, e, h1, h2, h3⟩ := h p hp
 refine ⟨ad, e, h1, Nat.lt_of_lt_of_le h2 hs, ?_⟩
 rcases hr with rfl | rfl
 · exact h3
 · intro e2; injection e2 with e2; omega
theorem Apart.perm {w : World} {ps s : List PV} {row : Option Nat} (h : Apart w ps row) (hp : s.Perm ps) : Apart w s row := fun p hm => h p (hp.mem_iff.1 hm)
set_option maxHeartbeats 4000000 in
theorem pinord_any (hsort : SortsP) (w : World) (B b n : Nat) (f : Nat → List Run) (h : MapS w B b n f) (hf : Tells (fun d => Ru.nrm (f d))) (hl : ∀ d, (f d).length ≤ 2199023255552) (hn : n ≤ 1073741824) :
   Calls Tryz.prog 92 #[.map (some b)] w (CtxPost w (listC (fun d => Ru.nrm (f d)))) := by
 obtain ⟨hbB, D, g, hown, hh, hs⟩ := h
 obtain ⟨i0, hi0, hz0, hz1, hz2⟩ := info_parts part_info
 have HH := Lib.hid hh
 have HF := Lib.hid hf
 have HSL := Lib.hid hs
 have HWN := Lib.hid hown
 have HLN := Lib.hid hl
 have HNZ : Hid (∀ d, f d = [] → Ru.nrm (f d) = []) := Lib.hid (fun d hd => by rw [hd]; exact nrm_nil)
 have HNO : Hid (∀ d, Ru.InOrder (Ru.nrm (f d))) := Lib.hid (fun d => (Ru.nrm_spec _).1)
 have HNM : Hid (∀ W A d k c, RunsAt W A (f d) k c → Calls Tryz.prog 128 #[.slice A k c] W (Ru.RunPost W (Ru.nrm (f d)))) := Lib.hid (fun W A d k c hr => Ru.pnorm_any W A (f d) k c hr.len hr.runs (by rw [← hr.len]; have := hl d; omega))
 have hbl := hown.lt
 have hlen := hown.len (t := 118) (e := 69) Tryz.underlying118 3
 have hkn := hown.size_le
 obtain ⟨kn, hknD⟩ : ∃ kn, Maps.size D = kn := ⟨_, rfl⟩
 have HKN := Lib.hid hknD
 rw [hknD] at hlen hkn
 clear hh hf hs hown hknD hl
 generalize hN : (fun d => Ru.nrm (f d)) = N at *
 have HNF : Hid (∀ d, Ru.nrm (f d) = N d) := Lib.hid (fun d => by rw [← hN])
 clear hN
 go_enter Tryz.func92, Tryz.ntmps92
 go_wp2_with (first
   | (at_make
      refine wpList_make_own _ rfl _ _ 28 rfl w.heap.size 71 i0 (.agg #[.int .u16 0, .slice none 0 0]) 2 Tryz.underlying28 hi0 hz0 hz1 _ _ _ kn rfl rfl rfl (by rw [hz2]; omega) (by simp only [maxLen]; omega) (Nat.le_refl _) ?_
      intro w1 ho1 hg1
      have HO1 := Lib.hid ho1
      have HG1 := Lib.hid hg1
      have HWN1 := Lib.hid (HWN.out.kept hg1 (fun e => by cases e))
      clear ho1 hg1)
   | (at_range; refine wpList_range_own _ rfl _ 118 rfl 32 69 law16 Tryz.underlying118 _ b n _ rfl HWN1.out ?_; intro w0 hrg0 hg0 hs0)
   | go_in)
 have HR0 := Lib.hid hrg0
 have HB0 : Hid (Below w.heap.size w w0) := Lib.hid (((Below.refl _ w).grown HG1.out (Nat.le_refl _) (fun j hj => by cases hj)).grown hg0 HG1.out.size (fun j hj => by cases hj))
 have HS0 := Lib.hid hs0
 have HO2 : Hid (w0.ownsRow w.heap.size 71 2 (.slice (some ⟨w.heap.size, 0, none⟩) 0 kn) 0 (cv [])) := Lib.hid (HO1.out.kept hg0 (.inr (fun e => by cases e)))
 have hw1 := HG1.out.size
 have HGS : Hid (GatherS N g (Maps.has D) []) := Lib.hid (gatherN_start HH.out HSL.out (fun d hd => by rw [← HNF.out]; exact HNZ.out d hd))
 clear hrg0 hg0 hs0 hlen
 go_frame
 go_loopw [3] (fun v wr => ∃ (left : Lit → Bool) (cnt : Nat) (ps : List PV) (m : List Part) (A : Option Addr) (k c : Nat), v = .slice A k c ∧ m.length = k ∧ k + cnt ≤ kn ∧ wr.ranges Tryz.prog 32 valS b w1.heap.size n D left cnt ∧ GatherS N g left m ∧ Match wr ps m ∧
     ApartR wr w1.heap.size ps (Value.slice A k c).ownBlock ∧ wr.ownsRow w.heap.size 71 2 (.slice A k c) k (cv ps) ∧ Below w.heap.size w wr ∧ w1.heap.size < wr.heap.size) (fun _ wr => wr.rangeLeft b w1.heap.size)
 case atStart => exact ⟨_, _, [], [], _, 0, kn, rfl, rfl, by rw [HKN.out]; omega, HR0.out, HGS.out, Match.nil_ _, (fun p hp => by cases hp), HO2.out, HB0.out, by rw [HS0.out]; exact Nat.lt_succ_self _⟩
 case round =>
   obtain ⟨left, cnt, ps, m, A, k, c, rfl, hm, hkn2, hrg, hga, hma, hap, ho, hw, hws⟩ := hrel
   have HM := Lib.hid hm
   have HG := Lib.hid hga
   have HMA := Lib.hid hma
   have HAP := Lib.hid hap
   have HO := Lib.hid ho
   have HW := Lib.hid hw
   have HRL := Lib.hid hrg.left_eq
   have HNE := Lib.hid (neS_iter hrg ho)
   have HOF := Lib.hid (ownS_from ho)
   clear hm hga hma hap ho hw
   go_wp2_with (first
     | (at_next; refine wpList_nextS rfl _ rfl b w1.heap.size n _ _ _ rfl hrg ?_ ?_)
     | go_in)
   · intro hc0 hl0
     have HE := Lib.hid hl0
     clear hrg
     go_wp2_with fail
     refine (hsort wr w.heap.size A k c ps (HMA.out.1.trans HM.out) (by omega) HO.out).mono ?_
     rintro e w2 ⟨rfl, s, hp, hs, ho2, hg2⟩
     have HS := Lib.hid ((made_end HG.out HF.out HE.out HMA.out hp hs).grown hg2 (HAP.out.apart.perm hp))
     have HL : Hid ((listC N).length = k) := Lib.hid (by rw [← HS.out.1, hp.length_eq, HMA.out.1]; exact HM.out)
     have HO2 := Lib.hid ho2
     have HW2 : Hid (Below w.heap.size w w2) := Lib.hid (HW.out.grown hg2 HW.out.size HOF.out)
     clear hp hs ho2 hg2
     go_wp2
     go_ret
     exact ⟨A, k, c, s, rfl, HL.out, HO2.out, HS.out, HW2.out⟩
   · intro x sl wn cnt1 hwx hlx hat hrg1 hlt hg1 hs1 hen
     obtain ⟨d, rfl, hd, hR, hRB⟩ := entryS HH.out HSL.out hwx hat
     have HW1 : Hid (Below w.heap.size w wn) := Lib.hid (HW.out.grown hg1 HW.out.size (fun j hj => by cases hj; exact hw1))
     have HO1 := Lib.hid (HO.out.kept hg1 HNE.out)
     have HMA1 := Lib.hid (HMA.out.grown hg1 HAP.out.iter)
     have HAP1 := Lib.hid (HAP.out.up hg1.size)
     have CN := HNM.out wn sl.adr d sl.len sl.cap (hR.up HW1.out)
     have HLX := Lib.hid hlx
     have HR1 := Lib.hid hrg1
     have hsn : w1.heap.size < wn.heap.size := by rw [hs1]; exact hws
     clear hrg hrg1 hat hg1 hwx hR hRB hs1 hlx hws
     go_wp2_with fail
     refine CN.mono ?_
     intro e w2 hp
     obtain ⟨A3, n3, c3, rfl, hR3, hb3, hnew⟩ := runs_post hp (HNO.out d)
     rw [HNF.out d] at hR3
     have HR3 := Lib.hid hR3
     have HLN3 := Lib.hid hR3.len
     have HNW := Lib.hid hnew
     have HW2 := Lib.hid (HW1.out.trans (hb3.mono HW1.out.size))
     have HO2 := Lib.hid (Dt.own_kept HO1.out hb3)
     have HMA2 := Lib.hid (HMA1.out.up hb3)
     have HAP2 := Lib.hid (HAP1.out.up hb3.size)
     have HR2 := Lib.hid (HR1.out.kept (bel_grown hb3 none) (fun e => by cases e) (fun e => by cases e))
     have hs2 : w1.heap.size < w2.heap.size := Nat.lt_of_lt_of_le hsn hb3.size
     have HOB := Lib.hid (fun j hj => (HO1.out.lt j hj).2)
     clear hp hR3 hnew hb3 CN
     by_cases h0 : n3 = 0
     · have HG1 := Lib.hid (HG.out.skip (d := d) (List.eq_nil_of_length_eq_zero (by rw [HLN3.out]; exact h0)))
       have dz : decide ((0 : Int) < (n3 : Int)) = false := decide_eq_false (by omega)
       clear hen
       go_wp2
       refine ⟨⟨_, cnt1, ps, m, A, k, c, rfl, HM.out, by omega, HR2.out, HG1.out, HMA2.out, HAP2.out, HO2.out, HW2.out, hs2⟩, ?_⟩
       rw [HR2.out.left_eq, HRL.out]
       exact hlt
     · have hfd : N d ≠ [] := fun e => h0 (by rw [← HLN3.out, e]; rfl)
       have HG1 := Lib.hid (HG.out.step hd hfd HLX.out)
       have dz : decide ((0 : Int) < (n3 : Int)) = true := decide_eq_true (by omega)
       obtain ⟨ad3, had3⟩ : ∃ ad3, A3 = some ad3 := by
         cases A3 with
         | none => exact absurd (HR3.out.nil rfl).1 h0
         | some ad3 => exact ⟨ad3, rfl⟩
       have HAD := Lib.hid had3
       have hblk : wn.heap.size ≤ ad3.block ∧ ad3.block < w2.heap.size := by
         refine ⟨HNW.out ad3 had3, ?_⟩
         obtain ⟨ad', e, hB, _⟩ := HR3.out.runs.2 (by rw [Ru.rv_length, HLN3.out]; omega)
         rw [had3] at e
         obtain rfl := Option.some.inj e
         exact hB
       have HBA : Hid (Below w2.heap.size w2 (w2.alloc (.cells #[.int .u16 (d : Int), .slice A3 n3 c3] 71))) := Lib.hid (Dt.below_new _ _)
       have HMA3 : Hid (Match (w2.alloc (.cells #[.int .u16 (d : Int), .slice A3 n3 c3] 71)) (ps ++ [⟨d, A3, n3, c3⟩]) (m ++ [(d, N d)])) := Lib.hid ((HMA2.out.up HBA.out).snoc (by
         have q := HR3.out.up HBA.out
         exact ⟨rfl, hd, q.len, q.nil, q.cap, q.max, q.runs⟩))
       have HAP3 : Hid (ApartR (w2.alloc (.cells #[.int .u16 (d : Int), .slice A3 n3 c3] 71)) w1.heap.size (ps ++ [⟨d, A3, n3, c3⟩]) (Value.slice A k c).ownBlock) := Lib.hid ((HAP2.out.up HBA.out.size).snoc had3 (by omega) (Nat.lt_of_lt_of_le hblk.2 HBA.out.size) (fun e => by
         have := HOB.out ad3.block e.symm
         omega))
       have HOA := Lib.hid (HO2.out.alloc (.cells #[.int .u16 (d : Int), .slice A3 n3 c3] 71))
       have HWA : Hid (Below w.heap.size w (w2.alloc (.cells #[.int .u16 (d : Int), .slice A3 n3 c3] 71))) := Lib.hid (bel_alloc _ HW2.out)
       have HRA := Lib.hid (HR2.out.alloc (.cells #[.int .u16 (d : Int), .slice A3 n3 c3] 71))
       clear hen had3
       go_wp2_with (first
         | (at_builtin; refine wpList_part rfl (.tmp 21) (.tmp 25) rfl rfl _ w.heap.size k (.slice A k c) ps ⟨w2.heap.size, 0, none⟩ ⟨d, A3, n3, c3⟩ rfl rfl HOA.out (part_at w2 ⟨d, A3, n3, c3⟩) (by omega) HWA.out.size ?_; intro A4 c4 w3 ho3 hg3 hl3)
         | go_in)
       have HR4 := Lib.hid (HRA.out.kept hg3 (fun e => by have := HOF.out b e.symm; omega) (fun e => by rcases HNE.out with h | h; rw [h] at e; cases e; exact h e.symm))
       have HW3 : Hid (Below w.heap.size w w3) := Lib.hid (HWA.out.grown hg3 HWA.out.size HOF.out)
       have hlen : (m ++ [(d, N d)]).length = k + 1 := by rw [List.length_append, HM.out]; rfl
       have hs3 : w1.heap.size < w3.heap.size := Nat.lt_of_lt_of_le hs2 (Nat.le_trans HBA.out.size hg3.size)
       refine ⟨⟨_, cnt1, ps ++ [⟨d, A3, n3, c3⟩], m ++ [(d, N d)], A4, k + 1, c4, rfl, hlen, by omega, HR4.out, HG1.out, HMA3.out.grown hg3 HAP3.out.apart, HAP3.out.grown hg3.size hl3, ho3, HW3.out, hs3⟩, ?_⟩
       rw [HR4.out.left_eq, HRL.out]
       exact hlt
end Go.Proofs.YtgaegfddobpomaaGreat.Cx

namespace Go.Proofs
open Go.Shelf
def Tryz.sortP_ren : Go.Shelf.Ren := ⟨fun | 15 => 163 | 14 => 162 | 28 => 185 | 29 => 186 | 20 => 177 | 21 => 178 | 22 => 179 | 23 => 180 | 24 => 181 | 25 => 182 | 26 => 183 | 27 => 184 | 46 => 205 | 47 => 206 | 48 => 207 | 49 => 208 | 50 => 209 | 57 => 217 | n => n, fun | 22 => 27 | 24 => 71 | 25 => 152 | 3 => 3 | 39 => 166 | 0 => 0 | 53 => 193 | 55 => 33 | 4 => 4 | 46 => 186 | 45 => 185 | 50 => 190 | 5 => 5 | 9 => 9 | 66 => 206 | 70 => 210 | 76 => 216 | 77 => 217 | n => n, fun | n => n⟩
theorem Tryz.sortP : Go.Proofs.SlLaysF0.n14 Tryz.prog Tryz.sortP_ren := {
 mixed := by kernel_rfl
 f14 := ⟨Tryz.f162.name, by decide, Tryz.func162.trans (congrArg some (by kernel_rfl))⟩
 f15 := Tryz.func163.trans (congrArg some (by kernel_rfl))
 f20 := ⟨Tryz.f177.name, by decide, Tryz.func177.trans (congrArg some (by kernel_rfl))⟩
 f21 := ⟨Tryz.f178.name, by decide, Tryz.func178.trans (congrArg some (by kernel_rfl))⟩
 f22 := ⟨Tryz.f179.name, by decide, Tryz.func179.trans (congrArg some (by kernel_rfl))⟩
 f23 := ⟨Tryz.f180.name, by decide, Tryz.func180.trans (congrArg some (by kernel_rfl))⟩
 f24 := ⟨Tryz.f181.name, by decide, Tryz.func181.trans (congrArg some (by kernel_rfl))⟩
 f25 := ⟨Tryz.f182.name, by decide, Tryz.func182.trans (congrArg some (by kernel_rfl))⟩
 f26 := ⟨Tryz.f183.name, by decide, Tryz.func183.trans (congrArg some (by kernel_rfl))⟩
 f27 := ⟨Tryz.f184.name, by decide, Tryz.func184.trans (congrArg some (by kernel_rfl))⟩
 f28 := Tryz.func185.trans (congrArg some (by kernel_rfl))
 f29 := Tryz.func186.trans (congrArg some (by kernel_rfl))
 f46 := ⟨Tryz.f205.name, by decide, Tryz.func205.trans (congrArg some (by kernel_rfl))⟩
 f47 := Tryz.func206.trans (congrArg some (by kernel_rfl))
 f48 := Tryz.func207.trans (congrArg some (by kernel_rfl))
 f49 := ⟨Tryz.f208.name, by decide, Tryz.func208.trans (congrArg some (by kernel_rfl))⟩
 f50 := ⟨Tryz.f209.name, by decide, Tryz.func209.trans (congrArg some (by kernel_rfl))⟩
 f57 := ⟨Tryz.f217.name, by decide, Tryz.func217.trans (congrArg some (by kernel_rfl))⟩
 t0 := Tryz.underlying0
 a0 := Tryz.isAgg0
 z0 := Tryz.sizeOf0
 v0 := Tryz.zeroValue0
 t3 := Tryz.underlying3
 a3 := Tryz.isAgg3
 z3 := Tryz.sizeOf3
 v3 := Tryz.zeroValue3
 t4 := Tryz.underlying4
 a4 := Tryz.isAgg4
 z4 := Tryz.sizeOf4
 v4 := Tryz.zeroValue4
 t5 := Tryz.underlying5
 a5 := Tryz.isAgg5
 z5 := Tryz.sizeOf5
 v5 := Tryz.zeroValue5
 t9 := Tryz.underlying9
 a9 := Tryz.isAgg9
 z9 := Tryz.sizeOf9
 v9 := Tryz.zeroValue9
 t22 := Tryz.underlying27
 a22 := Tryz.isAgg27
 z22 := Tryz.sizeOf27
 v22 := Tryz.zeroValue27
 t25 := Tryz.underlying152
 a25 := Tryz.isAgg152
 z25 := Tryz.sizeOf152
 v25 := Tryz.zeroValue152
 t39 := Tryz.underlying166
 a39 := Tryz.isAgg166
 z39 := Tryz.sizeOf166
 v39 := Tryz.zeroValue166
 t45 := Tryz.underlying185
 a45 := Tryz.isAgg185
 z45 := Tryz.sizeOf185
 v45 := Tryz.zeroValue185
 t46 := Tryz.underlying186
 a46 := Tryz.isAgg186
 z46 := Tryz.sizeOf186
 v46 := Tryz.zeroValue186
 t50 := Tryz.underlying190
 a50 := Tryz.isAgg190
 z50 := Tryz.sizeOf190
 v50 := Tryz.zeroValue190
 t53 := Tryz.underlying193
 a53 := Tryz.isAgg193
 z53 := Tryz.sizeOf193
 v53 := Tryz.zeroValue193
 t55 := Tryz.underlying33
 a55 := Tryz.isAgg33
 z55 := Tryz.sizeOf33
 v55 := Tryz.zeroValue33
 t66 := Tryz.underlying206
 a66 := Tryz.isAgg206
 z66 := Tryz.sizeOf206
 v66 := Tryz.zeroValue206
 t70 := Tryz.underlying210
 a70 := Tryz.isAgg210
 z70 := Tryz.sizeOf210
 v70 := Tryz.zeroValue210
 t76 := Tryz.underlying216
 a76 := Tryz.isAgg216
 z76 := Tryz.sizeOf216
 v76 := Tryz.zeroValue216
 t77 := Tryz.underlying217
 a77 := Tryz.isAgg217
 z77 := Tryz.sizeOf217
 v77 := Tryz.zeroValue217 }
end Go.Proofs

namespace Go.Proofs.YtgaegfddobpomaaGreat.Cx
open Go.ChangeShapes Go.WideShapes Go.ChangeAt Go.RowKit Go.Shelf
set_option linter.unusedVariables false
set_option maxRecDepth 4000
theorem nanP_any (w : World) (x : Nat) : Calls Tryz.prog 164 #[.int .u16 (x : Int)] w fun e w' => e = .returned (.bool false) ∧ w' = w := by
 have h : ((x : Int) != (x : Int)) = false := by rw [bne_eq_false_iff_eq]
 generalize ((x : Nat) : Int) = y at *
 go_enter Tryz.func164, Tryz.ntmps164
 go_wp2
 go_ret
 exact ⟨rfl, rfl⟩
def cfP (x y : PV) : Int := Lib.compareInt x.dev y.dev
theorem compareP_any (w : World) (x y : Nat) : Calls Tryz.prog 131 #[.int .u16 (x : Int), .int .u16 (y : Int)] w fun e w' => e = .returned (.int .i64 (Lib.compareInt x y)) ∧ w' = w := by
 have hx := fun W => nanP_any W x
 have hy := fun W => nanP_any W y
 unfold Lib.compareInt
 by_cases h1 : (x : Int) < y
 · rw [if_pos h1]
   generalize ((x : Nat) : Int) = x at *
   generalize ((y : Nat) : Int) = y at *
   go_enter Tryz.func131, Tryz.ntmps131
   go_wp2_with fail
   refine (hx _).mono ?_
   rintro e w1 ⟨rfl, rfl⟩
   go_wp2_with fail
   refine (hy _).mono ?_
   rintro e w1 ⟨rfl, rfl⟩
   go_wp2
   go_ret
   exact ⟨rfl, rfl⟩
 · rw [if_neg h1]
   have d1 : decide ((x : Int) < y) = false := decide_eq_false h1
   by_cases h2 : (x : Int) > y
   · rw [if_pos h2]
     have d2 : decide ((y : Int) < x) = true := decide_eq_true h2
     clear h1
     generalize ((x : Nat) : Int) = x at *
     generalize ((y : Nat) : Int) = y at *
     go_enter Tryz.func131, Tryz.ntmps131
     go_wp2_with fail
     refine (hx _).mono ?_
     rintro e w1 ⟨rfl, rfl⟩
     go_wp2_with fail
     refine (hy _).mono ?_
     rintro e w1 ⟨rfl, rfl⟩
     go_wp2
     go_ret
     exact ⟨rfl, rfl⟩
   · rw [if_neg h2]
     have d2 : decide ((y : Int) < x) = false := decide_eq_false h2
     clear h1 h2
     generalize ((x : Nat) : Int) = x at *
     generalize ((y : Nat) : Int) = y at *
     go_enter Tryz.func131, Tryz.ntmps131
     go_wp2_with fail
     refine (hx _).mono ?_
     rintro e w1 ⟨rfl, rfl⟩
     go_wp2_with fail
     refine (hy _).mono ?_
     rintro e w1 ⟨rfl, rfl⟩
     go_wp2
     go_ret
     exact ⟨rfl, rfl⟩
def encP (p : PV) : List Value := [.int .u16 (p.dev : Int), .slice p.adr p.len p.cap]
instance : Inhabited PV := ⟨⟨0, none, 0, 0⟩⟩
theorem closureP_any (x y : PV) (W : World) : Calls Tryz.prog 130 #[.agg #[.int .u16 (x.dev : Int), .slice x.adr x.len x.cap], .agg #[.int .u16 (y.dev : Int), .slice y.adr y.len y.cap]] W fun e w' => e = .returned (.int .i64 (cfP x y)) ∧ ∃ q os', w' = Sort.grow (W.drewN q) os' := by
 have hcon : ∀ W', Calls Tryz.prog 131 #[.int .u16 (x.dev : Int), .int .u16 (y.dev : Int)] W' fun e w' => e = .returned (.int .i64 (cfP x y)) ∧ w' = W' := fun W' => compareP_any W' x.dev y.dev
 generalize cfP x y = r at hcon ⊢
 go_enter Tryz.func130, Tryz.ntmps130
 go_wp2_with (go_at_call 131; refine (hcon _).mono ?_; rintro e w' ⟨rfl, rfl⟩)
 go_ret
 exact ⟨rfl, 0, _, by rw [Sort.alloc_eq_grow, Sort.alloc_eq_grow, Sort.grow_grow]; rfl⟩
theorem ltP (x y : PV) : ltOf cfP x y = decide (x.dev < y.dev) := by
 unfold ltOf cfP Lib.compareInt
 by_cases h1 : (x.dev : Int) < y.dev
 · have : x.dev < y.dev := by omega
   simp [this]
 · by_cases h2 : (y.dev : Int) < x.dev
   · have h3 : ¬ x.dev < y.dev := by omega
     have h4 : y.dev < x.dev := by omega
     simp [h3, h4]
   · have h3 : ¬ x.dev < y.dev := by omega
     have h4 : ¬ y.dev < x.dev := by omega
     simp [h3, h4]
theorem swoP : Sort.SWO (ltOf cfP) where
 irrefl x := by rw [ltP]; simp
 trans x y z h1 h2 := by rw [ltP] at *; simp at *; omega
 ntrans x y z h1 h2 := by rw [ltP] at *; simp at *; omega
theorem flat_cv (l : List PV) (j : Nat) (hj : j < l.length * 2) : (cv l)[j]? = some (Sort.flatK encP 2 l.toArray)[j]! := by
 rw [Sort.get_flatK _ _ _ _ (by simpa using hj)]
 have hk : j / 2 < l.length := by omega
 have hg : l[j / 2]? = some l[j / 2] := List.getElem?_eq_getElem hk
 obtain ⟨g1, g2⟩ := cv_get hg
 have e : l.toArray[j / 2]! = l[j / 2] := by rw [getElem!_pos _ _ (by simpa using hk)]; simp
 rw [e]
 rcases Nat.mod_two_eq_zero_or_one j with h | h
 · rw [h]
   have : j / 2 * 2 = j := by omega
   rw [this] at g1
   simpa [encP] using g1
 · rw [h]
   have : j / 2 * 2 + 1 = j := by omega
   rw [this] at g2
   simpa [encP] using g2
theorem lenP (n : Nat) (hn : n < 4611686018427387904) (w : World) : Calls Tryz.prog 163 #[.int .u64 (n : Int)] w fun e w' => e = .returned (.int .i64 (Lib.bitLen n : Nat)) ∧ w' = w := by
 have h := Any.bits_Len (SlLaysF0.n15.bits (P := Tryz.prog) (ρ := Tryz.sortP_ren) { Tryz.sortP with }) (n : Int) w (by omega) (by omega)
 change Calls Tryz.prog 163 _ _ _ at h
 rwa [Int.toNat_natCast] at h
theorem sortfP (g cap : Nat) (d : Array PV) (w : World) (hH : Sort.HoldsK encP 2 w g 0 d) (hlt : g < w.heap.size) (hsz : d.size < 4611686018427387904) :
   Calls Tryz.prog 129 #[.slice (some ⟨g, 0, none⟩) d.size cap, .func (.func 130) #[] #[]] w fun e w' =>
     e = .returned (.tuple #[]) ∧ ∃ d' n os, Sort.PermIn 0 d.size d d' ∧ Sort.SortedIn (ltOf cfP) 0 d.size d' ∧ w' = sortWorldK encP 2 w g 0 n d' os := by
 have eg : ∀ args w, (callFunc 130 args).run Tryz.prog w = .ok (.enter 130 args) w := enters_of Tryz.func130 (by kernel_rfl) rfl
 have hlim : Lib.bitLen d.size < 4611686018427387904 := Nat.lt_of_le_of_lt (Lib.bitLen_le d.size 62 (by omega) (by omega)) (by omega)
 have hp := AnyQ.pdqsortCmpFunc_all Tryz.sortP 2 Tryz.isAgg71 Tryz.sizeOf71 encP cfP 130 #[] swoP g 0 cap d w eg (fun m os dk _ x y => closureP_any x y _) ⟨fun _ => rfl, fun x v hv => by simp [encP] at hv; rcases hv with rfl | rfl <;> rfl, hH, hlt⟩ (d.size + 1) 0 d.size (Lib.bitLen d.size) d w (by omega) rfl (SWK.start hH) (Nat.zero_le _) (Nat.le_refl _) hsz hlim (Or.inl rfl)
 change Calls Tryz.prog 162 _ _ _ at hp
 have hl := lenP d.size hsz w
 have wr : IntKind.u64.wrap (d.size : Int) = d.size := by simp [IntKind.wrap, IntKind.bits, IntKind.signed]; omega
 have hfin := Sort.pdq_sorts (ltOf cfP) swoP d 0 d.size (Lib.bitLen d.size) true true (Nat.zero_le _) (Nat.le_refl _) (Or.inl rfl)
 clear hH
 go_enter Tryz.func129, Tryz.ntmps129
 go_wp2_with (first | (go_at_call 163; refine hl.mono ?_; rintro e w' ⟨rfl, rfl⟩) | (go_at_call 162; refine hp.mono ?_; rintro e w' ⟨rfl, n, os, rfl⟩))
 go_end0
 exact ⟨rfl, _, n, os, hfin.1, hfin.2, rfl⟩
theorem sortP_some (w : World) (B g cap n : Nat) (d : List PV) (hn : d.length = n) (h62 : n < 4611686018427387904) (h : w.ownsRow B 71 2 (.slice (some ⟨g, 0, none⟩) n cap) n (cv d)) :
   Calls Tryz.prog 129 #[.slice (some ⟨g, 0, none⟩) n cap, .func (.func 130) #[] #[]] w fun e w' => e = .returned (.tuple #[]) ∧ ∃ m : List PV, m.Perm d ∧ m.Pairwise (fun p q => p.dev ≤ q.dev) ∧ w'.ownsRow B 71 2 (.slice (some ⟨g, 0, none⟩) n cap) n (cv m) ∧ w.grownBy w' (some g) := by
 subst hn
 obtain ⟨hlen, ⟨hz, _⟩ | ⟨g', cap', cur, e, hB, hheap, hle, hmx, hsz, htk⟩⟩ := h
 · cases hz
 · cases e
   have hlt : g < w.heap.size := (Array.getElem?_eq_some_iff.1 hheap).1
   have hcell : ∀ j, j < d.length * 2 → cur[j]? = (cv d)[j]? := fun j hj => by
     rw [← htk, List.getElem?_take, if_pos hj]
     simp
   have hH : Sort.HoldsK encP 2 w g 0 d.toArray := fun j hj => by
     have hj' : j < d.length * 2 := by simpa using hj
     refine ⟨?_, by simp [World.frozen?, hheap]⟩
     rw [Nat.zero_add, show id (Sort.flatK encP 2 d.toArray)[j]! = (Sort.flatK encP 2 d.toArray)[j]! from rfl, ← flat_cv d j hj', ← hcell j hj']
     simp [World.cell?, hheap]
   have hcon := sortfP g cap d.toArray w hH hlt (by simpa using h62)
   rw [List.size_toArray] at hcon
   refine hcon.mono ?_
   rintro e w' ⟨rfl, d', q, os, hp, hs, rfl⟩
   have h1 : d'.size = d.length := by simpa using hp.1
   refine ⟨rfl, d'.toList, ?_, ?_, ?_, ?_⟩
   · have h3 := hp.2.2
     have e1 : d'.extract 0 d.length = d' := by rw [← h1]; simp
     have e2 : d.toArray.extract 0 d.length = d.toArray := by simp
     rw [e1, e2] at h3
     exact h3
   · refine List.pairwise_iff_getElem.2 fun i j hi hj hij => ?_
     rw [Array.length_toList] at hi hj
     have := hs i j (Nat.zero_le _) hij (by omega)
     rw [ltP, getElem!_pos d' j hj, getElem!_pos d' i hi] at this
     simpa using this
   · refine ⟨by rw [cv_length, Array.length_toList, h1], .inr ⟨g, cap, Sort.putCells id 0 (Sort.flatK encP 2 d') cur, rfl, hB, ?_, hle, hmx, by simp [Sort.putCells, hsz], ?_⟩⟩
     · show ((w.heap.modify g (Sort.onCells (Sort.putCells id 0 (Sort.flatK encP 2 d')))) ++ os)[g]? = _
       rw [Array.getElem?_append_left (by simpa using hlt), Array.getElem?_modify, if_pos rfl, hheap]
       rfl
     · apply List.ext_getElem?
       intro j
       rw [List.getElem?_take]
       by_cases hj : j < d.length * 2
       · rw [if_pos hj]
         have hf := flat_cv d'.toList j (by rw [Array.length_toList, h1]; exact hj)
         rw [Array.toArray_toList] at hf
         rw [hf]
         have hc : cur[j]? = some cur[j] := Array.getElem?_eq_getElem (by omega)
         simp [Sort.putCells, hc, h1, hj]
       · rw [if_neg hj]
         exact (List.getElem?_eq_none (by rw [cv_length, Array.length_toList, h1]; omega)).symm
   · refine ⟨rfl, rfl, rfl, ?_, fun k hk hne => ?_⟩
     · show w.heap.size ≤ ((w.heap.modify g _) ++ os).size
       simp
     · show ((w.heap.modify g _) ++ os)[k]? = _
       rw [Array.getElem?_append_left (by simpa using hk), Array.getElem?_modify, if_neg (fun e => hne (by rw [e]))]
theorem insP_nil (w : World) (fv : Value) : Calls Tryz.prog 177 #[.slice none 0 0, .int .i64 0, .int .i64 0, fv] w fun e w' => e = .returned (.tuple #[]) ∧ w' = w := by
 go_enter Tryz.func177, Tryz.ntmps177
 go_wp2
 refine wp_loop_rounds 1 ?_
 rw [rounds_succ]
 go_wp2
 go_end0
 exact ⟨rfl, rfl⟩
theorem pdqP_nil (w : World) (lim : Int) (fv : Value) : Calls Tryz.prog 162 #[.slice none 0 0, .int .i64 0, .int .i64 0, .int .i64 lim, fv] w fun e w' => e = .returned (.tuple #[]) ∧ w' = w := by
 have hi := fun W => insP_nil W fv
 go_enter Tryz.func162, Tryz.ntmps162
 go_wp2
 refine wp_loop_rounds 1 ?_
 rw [rounds_succ]
 go_wp2_with (go_at_call 177; refine (hi _).mono ?_; rintro e w' ⟨rfl, rfl⟩)
 (try simp only [Exit.inBlock, Exit.then]); refine bodyPost_ret (results_none rfl _ _ _) rfl ?_
 exact ⟨rfl, rfl⟩
theorem sortP_nil (w : World) : Calls Tryz.prog 129 #[.slice none 0 0, .func (.func 130) #[] #[]] w fun e w' => e = .returned (.tuple #[]) ∧ w' = w := by
 have hl := fun W => lenP 0 (by decide) W
 have hp := fun lim W => pdqP_nil W lim (.func (.func 130) #[] #[])
 go_enter Tryz.func129, Tryz.ntmps129
 go_wp2_with (first | (go_at_call 163; refine (hl _).mono ?_; rintro e w' ⟨rfl, rfl⟩) | (go_at_call 162; refine (hp _ _).mono ?_; rintro e w' ⟨rfl, rfl⟩))
 go_end0
 exact ⟨rfl, rfl⟩
theorem psorts : SortsP := by
 intro W B A k c ps hk h62 ho
 cases A with
 | none =>
   obtain ⟨_, _, h3⟩ := Dt.own_len ho
   obtain ⟨rfl, rfl⟩ := h3 rfl
   refine (sortP_nil W).mono ?_
   rintro e w' ⟨rfl, rfl⟩
   obtain rfl := List.eq_nil_of_length_eq_zero hk
   exact ⟨rfl, [], List.Perm.refl _, List.Pairwise.nil, ho, Ru.turn_refl _ _⟩
 | some ad =>
   have hsh : ∃ g, ad = ⟨g, 0, none⟩ := by
     rcases ho.2 with ⟨h, _⟩ | ⟨g, cap, cur, h, _⟩
     · cases h
     · cases h; exact ⟨g, rfl⟩
   obtain ⟨g, rfl⟩ := hsh
   exact sortP_some W B g c k ps hk h62 ho
end Go.Proofs.YtgaegfddobpomaaGreat.Cx

namespace Go.Proofs.YtgaegfddobpomaaGreat.Cx
open Go.ChangeShapes Go.WideShapes Go.ChangeAt Go.RowKit Go.Maps
set_option linter.unusedVariables false
set_option maxRecDepth 4000
theorem cpost_up {w W V : World} {m : List Part} {e : Ending} (hb : Below w.heap.size w W) (h : CtxPost W m e V) : CtxPost w m e V := by
 obtain ⟨A, n, c, ps, h1, h2, h3, h4, h5⟩ := h
 exact ⟨A, n, c, ps, h1, h2, Dt.own_less h3 hb.size, h4, hb.trans (h5.mono hb.size)⟩
theorem raw_short {a : List Part} {k : Nat} (h : Wide k a) (d : Nat) : (rawC a d).length ≤ k := by
 have q := raw_whole (fun _ => []) a d
 have q2 := h.2
 simp only [List.length_nil] at q
 show (rawF (fun _ => []) a d).length ≤ k
 omega
set_option maxHeartbeats 4000000 in
theorem pnorm_any (w : World) (A1 : Option Addr) (a : List Part) (n1 c1 : Nat) (h1 : CtxAt w A1 a n1 c1) (ha : Wide 268435456 a) :
   Calls Tryz.prog 69 #[.slice A1 n1 c1] w (CtxPost w (normC a)) := by
 have CB := pbydev_any w A1 a n1 c1 h1 ha
 have HT : Hid (Tells (fun d => Ru.nrm (rawC a d))) := Lib.hid (by rw [nrm_rawC]; exact tells_runs h1.fit)
 have HL := Lib.hid (fun d => raw_short ha d)
 have hn1 : n1 ≤ 268435456 := by rw [← h1.len]; exact ha.1
 rw [← norm_raw]
 clear h1 ha
 go_enter Tryz.func69, Tryz.ntmps69
 go_wp2_with fail
 refine CB.mono ?_
 rintro e w1 ⟨rfl, hM, hb⟩
 have CI := pinord_any psorts w1 _ _ _ _ hM.mapS HT.out (fun d => by have := HL.out d; omega) (by omega)
 have HB := Lib.hid hb
 clear CB hM hb
 go_wp2_with fail
 refine CI.mono ?_
 intro e w2 hp
 obtain ⟨A2, n2, c2, ps, rfl, h2⟩ := cpost_up HB.out hp
 have HP := Lib.hid h2
 clear hp h2 CI
 go_wp2
 go_ret
 exact ⟨A2, n2, c2, ps, rfl, HP.out⟩
end Go.Proofs.YtgaegfddobpomaaGreat.Cx
