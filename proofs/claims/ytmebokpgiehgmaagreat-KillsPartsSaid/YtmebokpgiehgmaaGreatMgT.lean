/- Words and contracts that the proofs of this seat stand on, part 20 of 22. -/
import Derived.Test.YtmebokpgiehgmaaGreatMgL
import Derived.Test.YtmebokpgiehgmaaGreatMgS
import Derived.Shelf.SlSortCmp.WholeK
import Derived.Test.YtmebokpgiehgmaaGreatProg
import Derived.Test.YtmebokpgiehgmaaGreatMgG

/- The contract of the program's 'inOrder' of layer ctx: the context, in order, of the runs that a map of lists holds. Condition: at most 2^30 devices, each with at most 2^41 runs. -/
namespace Go.Proofs.YtmebokpgiehgmaaGreat.Cx
open Go.ChangeShapes Go.WideShapes Go.ChangeAt Go.RowKit Go.Maps
set_option linter.unusedVariables false
set_option maxRecDepth 4000

/-- a row of cells is no iterator. -/
theorem neS_iter {w : World} {b r n k c size e : Nat} {B : Nat} {D : DataW Value} {left : Lit → Bool} {cnt : Nat} {A : Option Addr} {xs : List Value} (h : w.ranges Tryz.prog 25 valS b r n D left cnt) (ho : w.ownsRow B e size (.slice A k c) k xs) :
    (Value.slice A k c).ownBlock = none ∨ (Value.slice A k c).ownBlock ≠ some r := by
  rcases ho.2 with ⟨h1, _⟩ | ⟨g, cap, cur, h1, _, h2, _⟩
  · cases h1; exact .inl rfl
  · cases h1
    right
    intro e
    have e2 : g = r := by simpa [Value.ownBlock] using e
    obtain ⟨es, clock, since, seen, c0, _, _, _, _, h3, _⟩ := h
    rw [← e2, h2] at h3
    cases h3
theorem ownS_from {w : World} {B k c size e : Nat} {A : Option Addr} {xs : List Value} (ho : w.ownsRow B e size (.slice A k c) k xs) : ∀ j, (Value.slice A k c).ownBlock = some j → B ≤ j := by
  intro j hj
  exact (ho.lt j hj).1
/-- parts whose runs lie behind block r, and apart from this row. -/
def ApartR (w : World) (r : Nat) (ps : List PV) (row : Option Nat) : Prop := ∀ p ∈ ps, ∃ ad, p.adr = some ad ∧ r < ad.block ∧ ad.block < w.heap.size ∧ some ad.block ≠ row
theorem ApartR.apart {w : World} {r : Nat} {ps : List PV} {row : Option Nat} (h : ApartR w r ps row) : Apart w ps row := fun p hp => by
  obtain ⟨ad, e, _, h2, h3⟩ := h p hp
  exact ⟨ad, e, h2, h3⟩
theorem ApartR.iter {w : World} {r : Nat} {ps : List PV} {row : Option Nat} (h : ApartR w r ps row) : Apart w ps (some r) := fun p hp => by
  obtain ⟨ad, e, h1, h2, _⟩ := h p hp
  exact ⟨ad, e, h2, fun e2 => by injection e2 with e2; omega⟩
theorem ApartR.up {w w' : World} {r : Nat} {ps : List PV} {row : Option Nat} (h : ApartR w r ps row) (hs : w.heap.size ≤ w'.heap.size) : ApartR w' r ps row := fun p hp => by
  obtain ⟨ad, e, h1, h2, h3⟩ := h p hp
  exact ⟨ad, e, h1, Nat.lt_of_lt_of_le h2 hs, h3⟩
theorem ApartR.snoc {w : World} {r : Nat} {ps : List PV} {row : Option Nat} {p : PV} {ad : Addr} (h : ApartR w r ps row) (e : p.adr = some ad) (h1 : r < ad.block) (h2 : ad.block < w.heap.size) (hne : some ad.block ≠ row) : ApartR w r (ps ++ [p]) row := fun q hq => by
  rcases List.mem_append.1 hq with hq | hq
  · exact h q hq
  · obtain rfl := List.mem_singleton.1 hq
    exact ⟨ad, e, h1, h2, hne⟩
/-- the row has grown, where it lay or in a new block. -/
theorem ApartR.grown {w w' : World} {r : Nat} {ps : List PV} {row row' : Option Nat} (h : ApartR w r ps row) (hs : w.heap.size ≤ w'.heap.size) (hr : row' = row ∨ row' = some w.heap.size) : ApartR w' r ps row' := fun p hp => by
  obtain ⟨ad, e, h1, h2, h3⟩ := h p hp
  refine ⟨ad, e, h1, Nat.lt_of_lt_of_le h2 hs, ?_⟩
  rcases hr with rfl | rfl
  · exact h3
  · intro e2; injection e2 with e2; omega
theorem Apart.perm {w : World} {ps s : List PV} {row : Option Nat} (h : Apart w ps row) (hp : s.Perm ps) : Apart w s row := fun p hm => h p (hp.mem_iff.1 hm)
set_option maxHeartbeats 4000000 in
theorem pinord_any (hsort : SortsP) (w : World) (B b n : Nat) (f : Nat → List Run) (h : MapS w B b n f) (hf : Tells (fun d => Ru.nrm (f d))) (hl : ∀ d, (f d).length ≤ 2199023255552) (hn : n ≤ 1073741824) :
    Calls Tryz.prog 53 #[.map (some b)] w (CtxPost w (listC (fun d => Ru.nrm (f d)))) := by
  obtain ⟨hbB, D, g, hown, hh, hs⟩ := h
  obtain ⟨i0, hi0, hz0, hz1, hz2⟩ := info_parts part_info
  have HH := Lib.hid hh
  have HF := Lib.hid hf
  have HSL := Lib.hid hs
  have HWN := Lib.hid hown
  have HLN := Lib.hid hl
  have HNZ : Hid (∀ d, f d = [] → Ru.nrm (f d) = []) := Lib.hid (fun d hd => by rw [hd]; exact nrm_nil)
  have HNO : Hid (∀ d, Ru.InOrder (Ru.nrm (f d))) := Lib.hid (fun d => (Ru.nrm_spec _).1)
  have HNM : Hid (∀ W A d k c, RunsAt W A (f d) k c → Calls Tryz.prog 55 #[.slice A k c] W (Ru.RunPost W (Ru.nrm (f d)))) := Lib.hid (fun W A d k c hr => Ru.pnorm_any W A (f d) k c hr.len hr.runs (by rw [← hr.len]; have := hl d; omega))
  have hbl := hown.lt
  have hlen := hown.len (t := 71) (e := 42) Tryz.underlying71 3
  have hkn := hown.size_le
  obtain ⟨kn, hknD⟩ : ∃ kn, Maps.size D = kn := ⟨_, rfl⟩
  have HKN := Lib.hid hknD
  rw [hknD] at hlen hkn
  clear hh hf hs hown hknD hl
  generalize hN : (fun d => Ru.nrm (f d)) = N at *
  have HNF : Hid (∀ d, Ru.nrm (f d) = N d) := Lib.hid (fun d => by rw [← hN])
  clear hN
  go_enter Tryz.func53, Tryz.ntmps53
  go_wp2_with (first
    | (at_make
       refine wpList_make_own _ rfl _ _ 24 rfl w.heap.size 44 i0 (.agg #[.int .u16 0, .slice none 0 0]) 2 Tryz.underlying24 hi0 hz0 hz1 _ _ _ kn rfl rfl rfl (by rw [hz2]; omega) (by simp only [maxLen]; omega) (Nat.le_refl _) ?_
       intro w1 ho1 hg1
       have HO1 := Lib.hid ho1
       have HG1 := Lib.hid hg1
       have HWN1 := Lib.hid (HWN.out.kept hg1 (fun e => by cases e))
       clear ho1 hg1)
    | (at_range; refine wpList_range_own _ rfl _ 71 rfl 25 42 law16 Tryz.underlying71 _ b n _ rfl HWN1.out ?_; intro w0 hrg0 hg0 hs0)
    | go_in)
  have HR0 := Lib.hid hrg0
  have HB0 : Hid (Below w.heap.size w w0) := Lib.hid (((Below.refl _ w).grown HG1.out (Nat.le_refl _) (fun j hj => by cases hj)).grown hg0 HG1.out.size (fun j hj => by cases hj))
  have HS0 := Lib.hid hs0
  have HO2 : Hid (w0.ownsRow w.heap.size 44 2 (.slice (some ⟨w.heap.size, 0, none⟩) 0 kn) 0 (cv [])) := Lib.hid (HO1.out.kept hg0 (.inr (fun e => by cases e)))
  have hw1 := HG1.out.size
  have HGS : Hid (GatherS N g (Maps.has D) []) := Lib.hid (gatherN_start HH.out HSL.out (fun d hd => by rw [← HNF.out]; exact HNZ.out d hd))
  clear hrg0 hg0 hs0 hlen
  go_frame
  go_loopw [3] (fun v wr => ∃ (left : Lit → Bool) (cnt : Nat) (ps : List PV) (m : List Part) (A : Option Addr) (k c : Nat), v = .slice A k c ∧ m.length = k ∧ k + cnt ≤ kn ∧ wr.ranges Tryz.prog 25 valS b w1.heap.size n D left cnt ∧ GatherS N g left m ∧ Match wr ps m ∧
      ApartR wr w1.heap.size ps (Value.slice A k c).ownBlock ∧ wr.ownsRow w.heap.size 44 2 (.slice A k c) k (cv ps) ∧ Below w.heap.size w wr ∧ w1.heap.size < wr.heap.size) (fun _ wr => wr.rangeLeft b w1.heap.size)
  case atStart => exact ⟨_, _, [], [], _, 0, kn, rfl, rfl, by rw [HKN.out]; omega, HR0.out, HGS.out, Match.nil_ _, (fun p hp => by cases hp), HO2.out, HB0.out, by rw [HS0.out]; exact Nat.lt_succ_self _⟩
  case round =>
    obtain ⟨left, cnt, ps, m, A, k, c, rfl, hm, hkn2, hrg, hga, hma, hap, ho, hw, hws⟩ := hrel
    have HM := Lib.hid hm
    have HG := Lib.hid hga
    have HMA := Lib.hid hma
    have HAP := Lib.hid hap
    have HO := Lib.hid ho
    have HW := Lib.hid hw
    have HRL := Lib.hid hrg.left_eq
    have HNE := Lib.hid (neS_iter hrg ho)
    have HOF := Lib.hid (ownS_from ho)
    clear hm hga hma hap ho hw
    go_wp2_with (first
      | (at_next; refine wpList_nextS rfl _ rfl b w1.heap.size n _ _ _ rfl hrg ?_ ?_)
      | go_in)
    · intro hc0 hl0
      have HE := Lib.hid hl0
      clear hrg
      go_wp2_with fail
      refine (hsort wr w.heap.size A k c ps (HMA.out.1.trans HM.out) (by omega) HO.out).mono ?_
      rintro e w2 ⟨rfl, s, hp, hs, ho2, hg2⟩
      have HS := Lib.hid ((made_end HG.out HF.out HE.out HMA.out hp hs).grown hg2 (HAP.out.apart.perm hp))
      have HL : Hid ((listC N).length = k) := Lib.hid (by rw [← HS.out.1, hp.length_eq, HMA.out.1]; exact HM.out)
      have HO2 := Lib.hid ho2
      have HW2 : Hid (Below w.heap.size w w2) := Lib.hid (HW.out.grown hg2 HW.out.size HOF.out)
      clear hp hs ho2 hg2
      go_wp2
      go_ret
      exact ⟨A, k, c, s, rfl, HL.out, HO2.out, HS.out, HW2.out⟩
    · intro x sl wn cnt1 hwx hlx hat hrg1 hlt hg1 hs1 hen
      obtain ⟨d, rfl, hd, hR, hRB⟩ := entryS HH.out HSL.out hwx hat
      have HW1 : Hid (Below w.heap.size w wn) := Lib.hid (HW.out.grown hg1 HW.out.size (fun j hj => by cases hj; exact hw1))
      have HO1 := Lib.hid (HO.out.kept hg1 HNE.out)
      have HMA1 := Lib.hid (HMA.out.grown hg1 HAP.out.iter)
      have HAP1 := Lib.hid (HAP.out.up hg1.size)
      have CN := HNM.out wn sl.adr d sl.len sl.cap (hR.up HW1.out)
      have HLX := Lib.hid hlx
      have HR1 := Lib.hid hrg1
      have hsn : w1.heap.size < wn.heap.size := by rw [hs1]; exact hws
      clear hrg hrg1 hat hg1 hwx hR hRB hs1 hlx hws
      go_wp2_with fail
      refine CN.mono ?_
      intro e w2 hp
      obtain ⟨A3, n3, c3, rfl, hR3, hb3, hnew⟩ := runs_post hp (HNO.out d)
      rw [HNF.out d] at hR3
      have HR3 := Lib.hid hR3
      have HLN3 := Lib.hid hR3.len
      have HNW := Lib.hid hnew
      have HW2 := Lib.hid (HW1.out.trans (hb3.mono HW1.out.size))
      have HO2 := Lib.hid (Dt.own_kept HO1.out hb3)
      have HMA2 := Lib.hid (HMA1.out.up hb3)
      have HAP2 := Lib.hid (HAP1.out.up hb3.size)
      have HR2 := Lib.hid (HR1.out.kept (bel_grown hb3 none) (fun e => by cases e) (fun e => by cases e))
      have hs2 : w1.heap.size < w2.heap.size := Nat.lt_of_lt_of_le hsn hb3.size
      have HOB := Lib.hid (fun j hj => (HO1.out.lt j hj).2)
      clear hp hR3 hnew hb3 CN
      by_cases h0 : n3 = 0
      · have HG1 := Lib.hid (HG.out.skip (d := d) (List.eq_nil_of_length_eq_zero (by rw [HLN3.out]; exact h0)))
        have dz : decide ((0 : Int) < (n3 : Int)) = false := decide_eq_false (by omega)
        clear hen
        go_wp2
        refine ⟨⟨_, cnt1, ps, m, A, k, c, rfl, HM.out, by omega, HR2.out, HG1.out, HMA2.out, HAP2.out, HO2.out, HW2.out, hs2⟩, ?_⟩
        rw [HR2.out.left_eq, HRL.out]
        exact hlt
      · have hfd : N d ≠ [] := fun e => h0 (by rw [← HLN3.out, e]; rfl)
        have HG1 := Lib.hid (HG.out.step hd hfd HLX.out)
        have dz : decide ((0 : Int) < (n3 : Int)) = true := decide_eq_true (by omega)
        obtain ⟨ad3, had3⟩ : ∃ ad3, A3 = some ad3 := by
          cases A3 with
          | none => exact absurd (HR3.out.nil rfl).1 h0
          | some ad3 => exact ⟨ad3, rfl⟩
        have HAD := Lib.hid had3
        have hblk : wn.heap.size ≤ ad3.block ∧ ad3.block < w2.heap.size := by
          refine ⟨HNW.out ad3 had3, ?_⟩
          obtain ⟨ad', e, hB, _⟩ := HR3.out.runs.2 (by rw [Ru.rv_length, HLN3.out]; omega)
          rw [had3] at e
          obtain rfl := Option.some.inj e
          exact hB
        have HBA : Hid (Below w2.heap.size w2 (w2.alloc (.cells #[.int .u16 (d : Int), .slice A3 n3 c3] 44))) := Lib.hid (Dt.below_new _ _)
        have HMA3 : Hid (Match (w2.alloc (.cells #[.int .u16 (d : Int), .slice A3 n3 c3] 44)) (ps ++ [⟨d, A3, n3, c3⟩]) (m ++ [(d, N d)])) := Lib.hid ((HMA2.out.up HBA.out).snoc (by
          have q := HR3.out.up HBA.out
          exact ⟨rfl, hd, q.len, q.nil, q.cap, q.max, q.runs⟩))
        have HAP3 : Hid (ApartR (w2.alloc (.cells #[.int .u16 (d : Int), .slice A3 n3 c3] 44)) w1.heap.size (ps ++ [⟨d, A3, n3, c3⟩]) (Value.slice A k c).ownBlock) := Lib.hid ((HAP2.out.up HBA.out.size).snoc had3 (by omega) (Nat.lt_of_lt_of_le hblk.2 HBA.out.size) (fun e => by
          have := HOB.out ad3.block e.symm
          omega))
        have HOA := Lib.hid (HO2.out.alloc (.cells #[.int .u16 (d : Int), .slice A3 n3 c3] 44))
        have HWA : Hid (Below w.heap.size w (w2.alloc (.cells #[.int .u16 (d : Int), .slice A3 n3 c3] 44))) := Lib.hid (bel_alloc _ HW2.out)
        have HRA := Lib.hid (HR2.out.alloc (.cells #[.int .u16 (d : Int), .slice A3 n3 c3] 44))
        clear hen had3
        go_wp2_with (first
          | (at_builtin; refine wpList_part rfl (.tmp 21) (.tmp 25) rfl rfl _ w.heap.size k (.slice A k c) ps ⟨w2.heap.size, 0, none⟩ ⟨d, A3, n3, c3⟩ rfl rfl HOA.out (part_at w2 ⟨d, A3, n3, c3⟩) (by omega) HWA.out.size ?_; intro A4 c4 w3 ho3 hg3 hl3)
          | go_in)
        have HR4 := Lib.hid (HRA.out.kept hg3 (fun e => by have := HOF.out b e.symm; omega) (fun e => by rcases HNE.out with h | h; rw [h] at e; cases e; exact h e.symm))
        have HW3 : Hid (Below w.heap.size w w3) := Lib.hid (HWA.out.grown hg3 HWA.out.size HOF.out)
        have hlen : (m ++ [(d, N d)]).length = k + 1 := by rw [List.length_append, HM.out]; rfl
        have hs3 : w1.heap.size < w3.heap.size := Nat.lt_of_lt_of_le hs2 (Nat.le_trans HBA.out.size hg3.size)
        refine ⟨⟨_, cnt1, ps ++ [⟨d, A3, n3, c3⟩], m ++ [(d, N d)], A4, k + 1, c4, rfl, hlen, by omega, HR4.out, HG1.out, HMA3.out.grown hg3 HAP3.out.apart, HAP3.out.grown hg3.size hl3, ho3, HW3.out, hs3⟩, ?_⟩
        rw [HR4.out.left_eq, HRL.out]
        exact hlt
end Go.Proofs.YtmebokpgiehgmaaGreat.Cx

/- The laying of the sorting of parts: which functions and types of this program stand for those of the library's contract. -/
namespace Go.Proofs
open Go.Shelf
def Tryz.sortP_ren : Go.Shelf.Ren := ⟨fun | 15 => 57 | 14 => 86 | 28 => 80 | 29 => 81 | 20 => 99 | 21 => 100 | 22 => 101 | 23 => 102 | 24 => 103 | 25 => 104 | 26 => 105 | 27 => 106 | 46 => 118 | 47 => 93 | 48 => 94 | 49 => 119 | 50 => 120 | 57 => 124 | n => n, fun | 22 => 23 | 24 => 44 | 25 => 86 | 3 => 3 | 39 => 77 | 0 => 0 | 53 => 100 | 55 => 26 | 4 => 4 | 46 => 93 | 45 => 92 | 50 => 97 | 5 => 5 | 9 => 9 | 66 => 111 | 70 => 115 | 76 => 129 | 77 => 130 | n => n, fun | n => n⟩
theorem Tryz.sortP : Go.Proofs.SlLaysF0.n14 Tryz.prog Tryz.sortP_ren := {
  mixed := by kernel_rfl
  f14 := ⟨Tryz.f86.name, by decide, Tryz.func86.trans (congrArg some (by kernel_rfl))⟩
  f15 := Tryz.func57.trans (congrArg some (by kernel_rfl))
  f20 := ⟨Tryz.f99.name, by decide, Tryz.func99.trans (congrArg some (by kernel_rfl))⟩
  f21 := ⟨Tryz.f100.name, by decide, Tryz.func100.trans (congrArg some (by kernel_rfl))⟩
  f22 := ⟨Tryz.f101.name, by decide, Tryz.func101.trans (congrArg some (by kernel_rfl))⟩
  f23 := ⟨Tryz.f102.name, by decide, Tryz.func102.trans (congrArg some (by kernel_rfl))⟩
  f24 := ⟨Tryz.f103.name, by decide, Tryz.func103.trans (congrArg some (by kernel_rfl))⟩
  f25 := ⟨Tryz.f104.name, by decide, Tryz.func104.trans (congrArg some (by kernel_rfl))⟩
  f26 := ⟨Tryz.f105.name, by decide, Tryz.func105.trans (congrArg some (by kernel_rfl))⟩
  f27 := ⟨Tryz.f106.name, by decide, Tryz.func106.trans (congrArg some (by kernel_rfl))⟩
  f28 := Tryz.func80.trans (congrArg some (by kernel_rfl))
  f29 := Tryz.func81.trans (congrArg some (by kernel_rfl))
  f46 := ⟨Tryz.f118.name, by decide, Tryz.func118.trans (congrArg some (by kernel_rfl))⟩
  f47 := Tryz.func93.trans (congrArg some (by kernel_rfl))
  f48 := Tryz.func94.trans (congrArg some (by kernel_rfl))
  f49 := ⟨Tryz.f119.name, by decide, Tryz.func119.trans (congrArg some (by kernel_rfl))⟩
  f50 := ⟨Tryz.f120.name, by decide, Tryz.func120.trans (congrArg some (by kernel_rfl))⟩
  f57 := ⟨Tryz.f124.name, by decide, Tryz.func124.trans (congrArg some (by kernel_rfl))⟩
  t0 := Tryz.underlying0
  a0 := Tryz.isAgg0
  z0 := Tryz.sizeOf0
  v0 := Tryz.zeroValue0
  t3 := Tryz.underlying3
  a3 := Tryz.isAgg3
  z3 := Tryz.sizeOf3
  v3 := Tryz.zeroValue3
  t4 := Tryz.underlying4
  a4 := Tryz.isAgg4
  z4 := Tryz.sizeOf4
  v4 := Tryz.zeroValue4
  t5 := Tryz.underlying5
  a5 := Tryz.isAgg5
  z5 := Tryz.sizeOf5
  v5 := Tryz.zeroValue5
  t9 := Tryz.underlying9
  a9 := Tryz.isAgg9
  z9 := Tryz.sizeOf9
  v9 := Tryz.zeroValue9
  t22 := Tryz.underlying23
  a22 := Tryz.isAgg23
  z22 := Tryz.sizeOf23
  v22 := Tryz.zeroValue23
  t25 := Tryz.underlying86
  a25 := Tryz.isAgg86
  z25 := Tryz.sizeOf86
  v25 := Tryz.zeroValue86
  t39 := Tryz.underlying77
  a39 := Tryz.isAgg77
  z39 := Tryz.sizeOf77
  v39 := Tryz.zeroValue77
  t45 := Tryz.underlying92
  a45 := Tryz.isAgg92
  z45 := Tryz.sizeOf92
  v45 := Tryz.zeroValue92
  t46 := Tryz.underlying93
  a46 := Tryz.isAgg93
  z46 := Tryz.sizeOf93
  v46 := Tryz.zeroValue93
  t50 := Tryz.underlying97
  a50 := Tryz.isAgg97
  z50 := Tryz.sizeOf97
  v50 := Tryz.zeroValue97
  t53 := Tryz.underlying100
  a53 := Tryz.isAgg100
  z53 := Tryz.sizeOf100
  v53 := Tryz.zeroValue100
  t55 := Tryz.underlying26
  a55 := Tryz.isAgg26
  z55 := Tryz.sizeOf26
  v55 := Tryz.zeroValue26
  t66 := Tryz.underlying111
  a66 := Tryz.isAgg111
  z66 := Tryz.sizeOf111
  v66 := Tryz.zeroValue111
  t70 := Tryz.underlying115
  a70 := Tryz.isAgg115
  z70 := Tryz.sizeOf115
  v70 := Tryz.zeroValue115
  t76 := Tryz.underlying129
  a76 := Tryz.isAgg129
  z76 := Tryz.sizeOf129
  v76 := Tryz.zeroValue129
  t77 := Tryz.underlying130
  a77 := Tryz.isAgg130
  z77 := Tryz.sizeOf130
  v77 := Tryz.zeroValue130 }
end Go.Proofs

/- The contract of slices.SortFunc as 'inOrder' calls it: the same parts, in the order of their devices. Condition: fewer than 2^62 parts. -/
namespace Go.Proofs.YtmebokpgiehgmaaGreat.Cx
open Go.ChangeShapes Go.WideShapes Go.ChangeAt Go.RowKit Go.Shelf
set_option linter.unusedVariables false
set_option maxRecDepth 4000

theorem nanP_any (w : World) (x : Nat) : Calls Tryz.prog 87 #[.int .u16 (x : Int)] w fun e w' => e = .returned (.bool false) ∧ w' = w := by
  have h : ((x : Int) != (x : Int)) = false := by rw [bne_eq_false_iff_eq]
  generalize ((x : Nat) : Int) = y at *
  go_enter Tryz.func87, Tryz.ntmps87
  go_wp2
  go_ret
  exact ⟨rfl, rfl⟩
def cfP (x y : PV) : Int := Lib.compareInt x.dev y.dev
theorem compareP_any (w : World) (x y : Nat) : Calls Tryz.prog 65 #[.int .u16 (x : Int), .int .u16 (y : Int)] w fun e w' => e = .returned (.int .i64 (Lib.compareInt x y)) ∧ w' = w := by
  have hx := fun W => nanP_any W x
  have hy := fun W => nanP_any W y
  unfold Lib.compareInt
  by_cases h1 : (x : Int) < y
  · rw [if_pos h1]
    generalize ((x : Nat) : Int) = x at *
    generalize ((y : Nat) : Int) = y at *
    go_enter Tryz.func65, Tryz.ntmps65
    go_wp2_with fail
    refine (hx _).mono ?_
    rintro e w1 ⟨rfl, rfl⟩
    go_wp2_with fail
    refine (hy _).mono ?_
    rintro e w1 ⟨rfl, rfl⟩
    go_wp2
    go_ret
    exact ⟨rfl, rfl⟩
  · rw [if_neg h1]
    have d1 : decide ((x : Int) < y) = false := decide_eq_false h1
    by_cases h2 : (x : Int) > y
    · rw [if_pos h2]
      have d2 : decide ((y : Int) < x) = true := decide_eq_true h2
      clear h1
      generalize ((x : Nat) : Int) = x at *
      generalize ((y : Nat) : Int) = y at *
      go_enter Tryz.func65, Tryz.ntmps65
      go_wp2_with fail
      refine (hx _).mono ?_
      rintro e w1 ⟨rfl, rfl⟩
      go_wp2_with fail
      refine (hy _).mono ?_
      rintro e w1 ⟨rfl, rfl⟩
      go_wp2
      go_ret
      exact ⟨rfl, rfl⟩
    · rw [if_neg h2]
      have d2 : decide ((y : Int) < x) = false := decide_eq_false h2
      clear h1 h2
      generalize ((x : Nat) : Int) = x at *
      generalize ((y : Nat) : Int) = y at *
      go_enter Tryz.func65, Tryz.ntmps65
      go_wp2_with fail
      refine (hx _).mono ?_
      rintro e w1 ⟨rfl, rfl⟩
      go_wp2_with fail
      refine (hy _).mono ?_
      rintro e w1 ⟨rfl, rfl⟩
      go_wp2
      go_ret
      exact ⟨rfl, rfl⟩

/-- a part's two cells. -/
def encP (p : PV) : List Value := [.int .u16 (p.dev : Int), .slice p.adr p.len p.cap]
instance : Inhabited PV := ⟨⟨0, none, 0, 0⟩⟩
theorem closureP_any (x y : PV) (W : World) : Calls Tryz.prog 64 #[.agg #[.int .u16 (x.dev : Int), .slice x.adr x.len x.cap], .agg #[.int .u16 (y.dev : Int), .slice y.adr y.len y.cap]] W fun e w' => e = .returned (.int .i64 (cfP x y)) ∧ ∃ q os', w' = Sort.grow (W.drewN q) os' := by
  have hcon : ∀ W', Calls Tryz.prog 65 #[.int .u16 (x.dev : Int), .int .u16 (y.dev : Int)] W' fun e w' => e = .returned (.int .i64 (cfP x y)) ∧ w' = W' := fun W' => compareP_any W' x.dev y.dev
  generalize cfP x y = r at hcon ⊢
  go_enter Tryz.func64, Tryz.ntmps64
  go_wp2_with (go_at_call 65; refine (hcon _).mono ?_; rintro e w' ⟨rfl, rfl⟩)
  go_ret
  exact ⟨rfl, 0, _, by rw [Sort.alloc_eq_grow, Sort.alloc_eq_grow, Sort.grow_grow]; rfl⟩
theorem ltP (x y : PV) : ltOf cfP x y = decide (x.dev < y.dev) := by
  unfold ltOf cfP Lib.compareInt
  by_cases h1 : (x.dev : Int) < y.dev
  · have : x.dev < y.dev := by omega
    simp [this]
  · by_cases h2 : (y.dev : Int) < x.dev
    · have h3 : ¬ x.dev < y.dev := by omega
      have h4 : y.dev < x.dev := by omega
      simp [h3, h4]
    · have h3 : ¬ x.dev < y.dev := by omega
      have h4 : ¬ y.dev < x.dev := by omega
      simp [h3, h4]
theorem swoP : Sort.SWO (ltOf cfP) where
  irrefl x := by rw [ltP]; simp
  trans x y z h1 h2 := by rw [ltP] at *; simp at *; omega
  ntrans x y z h1 h2 := by rw [ltP] at *; simp at *; omega

theorem flat_cv (l : List PV) (j : Nat) (hj : j < l.length * 2) : (cv l)[j]? = some (Sort.flatK encP 2 l.toArray)[j]! := by
  rw [Sort.get_flatK _ _ _ _ (by simpa using hj)]
  have hk : j / 2 < l.length := by omega
  have hg : l[j / 2]? = some l[j / 2] := List.getElem?_eq_getElem hk
  obtain ⟨g1, g2⟩ := cv_get hg
  have e : l.toArray[j / 2]! = l[j / 2] := by rw [getElem!_pos _ _ (by simpa using hk)]; simp
  rw [e]
  rcases Nat.mod_two_eq_zero_or_one j with h | h
  · rw [h]
    have : j / 2 * 2 = j := by omega
    rw [this] at g1
    simpa [encP] using g1
  · rw [h]
    have : j / 2 * 2 + 1 = j := by omega
    rw [this] at g2
    simpa [encP] using g2
theorem lenP (n : Nat) (hn : n < 4611686018427387904) (w : World) : Calls Tryz.prog 57 #[.int .u64 (n : Int)] w fun e w' => e = .returned (.int .i64 (Lib.bitLen n : Nat)) ∧ w' = w := by
  have h := Any.bits_Len (SlLaysF0.n15.bits (P := Tryz.prog) (ρ := Tryz.sortP_ren) { Tryz.sortP with }) (n : Int) w (by omega) (by omega)
  change Calls Tryz.prog 57 _ _ _ at h
  rwa [Int.toNat_natCast] at h
/-- the sorting itself, to the element. -/
theorem sortfP (g cap : Nat) (d : Array PV) (w : World) (hH : Sort.HoldsK encP 2 w g 0 d) (hlt : g < w.heap.size) (hsz : d.size < 4611686018427387904) :
    Calls Tryz.prog 63 #[.slice (some ⟨g, 0, none⟩) d.size cap, .func (.func 64) #[] #[]] w fun e w' =>
      e = .returned (.tuple #[]) ∧ ∃ d' n os, Sort.PermIn 0 d.size d d' ∧ Sort.SortedIn (ltOf cfP) 0 d.size d' ∧ w' = sortWorldK encP 2 w g 0 n d' os := by
  have eg : ∀ args w, (callFunc 64 args).run Tryz.prog w = .ok (.enter 64 args) w := enters_of Tryz.func64 (by kernel_rfl) rfl
  have hlim : Lib.bitLen d.size < 4611686018427387904 := Nat.lt_of_le_of_lt (Lib.bitLen_le d.size 62 (by omega) (by omega)) (by omega)
  have hp := AnyQ.pdqsortCmpFunc_all Tryz.sortP 2 Tryz.isAgg44 Tryz.sizeOf44 encP cfP 64 #[] swoP g 0 cap d w eg (fun m os dk _ x y => closureP_any x y _) ⟨fun _ => rfl, fun x v hv => by simp [encP] at hv; rcases hv with rfl | rfl <;> rfl, hH, hlt⟩ (d.size + 1) 0 d.size (Lib.bitLen d.size) d w (by omega) rfl (SWK.start hH) (Nat.zero_le _) (Nat.le_refl _) hsz hlim (Or.inl rfl)
  change Calls Tryz.prog 86 _ _ _ at hp
  have hl := lenP d.size hsz w
  have wr : IntKind.u64.wrap (d.size : Int) = d.size := by simp [IntKind.wrap, IntKind.bits, IntKind.signed]; omega
  have hfin := Sort.pdq_sorts (ltOf cfP) swoP d 0 d.size (Lib.bitLen d.size) true true (Nat.zero_le _) (Nat.le_refl _) (Or.inl rfl)
  clear hH
  go_enter Tryz.func63, Tryz.ntmps63
  go_wp2_with (first | (go_at_call 57; refine hl.mono ?_; rintro e w' ⟨rfl, rfl⟩) | (go_at_call 86; refine hp.mono ?_; rintro e w' ⟨rfl, n, os, rfl⟩))
  go_end0
  exact ⟨rfl, _, n, os, hfin.1, hfin.2, rfl⟩
theorem sortP_some (w : World) (B g cap n : Nat) (d : List PV) (hn : d.length = n) (h62 : n < 4611686018427387904) (h : w.ownsRow B 44 2 (.slice (some ⟨g, 0, none⟩) n cap) n (cv d)) :
    Calls Tryz.prog 63 #[.slice (some ⟨g, 0, none⟩) n cap, .func (.func 64) #[] #[]] w fun e w' => e = .returned (.tuple #[]) ∧ ∃ m : List PV, m.Perm d ∧ m.Pairwise (fun p q => p.dev ≤ q.dev) ∧ w'.ownsRow B 44 2 (.slice (some ⟨g, 0, none⟩) n cap) n (cv m) ∧ w.grownBy w' (some g) := by
  subst hn
  obtain ⟨hlen, ⟨hz, _⟩ | ⟨g', cap', cur, e, hB, hheap, hle, hmx, hsz, htk⟩⟩ := h
  · cases hz
  · cases e
    have hlt : g < w.heap.size := (Array.getElem?_eq_some_iff.1 hheap).1
    have hcell : ∀ j, j < d.length * 2 → cur[j]? = (cv d)[j]? := fun j hj => by
      rw [← htk, List.getElem?_take, if_pos hj]
      simp
    have hH : Sort.HoldsK encP 2 w g 0 d.toArray := fun j hj => by
      have hj' : j < d.length * 2 := by simpa using hj
      refine ⟨?_, by simp [World.frozen?, hheap]⟩
      rw [Nat.zero_add, show id (Sort.flatK encP 2 d.toArray)[j]! = (Sort.flatK encP 2 d.toArray)[j]! from rfl, ← flat_cv d j hj', ← hcell j hj']
      simp [World.cell?, hheap]
    have hcon := sortfP g cap d.toArray w hH hlt (by simpa using h62)
    rw [List.size_toArray] at hcon
    refine hcon.mono ?_
    rintro e w' ⟨rfl, d', q, os, hp, hs, rfl⟩
    have h1 : d'.size = d.length := by simpa using hp.1
    refine ⟨rfl, d'.toList, ?_, ?_, ?_, ?_⟩
    · have h3 := hp.2.2
      have e1 : d'.extract 0 d.length = d' := by rw [← h1]; simp
      have e2 : d.toArray.extract 0 d.length = d.toArray := by simp
      rw [e1, e2] at h3
      exact h3
    · refine List.pairwise_iff_getElem.2 fun i j hi hj hij => ?_
      rw [Array.length_toList] at hi hj
      have := hs i j (Nat.zero_le _) hij (by omega)
      rw [ltP, getElem!_pos d' j hj, getElem!_pos d' i hi] at this
      simpa using this
    · refine ⟨by rw [cv_length, Array.length_toList, h1], .inr ⟨g, cap, Sort.putCells id 0 (Sort.flatK encP 2 d') cur, rfl, hB, ?_, hle, hmx, by simp [Sort.putCells, hsz], ?_⟩⟩
      · show ((w.heap.modify g (Sort.onCells (Sort.putCells id 0 (Sort.flatK encP 2 d')))) ++ os)[g]? = _
        rw [Array.getElem?_append_left (by simpa using hlt), Array.getElem?_modify, if_pos rfl, hheap]
        rfl
      · apply List.ext_getElem?
        intro j
        rw [List.getElem?_take]
        by_cases hj : j < d.length * 2
        · rw [if_pos hj]
          have hf := flat_cv d'.toList j (by rw [Array.length_toList, h1]; exact hj)
          rw [Array.toArray_toList] at hf
          rw [hf]
          have hc : cur[j]? = some cur[j] := Array.getElem?_eq_getElem (by omega)
          simp [Sort.putCells, hc, h1, hj]
        · rw [if_neg hj]
          exact (List.getElem?_eq_none (by rw [cv_length, Array.length_toList, h1]; omega)).symm
    · refine ⟨rfl, rfl, rfl, ?_, fun k hk hne => ?_⟩
      · show w.heap.size ≤ ((w.heap.modify g _) ++ os).size
        simp
      · show ((w.heap.modify g _) ++ os)[k]? = _
        rw [Array.getElem?_append_left (by simpa using hk), Array.getElem?_modify, if_neg (fun e => hne (by rw [e]))]
theorem insP_nil (w : World) (fv : Value) : Calls Tryz.prog 99 #[.slice none 0 0, .int .i64 0, .int .i64 0, fv] w fun e w' => e = .returned (.tuple #[]) ∧ w' = w := by
  go_enter Tryz.func99, Tryz.ntmps99
  go_wp2
  refine wp_loop_rounds 1 ?_
  rw [rounds_succ]
  go_wp2
  go_end0
  exact ⟨rfl, rfl⟩
theorem pdqP_nil (w : World) (lim : Int) (fv : Value) : Calls Tryz.prog 86 #[.slice none 0 0, .int .i64 0, .int .i64 0, .int .i64 lim, fv] w fun e w' => e = .returned (.tuple #[]) ∧ w' = w := by
  have hi := fun W => insP_nil W fv
  go_enter Tryz.func86, Tryz.ntmps86
  go_wp2
  refine wp_loop_rounds 1 ?_
  rw [rounds_succ]
  go_wp2_with (go_at_call 99; refine (hi _).mono ?_; rintro e w' ⟨rfl, rfl⟩)
  (try simp only [Exit.inBlock, Exit.then]); refine bodyPost_ret (results_none rfl _ _ _) rfl ?_
  exact ⟨rfl, rfl⟩
theorem sortP_nil (w : World) : Calls Tryz.prog 63 #[.slice none 0 0, .func (.func 64) #[] #[]] w fun e w' => e = .returned (.tuple #[]) ∧ w' = w := by
  have hl := fun W => lenP 0 (by decide) W
  have hp := fun lim W => pdqP_nil W lim (.func (.func 64) #[] #[])
  go_enter Tryz.func63, Tryz.ntmps63
  go_wp2_with (first | (go_at_call 57; refine (hl _).mono ?_; rintro e w' ⟨rfl, rfl⟩) | (go_at_call 86; refine (hp _ _).mono ?_; rintro e w' ⟨rfl, rfl⟩))
  go_end0
  exact ⟨rfl, rfl⟩
theorem psorts : SortsP := by
  intro W B A k c ps hk h62 ho
  cases A with
  | none =>
    obtain ⟨_, _, h3⟩ := Dt.own_len ho
    obtain ⟨rfl, rfl⟩ := h3 rfl
    refine (sortP_nil W).mono ?_
    rintro e w' ⟨rfl, rfl⟩
    obtain rfl := List.eq_nil_of_length_eq_zero hk
    exact ⟨rfl, [], List.Perm.refl _, List.Pairwise.nil, ho, Ru.turn_refl _ _⟩
  | some ad =>
    have hsh : ∃ g, ad = ⟨g, 0, none⟩ := by
      rcases ho.2 with ⟨h, _⟩ | ⟨g, cap, cur, h, _⟩
      · cases h
      · cases h; exact ⟨g, rfl⟩
    obtain ⟨g, rfl⟩ := hsh
    exact sortP_some W B g c k ps hk h62 ho
end Go.Proofs.YtmebokpgiehgmaaGreat.Cx

/- The contracts of the program's Norm, Runs, Add and Of of layer ctx. Condition: at most 2^28 parts, of at most 2^28 runs together; at most 2^28 dots. -/
namespace Go.Proofs.YtmebokpgiehgmaaGreat.Cx
open Go.ChangeShapes Go.WideShapes Go.ChangeAt Go.RowKit Go.Maps
set_option linter.unusedVariables false
set_option maxRecDepth 4000

theorem cpost_up {w W V : World} {m : List Part} {e : Ending} (hb : Below w.heap.size w W) (h : CtxPost W m e V) : CtxPost w m e V := by
  obtain ⟨A, n, c, ps, h1, h2, h3, h4, h5⟩ := h
  exact ⟨A, n, c, ps, h1, h2, Dt.own_less h3 hb.size, h4, hb.trans (h5.mono hb.size)⟩
theorem raw_short {a : List Part} {k : Nat} (h : Wide k a) (d : Nat) : (rawC a d).length ≤ k := by
  have q := raw_whole (fun _ => []) a d
  have q2 := h.2
  simp only [List.length_nil] at q
  show (rawF (fun _ => []) a d).length ≤ k
  omega
theorem rawF_d (c : List Part) (k d : Nat) {x : Part} (h : c[k]? = some x) : rawC (c.take (k + 1)) d = stepR d (rawC (c.take k) d) x := congrFun (raw_next (f := fun _ => []) h) d
end Go.Proofs.YtmebokpgiehgmaaGreat.Cx

/- The contracts of the program's Add and Of of layer ctx. Condition: at most 2^28 parts, of at most 2^28 runs together; at most 2^28 dots. -/
namespace Go.Proofs.YtmebokpgiehgmaaGreat.Cx
open Go.ChangeShapes Go.WideShapes Go.ChangeAt Go.RowKit Go.Maps
set_option linter.unusedVariables false
set_option maxRecDepth 4000

theorem add_fit {a : List Part} {l : List Dot} (ha : FitC a) (hl : Dt.Fit l) (k d : Nat) : Ru.Fit (addF (rawC a) (l.take k) d) := by
  have : ∀ (l : List Dot), Dt.Fit l → ∀ f : Nat → List Run, (∀ d, Ru.Fit (f d)) → ∀ d, Ru.Fit (addF f l d) := fun l => by
    unfold addF
    induction l with
    | nil => intro _ f hf d; exact hf d
    | cons x l ih =>
      intro hl f hf d
      rw [List.foldl_cons]
      refine ih (fun y hy => hl y (List.mem_cons_of_mem _ hy)) _ (fun e => ?_) d
      unfold stepA
      split
      · show Ru.Fit (if e = x.1 then f x.1 ++ [(x.2, x.2)] else f e)
        split
        · intro r hr
          rcases List.mem_append.1 hr with hr | hr
          · exact hf _ r hr
          · obtain rfl := List.mem_singleton.1 hr
            have := (hl x (List.mem_cons_self ..)).2
            exact ⟨this, this⟩
        · exact hf e
      · exact hf e
  exact this _ (fun x hx => hl x (List.mem_of_mem_take hx)) _ (fun e => raw_fit ha e (fun r hr => by cases hr)) d
set_option maxHeartbeats 8000000 in
theorem padd_any (w : World) (A1 A2 : Option Addr) (a : List Part) (l : List Dot) (n1 n2 c1 c2 : Nat) (h1 : CtxAt w A1 a n1 c1) (h2 : DotsAt w A2 l n2 c2) (ha : Wide 268435456 a) (hn2 : n2 ≤ 268435456) :
    Calls Tryz.prog 35 #[.slice A1 n1 c1, .slice A2 n2 c2] w (CtxPost w (setC a (ofC l) 0)) := by
  have CB := pbydev_any w A1 a n1 c1 h1 ha
  have HD := Lib.hid h2.dots
  have HDL := Lib.hid h2.len
  have HT : Hid (Tells (fun d => Ru.nrm (addF (rawC a) l d))) := Lib.hid (tells_add h1.fit h2.fit)
  have HE : Hid (listC (fun d => Ru.nrm (addF (rawC a) l d)) = setC a (ofC l) 0) := Lib.hid (by rw [add_fin h1.fit h2.fit]; rfl)
  have HL : Hid (∀ k d, (addF (rawC a) (l.take k) d).length ≤ 268435456 + k) := Lib.hid (fun k d => by
    have q1 := add_len l (rawC a) k d
    have q2 := raw_short ha d
    omega)
  have HF := Lib.hid (add_fit h1.fit h2.fit)
  have hn1 : n1 ≤ 268435456 := by rw [← h1.len]; exact ha.1
  rw [← HE.out]
  clear h1 h2 ha HE
  go_enter Tryz.func35, Tryz.ntmps35
  go_wp2_with fail
  refine CB.mono ?_
  rintro e w0 ⟨rfl, hM, hb⟩
  have HM0 := Lib.hid hM
  have HB0 := Lib.hid hb
  clear CB hM hb
  go_wp2_with fail
  go_loopw [12] (fun i wr => ∃ k : Nat, k ≤ n2 ∧ i = .int .i64 (k : Int) ∧ MapO wr (w.heap.size + 1) w.heap.size (n1 + k) (addF (rawC a) (l.take k)) ∧ Below w.heap.size w wr) (fun i _ => n2 - (intOf i).toNat)
  case atStart => exact ⟨0, Nat.zero_le _, rfl, HM0.out, HB0.out⟩
  case round =>
    obtain ⟨k, hk, rfl, hmk, hg⟩ := hrel
    have HMK := Lib.hid hmk
    have HW := Lib.hid hg
    have hsz := hmk.lt
    clear hmk hg
    by_cases hlt : k < n2
    · obtain ⟨ad, x, rfl, hB, hlx, hx1, hx2, hcx⟩ := HD.out.cells (k := k) (by rw [HDL.out]; exact hlt)
      have HN := Lib.hid (add_next (f := rawC a) hlx)
      clear hlx
      obtain ⟨x1, x2⟩ := x
      dsimp only at hx1 hx2 hcx
      obtain ⟨d1, d2⟩ := hcx wr HW.out
      have CG := fun W => Dt.pgood_x W (x1, x2)
      have BX : Hid (Below wr.heap.size wr ((wr.alloc (.cells #[.int .u16 (x1 : Int), .int .u64 (x2 : Int)] 28)).alloc (.cells #[.int .u16 (x1 : Int), .int .u64 (x2 : Int)] 28))) := Lib.hid (bel_alloc _ (Dt.below_new _ _))
      have HXB := Lib.hid (Dt.box_at wr (x1, x2))
      clear hcx
      cases hmx : Dt.mayD (x1, x2) with
      | false =>
        have HS := Lib.hid (stepA_not (f := addF (rawC a) (l.take k)) hmx)
        rw [hmx] at CG
        clear hmx
        go_wp2_with fail
        refine (CG _).mono ?_
        rintro e w1 ⟨rfl, rfl⟩
        have HM2 := Lib.hid (((HMK.out.up BX.out).more (Nat.le_succ _)).turn (by rw [← HS.out, ← HN.out]))
        have HW2 := Lib.hid (HW.out.trans (BX.out.mono HW.out.size))
        clear d1 d2
        go_wp2
        go_roundw
        case rel => exact ⟨k + 1, by omega, by go_num, HM2.out, HW2.out⟩
        case measure => simp [intOf]; omega
      | true =>
        have HS : Hid ((fun e => if e = x1 then addF (rawC a) (l.take k) x1 ++ [(x2, x2)] else addF (rawC a) (l.take k) e) = addF (rawC a) (l.take (k + 1))) := Lib.hid (by rw [HN.out, ← stepA_put hmx])
        have HFN := Lib.hid (HF.out (k + 1) x1)
        have HEN : Hid (addF (rawC a) (l.take (k + 1)) x1 = addF (rawC a) (l.take k) x1 ++ [(x2, x2)]) := Lib.hid (by rw [← HS.out]; exact if_pos rfl)
        rw [HEN.out] at HFN
        rw [hmx] at CG
        clear hmx
        go_wp2_with fail
        refine (CG _).mono ?_
        rintro e w1 ⟨rfl, rfl⟩
        have hb2 : ((wr.alloc (.cells #[.int .u16 (x1 : Int), .int .u64 (x2 : Int)] 28)).alloc (.cells #[.int .u16 (x1 : Int), .int .u64 (x2 : Int)] 28)).heap.size = wr.heap.size + 2 := by simp
        have HBX : Hid (Below (wr.alloc (.cells #[.int .u16 (x1 : Int), .int .u64 (x2 : Int)] 28)).heap.size (wr.alloc (.cells #[.int .u16 (x1 : Int), .int .u64 (x2 : Int)] 28)) ((wr.alloc (.cells #[.int .u16 (x1 : Int), .int .u64 (x2 : Int)] 28)).alloc (.cells #[.int .u16 (x1 : Int), .int .u64 (x2 : Int)] 28))) := Lib.hid (Dt.below_new _ _)
        generalize hwb : (wr.alloc (.cells #[.int .u16 (x1 : Int), .int .u64 (x2 : Int)] 28)).alloc (.cells #[.int .u16 (x1 : Int), .int .u64 (x2 : Int)] 28) = wb at *
        have HXC : Hid (∀ V, Below wb.heap.size wb V → V.cell? ⟨wr.heap.size, 0, none⟩ = some (.int .u16 (x1 : Int)) ∧ V.cell? ⟨wr.heap.size, 1, none⟩ = some (.int .u64 (x2 : Int))) := Lib.hid (fun V hV => HXB.out V (HBX.out.trans (hV.mono HBX.out.size)))
        obtain ⟨d3, d4⟩ := HXC.out wb (Below.refl _ _)
        obtain ⟨A2', k2, c2', hA2, hk2, hlook, hstore⟩ := (HMK.out.up BX.out).look hx1
        obtain ⟨o1, ho1⟩ : ∃ o : Obj, o = .cells #[.int .u64 (x2 : Int), .int .u64 (x2 : Int)] 50 := ⟨_, rfl⟩
        have r1 := hlook wb (Ru.turn_refl _ _)
        have r2 := hlook wb.drew (bel_grown ((Below.refl _ _).drew) _)
        have r3 := hlook (wb.alloc o1) (bel_grown (Dt.below_new _ _) _)
        have r4 := hlook (wb.alloc o1).drew (bel_grown ((Dt.below_new _ _).drew) _)
        have BD : Hid (Below wb.heap.size wb (wb.alloc o1).drew) := Lib.hid ((Dt.below_new _ _).drew)
        have HO2 := Lib.hid (Dt.own_kept hA2 BD.out)
        have hk2' : k2 ≤ 536870912 := by rw [← hk2]; have := HL.out k x1; omega
        have HRL : Hid (RunsAt (wb.alloc o1) (some ⟨wr.heap.size + 2, 0, none⟩) [(x2, x2)] 1 1) := Lib.hid (by rw [ho1]; exact run_lit wb _ x2 x2 hb2.symm hx2 hx2)
        have HBL : Hid (Ru.Lies (wb.alloc o1).drew (wb.alloc o1).drew.heap.size (some ⟨wr.heap.size + 2, 0, none⟩) (Ru.rv [(x2, x2)])) := Lib.hid ((HRL.out.up ((Below.refl _ _).drew)).runs.2)
        have HOL := Lib.hid (fun j hj => (hA2.lt j hj))
        have HST := Lib.hid hstore
        have HWB := Lib.hid (HW.out.trans (BX.out.mono HW.out.size))
        have HW1 := Lib.hid (HWB.out.trans (BD.out.mono HWB.out.size))
        have hBsz : w.heap.size + 1 ≤ (wb.alloc o1).drew.heap.size := by have := BD.out.size; omega
        have HGD : Hid (wb.grownBy (wb.alloc o1).drew (Value.slice A2' k2 c2').ownBlock) := Lib.hid (bel_grown BD.out _)
        have HSZ : Hid (wb.heap.size ≤ (wb.alloc o1).drew.heap.size) := Lib.hid BD.out.size
        have HKC : Hid (∀ w5 : World, World.grownBy (wb.alloc o1).drew w5 (Value.slice A2' k2 c2').ownBlock → w5.cell? ⟨wr.heap.size, 0, none⟩ = some (.int .u16 (x1 : Int)) ∧ w5.cell? ⟨wr.heap.size, 1, none⟩ = some (.int .u64 (x2 : Int))) := Lib.hid (fun w5 hg5 => by
          have hne : some wr.heap.size ≠ (Value.slice A2' k2 c2').ownBlock := fun e => by
            obtain ⟨A9, k9, c9, hA9, _, hl9, _⟩ := HMK.out.look hx1
            have e9 := hl9 wb (bel_grown BX.out _)
            rw [r1] at e9
            have e8 : Value.slice A2' k2 c2' = Value.slice A9 k9 c9 := by injection e9
            rw [e8] at e
            have := (hA9.lt wr.heap.size e.symm).2
            omega
          have hl2 : wr.heap.size < (wb.alloc o1).drew.heap.size := by have := BD.out.size; omega
          obtain ⟨q1, q2⟩ := HXC.out _ BD.out
          exact ⟨(hg5.cell_far _ hl2 hne).trans q1, (hg5.cell_far _ hl2 hne).trans q2⟩)
        have HK6 : Hid (∀ w5 w6 : World, World.grownBy (wb.alloc o1).drew w5 (Value.slice A2' k2 c2').ownBlock → w5.grownBy w6 (some w.heap.size) → w6.cell? ⟨wr.heap.size, 0, none⟩ = some (.int .u16 (x1 : Int)) ∧ w6.cell? ⟨wr.heap.size, 1, none⟩ = some (.int .u64 (x2 : Int))) := Lib.hid (fun w5 w6 hg5 hg6 => by
          obtain ⟨q1, q2⟩ := HKC.out w5 hg5
          have hl2 : wr.heap.size < w5.heap.size := by have := hg5.size; have := BD.out.size; omega
          have hne : some wr.heap.size ≠ some w.heap.size := fun e => by injection e with e; omega
          exact ⟨(hg6.cell_far _ hl2 hne).trans q1, (hg6.cell_far _ hl2 hne).trans q2⟩)
        clear HN hA2 hlook hstore HMK BX BD HBX HXB hk2 HEN HRL HWB hwb
        subst ho1
        go_wp2_with fail
        go_region_held3 (fun V => V.cell? ⟨wr.heap.size, 0, none⟩ = some (.int .u16 (x1 : Int)) ∧ V.cell? ⟨wr.heap.size, 1, none⟩ = some (.int .u64 (x2 : Int))) (first | exact ⟨d3, d4⟩ | assumption | exact HXC.out _ (by (repeat (first | exact Below.refl _ _ | assumption | apply bel_drew | apply bel_alloc)))) (first
          | (refine step_app rfl (.tmp 24) (.tmp 30) rfl rfl (w.heap.size + 1) k2 (.slice A2' k2 c2') (addF (rawC a) (l.take k) x1) (some ⟨wr.heap.size + 2, 0, none⟩) [(x2, x2)] 1 1 rfl rfl HO2.out (fun h => by cases h) HBL.out rfl (by omega) hBsz ?_; intro A5 c5 w5 ho5 hg5 hl5; have hcV := HKC.out w5 hg5; obtain ⟨w6, hrun, hM6, hg6⟩ := HST.out w5 A5 (k2 + 1) c5 _ (HGD.out.trans hg5) ho5 HFN.out (hl5.imp (fun h => h) (fun h j hj => by rw [h] at hj; injection hj with hj; rw [← hj]; exact HSZ.out)) (by omega); have hcV6 := HK6.out w5 w6 hg5 hg6))
        all_goals
          have HR : Hid (MapO w6 (w.heap.size + 1) w.heap.size (n1 + (k + 1)) (addF (rawC a) (l.take (k + 1)))) := Lib.hid (hM6.turn HS.out)
          have HW6 : Hid (Below w.heap.size w w6) := Lib.hid ((HW1.out.grown hg5 HW1.out.size (fun j hj => by have := (HOL.out j hj).1; omega)).grown hg6 (Nat.le_trans HW1.out.size hg5.size) (fun j hj => by cases hj; exact Nat.le_refl _))
          clear hM6 hg6 hrun hg5 hl5 ho5 hcV hcV6 r1 r2 r3 r4 HO2 HBL HOL HST HW1 HKC HK6 HS HFN d1 d2 d3 d4 HXC HGD HSZ
          go_wp2
          go_roundw
          case rel => exact ⟨k + 1, hlt, by go_num, HR.out, HW6.out⟩
          case measure => simp [intOf]; omega
    · obtain rfl : k = n2 := by omega
      have e : Hid (l.take k = l) := Lib.hid (List.take_of_length_le (by rw [HDL.out]; exact Nat.le_refl _))
      have HL2 := Lib.hid (HL.out k)
      rw [e.out] at HMK HL2
      have CI := pinord_any psorts wr _ _ _ _ HMK.out.mapS HT.out (fun d => by have := HL2.out d; omega) (by omega)
      go_wp2_with fail
      refine CI.mono ?_
      intro e w2 hp
      obtain ⟨A5, n5, c5, ps, rfl, h2⟩ := cpost_up HW.out hp
      have HP := Lib.hid h2
      clear hp h2 CI
      go_wp2
      go_ret
      exact ⟨A5, n5, c5, ps, rfl, HP.out⟩
set_option maxHeartbeats 1000000 in
theorem pof_any (w : World) (A2 : Option Addr) (l : List Dot) (n2 c2 : Nat) (h2 : DotsAt w A2 l n2 c2) (hn2 : n2 ≤ 268435456) :
    Calls Tryz.prog 20 #[.slice A2 n2 c2] w (CtxPost w (ofC l)) := by
  have CA := padd_any w none A2 [] l 0 n2 0 c2 (CtxAt.none_ w) h2 ⟨Nat.zero_le _, Nat.zero_le _⟩ hn2
  have e : setC [] (ofC l) 0 = ofC l := by rw [join_turn, norm_set]; exact (ord_of h2.fit).norm
  rw [e] at CA
  clear h2 e
  go_enter Tryz.func20, Tryz.ntmps20
  go_wp2_with fail
  refine CA.mono ?_
  intro e w2 hp
  obtain ⟨A5, n5, c5, ps, rfl, h2⟩ := hp
  have HP := Lib.hid h2
  clear h2 CA
  go_wp2
  go_ret
  exact ⟨A5, n5, c5, ps, rfl, HP.out⟩
end Go.Proofs.YtmebokpgiehgmaaGreat.Cx

/- Append of any runs to any list of one's own, nil too. Condition: at most 2^43 runs in all. -/
namespace Go.Proofs.YtmebokpgiehgmaaGreat.Ru
open Go.ChangeShapes Go.WideShapes Go.ChangeAt Go.RowKit Go.Shelf
set_option linter.unusedVariables false
set_option maxRecDepth 4000

theorem own_form {w : World} {B n size : Nat} {e : TypeId} {v : Value} {xs : List Value} (h : w.ownsRow B e size v n xs) : ∃ A c, v = .slice A n c := by
  rcases h.2 with ⟨rfl, rfl⟩ | ⟨g, cap, _, rfl, _⟩
  · exact ⟨none, 0, rfl⟩
  · exact ⟨_, cap, rfl⟩
theorem run_any (w : World) (B k : Nat) (v : Value) (xs : List Run) (A : Option Addr) (m : List Run) (n c : Nat) (ho : w.ownsRow B 50 2 v k (rv xs)) (hA : A = none → n = 0 ∧ c = 0) (hb : Lies w w.heap.size A (rv m)) (hl : m.length = n)
    (hn : k + n ≤ 8796093022208) (hB : B ≤ w.heap.size) :
    ∃ A' c' w', (Builtin.append_ #[42, 42] 42 #[v, .slice A n c]).run Tryz.prog w = .ok (.slice A' (k + n) c') w' ∧
      w'.ownsRow B 50 2 (.slice A' (k + n) c') (k + n) (rv (xs ++ m)) ∧ w.grownBy w' v.ownBlock := by
  obtain ⟨i0, hi0, hz0, hz1, hz2⟩ := info_parts run_info
  cases A with
  | none =>
    obtain ⟨rfl, rfl⟩ := hA rfl
    obtain rfl := List.eq_nil_of_length_eq_zero hl
    obtain ⟨A', c', rfl⟩ := own_form ho
    exact ⟨A', c', w, run_append_owned_none (P := Tryz.prog) (w := w) B 42 42 50 i0 2 Tryz.underlying42 hi0 _ k (rv xs) ho, by rw [List.append_nil]; exact ho, turn_refl _ _⟩
  | some ad =>
    have hc : ∀ j u, (rv m)[j]? = some u → w.cell? (ad.add j) = some u := by
      intro j u hu
      have hjl : j < (rv m).length := (List.getElem?_eq_some_iff.1 hu).1
      obtain ⟨ad', e, hadb, hc⟩ := hb (by omega)
      obtain rfl := Option.some.inj e
      exact hc j u hu
    obtain ⟨v', w', hr, h2, h3, hat, h5⟩ := run_append_own_at (P := Tryz.prog) w B 42 42 50 i0 (.agg #[.int .u64 0, .int .u64 0]) 2 16 Tryz.underlying42 hi0 hz0 hz1 hz2 rfl (by decide) v k (rv xs) ho ad n c (rv m) (by rw [rv_length, hl]) hc (rv_one m) (by simp only [maxLen]; omega) (by omega) hB
    obtain ⟨A', c', rfl⟩ := own_form h2
    exact ⟨A', c', w', hr, by rw [rv_append]; exact h2, h3⟩
theorem wpList_any {ops : Array Oper} {rest : List Oper} {o : Oper} {a : Act} {Q : Exit → Act → World → Prop} (hgd : o.guard = none) (s x : Operand) (ho : o.op = .call { callee := .builtin .append, args := #[s, x], argTypes := #[42, 42] }) (hty : o.type = 42)
    (w : World) (B k : Nat) (v : Value) (xs : List Run) (A : Option Addr) (m : List Run) (n c : Nat) (hs : a.eval s = v) (hx : a.eval x = .slice A n c) (hw : w.ownsRow B 50 2 v k (rv xs)) (hA : A = none → n = 0 ∧ c = 0) (hb : Lies w w.heap.size A (rv m)) (hl : m.length = n)
    (hn : k + n ≤ 8796093022208) (hB : B ≤ w.heap.size)
    (hK : ∀ A' c' w', w'.ownsRow B 50 2 (.slice A' (k + n) c') (k + n) (rv (xs ++ m)) → w.grownBy w' v.ownBlock → wpList Tryz.prog ops Q rest (a.put o.dst (.slice A' (k + n) c')) w') : wpList Tryz.prog ops Q (o :: rest) a w := by
  refine wpList_plain hgd fun K hQ => ?_
  obtain ⟨A', c', w', hr, h2, h3⟩ := run_any w B k v xs A m n c hw hA hb hl hn hB
  rw [← hty] at hr
  unfold Oper.wp execOp
  simp only [ho, resolve, invoke, builtin, Sem.run_bind, Sem.run_pure, Result.andThen_ok, List.map_toArray, List.map_cons, List.map_nil, hs, hx]
  rw [hty] at hr ⊢
  rw [hr]
  exact hQ _ _ (hK _ _ _ h2 h3)
/-- a list of one's own has grown: what lay, lies. -/
theorem any_grown {w wr w2 : World} {v : Value} {m : Nat} {xs : List Value} (ho : wr.ownsRow w.heap.size 50 2 v m xs) (hb : Below w.heap.size w wr) (hg : wr.grownBy w2 v.ownBlock) : Below w.heap.size w w2 :=
  hb.grown hg hb.size (fun k hk => (ho.lt k hk).1)
/-- a new block that is one run. -/
theorem lies_one (V : World) (r : Run) : Lies (V.alloc (.cells #[.int .u64 (r.1 : Int), .int .u64 (r.2 : Int)] 50)) (V.alloc (.cells #[.int .u64 (r.1 : Int), .int .u64 (r.2 : Int)] 50)).heap.size (some ⟨V.heap.size, 0, none⟩) (rv [r]) :=
  fun _ => ⟨_, rfl, by simp, pair_at V r⟩
end Go.Proofs.YtmebokpgiehgmaaGreat.Ru
