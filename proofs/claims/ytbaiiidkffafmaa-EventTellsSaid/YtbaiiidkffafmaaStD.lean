/- The contracts of slices.stableCmpFunc and SortStableFunc at structs, over any program that holds them: in order, equals stand as they stood. For every list of at most 2^60 structs. -/
import Derived.Test.YtbaiiidkffafmaaStC
namespace Go.Proofs.Ytbaiiidkffafmaa.St
open Go.ChangeShapes Go.WideShapes Go.ChangeAt Go.RowKit Go.Shelf Go.Lib Go.Sort
set_option linter.unusedVariables false
set_option maxRecDepth 100000

section
variable {α : Type} {lt : α → α → Bool}
/-- each block of bs elements is in order, as far as it lies in [lo, n). -/
def Blk (lt : α → α → Bool) (A : Nat → α) (bs lo n : Nat) : Prop := ∀ t i j, t * bs ≤ i → i < j → j < t * bs + bs → lo ≤ i → j < n → lt (A j) (A i) = false
theorem Blk.srt {A : Nat → α} {bs lo n x y : Nat} (h : Blk lt A bs lo n) (t : Nat) (hx : t * bs = x) (hl : lo ≤ x) (hy : y ≤ x + bs) (hn : y ≤ n) : Srt lt A x y := fun i j h1 h2 h3 =>
  h t i j (by omega) h2 (by omega) (by omega) (by omega)
/-- one block more is in order. -/
theorem Blk.up {A A' : Nat → α} {B a e : Nat} (h : Blk lt A B 0 a) (q : Nat) (hq : a = q * B) (ho : ∀ i, i < a → A' i = A i) (hs : Srt lt A' a e) (he : e ≤ a + B) : Blk lt A' B 0 e := fun t i j h1 h2 h3 _ h5 => by
  rcases Nat.lt_or_ge j a with hj | hj
  · rw [ho j hj, ho i (by omega)]
    exact h t i j h1 h2 h3 (Nat.zero_le _) hj
  · refine hs i j ?_ h2 h5
    rcases Nat.lt_or_ge t q with ht | ht
    · have := Nat.mul_le_mul_right B (show t + 1 ≤ q from ht)
      rw [Nat.add_mul, Nat.one_mul] at this
      omega
    · have := Nat.mul_le_mul_right B ht
      omega
/-- what lies behind is as it was. -/
theorem Blk.past {A A' : Nat → α} {bs a e n : Nat} (h : Blk lt A bs a n) (ha : a ≤ e) (ho : ∀ i, e ≤ i → A' i = A i) : Blk lt A' bs e n := fun t i j h1 h2 h3 h4 h5 => by
  rw [ho i h4, ho j (by omega)]
  exact h t i j h1 h2 h3 (by omega) h5
theorem Merged.keeps {A A' : Nat → α} {a b n : Nat} (h : Merged lt A A' a b) (hab : a ≤ b) (hb : b ≤ n) : Keeps lt (seg A 0 n) (seg A' 0 n) := by
  rw [seg_add A (Nat.zero_le a) (show a ≤ n by omega), seg_add A hab hb, seg_add A' (Nat.zero_le a) (show a ≤ n by omega), seg_add A' hab hb,
    seg_congr (A := A) (A' := A') (a := 0) (b := a) (fun i _ hi => h.out i (.inl hi)), seg_congr (A := A) (A' := A') (a := b) (b := n) (fun i hi _ => h.out i (.inr hi))]
  exact (Keeps.refl _).app (h.keep.app (Keeps.refl _))
end
variable {P : Program} {α : Type} [Inhabited α] {enc : α → List Value} {k : Nat} {w0 : World} {blk off : Nat} {d0 : Array α}
theorem row_big (d : Array α) {i : Nat} (h : d.size ≤ i) : row d i = default := by
  show d[i]! = default
  rw [getElem!_def, Array.getElem?_eq_none h]
/-- a whole list, sorted. -/
theorem merged_all {lt : α → α → Bool} {d d' : Array α} (hs : d'.size = d.size) (h1 : Srt lt (row d') 0 d.size) (h2 : Keeps lt (seg (row d) 0 d.size) (seg (row d') 0 d.size)) : Merged lt (row d) (row d') 0 d.size :=
  ⟨fun i hi => by rw [row_big d (by omega), row_big d' (by omega)], h1, h2⟩
theorem even_row (q bs : Nat) : (2 * q) * bs = q * (2 * bs) := by rw [Nat.mul_comm 2 q, Nat.mul_assoc]
theorem odd_row (q bs : Nat) : (2 * q + 1) * bs = q * (2 * bs) + bs := by rw [Nat.add_mul, Nat.one_mul, even_row]

set_option maxHeartbeats 8000000 in
theorem stable_any (L : Lays P k) (R : RowK enc k w0 blk off d0) (h60 : d0.size ≤ 1152921504606846976) {cf : α → α → Int} (hS : SWO (ltOf cf)) (g : Nat) (cb : Array Value) (eg : ∀ args w, (callFunc g args).run P w = .ok (.enter g args) w) (hC : CmpLays P g cb enc k cf blk off d0.size w0) (cap : Nat)
    (eI : ∀ args w, (callFunc 60 args).run P w = .ok (.enter 60 args) w)
    (hI : ∀ (a b : Nat) (dk : Array α) (W : World), dk.size = d0.size → a ≤ b → b ≤ d0.size → SWK enc k w0 blk off dk W → Calls P 60 #[.slice (some ⟨blk, off, none⟩) d0.size cap, .int .i64 a, .int .i64 b, .func (.func g) #[] cb] W (MergedTo cf enc k w0 blk off dk a b))
    (d : Array α) (hs : d.size = d0.size) (w : World) (hw : SWK enc k w0 blk off d w) :
    Calls P 53 #[.slice (some ⟨blk, off, none⟩) d0.size cap, .int .i64 d0.size, .func (.func g) #[] cb] w (MergedTo cf enc k w0 blk off d 0 d0.size) := by
  have mixed := L.mixed; have t0 := L.t0; have a0 := L.a0; have z0 := L.z0; have v0 := L.v0; have t3 := L.t3; have a3 := L.a3; have z3 := L.z3; have v3 := L.v3; have t4 := L.t4; have a4 := L.a4; have z4 := L.z4; have v4 := L.v4; have t62 := L.t62; have a62 := L.a62; have z62 := L.z62; have v62 := L.v62; have t30 := L.t30; have a30 := L.a30; have z30 := L.z30; have v30 := L.v30; have t51 := L.t51; have a51 := L.a51; have z51 := L.z51; have v51 := L.v51; have aE := L.aE; have zE := L.zE
  have u30 := run_underlying L.t30
  have F := L.fStab
  have e61 : ∀ args w, (callFunc 61 args).run P w = .ok (.enter 61 args) w := enters_of L.fMerge (by kernel_rfl) rfl
  have HSYM := Lib.hid (fun (a m b : Nat) (dk : Array α) (hd : dk.size = d0.size) (h1 : a < m) (h2 : m < b) (h3 : b ≤ d0.size) (q1 : Srt (ltOf cf) (row dk) a m) (q2 : Srt (ltOf cf) (row dk) m b) (W : World) (hW : SWK enc k w0 blk off dk W) => symMerge_any L R (by omega) hS g cb eg hC cap (b - a + 1) a m b dk (Nat.lt_succ_self _) hd h1 h2 h3 q1 q2 W hW)
  have HI := Lib.hid hI
  have HW := Lib.hid hw
  clear hw R L hC hI
  go_enter F, Try.ntmps53
  go_wp2
  go_loopw [7, 8] (fun va vb wr => ∃ (a q : Nat) (dk : Array α), va = .int .i64 (a : Int) ∧ vb = .int .i64 ((a : Int) + 20) ∧ Hid (a = q * 20) ∧ a ≤ d0.size ∧ dk.size = d0.size ∧ SWK enc k w0 blk off dk wr ∧ Blk (ltOf cf) (row dk) 20 0 a ∧ Keeps (ltOf cf) (seg (row d) 0 d0.size) (seg (row dk) 0 d0.size)) (fun va _ _ => d0.size - (intOf va).toNat)
  case atStart => exact ⟨0, 0, d, by go_num, by go_num, Lib.hid rfl, Nat.zero_le _, hs, HW.out, fun t i j _ _ _ _ h => by omega, Keeps.refl _⟩
  case round =>
    obtain ⟨a, q, dk, rfl, rfl, hq, han, hsk, hwk, hblk, hkeep⟩ := hrel
    have HWK := Lib.hid hwk
    have HBLK := Lib.hid hblk
    have HKEEP := Lib.hid hkeep
    clear hwk hblk hkeep
    by_cases hlt : a + 20 ≤ d0.size
    · have hz : (a : Int) + 20 ≤ (d0.size : Int) := by omega
      have w1 : IntKind.i64.wrap ((a : Int) + 20 + 20) = (a : Int) + 20 + 20 := by rw [IntKind.wrap_i64]; omega
      have C := HI.out a (a + 20) dk wr hsk (by omega) hlt HWK.out
      rw [show ((a + 20 : Nat) : Int) = (a : Int) + 20 by omega] at C
      go_wp2_with fail
      refine C.mono ?_
      rintro e w3 ⟨rfl, d3, hs3, hw3, hm3⟩
      have HW3 := Lib.hid hw3
      have hs3 : d3.size = d0.size := hs3.trans hsk
      have HB3 : Hid (Blk (ltOf cf) (row d3) 20 0 (a + 20)) := Lib.hid (HBLK.out.up q hq.out (fun i hi => hm3.out i (.inl hi)) hm3.srt (Nat.le_refl _))
      have HK3 := Lib.hid (HKEEP.out.trans (hm3.keeps (by omega) hlt))
      clear hw3 hm3 C
      go_wp2
      go_roundw
      case rel => exact ⟨a + 20, q + 1, d3, by go_num, by go_num, Lib.hid (by rw [hq.out]; omega), by omega, hs3, HW3.out, HB3.out, HK3.out⟩
      case measure => simp [intOf]; omega
    · have hz : ¬ (a : Int) + 20 ≤ (d0.size : Int) := by omega
      have C := HI.out a d0.size dk wr hsk han (Nat.le_refl _) HWK.out
      go_wp2_with fail
      refine C.mono ?_
      rintro e w3 ⟨rfl, d3, hs3, hw3, hm3⟩
      have HW3 := Lib.hid hw3
      have hs3 : d3.size = d0.size := hs3.trans hsk
      have HB3 : Hid (Blk (ltOf cf) (row d3) 20 0 d0.size) := Lib.hid (HBLK.out.up q hq.out (fun i hi => hm3.out i (.inl hi)) hm3.srt (by omega))
      have HK3 := Lib.hid (HKEEP.out.trans (hm3.keeps han (Nat.le_refl _)))
      clear hw3 hm3 C HWK HBLK HKEEP hz hlt hq han hsk
      go_wp2
      go_loopw [6] (fun vs wr => ∃ (bs : Nat) (dk : Array α), vs = .int .i64 (bs : Int) ∧ 20 ≤ bs ∧ bs ≤ 2305843009213693952 ∧ dk.size = d0.size ∧ SWK enc k w0 blk off dk wr ∧ Blk (ltOf cf) (row dk) bs 0 d0.size ∧ Keeps (ltOf cf) (seg (row d) 0 d0.size) (seg (row dk) 0 d0.size)) (fun vs _ => d0.size - (intOf vs).toNat)
      case atStart => exact ⟨20, d3, by go_num, Nat.le_refl _, by omega, hs3, HW3.out, HB3.out, HK3.out⟩
      case round =>
        obtain ⟨bs, dk, rfl, hb20, hbmax, hsk, hwk, hblk, hkeep⟩ := hrel
        have HWK := Lib.hid hwk
        have HBLK := Lib.hid hblk
        have HKEEP := Lib.hid hkeep
        clear hwk hblk hkeep
        by_cases hlt : bs < d0.size
        · have hz : (bs : Int) < (d0.size : Int) := by omega
          have w1 : IntKind.i64.wrap (2 * (bs : Int)) = 2 * (bs : Int) := by rw [IntKind.wrap_i64]; omega
          have w2 : IntKind.i64.wrap ((bs : Int) * 2) = (bs : Int) * 2 := by rw [IntKind.wrap_i64]; omega
          go_wp2
          go_loopw [7, 8] (fun va vb wr => ∃ (a q : Nat) (dk : Array α), va = .int .i64 (a : Int) ∧ vb = .int .i64 ((a : Int) + 2 * (bs : Int)) ∧ Hid (a = q * (2 * bs)) ∧ a ≤ d0.size ∧ dk.size = d0.size ∧ SWK enc k w0 blk off dk wr ∧ Blk (ltOf cf) (row dk) (2 * bs) 0 a ∧ Blk (ltOf cf) (row dk) bs a d0.size ∧ Keeps (ltOf cf) (seg (row d) 0 d0.size) (seg (row dk) 0 d0.size)) (fun va _ _ => d0.size - (intOf va).toNat)
          case atStart => exact ⟨0, 0, dk, by go_num, by go_num, Lib.hid (by omega), Nat.zero_le _, hsk, HWK.out, fun t i j _ _ _ _ h => by omega, HBLK.out, HKEEP.out⟩
          case round =>
            clear HWK HBLK HKEEP
            obtain ⟨a, q, d4, rfl, rfl, hq, han, hs4, hw4, hlow, hhigh, hkeep⟩ := hrel
            have HW4 := Lib.hid hw4
            have HLOW := Lib.hid hlow
            have HHIGH := Lib.hid hhigh
            have HKEEP := Lib.hid hkeep
            clear hw4 hlow hhigh hkeep
            have w3 : IntKind.i64.wrap ((a : Int) + (bs : Int)) = (a : Int) + (bs : Int) := by rw [IntKind.wrap_i64]; omega
            have eV : ((a + bs : Nat) : Int) = (a : Int) + (bs : Int) := by omega
            have eU : ((a + 2 * bs : Nat) : Int) = (a : Int) + 2 * (bs : Int) := by omega
            by_cases hle : a + 2 * bs ≤ d0.size
            · have hz1 : (a : Int) + 2 * (bs : Int) ≤ (d0.size : Int) := by omega
              have w4 : IntKind.i64.wrap ((a : Int) + 2 * (bs : Int) + 2 * (bs : Int)) = (a : Int) + 2 * (bs : Int) + 2 * (bs : Int) := by rw [IntKind.wrap_i64]; omega
              have C := HSYM.out a (a + bs) (a + 2 * bs) d4 hs4 (by omega) (by omega) hle (HHIGH.out.srt (2 * q) (by rw [even_row]; exact hq.out.symm) (Nat.le_refl _) (Nat.le_refl _) (by omega)) (HHIGH.out.srt (2 * q + 1) (by rw [odd_row]; have := hq.out; omega) (by omega) (by omega) hle) wr HW4.out
              rw [eV, eU] at C
              clear eU eV
              go_wp2_with fail
              refine C.mono ?_
              rintro e w5 ⟨rfl, d5, hs5, hw5, hm5⟩
              have HW5 := Lib.hid hw5
              have hs5 : d5.size = d0.size := hs5.trans hs4
              have HL5 : Hid (Blk (ltOf cf) (row d5) (2 * bs) 0 (a + 2 * bs)) := Lib.hid (HLOW.out.up q hq.out (fun i hi => hm5.out i (.inl hi)) hm5.srt (Nat.le_refl _))
              have HH5 : Hid (Blk (ltOf cf) (row d5) bs (a + 2 * bs) d0.size) := Lib.hid (HHIGH.out.past (by omega) (fun i hi => hm5.out i (.inr hi)))
              have HK5 := Lib.hid (HKEEP.out.trans (hm5.keeps (by omega) hle))
              have HQ5 : Hid (a + 2 * bs = (q + 1) * (2 * bs)) := Lib.hid (by rw [Nat.add_mul, Nat.one_mul, ← hq.out])
              clear hw5 hm5 C
              go_wp2
              go_roundw
              case rel => exact ⟨a + 2 * bs, q + 1, d5, by go_num, by go_num, HQ5, by omega, hs5, HW5.out, HL5.out, HH5.out, HK5.out⟩
              case measure => simp [intOf]; omega
            · have hz1 : ¬ (a : Int) + 2 * (bs : Int) ≤ (d0.size : Int) := by omega
              by_cases hm : a + bs < d0.size
              · have hz2 : (a : Int) + (bs : Int) < (d0.size : Int) := by omega
                have C := HSYM.out a (a + bs) d0.size d4 hs4 (by omega) hm (Nat.le_refl _) (HHIGH.out.srt (2 * q) (by rw [even_row]; exact hq.out.symm) (Nat.le_refl _) (Nat.le_refl _) (by omega)) (HHIGH.out.srt (2 * q + 1) (by rw [odd_row]; have := hq.out; omega) (by omega) (by omega) (Nat.le_refl _)) wr HW4.out
                rw [eV] at C
                clear eU eV
                go_wp2_with fail
                refine C.mono ?_
                rintro e w5 ⟨rfl, d5, hs5, hw5, hm5⟩
                have HW5 := Lib.hid hw5
                have hs5 : d5.size = d0.size := hs5.trans hs4
                have HL5 : Hid (Blk (ltOf cf) (row d5) (2 * bs) 0 d0.size) := Lib.hid (HLOW.out.up q hq.out (fun i hi => hm5.out i (.inl hi)) hm5.srt (by omega))
                have HK5 := Lib.hid (HKEEP.out.trans (hm5.keeps han (Nat.le_refl _)))
                clear hw5 hm5 C
                go_wp2
                go_roundw
                case rel => exact ⟨2 * bs, d5, by go_num, by omega, by omega, hs5, HW5.out, HL5.out, HK5.out⟩
                case measure => simp [intOf]; omega
              · have hz2 : ¬ (a : Int) + (bs : Int) < (d0.size : Int) := by omega
                have HL5 : Hid (Blk (ltOf cf) (row d4) (2 * bs) 0 d0.size) := Lib.hid (HLOW.out.up q hq.out (fun i hi => rfl) (HHIGH.out.srt (2 * q) (by rw [even_row]; exact hq.out.symm) (Nat.le_refl _) (by omega) (Nat.le_refl _)) (by omega))
                clear eU eV
                go_wp2
                go_roundw
                case rel => exact ⟨2 * bs, d4, by go_num, by omega, by omega, hs4, HW4.out, HL5.out, HKEEP.out⟩
                case measure => simp [intOf]; omega
        · have hz : ¬ (bs : Int) < (d0.size : Int) := by omega
          go_wp2
          go_end0
          refine ⟨rfl, dk, hsk.trans hs.symm, HWK.out, ?_⟩
          have h := merged_all (lt := ltOf cf) (d := d) (d' := dk) (hsk.trans hs.symm) (by rw [hs]; exact HBLK.out.srt 0 (by omega) (Nat.le_refl _) (by omega) (Nat.le_refl _)) (by rw [hs]; exact HKEEP.out)
          rw [hs] at h
          exact h

set_option maxHeartbeats 2000000 in
theorem sortStable_any (L : Lays P k) (R : RowK enc k w0 blk off d0) (h60 : d0.size ≤ 1152921504606846976) {cf : α → α → Int} (hS : SWO (ltOf cf)) (g : Nat) (cb : Array Value) (eg : ∀ args w, (callFunc g args).run P w = .ok (.enter g args) w) (hC : CmpLays P g cb enc k cf blk off d0.size w0) (cap : Nat)
    (eI : ∀ args w, (callFunc 60 args).run P w = .ok (.enter 60 args) w)
    (hI : ∀ (a b : Nat) (dk : Array α) (W : World), dk.size = d0.size → a ≤ b → b ≤ d0.size → SWK enc k w0 blk off dk W → Calls P 60 #[.slice (some ⟨blk, off, none⟩) d0.size cap, .int .i64 a, .int .i64 b, .func (.func g) #[] cb] W (MergedTo cf enc k w0 blk off dk a b))
    (d : Array α) (hs : d.size = d0.size) (w : World) (hw : SWK enc k w0 blk off d w) :
    Calls P 37 #[.slice (some ⟨blk, off, none⟩) d0.size cap, .func (.func g) #[] cb] w (MergedTo cf enc k w0 blk off d 0 d0.size) := by
  have C := stable_any L R h60 hS g cb eg hC cap eI hI d hs w hw
  have mixed := L.mixed; have t0 := L.t0; have a0 := L.a0; have z0 := L.z0; have v0 := L.v0; have t3 := L.t3; have a3 := L.a3; have z3 := L.z3; have v3 := L.v3; have t4 := L.t4; have a4 := L.a4; have z4 := L.z4; have v4 := L.v4; have t62 := L.t62; have a62 := L.a62; have z62 := L.z62; have v62 := L.v62; have t30 := L.t30; have a30 := L.a30; have z30 := L.z30; have v30 := L.v30; have t51 := L.t51; have a51 := L.a51; have z51 := L.z51; have v51 := L.v51; have aE := L.aE; have zE := L.zE
  have u30 := run_underlying L.t30
  have F := L.fSort
  have e53 : ∀ args w, (callFunc 53 args).run P w = .ok (.enter 53 args) w := enters_of L.fStab (by kernel_rfl) rfl
  clear hw R L hC hI
  go_enter F, Try.ntmps37
  go_wp2_with fail
  refine C.mono ?_
  rintro e w3 ⟨rfl, d3, hs3, hw3, hm3⟩
  have HM := Lib.hid (And.intro hs3 (And.intro hw3 hm3))
  clear hs3 hw3 hm3 C
  go_wp2
  go_end0
  exact ⟨rfl, d3, HM.out⟩
end Go.Proofs.Ytbaiiidkffafmaa.St
