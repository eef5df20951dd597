/- Words and contracts that the proofs of this seat stand on, part 27 of 39. -/
import Derived.Test.YtgaegfddobpomaaGreatOrZ

namespace Go.Proofs.YtgaegfddobpomaaGreat.St
open Go.ChangeShapes Go.WideShapes Go.ChangeAt Go.RowKit Go.Shelf Go.Lib Go.Sort
set_option linter.unusedVariables false
set_option maxRecDepth 100000
section
variable {α : Type} {lt : α → α → Bool}
def Blk (lt : α → α → Bool) (A : Nat → α) (bs lo n : Nat) : Prop := ∀ t i j, t * bs ≤ i → i < j → j < t * bs + bs → lo ≤ i → j < n → lt (A j) (A i) = false
theorem Blk.srt {A : Nat → α} {bs lo n x y : Nat} (h : Blk lt A bs lo n) (t : Nat) (hx : t * bs = x) (hl : lo ≤ x) (hy : y ≤ x + bs) (hn : y ≤ n) : Srt lt A x y := fun i j h1 h2 h3 =>
 h t i j (by omega) h2 (by omega) (by omega) (by omega)
theorem Blk.up {A A' : Nat → α} {B a e : Nat} (h : Blk lt A B 0 a) (q : Nat) (hq : a = q * B) (ho : ∀ i, i < a → A' i = A i) (hs : Srt lt A' a e) (he : e ≤ a + B) : Blk lt A' B 0 e := fun t i j h1 h2 h3 _ h5 => by
 rcases Nat.lt_or_ge j a with hj | hj
 · rw [ho j hj, ho i (by omega)]
   exact h t i j h1 h2 h3 (Nat.zero_le _) hj
 · refine hs i j ?_ h2 h5
   rcases Nat.lt_or_ge t q with ht | ht
   · have := Nat.mul_le_mul_right B (show t + 1 ≤ q from ht)
     rw [Nat.add_mul, Nat.one_mul] at this
     omega
   · have := Nat.mul_le_mul_right B ht
     omega
theorem Blk.past {A A' : Nat → α} {bs a e n : Nat} (h : Blk lt A bs a n) (ha : a ≤ e) (ho : ∀ i, e ≤ i → A' i = A i) : Blk lt A' bs e n := fun t i j h1 h2 h3 h4 h5 => by
 rw [ho i h4, ho j (by omega)]
 exact h t i j h1 h2 h3 (by omega) h5
theorem Merged.keeps {A A' : Nat → α} {a b n : Nat} (h : Merged lt A A' a b) (hab : a ≤ b) (hb : b ≤ n) : Keeps lt (seg A 0 n) (seg A' 0 n) := by
 rw [seg_add A (Nat.zero_le a) (show a ≤ n by omega), seg_add A hab hb, seg_add A' (Nat.zero_le a) (show a ≤ n by omega), seg_add A' hab hb,
   seg_congr (A := A) (A' := A') (a := 0) (b := a) (fun i _ hi => h.out i (.inl hi)), seg_congr (A := A) (A' := A') (a := b) (b := n) (fun i hi _ => h.out i (.inr hi))]
 exact (Keeps.refl _).app (h.keep.app (Keeps.refl _))
end
variable {P : Program} {α : Type} [Inhabited α] {enc : α → List Value} {k : Nat} {w0 : World} {blk off : Nat} {d0 : Array α}
theorem row_big (d : Array α) {i : Nat} (h : d.size ≤ i) : row d i = default := by
 show d[i]! = default
 rw [getElem!_def, Array.getElem?_eq_none h]
theorem merged_all {lt : α → α → Bool} {d d' : Array α} (hs : d'.size = d.size) (h1 : Srt lt (row d') 0 d.size) (h2 : Keeps lt (seg (row d) 0 d.size) (seg (row d') 0 d.size)) : Merged lt (row d) (row d') 0 d.size :=
 ⟨fun i hi => by rw [row_big d (by omega), row_big d' (by omega)], h1, h2⟩
theorem even_row (q bs : Nat) : (2 * q) * bs = q * (2 * bs) := by rw [Nat.mul_comm 2 q, Nat.mul_assoc]
theorem odd_row (q bs : Nat) : (2 * q + 1) * bs = q * (2 * bs) + bs := by rw [Nat.add_mul, Nat.one_mul, even_row]
set_option maxHeartbeats 8000000 in
theorem stable_any (L : Lays P k) (R : RowK enc k w0 blk off d0) (h60 : d0.size ≤ 1152921504606846976) {cf : α → α → Int} (hS : SWO (ltOf cf)) (g : Nat) (cb : Array Value) (eg : ∀ args w, (callFunc g args).run P w = .ok (.enter g args) w) (hC : CmpLays P g cb enc k cf blk off d0.size w0) (cap : Nat)
   (eI : ∀ args w, (callFunc 169 args).run P w = .ok (.enter 169 args) w)
   (hI : ∀ (a b : Nat) (dk : Array α) (W : World), dk.size = d0.size → a ≤ b → b ≤ d0.size → SWK enc k w0 blk off dk W → Calls P 169 #[.slice (some ⟨blk, off, none⟩) d0.size cap, .int .i64 a, .int .i64 b, .func (.func g) #[] cb] W (MergedTo cf enc k w0 blk off dk a b))
   (d : Array α) (hs : d.size = d0.size) (w : World) (hw : SWK enc k w0 blk off d w) :
   Calls P 144 #[.slice (some ⟨blk, off, none⟩) d0.size cap, .int .i64 d0.size, .func (.func g) #[] cb] w (MergedTo cf enc k w0 blk off d 0 d0.size) := by
 have mixed := L.mixed; have t0 := L.t0; have a0 := L.a0; have z0 := L.z0; have v0 := L.v0; have t3 := L.t3; have a3 := L.a3; have z3 := L.z3; have v3 := L.v3; have t4 := L.t4; have a4 := L.a4; have z4 := L.z4; have v4 := L.v4; have t62 := L.t62; have a62 := L.a62; have z62 := L.z62; have v62 := L.v62; have t30 := L.t30; have a30 := L.a30; have z30 := L.z30; have v30 := L.v30; have t51 := L.t51; have a51 := L.a51; have z51 := L.z51; have v51 := L.v51; have aE := L.aE; have zE := L.zE
 have u30 := run_underlying L.t30
 have F := L.fStab
 have e61 : ∀ args w, (callFunc 170 args).run P w = .ok (.enter 170 args) w := enters_of L.fMerge (by kernel_rfl) rfl
 have HSYM := Lib.hid (fun (a m b : Nat) (dk : Array α) (hd : dk.size = d0.size) (h1 : a < m) (h2 : m < b) (h3 : b ≤ d0.size) (q1 : Srt (ltOf cf) (row dk) a m) (q2 : Srt (ltOf cf) (row dk) m b) (W : World) (hW : SWK enc k w0 blk off dk W) => symMerge_any L R (by omega) hS g cb eg hC cap (b - a + 1) a m b dk (Nat.lt_succ_self _) hd h1 h2 h3 q1 q2 W hW)
 have HI := Lib.hid hI
 have HW := Lib.hid hw
 clear hw R L hC hI
 go_enter F, Tryz.ntmps144
 go_wp2
 go_loopw [7, 8] (fun va vb wr => ∃ (a q : Nat) (dk : Array α), va = .int .i64 (a : Int) ∧ vb = .int .i64 ((a : Int) + 20) ∧ Hid (a = q * 20) ∧ a ≤ d0.size ∧ dk.size = d0.size ∧ SWK enc k w0 blk off dk wr ∧ Blk (ltOf cf) (row dk) 20 0 a ∧ Keeps (ltOf cf) (seg (row d) 0 d0.size) (seg (row dk) 0 d0.size)) (fun va _ _ => d0.size - (intOf va).toNat)
 case atStart => exact ⟨0, 0, d, by go_num, by go_num, Lib.hid rfl, Nat.zero_le _, hs, HW.out, fun t i j _ _ _ _ h => by omega, Keeps.refl _⟩
 case round =>
   obtain ⟨a, q, dk, rfl, rfl, hq, han, hsk, hwk, hblk, hkeep⟩ := hrel
   have HWK := Lib.hid hwk
   have HBLK := Lib.hid hblk
   have HKEEP := Lib.hid hkeep
   clear hwk hblk hkeep
   by_cases hlt : a + 20 ≤ d0.size
   · have hz : (a : Int) + 20 ≤ (d0.size : Int) := by omega
     have w1 : IntKind.i64.wrap ((a : Int) + 20 + 20) = (a : Int) + 20 + 20 := by rw [IntKind.wrap_i64]; omega
     have C := HI.out a (a + 20) dk wr hsk (by omega) hlt HWK.out
     rw [show ((a + 20 : Nat) : Int) = (a : Int) + 20 by omega] at C
     go_wp2_with fail
     refine C.mono ?_
     rintro e w3 ⟨rfl, d3, hs3, hw3, hm3⟩
     have HW3 := Lib.hid hw3
     have hs3 : d3.size = d0.size := hs3.trans hsk
     have HB3 : Hid (Blk (ltOf cf) (row d3) 20 0 (a + 20)) := Lib.hid (HBLK.out.up q hq.out (fun i hi => hm3.out i (.inl hi)) hm3.srt (Nat.le_refl _))
     have HK3 := Lib.hid (HKEEP.out.trans (hm3.keeps (by omega) hlt))
     clear hw3 hm3 C
     go_wp2
     go_roundw
     case rel => exact ⟨a + 20, q + 1, d3, by go_num, by go_num, Lib.hid (by rw [hq.out]; omega), by omega, hs3, HW3.out, HB3.out, HK3.out⟩
     case measure => simp [intOf]; omega
   · have hz : ¬ (a : Int) + 20 ≤ (d0.size : Int) := by omega
     have C := HI.out a d0.size dk wr hsk han (Nat.le_refl _) HWK.out
     go_wp2_with fail
     refine C.mono ?_
     rintro e w3 ⟨rfl, d3, hs3, hw3, hm3⟩
     have HW3 := Lib.hid hw3
     have hs3 : d3.size = d0.size := hs3.trans hsk
     have HB3 : Hid (Blk (ltOf cf) (row d3) 20 0 d0.size) := Lib.hid (HBLK.out.up q hq.out (fun i hi => hm3.out i (.inl hi)) hm3.srt (by omega))
     have HK3 := Lib.hid (HKEEP.out.trans (hm3.keeps han (Nat.le_refl _)))
     clear hw3 hm3 C HWK HBLK HKEEP hz hlt hq han hsk
     go_wp2
     go_loopw [6] (fun vs wr => ∃ (bs : Nat) (dk : Array α), vs = .int .i64 (bs : Int) ∧ 20 ≤ bs ∧ bs ≤ 2305843009213693952 ∧ dk.size = d0.size ∧ SWK enc k w0 blk off dk wr ∧ Blk (ltOf cf) (row dk) bs 0 d0.size ∧ Keeps (ltOf cf) (seg (row d) 0 d0.size) (seg (row dk) 0 d0.size)) (fun vs _ => d0.size - (intOf vs).toNat)
     case atStart => exact ⟨20, d3, by go_num, Nat.le_refl _, by omega, hs3, HW3.out, HB3.out, HK3.out⟩
     case round =>
       obtain ⟨bs, dk, rfl, hb20, hbmax, hsk, hwk, hblk, hkeep⟩ := hrel
       have HWK := Lib.hid hwk
       have HBLK := Lib.hid hblk
       have HKEEP := Lib.hid hkeep
       clear hwk hblk hkeep
       by_cases hlt : bs < d0.size
       · have hz : (bs : Int) < (d0.size : Int) := by omega
         have w1 : IntKind.i64.wrap (2 * (bs : Int)) = 2 * (bs : Int) := by rw [IntKind.wrap_i64]; omega
         have w2 : IntKind.i64.wrap ((bs : Int) * 2) = (bs : Int) * 2 := by rw [IntKind.wrap_i64]; omega
         go_wp2
         go_loopw [7, 8] (fun va vb wr => ∃ (a q : Nat) (dk : Array α), va = .int .i64 (a : Int) ∧ vb = .int .i64 ((a : Int) + 2 * (bs : Int)) ∧ Hid (a = q * (2 * bs)) ∧ a ≤ d0.size ∧ dk.size = d0.size ∧ SWK enc k w0 blk off dk wr ∧ Blk (ltOf cf) (row dk) (2 * bs) 0 a ∧ Blk (ltOf cf) (row dk) bs a d0.size ∧ Keeps (ltOf cf) (seg (row d) 0 d0.size) (seg (row dk) 0 d0.size)) (fun va _ _ => d0.size - (intOf va).toNat)
         case atStart => exact ⟨0, 0, dk, by go_num, by go_num, Lib.hid (by omega), Nat.zero_le _, hsk, HWK.out, fun t i j _ _ _ _ h => by omega, HBLK.out, HKEEP.out⟩
         case round =>
           clear HWK HBLK HKEEP
           obtain ⟨a, q, d4, rfl, rfl, hq, han, hs4, hw4, hlow, hhigh, hkeep⟩ := hrel
           have HW4 := Lib.hid hw4
           have HLOW := Lib.hid hlow
           have HHIGH := Lib.hid hhigh
           have HKEEP := Lib.hid hkeep
           clear hw4 hlow hhigh hkeep
           have w3 : IntKind.i64.wrap ((a : Int) + (bs : Int)) = (a : Int) + (bs : Int) := by rw [IntKind.wrap_i64]; omega
           have eV : ((a + bs : Nat) : Int) = (a : Int) + (bs : Int) := by omega
           have eU : ((a + 2 * bs : Nat) : Int) = (a : Int) + 2 * (bs : Int) := by omega
           by_cases hle : a + 2 * bs ≤ d0.size
           · have hz1 : (a : Int) + 2 * (bs : Int) ≤ (d0.size : Int) := by omega
             have w4 : IntKind.i64.wrap ((a : Int) + 2 * (bs : Int) + 2 * (bs : Int)) = (a : Int) + 2 * (bs : Int) + 2 * (bs : Int) := by rw [IntKind.wrap_i64]; omega
             have C := HSYM.out a (a + bs) (a + 2 * bs) d4 hs4 (by omega) (by omega) hle (HHIGH.out.srt (2 * q) (by rw [even_row]; exact hq.out.symm) (Nat.le_refl _) (Nat.le_refl _) (by omega)) (HHIGH.out.srt (2 * q + 1) (by rw [odd_row]; have := hq.out; omega) (by omega) (by omega) hle) wr HW4.out
             rw [eV, eU] at C
             clear eU eV
             go_wp2_with fail
             refine C.mono ?_
             rintro e w5 ⟨rfl, d5, hs5, hw5, hm5⟩
             have HW5 := Lib.hid hw5
             have hs5 : d5.size = d0.size := hs5.trans hs4
             have HL5 : Hid (Blk (ltOf cf) (row d5) (2 * bs) 0 (a + 2 * bs)) := Lib.hid (HLOW.out.up q hq.out (fun i hi => hm5.out i (.inl hi)) hm5.srt (Nat.le_refl _))
             have HH5 : Hid (Blk (ltOf cf) (row d5) bs (a + 2 * bs) d0.size) := Lib.hid (HHIGH.out.past (by omega) (fun i hi => hm5.out i (.inr hi)))
             have HK5 := Lib.hid (HKEEP.out.trans (hm5.keeps (by omega) hle))
             have HQ5 : Hid (a + 2 * bs = (q + 1) * (2 * bs)) := Lib.hid (by rw [Nat.add_mul, Nat.one_mul, ← hq.out])
             clear hw5 hm5 C
             go_wp2
             go_roundw
             case rel => exact ⟨a + 2 * bs, q + 1, d5, by go_num, by go_num, HQ5, by omega, hs5, HW5.out, HL5.out, HH5.out, HK5.out⟩
             case measure => simp [intOf]; omega
           · have hz1 : ¬ (a : Int) + 2 * (bs : Int) ≤ (d0.size : Int) := by omega
             by_cases hm : a + bs < d0.size
             · have hz2 : (a : Int) + (bs : Int) < (d0.size : Int) := by omega
               have C := HSYM.out a (a + bs) d0.size d4 hs4 (by omega) hm (Nat.le_refl _) (HHIGH.out.srt (2 * q) (by rw [even_row]; exact hq.out.symm) (Nat.le_refl _) (Nat.le_refl _) (by omega)) (HHIGH.out.srt (2 * q + 1) (by rw [odd_row]; have := hq.out; omega) (by omega) (by omega) (Nat.le_refl _)) wr HW4.out
               rw [eV] at C
               clear eU eV
               go_wp2_with fail
               refine C.mono ?_
               rintro e w5 ⟨rfl, d5, hs5, hw5, hm5⟩
               have HW5 := Lib.hid hw5
               have hs5 : d5.size = d0.size := hs5.trans hs4
               have HL5 : Hid (Blk (ltOf cf) (row d5) (2 * bs) 0 d0.size) := Lib.hid (HLOW.out.up q hq.out (fun i hi => hm5.out i (.inl hi)) hm5.srt (by omega))
               have HK5 := Lib.hid (HKEEP.out.trans (hm5.keeps han (Nat.le_refl _)))
               clear hw5 hm5 C
               go_wp2
               go_roundw
               case rel => exact ⟨2 * bs, d5, by go_num, by omega, by omega, hs5, HW5.out, HL5.out, HK5.out⟩
               case measure => simp [intOf]; omega
             · have hz2 : ¬ (a : Int) + (bs : Int) < (d0.size : Int) := by omega
               have HL5 : Hid (Blk (ltOf cf) (row d4) (2 * bs) 0 d0.size) := Lib.hid (HLOW.out.up q hq.out (fun i hi => rfl) (HHIGH.out.srt (2 * q) (by rw [even_row]; exact hq.out.symm) (Nat.le_refl _) (by omega) (Nat.le_refl _)) (by omega))
               clear eU eV
               go_wp2
               go_roundw
               case rel => exact ⟨2 * bs, d4, by go_num, by omega, by omega, hs4, HW4.out, HL5.out, HKEEP.out⟩
               case measure => simp [intOf]; omega
       · have hz : ¬ (bs : Int) < (d0.size : Int) := by omega
         go_wp2
         go_end0
         refine ⟨rfl, dk, hsk.trans hs.symm, HWK.out, ?_⟩
         have h := merged_all (lt := ltOf cf) (d := d) (d' := dk) (hsk.trans hs.symm) (by rw [hs]; exact HBLK.out.srt 0 (by omega) (Nat.le_refl _) (by omega) (Nat.le_refl _)) (by rw [hs]; exact HKEEP.out)
         rw [hs] at h
         exact h
set_option maxHeartbeats 2000000 in
theorem sortStable_any (L : Lays P k) (R : RowK enc k w0 blk off d0) (h60 : d0.size ≤ 1152921504606846976) {cf : α → α → Int} (hS : SWO (ltOf cf)) (g : Nat) (cb : Array Value) (eg : ∀ args w, (callFunc g args).run P w = .ok (.enter g args) w) (hC : CmpLays P g cb enc k cf blk off d0.size w0) (cap : Nat)
   (eI : ∀ args w, (callFunc 169 args).run P w = .ok (.enter 169 args) w)
   (hI : ∀ (a b : Nat) (dk : Array α) (W : World), dk.size = d0.size → a ≤ b → b ≤ d0.size → SWK enc k w0 blk off dk W → Calls P 169 #[.slice (some ⟨blk, off, none⟩) d0.size cap, .int .i64 a, .int .i64 b, .func (.func g) #[] cb] W (MergedTo cf enc k w0 blk off dk a b))
   (d : Array α) (hs : d.size = d0.size) (w : World) (hw : SWK enc k w0 blk off d w) :
   Calls P 106 #[.slice (some ⟨blk, off, none⟩) d0.size cap, .func (.func g) #[] cb] w (MergedTo cf enc k w0 blk off d 0 d0.size) := by
 have C := stable_any L R h60 hS g cb eg hC cap eI hI d hs w hw
 have mixed := L.mixed; have t0 := L.t0; have a0 := L.a0; have z0 := L.z0; have v0 := L.v0; have t3 := L.t3; have a3 := L.a3; have z3 := L.z3; have v3 := L.v3; have t4 := L.t4; have a4 := L.a4; have z4 := L.z4; have v4 := L.v4; have t62 := L.t62; have a62 := L.a62; have z62 := L.z62; have v62 := L.v62; have t30 := L.t30; have a30 := L.a30; have z30 := L.z30; have v30 := L.v30; have t51 := L.t51; have a51 := L.a51; have z51 := L.z51; have v51 := L.v51; have aE := L.aE; have zE := L.zE
 have u30 := run_underlying L.t30
 have F := L.fSort
 have e53 : ∀ args w, (callFunc 144 args).run P w = .ok (.enter 144 args) w := enters_of L.fStab (by kernel_rfl) rfl
 clear hw R L hC hI
 go_enter F, Tryz.ntmps106
 go_wp2_with fail
 refine C.mono ?_
 rintro e w3 ⟨rfl, d3, hs3, hw3, hm3⟩
 have HM := Lib.hid (And.intro hs3 (And.intro hw3 hm3))
 clear hs3 hw3 hm3 C
 go_wp2
 go_end0
 exact ⟨rfl, d3, HM.out⟩
structure LaysC (P : Program) (k : Nat) : Prop where
 mixed : P.follows .mixedOrders = true
 fComp : P.funcs[(108 : Nat)]? = some Tryz.f108
 t0 : P.underlying 0 = some (TypeDesc.tuple #[])
 a0 : ∀ w, (isAgg 0).run P w = .ok false w
 z0 : ∀ w, (Go.sizeOf 0).run P w = .ok 1 w
 v0 : ∀ w, (zeroValue 0).run P w = .ok (Value.tuple #[]) w
 t3 : P.underlying 3 = some (TypeDesc.int IntKind.i64)
 a3 : ∀ w, (isAgg 3).run P w = .ok false w
 z3 : ∀ w, (Go.sizeOf 3).run P w = .ok 1 w
 v3 : ∀ w, (zeroValue 3).run P w = .ok (Value.int IntKind.i64 0) w
 t4 : P.underlying 4 = some (TypeDesc.bool)
 a4 : ∀ w, (isAgg 4).run P w = .ok false w
 z4 : ∀ w, (Go.sizeOf 4).run P w = .ok 1 w
 v4 : ∀ w, (zeroValue 4).run P w = .ok (Value.bool false) w
 t30 : P.underlying 29 = some (TypeDesc.slice 38)
 a30 : ∀ w, (isAgg 29).run P w = .ok false w
 z30 : ∀ w, (Go.sizeOf 29).run P w = .ok 1 w
 v30 : ∀ w, (zeroValue 29).run P w = .ok (Value.slice none 0 0) w
 t33 : P.underlying 49 = some (TypeDesc.func #[38, 38] #[4] false)
 a33 : ∀ w, (isAgg 49).run P w = .ok false w
 z33 : ∀ w, (Go.sizeOf 49).run P w = .ok 1 w
 v33 : ∀ w, (zeroValue 49).run P w = .ok (Value.nilFunc) w
 aE : ∀ w, (isAgg 38).run P w = .ok true w
 zE : ∀ w, (Go.sizeOf 38).run P w = .ok k w
def firsts {α : Type} (ef : α → α → Bool) (A : Nat → α) : Nat → List α
 | 0 => []
 | m + 1 => if m ≠ 0 ∧ ef (A m) (A (m - 1)) = true then firsts ef A m else firsts ef A m ++ [A m]
theorem firsts_skip {α : Type} {ef : α → α → Bool} {A : Nat → α} {m : Nat} (h0 : 0 < m) (h : ef (A m) (A (m - 1)) = true) : firsts ef A (m + 1) = firsts ef A m := by
 show (if m ≠ 0 ∧ ef (A m) (A (m - 1)) = true then firsts ef A m else firsts ef A m ++ [A m]) = _
 rw [if_pos ⟨by omega, h⟩]
theorem firsts_keep {α : Type} {ef : α → α → Bool} {A : Nat → α} {m : Nat} (h : m = 0 ∨ ef (A m) (A (m - 1)) = false) : firsts ef A (m + 1) = firsts ef A m ++ [A m] := by
 show (if m ≠ 0 ∧ ef (A m) (A (m - 1)) = true then firsts ef A m else firsts ef A m ++ [A m]) = _
 rw [if_neg (fun hh => by rcases h with h | h; exact hh.1 h; rw [h] at hh; cases hh.2)]
theorem seg_next {α : Type} (A : Nat → α) {a m : Nat} (h : a ≤ m) : seg A a (m + 1) = seg A a m ++ [A m] := by rw [seg_add A h (Nat.le_succ m), seg_one]
variable {P : Program} {α : Type} [Inhabited α] {enc : α → List Value} {k : Nat} {w0 W : World} {blk off : Nat} {d0 dk : Array α}
theorem setMany_one (hk : ∀ x, (enc x).length = k) (d : Array α) (i : Nat) (hi : i < d.size) (y : α) : setMany (flatK enc k d) (i * k) (enc y) = flatK enc k (d.setIfInBounds i y) := by
 refine ext_get! (by simp) fun t ht => ?_
 have ht' : t < d.size * k := by simpa using ht
 have k0 : 0 < k := by
   rcases Nat.eq_zero_or_pos k with h | h
   · subst h; simp at ht'
   · exact h
 rw [get_setMany _ _ _ t (by simpa using ht'), get_flatK _ _ _ t ht', get_flatK _ _ _ t (by simpa using ht'), hk]
 by_cases a : t / k = i
 · rw [if_pos ((blk_iff k i t k0).2 a), show t - i * k = t % k by subst a; rw [Nat.mod_eq_sub_div_mul], a]
   congr 1
   simp [hi]
 · rw [if_neg (fun h => a ((blk_iff k i t k0).1 h))]
   congr 1
   simp [getElem!_def, Ne.symm a]
def wipe (d : Array α) (m : Nat) (z : α) : Array α := (Array.range d.size).map fun i => if i < m then d[i]! else z
omit [Inhabited α] in
theorem size_wipe [Inhabited α] (d : Array α) (m : Nat) (z : α) : (wipe d m z).size = d.size := by simp [wipe]
theorem get_wipe (d : Array α) (m : Nat) (z : α) {i : Nat} (h : i < d.size) : (wipe d m z)[i]! = if i < m then d[i]! else z := by simp [wipe, h]
theorem setMany_wipe (hk : ∀ x, (enc x).length = k) (d : Array α) (m : Nat) (z : α) (hm : m ≤ d.size) : setMany (flatK enc k d) (m * k) (Builtin.zeroCells (enc z).toArray (d.size - m)).toList = flatK enc k (wipe d m z) := by
 refine ext_get! (by rw [size_setMany, size_flatK, size_flatK, size_wipe]) fun t ht => ?_
 have ht' : t < d.size * k := by simpa using ht
 have k0 : 0 < k := by
   rcases Nat.eq_zero_or_pos k with h | h
   · subst h; simp at ht'
   · exact h
 have hl : (Builtin.zeroCells (enc z).toArray (d.size - m)).toList.length = (d.size - m) * k := by simp [Builtin.zeroCells, hk]
 have hsz : t / k < d.size := (Nat.div_lt_iff_lt_mul k0).2 ht'
 rw [get_setMany _ _ _ t (by simpa using ht'), get_flatK _ _ _ t ht', get_flatK _ _ _ t (by rw [size_wipe]; exact ht'), hl, get_wipe d m z hsz]
 have hx : m * k + (d.size - m) * k = d.size * k := by rw [← Nat.add_mul]; congr 1; omega
 by_cases a : t / k < m
 · have h1 : t < m * k := (Nat.div_lt_iff_lt_mul k0).1 a
   rw [if_neg (by omega), if_pos a]
 · have h1 : m * k ≤ t := by
     rcases Nat.lt_or_ge t (m * k) with h | h
     · exact absurd ((Nat.div_lt_iff_lt_mul k0).2 h) a
     · exact h
   rw [if_pos ⟨h1, by omega⟩, if_neg a]
   have e : (t - m * k) % k = t % k := by
     have := Nat.add_mul_mod_self_right (t - m * k) m k
     rw [← this]
     congr 1
     omega
   have hj : t - m * k < (d.size - m) * k := by omega
   rw [getElem!_pos _ _ (by rw [hl]; exact hj)]
   simp [Builtin.zeroCells, hk, e]
theorem swk_set1 (h : SWK enc k w0 blk off dk W) (hk : ∀ x, (enc x).length = k) (hblk : blk < w0.heap.size) (i : Nat) (hi : i < dk.size) (y : α) : SWK enc k w0 blk off (dk.setIfInBounds i y) (W.setCells blk (off + i * k) (enc y)) := by
 obtain ⟨n, os, rfl⟩ := h
 refine ⟨n, os, ?_⟩
 unfold sortWorldK
 rw [setCells_grow os blk _ _ _ (by rw [size_putRowK]; exact hblk)]
 congr 1
 unfold putRowK
 rw [setCells_putRow _ _ _ _ _ _ (by rw [hk, size_flatK]; exact rowK_bnd dk k i hi), setMany_one hk dk i hi y]
theorem swk_wiped (h : SWK enc k w0 blk off dk W) (hk : ∀ x, (enc x).length = k) (hblk : blk < w0.heap.size) (m : Nat) (hm : m ≤ dk.size) (z : α) : SWK enc k w0 blk off (wipe dk m z) (W.setCells blk (off + m * k) (Builtin.zeroCells (enc z).toArray (dk.size - m)).toList) := by
 obtain ⟨n, os, rfl⟩ := h
 refine ⟨n, os, ?_⟩
 unfold sortWorldK
 rw [setCells_grow os blk _ _ _ (by rw [size_putRowK]; exact hblk)]
 congr 1
 unfold putRowK
 rw [setCells_putRow _ _ _ _ _ _ (by rw [size_flatK]; simp [Builtin.zeroCells, hk]; rw [← Nat.add_mul]; exact Nat.mul_le_mul_right k (by omega)), setMany_wipe hk dk m z hm]
theorem swk_st0 (h : SWK enc k w0 blk off dk W) (R : RowK enc k w0 blk off d0) (hs : dk.size = d0.size) (P : Program) (i : Nat) (hi : i < dk.size) (y : α) :
   Sem.run P (storeCells ⟨blk, off + i * k, none⟩ (enc y) 0) W = .ok () (W.setCells blk (off + i * k) (enc y)) :=
 stores_of_holds P (h.holds R.hblk R.hH hs) (i * k) _ (by rw [R.hk, size_flatK]; exact rowK_bnd dk k i hi) (R.h1 _)
theorem swk_clr (h : SWK enc k w0 blk off dk W) (R : RowK enc k w0 blk off d0) (hs : dk.size = d0.size) {t e : TypeId} (ht : P.underlying t = some (TypeDesc.slice e)) (z : α) (vE : ∀ w, (zeroValue e).run P w = .ok (Value.agg (enc z).toArray) w) (m : Nat) (hm : m < dk.size) (c : Nat) (ty : TypeId) :
   (Builtin.clear_ #[t] ty #[.slice (some ⟨blk, off + m * k, none⟩) (dk.size - m) c]).run P W = .ok (.tuple #[]) (W.setCells blk (off + m * k) (Builtin.zeroCells (enc z).toArray (dk.size - m)).toList) := by
 have hz : ∀ v ∈ (Builtin.zeroCells (enc z).toArray (dk.size - m)).toList, v.oneCell' = true := by
   intro v hv
   obtain ⟨j, hj, rfl⟩ := List.getElem_of_mem hv
   simp only [Array.getElem_toList, Builtin.zeroCells] at hj ⊢
   by_cases hk0 : k = 0
   · simp [R.hk, hk0] at hj
   · have hlt : j % k < (enc z).length := by rw [R.hk]; exact Nat.mod_lt _ (by omega)
     simp [R.hk]
     rw [List.getElem?_eq_getElem hlt]
     exact R.h1 z _ (List.getElem_mem _)
 have hst := stores_of_holds P (h.holds R.hblk R.hH hs) (m * k) (Builtin.zeroCells (enc z).toArray (dk.size - m)).toList (by rw [size_flatK]; simp [Builtin.zeroCells, R.hk]; rw [← Nat.add_mul]; exact Nat.mul_le_mul_right k (by omega)) hz
 obtain ⟨q, hq⟩ : ∃ q, dk.size - m = q + 1 := ⟨dk.size - m - 1, by omega⟩
 rw [hq] at hst ⊢
 simp [Builtin.clear_, run_underlying ht, vE, Value.cells, hst]
def EqLays (P : Program) (g : Nat) (cb : Array Value) (enc : α → List Value) (k : Nat) (ef : α → α → Bool) (blk off size : Nat) (w : World) : Prop :=
 ∀ (m : Nat) (os : Array Obj) (dk : Array α), dk.size = size → ∀ x y : α,
   Calls P g (#[.agg (enc x).toArray, .agg (enc y).toArray] ++ cb) (sortWorldK enc k w blk off m dk os) fun e w' => e = .returned (.bool (ef x y)) ∧ ∃ q os', w' = grow ((sortWorldK enc k w blk off m dk os).drewN q) os'
theorem swk_eq {g : Nat} {cb : Array Value} {ef : α → α → Bool} {size : Nat} (h : SWK enc k w0 blk off dk W) (hE : EqLays P g cb enc k ef blk off size w0) (hs : dk.size = size) (x y : α) (n : Nat) (os : Array Obj) :
   Calls P g (#[.agg (enc x).toArray, .agg (enc y).toArray] ++ cb) (grow (W.drewN n) os) fun e w' => e = .returned (.bool (ef x y)) ∧ ∃ q os', w' = grow ((grow (W.drewN n) os).drewN q) os' := by
 obtain ⟨m, os0, hw⟩ := h.grown n os
 rw [hw]
 exact hE m os0 dk hs x y
def CompTo (ef : α → α → Bool) (enc : α → List Value) (k : Nat) (w0 : World) (blk off cap : Nat) (d : Array α) (e : Ending) (w' : World) : Prop :=
 ∃ (m : Nat) (d' : Array α), m ≤ d.size ∧ e = .returned (.slice (some ⟨blk, off, none⟩) m cap) ∧ d'.size = d.size ∧ SWK enc k w0 blk off d' w' ∧ seg (row d') 0 m = firsts ef (row d) d.size
set_option maxHeartbeats 8000000 in
theorem compactFunc_any (L : LaysC P k) (R : RowK enc k w0 blk off d0) (h62 : d0.size < 4611686018427387904) (cap : Nat) (hcap : d0.size ≤ cap) (z : α) (vE : ∀ w, (zeroValue 38).run P w = .ok (Value.agg (enc z).toArray) w) (ef : α → α → Bool) (g : Nat) (cb : Array Value) (eg : ∀ args w, (callFunc g args).run P w = .ok (.enter g args) w) (hE : EqLays P g cb enc k ef blk off d0.size w0)
   (d : Array α) (hs : d.size = d0.size) (w : World) (hw : SWK enc k w0 blk off d w) :
   Calls P 108 #[.slice (some ⟨blk, off, none⟩) d0.size cap, .func (.func g) #[] cb] w (CompTo ef enc k w0 blk off cap d) := by
 have mixed := L.mixed; have t0 := L.t0; have a0 := L.a0; have z0 := L.z0; have v0 := L.v0; have t3 := L.t3; have a3 := L.a3; have z3 := L.z3; have v3 := L.v3; have t4 := L.t4; have a4 := L.a4; have z4 := L.z4; have v4 := L.v4; have t30 := L.t30; have a30 := L.a30; have z30 := L.z30; have v30 := L.v30; have t33 := L.t33; have a33 := L.a33; have z33 := L.z33; have v33 := L.v33; have aE := L.aE; have zE := L.zE
 have u30 := run_underlying L.t30
 have F := L.fComp
 have HT30 := Lib.hid L.t30
 have HR := Lib.hid R
 have HW := Lib.hid hw
 have HE := Lib.hid hE
 have HV := Lib.hid vE
 clear hw R L hE vE
 by_cases h2 : d0.size < 2
 · have d2 : decide ((d0.size : Int) < 2) = true := decide_eq_true (by omega)
   have hf : seg (row d) 0 d.size = firsts ef (row d) d.size := by
     have h01 : d.size = 0 ∨ d.size = 1 := by omega
     rcases h01 with h | h <;> rw [h] <;> simp [seg, firsts]
   have HF := Lib.hid hf
   clear hf
   go_enter F, Tryz.ntmps108
   go_wp2
   go_ret
   exact ⟨d0.size, d, by omega, rfl, rfl, HW.out, by rw [← hs]; exact HF.out⟩
 · have d2 : decide ((d0.size : Int) < 2) = false := decide_eq_false (by omega)
   go_enter F, Tryz.ntmps108
   go_wp2
   go_loopw [5] (fun vi wr => ∃ i : Nat, vi = .int .i64 ((i : Int) + 1) ∧ i + 1 ≤ d0.size ∧ SWK enc k w0 blk off d wr ∧ seg (row d) 0 (i + 1) = firsts ef (row d) (i + 1)) (fun vi _ => d0.size - (intOf vi).toNat)
   case atStart => exact ⟨0, by go_num, by omega, HW.out, by simp [seg, firsts]⟩
   case round =>
     obtain ⟨i, rfl, hi, hwk, hf⟩ := hrel
     have HWK := Lib.hid hwk
     have HF := Lib.hid hf
     clear hwk hf
     by_cases hlt : i + 1 < d0.size
     · have hz : (i : Int) + 1 < (d0.size : Int) := by omega
       have hz0 : (i : Int) < (d0.size : Int) := by omega
       have p1 : ((i : Int) + 1).toNat = i + 1 := by omega
       have p2 : (0 : Int) ≤ (i : Int) + 1 := by omega
       have p3 : IntKind.i64.wrap (i : Int) = (i : Int) := by rw [IntKind.wrap_i64]; omega
       have l1 := HWK.out.ld HR.out hs P (i + 1) (by omega)
       have l2 := HWK.out.ld HR.out hs P i (by omega)
       have hc := swk_eq HWK.out HE.out hs d[i + 1]! d[i]!
       have HG := Lib.hid (fun n os => HWK.out.grown n os)
       have hsA : (enc d[i + 1]!).length = k := HR.out.hk _
       have hsB : (enc d[i]!).length = k := HR.out.hk _
       cases hev : ef d[i + 1]! d[i]! with
       | false =>
         have HN : Hid (seg (row d) 0 (i + 1 + 1) = firsts ef (row d) (i + 1 + 1)) := Lib.hid (by rw [seg_next _ (Nat.zero_le _), firsts_keep (.inr hev), HF.out])
         rw [hev] at hc
         clear hev
         generalize enc d[i + 1]! = cA at *
         generalize enc d[i]! = cB at *
         go_wp2_with fail
         go_quiet_grown (first | (go_at_fn g; refine Calls.grown_of (hc _ _)))
         have HW2 := Lib.hid (HG.out nq osq)
         clear l1 l2 hc HG
         generalize grow (wr.drewN nq) osq = w2 at HW2 ⊢
         go_wp2
         go_roundw
         case rel => exact ⟨i + 1, by go_num, by omega, HW2.out, HN.out⟩
         case measure => simp [intOf]; omega
       | true =>
         have HN : Hid (seg (row d) 0 (i + 1) = firsts ef (row d) (i + 1 + 1)) := Lib.hid (by rw [firsts_skip (A := row d) (m := i + 1) (by omega) hev, HF.out])
         rw [hev] at hc
         clear hev
         generalize enc d[i + 1]! = cA at *
         generalize enc d[i]! = cB at *
         go_wp2_with fail
         go_quiet_grown (first | (go_at_fn g; refine Calls.grown_of (hc _ _)))
         have HW2 := Lib.hid (HG.out nq osq)
         clear l1 l2 hc HG
         generalize grow (wr.drewN nq) osq = w2 at HW2 ⊢
         have hcap1 : i + 1 < cap := by omega
         go_wp2
         go_loopw [5, 7] (fun vi vj wr => ∃ (kk j : Nat) (dk : Array α), vi = .int .i64 (kk : Int) ∧ vj = .int .i64 ((j : Int) + 1) ∧ i + 1 + (j + 1) ≤ d0.size ∧ kk ≤ i + 1 + j ∧ dk.size = d0.size ∧ SWK enc k w0 blk off dk wr ∧ seg (row dk) 0 kk = firsts ef (row d) (i + 1 + (j + 1)) ∧ (∀ x, i + 1 + j ≤ x → row dk x = row d x)) (fun _ vj _ => d0.size - (intOf vj).toNat)
         case atStart => exact ⟨i + 1, 0, d, by go_num, by go_num, by omega, by omega, hs, HW2.out, HN.out, fun _ _ => rfl⟩
         case round =>
           clear HW2 HN HWK HF hsA hsB
           obtain ⟨kk, j, dk, rfl, rfl, hle, hkk, hsk, hwk, hf, hsame⟩ := hrel
           have HWK := Lib.hid hwk
           have HF := Lib.hid hf
           have HS := Lib.hid hsame
           clear hwk hf hsame
           by_cases hlt2 : i + 1 + (j + 1) < d0.size
           · have y1 : (j : Int) + 1 < (d0.size : Int) - ((i : Int) + 1) := by omega
             have y2 : ((j : Int) + 1).toNat = j + 1 := by omega
             have y3 : (0 : Int) ≤ (j : Int) + 1 := by omega
             have y4 : (j : Int) < (d0.size : Int) - ((i : Int) + 1) := by omega
             have y5 : j + 1 < d0.size - (i + 1) := by omega
             have y6 : j < d0.size - (i + 1) := by omega
             have y7 : IntKind.i64.wrap (j : Int) = (j : Int) := by rw [IntKind.wrap_i64]; omega
             have y8 : (j : Int) + 1 < ((d0.size - (i + 1) : Nat) : Int) := by omega
             have y9 : (j : Int) < ((d0.size - (i + 1) : Nat) : Int) := by omega
             have l1 := HWK.out.ld HR.out hsk P (i + 1 + (j + 1)) (by omega)
             have l2 := HWK.out.ld HR.out hsk P (i + 1 + j) (by omega)
             rw [show off + (i + 1 + (j + 1)) * k = off + (i + 1) * k + (j + 1) * k by rw [Nat.add_mul (i + 1)]; omega] at l1
             rw [show off + (i + 1 + j) * k = off + (i + 1) * k + j * k by rw [Nat.add_mul (i + 1)]; omega] at l2
             have hc := swk_eq HWK.out HE.out hsk dk[i + 1 + (j + 1)]! dk[i + 1 + j]!
             have HG := Lib.hid (fun n os => HWK.out.grown n os)
             have hsA : (enc dk[i + 1 + (j + 1)]!).length = k := HR.out.hk _
             have hsB : (enc dk[i + 1 + j]!).length = k := HR.out.hk _
             have hx1 : dk[i + 1 + (j + 1)]! = d[i + 1 + (j + 1)]! := HS.out _ (by omega)
             have hx2 : dk[i + 1 + j]! = d[i + 1 + j]! := HS.out _ (by omega)
             cases hev : ef dk[i + 1 + (j + 1)]! dk[i + 1 + j]! with
             | true =>
               have HN2 : Hid (seg (row dk) 0 kk = firsts ef (row d) (i + 1 + (j + 1) + 1)) := Lib.hid (by rw [firsts_skip (A := row d) (m := i + 1 + (j + 1)) (by omega) (by rw [hx1, hx2] at hev; exact hev), HF.out])
               rw [hev] at hc
               clear hev hx1 hx2
               generalize enc dk[i + 1 + (j + 1)]! = cC at *
               generalize enc dk[i + 1 + j]! = cD at *
               go_wp2_with fail
               go_quiet_grown (first | (go_at_fn g; refine Calls.grown_of (hc _ _)))
               have HW3 := Lib.hid (HG.out nq osq)
               clear l1 l2 hc HG
               generalize grow (wr.drewN nq) osq = w3 at HW3 ⊢
               go_wp2
               go_roundw
               case rel => exact ⟨kk, j + 1, dk, rfl, by go_num, by omega, by omega, hsk, HW3.out, HN2.out, fun x hx => HS.out x (by omega)⟩
               case measure => simp [intOf]; omega
             | false =>
               have HN2 : Hid (seg (row (dk.setIfInBounds kk dk[i + 1 + (j + 1)]!)) 0 (kk + 1) = firsts ef (row d) (i + 1 + (j + 1) + 1)) := Lib.hid (by
                 rw [firsts_keep (A := row d) (m := i + 1 + (j + 1)) (.inr (by rw [hx1, hx2] at hev; exact hev)), seg_next _ (Nat.zero_le _), ← HF.out, hx1]
                 congr 1
                 · exact seg_congr (fun x _ hx => by show (dk.setIfInBounds kk _)[x]! = dk[x]!; simp [getElem!_def, show kk ≠ x by omega])
                 · congr 1
                   show (dk.setIfInBounds kk _)[kk]! = d[i + 1 + (j + 1)]!
                   have hk1 : kk < dk.size := by omega
                   simp [hk1])
               have HS2 : Hid (∀ x, i + 1 + (j + 1) ≤ x → row (dk.setIfInBounds kk dk[i + 1 + (j + 1)]!) x = row d x) := Lib.hid (fun x hx => by
                 rw [← HS.out x (by omega)]
                 show (dk.setIfInBounds kk _)[x]! = dk[x]!
                 simp [getElem!_def, show kk ≠ x by omega])
               have HL3 := Lib.hid (fun n os => (HG.out n os).load HR.out hsk P (i + 1 + (j + 1)) (by omega))
               have HT3 := Lib.hid (fun n os => swk_st0 (HG.out n os) HR.out hsk P kk (by omega) dk[i + 1 + (j + 1)]!)
               have HW4 := Lib.hid (fun n os => swk_set1 (HG.out n os) HR.out.hk HR.out.hblk kk (by omega) dk[i + 1 + (j + 1)]!)
               rw [hev] at hc
               clear hev hx1 hx2
               generalize hdd : dk.setIfInBounds kk dk[i + 1 + (j + 1)]! = dd at HN2 HS2 HW4
               have hsd : dd.size = d0.size := by rw [← hdd]; simp [hsk]
               clear hdd
               generalize enc dk[i + 1 + (j + 1)]! = cC at *
               generalize enc dk[i + 1 + j]! = cD at *
               go_wp2_with fail
               go_quiet_grown (first | (go_at_fn g; refine Calls.grown_of (hc _ _)))
               have l3 := HL3.out nq osq
               have s3 := HT3.out nq osq
               have HW5 := Lib.hid (HW4.out nq osq)
               rw [show off + (i + 1 + (j + 1)) * k = off + (i + 1) * k + (j + 1) * k by rw [Nat.add_mul (i + 1)]; omega] at l3
               clear l1 l2 hc HG HL3 HT3 HW4
               generalize grow (wr.drewN nq) osq = w3 at l3 s3 HW5 ⊢
               have z1 : (kk : Int) < (d0.size : Int) := by omega
               go_wp2
               go_roundw
               case rel => exact ⟨kk + 1, j + 1, dd, by go_num, by go_num, by omega, by omega, hsd, HW5.out, HN2.out, HS2.out⟩
               case measure => simp [intOf]; omega
           · have hend : i + 1 + (j + 1) = d0.size := by omega
             have HEND : Hid (seg (row (wipe dk kk z)) 0 kk = firsts ef (row d) d.size) := Lib.hid (by
               rw [hs, ← hend, ← HF.out]
               exact seg_congr (fun x _ hx => by show (wipe dk kk z)[x]! = dk[x]!; rw [get_wipe dk kk z (by omega), if_pos hx]))
             have y1 : ¬ (j : Int) + 1 < (d0.size : Int) - ((i : Int) + 1) := by omega
             have y5 : ¬ j + 1 < d0.size - (i + 1) := by omega
             have hcl := fun ty => swk_clr HWK.out HR.out hsk HT30.out z HV.out kk (by omega) (cap - kk) ty
             have HW6 := Lib.hid (swk_wiped HWK.out HR.out.hk HR.out.hblk kk (by omega) z)
             rw [hsk] at hcl
             have HW7 := Lib.hid (hsk ▸ HW6.out)
             generalize wr.setCells blk (off + kk * k) (Builtin.zeroCells (enc z).toArray (d0.size - kk)).toList = wz at hcl HW7
             have z1 : kk < d0.size := by omega
             have z2 : kk < cap := by omega
             clear HW6 HWK HF
             go_wp2
             go_ret
             exact ⟨kk, wipe dk kk z, by omega, rfl, by rw [size_wipe]; exact hsk.trans hs.symm, HW7.out, HEND.out⟩
     · have e : i + 1 = d0.size := by omega
       have HN : Hid (seg (row d) 0 d0.size = firsts ef (row d) d.size) := Lib.hid (by rw [hs, ← e]; exact HF.out)
       have hz : ¬ (i : Int) + 1 < (d0.size : Int) := by omega
       clear e
       go_wp2
       go_ret
       exact ⟨d0.size, d, by omega, rfl, rfl, HWK.out, HN.out⟩
end Go.Proofs.YtgaegfddobpomaaGreat.St
