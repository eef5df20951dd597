/- Words and contracts that the proofs of this seat stand on, part 26 of 39. -/
import Derived.Test.YtgaegfddobpomaaGreatOrY
import Derived.Deep.DeepCutAuto

namespace Go.Proofs.YtgaegfddobpomaaGreat.St
open Go.ChangeShapes Go.WideShapes Go.ChangeAt Go.RowKit Go.Shelf Go.Lib Go.Sort
set_option linter.unusedVariables false
set_option maxRecDepth 1000000
variable {P : Program} {α : Type} [Inhabited α] {enc : α → List Value} {k : Nat} {w0 : World} {blk off : Nat} {d0 : Array α}
omit [Inhabited α] in
theorem Cut.parts {lt : α → α → Bool} (hS : SWO lt) {A : Nat → α} {a m b mid s : Nat} (hm : mid = (a + b) / 2) (ha : a < m) (hb : m < b) (h1 : Srt lt A a m) (h2 : Srt lt A m b) (C : Cut lt A a m b mid s) :
   Srt lt (rot A s m (mid + m - s)) a s ∧ Srt lt (rot A s m (mid + m - s)) s mid ∧ Srt lt (rot A s m (mid + m - s)) mid (mid + m - s) ∧ Srt lt (rot A s m (mid + m - s)) (mid + m - s) b := by
 obtain ⟨q1, q2, q3, q4, q5, q6, q7, q8⟩ := C.fits hS hm ha hb h1 h2
 have lo := rot_low A s m (mid + m - s) q2 q4
 have hi := rot_high A s m (mid + m - s) q2 q4
 rw [show mid + m - s - m = mid - s by omega] at lo hi
 rw [show s + (mid - s) = mid by omega] at hi
 have ot := fun i => rot_out A s m (mid + m - s) i q2 q4
 refine ⟨(h1.part (Nat.le_refl _) q2).congr (fun i _ h => ot i (.inl h)), ?_, ?_, (h2.part q4 (Nat.le_refl _)).congr (fun i h _ => ot i (.inr h))⟩
 · have := Srt.shift (c := m) (n := mid - s) (h2.part (Nat.le_refl _) (by omega)) lo
   rwa [show s + (mid - s) = mid by omega] at this
 · have := Srt.shift (c := s) (n := m - s) (h1.part q1 (by omega)) hi
   rwa [show mid + (m - s) = mid + m - s by omega] at this
def Within (P : Program) (cf : α → α → Int) (g : Nat) (cb : Array Value) (enc : α → List Value) (k : Nat) (w0 : World) (blk off cap size below : Nat) : Prop :=
 ∀ (x y z : Nat) (d' : Array α), d'.size = size → z - x < below → x < y → y < z → z ≤ size → Srt (ltOf cf) (row d') x y → Srt (ltOf cf) (row d') y z → ∀ w', SWK enc k w0 blk off d' w' →
   Calls P 170 #[.slice (some ⟨blk, off, none⟩) size cap, .int .i64 x, .int .i64 y, .int .i64 z, .func (.func g) #[] cb] w' (MergedTo cf enc k w0 blk off d' x z)
set_option maxHeartbeats 16000000 in
theorem merge_gt (L : Lays P k) (R : RowK enc k w0 blk off d0) (h62 : d0.size < 4611686018427387904) {cf : α → α → Int} (hS : SWO (ltOf cf)) (g : Nat) (cb : Array Value) (eg : ∀ args w, (callFunc g args).run P w = .ok (.enter g args) w) (hC : CmpLays P g cb enc k cf blk off d0.size w0)
   (cap a m b : Nat) (d : Array α) (hs : d.size = d0.size) (ha : a < m) (hb : m < b) (ha2 : a + 1 < m) (hb2 : m + 1 < b) (hb0 : b ≤ d0.size) (h1 : Srt (ltOf cf) (row d) a m) (h2 : Srt (ltOf cf) (row d) m b) (hgt : ∀ mid, mid = (a + b) / 2 → mid < m) (IN : Within P cf g cb enc k w0 blk off cap d0.size (b - a)) (w : World) (hw : SWK enc k w0 blk off d w) :
   Calls P 170 #[.slice (some ⟨blk, off, none⟩) d0.size cap, .int .i64 a, .int .i64 m, .int .i64 b, .func (.func g) #[] cb] w (MergedTo cf enc k w0 blk off d a b) := by
 have mixed := L.mixed; have t0 := L.t0; have a0 := L.a0; have z0 := L.z0; have v0 := L.v0; have t3 := L.t3; have a3 := L.a3; have z3 := L.z3; have v3 := L.v3; have t4 := L.t4; have a4 := L.a4; have z4 := L.z4; have v4 := L.v4; have t62 := L.t62; have a62 := L.a62; have z62 := L.z62; have v62 := L.v62; have t30 := L.t30; have a30 := L.a30; have z30 := L.z30; have v30 := L.v30; have t51 := L.t51; have a51 := L.a51; have z51 := L.z51; have v51 := L.v51; have aE := L.aE; have zE := L.zE
 have u30 := run_underlying L.t30
 have F := L.fMerge
 have e61 : ∀ args w, (callFunc 170 args).run P w = .ok (.enter 170 args) w := enters_of L.fMerge (by kernel_rfl) rfl
 have e64 : ∀ args w, (callFunc 195 args).run P w = .ok (.enter 195 args) w := enters_of L.fRot (by kernel_rfl) rfl
 have HROT := Lib.hid (fun (x y z : Nat) (dk : Array α) (hsk : dk.size = d0.size) (h1 : x < y) (h2 : y < z) (h3 : z ≤ d0.size) (W : World) (hw : SWK enc k w0 blk off dk W) => rotate_any L R h62 cap x y z (.func (.func g) #[] cb) dk hsk h1 h2 h3 W hw)
 have HR := Lib.hid R
 have HW := Lib.hid hw
 have HC := Lib.hid hC
 have HO1 := Lib.hid h1
 have HO2 := Lib.hid h2
 have HIN := Lib.hid IN
 clear hw R L hC h1 h2 IN
 obtain ⟨mid, hmid⟩ : ∃ mid : Nat, mid = (a + b) / 2 := ⟨_, rfl⟩
 have HMID : Hid (((a : Int) + (b : Int)) / 2 = (mid : Int)) := Lib.hid (by rw [hmid]; omega)
 have k1 : a < mid := by omega
 have k2 : mid < b := by omega
 have k3 : a + b ≤ mid + mid + 1 := by omega
 have k4 : mid + mid ≤ a + b := by omega
 have g1 : ((m : Int) - (a : Int) == 1) = false := by rw [beq_eq_false_iff_ne]; omega
 have g2 : IntKind.i64.wrap ((m : Int) - (a : Int)) = (m : Int) - (a : Int) := by rw [IntKind.wrap_i64]; omega
 have g3 : ((b : Int) - (m : Int) == 1) = false := by rw [beq_eq_false_iff_ne]; omega
 have g4 : IntKind.i64.wrap ((b : Int) - (m : Int)) = (b : Int) - (m : Int) := by rw [IntKind.wrap_i64]; omega
 have i0 : (0 : Int) ≤ (a : Int) + (b : Int) := by omega
 have wa : IntKind.i64.wrap ((a : Int) + (b : Int)) = (a : Int) + (b : Int) := by rw [IntKind.wrap_i64]; omega
 have wb : IntKind.u64.wrap ((a : Int) + (b : Int)) = (a : Int) + (b : Int) := by rw [IntKind.wrap_u64]; omega
 have wc : IntKind.i64.wrap (((a : Int) + (b : Int)) / 2) = ((a : Int) + (b : Int)) / 2 := by rw [IntKind.wrap_i64]; omega
 have HMIDE := Lib.hid hmid
 clear hmid
 go_enter F, Tryz.ntmps170
 go_upto_region 25 with fail
 rw [HMID.out]
 clear wa wb wc i0
 have hmid := HMIDE
 have wd : IntKind.i64.wrap ((mid : Int) + (m : Int)) = (mid : Int) + (m : Int) := by rw [IntKind.wrap_i64]; omega
 have we : IntKind.i64.wrap ((mid : Int) + (m : Int) - 1) = (mid : Int) + (m : Int) - 1 := by rw [IntKind.wrap_i64]; omega
 have hmm : mid < m := hgt mid HMIDE.out
 have wf : IntKind.i64.wrap ((mid : Int) + (m : Int) - (b : Int)) = (mid : Int) + (m : Int) - (b : Int) := by rw [IntKind.wrap_i64]; omega
 have z1 : decide ((m : Int) > (mid : Int)) = true := decide_eq_true (by omega)
 have z2 : (mid : Int) < (m : Int) := by omega
 have v1 : a ≤ (mid + m - b) := by omega
 have v2 : mid ≤ m := by omega
 have v3 : mid + m ≤ mid + m := by omega
 have v4 : mid + m ≤ b + (mid + m - b) := by omega
 clear hgt
 have HMID := HMIDE
 clear hmid
 go_wp2
 go_loopw [20, 21] (fun vi vj wr => ∃ (i j : Nat), vi = .int .i64 (i : Int) ∧ vj = .int .i64 (j : Int) ∧ (mid + m - b) ≤ i ∧ i ≤ j ∧ j ≤ mid ∧ SWK enc k w0 blk off d wr ∧ (∀ c, (mid + m - b) ≤ c → c < i → ltOf cf (row d (mid + m - 1 - c)) (row d c) = false) ∧ (∀ c, j ≤ c → c < mid → ltOf cf (row d (mid + m - 1 - c)) (row d c) = true)) (fun vi vj _ => (intOf vj).toNat - (intOf vi).toNat)
 case atStart => exact ⟨(mid + m - b), mid, by go_num, by go_num, Nat.le_refl _, by omega, Nat.le_refl _, HW.out, fun h h1 h2 => by omega, fun h h1 h2 => by omega⟩
 case round =>
   obtain ⟨i, j, rfl, rfl, hai, hij, hjb, hwk, hlow, hup⟩ := hrel
   have HWK := Lib.hid hwk
   have HLOW := Lib.hid hlow
   have HUP := Lib.hid hup
   clear hwk hlow hup
   by_cases hlt : i < j
   · have hz : (i : Int) < (j : Int) := by omega
     have i0 : (0 : Int) ≤ (i : Int) + (j : Int) := by omega
     have wa : IntKind.i64.wrap ((i : Int) + (j : Int)) = (i : Int) + (j : Int) := by rw [IntKind.wrap_i64]; omega
     have wb : IntKind.u64.wrap ((i : Int) + (j : Int)) = (i : Int) + (j : Int) := by rw [IntKind.wrap_u64]; omega
     have he := half_int i j
     obtain ⟨h, hh⟩ : ∃ h : Nat, h = (i + j) / 2 := ⟨_, rfl⟩
     rw [← hh] at he
     have wc : IntKind.i64.wrap (((i : Int) + (j : Int)) / 2) = ((i : Int) + (j : Int)) / 2 := by rw [IntKind.wrap_i64]; omega
     have HE := Lib.hid he
     clear he
     have hlo : i ≤ h := by omega
     have hhi : h < j := by omega
     clear hh
     have p0 : (0 : Int) ≤ (mid : Int) + (m : Int) - 1 - (h : Int) := by omega
     have p0' : (h : Int) ≤ (mid : Int) + (m : Int) - 1 := by omega
     have p1 : ((mid : Int) + (m : Int) - 1 - (h : Int)).toNat = mid + m - 1 - h := by omega
     have p2 : (mid : Int) + (m : Int) - 1 - (h : Int) < (d0.size : Int) := by omega
     have p3 : IntKind.i64.wrap ((mid : Int) + (m : Int) - 1 - (h : Int)) = (mid : Int) + (m : Int) - 1 - (h : Int) := by rw [IntKind.wrap_i64]; omega
     have q1 : (h : Int) < (d0.size : Int) := by omega
     have l1 := HWK.out.ld HR.out hs P h (by omega)
     have l2 := HWK.out.ld HR.out hs P (mid + m - 1 - h) (by omega)
     have hc := HWK.out.cmp HC.out hs d[mid + m - 1 - h]! d[h]!
     have HG := Lib.hid (fun n os => HWK.out.grown n os)
     have hsA : (enc d[h]!).length = k := HR.out.hk _
     have hsB : (enc d[mid + m - 1 - h]!).length = k := HR.out.hk _
     have hl0 : (if mid < m then mid + m - b else a) ≤ i := by rw [if_pos hmm]; exact hai
     have hr0 : h < (if mid < m then mid else m) := by rw [if_pos hmm]; omega
     have HL0 := Lib.hid hl0
     have HR0 := Lib.hid hr0
     clear hl0 hr0
     go_wp2_with fail
     rw [HE.out]
     clear wa wb wc i0
     by_cases hlv : cf d[mid + m - 1 - h]! d[h]! < 0
     · have HT : Hid (∀ c, h ≤ c → c < mid → ltOf cf (row d (mid + m - 1 - c)) (row d c) = true) := Lib.hid (fun c x1 x2 => cut_down hS HMID.out ha hb HO1.out HO2.out x1 (Nat.le_trans HL0.out hlo) (by rw [if_pos hmm]; exact x2) (lt_yes hlv))
       generalize cf d[mid + m - 1 - h]! d[h]! = cv at hc hlv
       generalize enc d[h]! = cA at *
       generalize enc d[mid + m - 1 - h]! = cB at *
       go_quiet_grown (first | (go_at_fn g; refine Calls.grown_of (hc _ _)))
       have HW2 := Lib.hid (HG.out nq osq)
       clear l1 l2 hc HG
       generalize grow (wr.drewN nq) osq = w2 at HW2 ⊢
       go_wp2
       go_roundw
       case rel => exact ⟨i, h, rfl, rfl, hai, by omega, by omega, HW2.out, HLOW.out, HT.out⟩
       case measure => simp [intOf]; omega
     · have HT : Hid (∀ c, (mid + m - b) ≤ c → c < h + 1 → ltOf cf (row d (mid + m - 1 - c)) (row d c) = false) := Lib.hid (fun c x1 x2 => cut_up hS HMID.out ha hb HO1.out HO2.out (Nat.le_of_lt_succ x2) (by rw [if_pos hmm]; exact x1) HR0.out (lt_no hlv))
       generalize cf d[mid + m - 1 - h]! d[h]! = cv at hc hlv
       generalize enc d[h]! = cA at *
       generalize enc d[mid + m - 1 - h]! = cB at *
       go_quiet_grown (first | (go_at_fn g; refine Calls.grown_of (hc _ _)))
       have HW2 := Lib.hid (HG.out nq osq)
       clear l1 l2 hc HG
       generalize grow (wr.drewN nq) osq = w2 at HW2 ⊢
       go_wp2
       go_roundw
       case rel => exact ⟨h + 1, j, by go_num, rfl, by omega, by omega, hjb, HW2.out, HT.out, HUP.out⟩
       case measure => simp [intOf]; omega
   · obtain rfl : i = j := by omega
     have HCUT : Hid (Cut (ltOf cf) (row d) a m b mid i) := Lib.hid ⟨by rw [if_pos hmm]; exact HLOW.out, by rw [if_pos hmm]; exact HUP.out, by rw [if_pos hmm]; exact hai, by rw [if_pos hmm]; exact hjb⟩
     have HPARTS := Lib.hid (HCUT.out.parts hS HMID.out ha hb HO1.out HO2.out)
     have HWR := HWK
     have hmid := HMID.out
     clear HLOW HUP HWK
     have x1 : i ≤ mid := by omega
     have x2 : i ≤ m := by omega
     have x3 : mid + m - i ≤ b := by omega
     have eE : ((mid + m - i : Nat) : Int) = (mid : Int) + (m : Int) - (i : Int) := by omega
     have wE : IntKind.i64.wrap ((mid : Int) + (m : Int) - (i : Int)) = (mid : Int) + (m : Int) - (i : Int) := by rw [IntKind.wrap_i64]; omega
     clear hmid
     rcases Nat.lt_or_ge i m with sm | sm
     · rcases Nat.lt_or_ge i mid with smid | smid
       · rcases Nat.lt_or_ge a i with las | las
         · rcases Nat.lt_or_ge (mid + m - i) b with reb | reb
           · have c1 : decide ((i : Int) < (m : Int)) = true := decide_eq_true (by omega)
             have c1' : (i : Int) < (m : Int) := by omega
             have c2 : decide ((m : Int) < (mid : Int) + (m : Int) - (i : Int)) = true := decide_eq_true (by omega)
             have c2' : (m : Int) < (mid : Int) + (m : Int) - (i : Int) := by omega
             have c3 : decide ((a : Int) < (i : Int)) = true := decide_eq_true (by omega)
             have c3' : (a : Int) < (i : Int) := by omega
             have c4 : decide ((i : Int) < (mid : Int)) = true := decide_eq_true (by omega)
             have c4' : (i : Int) < (mid : Int) := by omega
             have c5 : decide ((mid : Int) < (mid : Int) + (m : Int) - (i : Int)) = true := decide_eq_true (by omega)
             have c5' : (mid : Int) < (mid : Int) + (m : Int) - (i : Int) := by omega
             have c6 : decide ((mid : Int) + (m : Int) - (i : Int) < (b : Int)) = true := decide_eq_true (by omega)
             have c6' : (mid : Int) + (m : Int) - (i : Int) < (b : Int) := by omega
             have C := HROT.out i m (mid + m - i) d hs (by omega) (by omega) (by omega) wr HWR.out
             rw [eE] at C
             go_wp2_with fail
             refine C.mono ?_
             rintro e w3 ⟨rfl, d1, hs1, hw1, hr1⟩
             have HW1 := Lib.hid hw1
             have HR1 := Lib.hid hr1
             clear hw1 hr1 C
             obtain ⟨p1, p2, p3, p4⟩ := HPARTS.out
             rw [← HR1.out] at p1 p2 p3 p4
             have HP1 := Lib.hid p1
             have HP2 := Lib.hid p2
             have HP3 := Lib.hid p3
             have HP4 := Lib.hid p4
             clear p1 p2 p3 p4
             have C := HIN.out a i mid d1 hs1 (by omega) (by omega) (by omega) (by omega) HP1.out HP2.out _ HW1.out
             go_wp2_with fail
             refine C.mono ?_
             rintro e w4 ⟨rfl, d2, hs2, hw2, hm2⟩
             have HW2 := Lib.hid hw2
             have HM2 := Lib.hid hm2
             have hs2 : d2.size = d0.size := hs2.trans hs1
             clear hw2 hm2 C
             have C := HIN.out mid (mid + m - i) b d2 hs2 (by omega) (by omega) (by omega) (by omega) (HP3.out.congr (fun i h _ => HM2.out.out i (.inr h))) (HP4.out.congr (fun i h _ => HM2.out.out i (.inr (by omega)))) _ HW2.out
             rw [eE] at C
             go_wp2_with fail
             refine C.mono ?_
             rintro e w5 ⟨rfl, d3, hs3, hw3, hm3⟩
             have HW3 := Lib.hid hw3
             have HM3 := Lib.hid hm3
             have hs3 : d3.size = d0.size := hs3.trans hs2
             clear hw3 hm3 C
             go_wp2
             go_end0
             exact ⟨rfl, d3, hs3.trans hs.symm, HW3.out, merge_cut (A2 := row d2) (A3 := row d3) hS HMID.out ha hb HO1.out HO2.out HCUT.out (by rw [if_pos ⟨by omega, by omega⟩, ← HR1.out]; exact HM2.out) (by rw [if_pos ⟨by omega, by omega⟩]; exact HM3.out)⟩
           · have c1 : decide ((i : Int) < (m : Int)) = true := decide_eq_true (by omega)
             have c1' : (i : Int) < (m : Int) := by omega
             have c2 : decide ((m : Int) < (mid : Int) + (m : Int) - (i : Int)) = true := decide_eq_true (by omega)
             have c2' : (m : Int) < (mid : Int) + (m : Int) - (i : Int) := by omega
             have c3 : decide ((a : Int) < (i : Int)) = true := decide_eq_true (by omega)
             have c3' : (a : Int) < (i : Int) := by omega
             have c4 : decide ((i : Int) < (mid : Int)) = true := decide_eq_true (by omega)
             have c4' : (i : Int) < (mid : Int) := by omega
             have c5 : decide ((mid : Int) < (mid : Int) + (m : Int) - (i : Int)) = true := decide_eq_true (by omega)
             have c5' : (mid : Int) < (mid : Int) + (m : Int) - (i : Int) := by omega
             have c6 : decide ((mid : Int) + (m : Int) - (i : Int) < (b : Int)) = false := decide_eq_false (by omega)
             have c6' : ¬ (mid : Int) + (m : Int) - (i : Int) < (b : Int) := by omega
             have C := HROT.out i m (mid + m - i) d hs (by omega) (by omega) (by omega) wr HWR.out
             rw [eE] at C
             go_wp2_with fail
             refine C.mono ?_
             rintro e w3 ⟨rfl, d1, hs1, hw1, hr1⟩
             have HW1 := Lib.hid hw1
             have HR1 := Lib.hid hr1
             clear hw1 hr1 C
             obtain ⟨p1, p2, p3, p4⟩ := HPARTS.out
             rw [← HR1.out] at p1 p2 p3 p4
             have HP1 := Lib.hid p1
             have HP2 := Lib.hid p2
             have HP3 := Lib.hid p3
             have HP4 := Lib.hid p4
             clear p1 p2 p3 p4
             have C := HIN.out a i mid d1 hs1 (by omega) (by omega) (by omega) (by omega) HP1.out HP2.out _ HW1.out
             go_wp2_with fail
             refine C.mono ?_
             rintro e w4 ⟨rfl, d2, hs2, hw2, hm2⟩
             have HW2 := Lib.hid hw2
             have HM2 := Lib.hid hm2
             have hs2 : d2.size = d0.size := hs2.trans hs1
             clear hw2 hm2 C
             go_wp2
             go_end0
             exact ⟨rfl, d2, hs2.trans hs.symm, HW2.out, merge_cut (A2 := row d2) (A3 := row d2) hS HMID.out ha hb HO1.out HO2.out HCUT.out (by rw [if_pos ⟨by omega, by omega⟩, ← HR1.out]; exact HM2.out) (by rw [if_neg (by omega)])⟩
         · rcases Nat.lt_or_ge (mid + m - i) b with reb | reb
           · exfalso; omega
           · have c1 : decide ((i : Int) < (m : Int)) = true := decide_eq_true (by omega)
             have c1' : (i : Int) < (m : Int) := by omega
             have c2 : decide ((m : Int) < (mid : Int) + (m : Int) - (i : Int)) = true := decide_eq_true (by omega)
             have c2' : (m : Int) < (mid : Int) + (m : Int) - (i : Int) := by omega
             have c3 : decide ((a : Int) < (i : Int)) = false := decide_eq_false (by omega)
             have c3' : ¬ (a : Int) < (i : Int) := by omega
             have c5 : decide ((mid : Int) < (mid : Int) + (m : Int) - (i : Int)) = true := decide_eq_true (by omega)
             have c5' : (mid : Int) < (mid : Int) + (m : Int) - (i : Int) := by omega
             have c6 : decide ((mid : Int) + (m : Int) - (i : Int) < (b : Int)) = false := decide_eq_false (by omega)
             have c6' : ¬ (mid : Int) + (m : Int) - (i : Int) < (b : Int) := by omega
             have C := HROT.out i m (mid + m - i) d hs (by omega) (by omega) (by omega) wr HWR.out
             rw [eE] at C
             go_wp2_with fail
             refine C.mono ?_
             rintro e w3 ⟨rfl, d1, hs1, hw1, hr1⟩
             have HW1 := Lib.hid hw1
             have HR1 := Lib.hid hr1
             clear hw1 hr1 C
             obtain ⟨p1, p2, p3, p4⟩ := HPARTS.out
             rw [← HR1.out] at p1 p2 p3 p4
             have HP1 := Lib.hid p1
             have HP2 := Lib.hid p2
             have HP3 := Lib.hid p3
             have HP4 := Lib.hid p4
             clear p1 p2 p3 p4
             go_wp2
             go_end0
             exact ⟨rfl, d1, hs1.trans hs.symm, HW1.out, merge_cut (A2 := row d1) (A3 := row d1) hS HMID.out ha hb HO1.out HO2.out HCUT.out (by rw [if_neg (by omega)]; exact HR1.out) (by rw [if_neg (by omega)])⟩
       · have c1 : decide ((i : Int) < (m : Int)) = true := decide_eq_true (by omega)
         have c1' : (i : Int) < (m : Int) := by omega
         have c2 : decide ((m : Int) < (mid : Int) + (m : Int) - (i : Int)) = false := decide_eq_false (by omega)
         have c2' : ¬ (m : Int) < (mid : Int) + (m : Int) - (i : Int) := by omega
         have c3 : decide ((a : Int) < (i : Int)) = true := decide_eq_true (by omega)
         have c3' : (a : Int) < (i : Int) := by omega
         have c4 : decide ((i : Int) < (mid : Int)) = false := decide_eq_false (by omega)
         have c4' : ¬ (i : Int) < (mid : Int) := by omega
         have c5 : decide ((mid : Int) < (mid : Int) + (m : Int) - (i : Int)) = true := decide_eq_true (by omega)
         have c5' : (mid : Int) < (mid : Int) + (m : Int) - (i : Int) := by omega
         have c6 : decide ((mid : Int) + (m : Int) - (i : Int) < (b : Int)) = true := decide_eq_true (by omega)
         have c6' : (mid : Int) + (m : Int) - (i : Int) < (b : Int) := by omega
         have HR1 : Hid (row d = rot (row d) i m (mid + m - i)) := Lib.hid (by rw [show mid + m - i = m by omega]; exact (rot_right _ _ _ (by omega)).symm)
         obtain ⟨p1, p2, p3, p4⟩ := HPARTS.out
         rw [← HR1.out] at p1 p2 p3 p4
         have HP1 := Lib.hid p1
         have HP2 := Lib.hid p2
         have HP3 := Lib.hid p3
         have HP4 := Lib.hid p4
         clear p1 p2 p3 p4
         have C := HIN.out mid (mid + m - i) b d hs (by omega) (by omega) (by omega) (by omega) HP3.out HP4.out _ HWR.out
         rw [eE] at C
         go_wp2_with fail
         refine C.mono ?_
         rintro e w5 ⟨rfl, d3, hs3, hw3, hm3⟩
         have HW3 := Lib.hid hw3
         have HM3 := Lib.hid hm3
         have hs3 : d3.size = d0.size := hs3.trans hs
         clear hw3 hm3 C
         go_wp2
         go_end0
         exact ⟨rfl, d3, hs3.trans hs.symm, HW3.out, merge_cut (A2 := row d) (A3 := row d3) hS HMID.out ha hb HO1.out HO2.out HCUT.out (by rw [if_neg (by omega)]; exact HR1.out) (by rw [if_pos ⟨by omega, by omega⟩]; exact HM3.out)⟩
     · rcases Nat.lt_or_ge i mid with smid | smid
       · have c1 : decide ((i : Int) < (m : Int)) = false := decide_eq_false (by omega)
         have c1' : ¬ (i : Int) < (m : Int) := by omega
         have c3 : decide ((a : Int) < (i : Int)) = true := decide_eq_true (by omega)
         have c3' : (a : Int) < (i : Int) := by omega
         have c4 : decide ((i : Int) < (mid : Int)) = true := decide_eq_true (by omega)
         have c4' : (i : Int) < (mid : Int) := by omega
         have c5 : decide ((mid : Int) < (mid : Int) + (m : Int) - (i : Int)) = false := decide_eq_false (by omega)
         have c5' : ¬ (mid : Int) < (mid : Int) + (m : Int) - (i : Int) := by omega
         have HR1 : Hid (row d = rot (row d) i m (mid + m - i)) := Lib.hid (by rw [show i = m by omega]; exact (rot_left _ _ _ (by omega)).symm)
         obtain ⟨p1, p2, p3, p4⟩ := HPARTS.out
         rw [← HR1.out] at p1 p2 p3 p4
         have HP1 := Lib.hid p1
         have HP2 := Lib.hid p2
         have HP3 := Lib.hid p3
         have HP4 := Lib.hid p4
         clear p1 p2 p3 p4
         have C := HIN.out a i mid d hs (by omega) (by omega) (by omega) (by omega) HP1.out HP2.out _ HWR.out
         go_wp2_with fail
         refine C.mono ?_
         rintro e w4 ⟨rfl, d2, hs2, hw2, hm2⟩
         have HW2 := Lib.hid hw2
         have HM2 := Lib.hid hm2
         have hs2 : d2.size = d0.size := hs2.trans hs
         clear hw2 hm2 C
         go_wp2
         go_end0
         exact ⟨rfl, d2, hs2.trans hs.symm, HW2.out, merge_cut (A2 := row d2) (A3 := row d2) hS HMID.out ha hb HO1.out HO2.out HCUT.out (by rw [if_pos ⟨by omega, by omega⟩, ← HR1.out]; exact HM2.out) (by rw [if_neg (by omega)])⟩
       · have c1 : decide ((i : Int) < (m : Int)) = false := decide_eq_false (by omega)
         have c1' : ¬ (i : Int) < (m : Int) := by omega
         have c3 : decide ((a : Int) < (i : Int)) = true := decide_eq_true (by omega)
         have c3' : (a : Int) < (i : Int) := by omega
         have c4 : decide ((i : Int) < (mid : Int)) = false := decide_eq_false (by omega)
         have c4' : ¬ (i : Int) < (mid : Int) := by omega
         have c5 : decide ((mid : Int) < (mid : Int) + (m : Int) - (i : Int)) = false := decide_eq_false (by omega)
         have c5' : ¬ (mid : Int) < (mid : Int) + (m : Int) - (i : Int) := by omega
         have HR1 : Hid (row d = rot (row d) i m (mid + m - i)) := Lib.hid (by rw [show mid + m - i = m by omega]; exact (rot_right _ _ _ (by omega)).symm)
         obtain ⟨p1, p2, p3, p4⟩ := HPARTS.out
         rw [← HR1.out] at p1 p2 p3 p4
         have HP1 := Lib.hid p1
         have HP2 := Lib.hid p2
         have HP3 := Lib.hid p3
         have HP4 := Lib.hid p4
         clear p1 p2 p3 p4
         go_wp2
         go_end0
         exact ⟨rfl, d, hs.trans hs.symm, HWR.out, merge_cut (A2 := row d) (A3 := row d) hS HMID.out ha hb HO1.out HO2.out HCUT.out (by rw [if_neg (by omega)]; exact HR1.out) (by rw [if_neg (by omega)])⟩
set_option maxHeartbeats 16000000 in
theorem merge_le (L : Lays P k) (R : RowK enc k w0 blk off d0) (h62 : d0.size < 4611686018427387904) {cf : α → α → Int} (hS : SWO (ltOf cf)) (g : Nat) (cb : Array Value) (eg : ∀ args w, (callFunc g args).run P w = .ok (.enter g args) w) (hC : CmpLays P g cb enc k cf blk off d0.size w0)
   (cap a m b : Nat) (d : Array α) (hs : d.size = d0.size) (ha : a < m) (hb : m < b) (ha2 : a + 1 < m) (hb2 : m + 1 < b) (hb0 : b ≤ d0.size) (h1 : Srt (ltOf cf) (row d) a m) (h2 : Srt (ltOf cf) (row d) m b) (hgt : ∀ mid, mid = (a + b) / 2 → ¬ mid < m) (IN : Within P cf g cb enc k w0 blk off cap d0.size (b - a)) (w : World) (hw : SWK enc k w0 blk off d w) :
   Calls P 170 #[.slice (some ⟨blk, off, none⟩) d0.size cap, .int .i64 a, .int .i64 m, .int .i64 b, .func (.func g) #[] cb] w (MergedTo cf enc k w0 blk off d a b) := by
 have mixed := L.mixed; have t0 := L.t0; have a0 := L.a0; have z0 := L.z0; have v0 := L.v0; have t3 := L.t3; have a3 := L.a3; have z3 := L.z3; have v3 := L.v3; have t4 := L.t4; have a4 := L.a4; have z4 := L.z4; have v4 := L.v4; have t62 := L.t62; have a62 := L.a62; have z62 := L.z62; have v62 := L.v62; have t30 := L.t30; have a30 := L.a30; have z30 := L.z30; have v30 := L.v30; have t51 := L.t51; have a51 := L.a51; have z51 := L.z51; have v51 := L.v51; have aE := L.aE; have zE := L.zE
 have u30 := run_underlying L.t30
 have F := L.fMerge
 have e61 : ∀ args w, (callFunc 170 args).run P w = .ok (.enter 170 args) w := enters_of L.fMerge (by kernel_rfl) rfl
 have e64 : ∀ args w, (callFunc 195 args).run P w = .ok (.enter 195 args) w := enters_of L.fRot (by kernel_rfl) rfl
 have HROT := Lib.hid (fun (x y z : Nat) (dk : Array α) (hsk : dk.size = d0.size) (h1 : x < y) (h2 : y < z) (h3 : z ≤ d0.size) (W : World) (hw : SWK enc k w0 blk off dk W) => rotate_any L R h62 cap x y z (.func (.func g) #[] cb) dk hsk h1 h2 h3 W hw)
 have HR := Lib.hid R
 have HW := Lib.hid hw
 have HC := Lib.hid hC
 have HO1 := Lib.hid h1
 have HO2 := Lib.hid h2
 have HIN := Lib.hid IN
 clear hw R L hC h1 h2 IN
 obtain ⟨mid, hmid⟩ : ∃ mid : Nat, mid = (a + b) / 2 := ⟨_, rfl⟩
 have HMID : Hid (((a : Int) + (b : Int)) / 2 = (mid : Int)) := Lib.hid (by rw [hmid]; omega)
 have k1 : a < mid := by omega
 have k2 : mid < b := by omega
 have k3 : a + b ≤ mid + mid + 1 := by omega
 have k4 : mid + mid ≤ a + b := by omega
 have g1 : ((m : Int) - (a : Int) == 1) = false := by rw [beq_eq_false_iff_ne]; omega
 have g2 : IntKind.i64.wrap ((m : Int) - (a : Int)) = (m : Int) - (a : Int) := by rw [IntKind.wrap_i64]; omega
 have g3 : ((b : Int) - (m : Int) == 1) = false := by rw [beq_eq_false_iff_ne]; omega
 have g4 : IntKind.i64.wrap ((b : Int) - (m : Int)) = (b : Int) - (m : Int) := by rw [IntKind.wrap_i64]; omega
 have i0 : (0 : Int) ≤ (a : Int) + (b : Int) := by omega
 have wa : IntKind.i64.wrap ((a : Int) + (b : Int)) = (a : Int) + (b : Int) := by rw [IntKind.wrap_i64]; omega
 have wb : IntKind.u64.wrap ((a : Int) + (b : Int)) = (a : Int) + (b : Int) := by rw [IntKind.wrap_u64]; omega
 have wc : IntKind.i64.wrap (((a : Int) + (b : Int)) / 2) = ((a : Int) + (b : Int)) / 2 := by rw [IntKind.wrap_i64]; omega
 have HMIDE := Lib.hid hmid
 clear hmid
 go_enter F, Tryz.ntmps170
 go_upto_region 25 with fail
 rw [HMID.out]
 clear wa wb wc i0
 have hmid := HMIDE
 have wd : IntKind.i64.wrap ((mid : Int) + (m : Int)) = (mid : Int) + (m : Int) := by rw [IntKind.wrap_i64]; omega
 have we : IntKind.i64.wrap ((mid : Int) + (m : Int) - 1) = (mid : Int) + (m : Int) - 1 := by rw [IntKind.wrap_i64]; omega
 have hmm : ¬ mid < m := hgt mid HMIDE.out
 have z1 : decide ((m : Int) > (mid : Int)) = false := decide_eq_false (by omega)
 have z2 : ¬ (mid : Int) < (m : Int) := by omega
 have v1 : a ≤ a := by omega
 have v2 : m ≤ m := by omega
 have v3 : m + m ≤ mid + m := by omega
 have v4 : mid + m ≤ b + a := by omega
 clear hgt
 have HMID := HMIDE
 clear hmid
 go_wp2
 go_loopw [20, 21] (fun vi vj wr => ∃ (i j : Nat), vi = .int .i64 (i : Int) ∧ vj = .int .i64 (j : Int) ∧ a ≤ i ∧ i ≤ j ∧ j ≤ m ∧ SWK enc k w0 blk off d wr ∧ (∀ c, a ≤ c → c < i → ltOf cf (row d (mid + m - 1 - c)) (row d c) = false) ∧ (∀ c, j ≤ c → c < m → ltOf cf (row d (mid + m - 1 - c)) (row d c) = true)) (fun vi vj _ => (intOf vj).toNat - (intOf vi).toNat)
 case atStart => exact ⟨a, m, by go_num, by go_num, Nat.le_refl _, by omega, Nat.le_refl _, HW.out, fun h h1 h2 => by omega, fun h h1 h2 => by omega⟩
 case round =>
   obtain ⟨i, j, rfl, rfl, hai, hij, hjb, hwk, hlow, hup⟩ := hrel
   have HWK := Lib.hid hwk
   have HLOW := Lib.hid hlow
   have HUP := Lib.hid hup
   clear hwk hlow hup
   by_cases hlt : i < j
   · have hz : (i : Int) < (j : Int) := by omega
     have i0 : (0 : Int) ≤ (i : Int) + (j : Int) := by omega
     have wa : IntKind.i64.wrap ((i : Int) + (j : Int)) = (i : Int) + (j : Int) := by rw [IntKind.wrap_i64]; omega
     have wb : IntKind.u64.wrap ((i : Int) + (j : Int)) = (i : Int) + (j : Int) := by rw [IntKind.wrap_u64]; omega
     have he := half_int i j
     obtain ⟨h, hh⟩ : ∃ h : Nat, h = (i + j) / 2 := ⟨_, rfl⟩
     rw [← hh] at he
     have wc : IntKind.i64.wrap (((i : Int) + (j : Int)) / 2) = ((i : Int) + (j : Int)) / 2 := by rw [IntKind.wrap_i64]; omega
     have HE := Lib.hid he
     clear he
     have hlo : i ≤ h := by omega
     have hhi : h < j := by omega
     clear hh
     have p0 : (0 : Int) ≤ (mid : Int) + (m : Int) - 1 - (h : Int) := by omega
     have p0' : (h : Int) ≤ (mid : Int) + (m : Int) - 1 := by omega
     have p1 : ((mid : Int) + (m : Int) - 1 - (h : Int)).toNat = mid + m - 1 - h := by omega
     have p2 : (mid : Int) + (m : Int) - 1 - (h : Int) < (d0.size : Int) := by omega
     have p3 : IntKind.i64.wrap ((mid : Int) + (m : Int) - 1 - (h : Int)) = (mid : Int) + (m : Int) - 1 - (h : Int) := by rw [IntKind.wrap_i64]; omega
     have q1 : (h : Int) < (d0.size : Int) := by omega
     have l1 := HWK.out.ld HR.out hs P h (by omega)
     have l2 := HWK.out.ld HR.out hs P (mid + m - 1 - h) (by omega)
     have hc := HWK.out.cmp HC.out hs d[mid + m - 1 - h]! d[h]!
     have HG := Lib.hid (fun n os => HWK.out.grown n os)
     have hsA : (enc d[h]!).length = k := HR.out.hk _
     have hsB : (enc d[mid + m - 1 - h]!).length = k := HR.out.hk _
     have hl0 : (if mid < m then mid + m - b else a) ≤ i := by rw [if_neg hmm]; exact hai
     have hr0 : h < (if mid < m then mid else m) := by rw [if_neg hmm]; omega
     have HL0 := Lib.hid hl0
     have HR0 := Lib.hid hr0
     clear hl0 hr0
     go_wp2_with fail
     rw [HE.out]
     clear wa wb wc i0
     by_cases hlv : cf d[mid + m - 1 - h]! d[h]! < 0
     · have HT : Hid (∀ c, h ≤ c → c < m → ltOf cf (row d (mid + m - 1 - c)) (row d c) = true) := Lib.hid (fun c x1 x2 => cut_down hS HMID.out ha hb HO1.out HO2.out x1 (Nat.le_trans HL0.out hlo) (by rw [if_neg hmm]; exact x2) (lt_yes hlv))
       generalize cf d[mid + m - 1 - h]! d[h]! = cv at hc hlv
       generalize enc d[h]! = cA at *
       generalize enc d[mid + m - 1 - h]! = cB at *
       go_quiet_grown (first | (go_at_fn g; refine Calls.grown_of (hc _ _)))
       have HW2 := Lib.hid (HG.out nq osq)
       clear l1 l2 hc HG
       generalize grow (wr.drewN nq) osq = w2 at HW2 ⊢
       go_wp2
       go_roundw
       case rel => exact ⟨i, h, rfl, rfl, hai, by omega, by omega, HW2.out, HLOW.out, HT.out⟩
       case measure => simp [intOf]; omega
     · have HT : Hid (∀ c, a ≤ c → c < h + 1 → ltOf cf (row d (mid + m - 1 - c)) (row d c) = false) := Lib.hid (fun c x1 x2 => cut_up hS HMID.out ha hb HO1.out HO2.out (Nat.le_of_lt_succ x2) (by rw [if_neg hmm]; exact x1) HR0.out (lt_no hlv))
       generalize cf d[mid + m - 1 - h]! d[h]! = cv at hc hlv
       generalize enc d[h]! = cA at *
       generalize enc d[mid + m - 1 - h]! = cB at *
       go_quiet_grown (first | (go_at_fn g; refine Calls.grown_of (hc _ _)))
       have HW2 := Lib.hid (HG.out nq osq)
       clear l1 l2 hc HG
       generalize grow (wr.drewN nq) osq = w2 at HW2 ⊢
       go_wp2
       go_roundw
       case rel => exact ⟨h + 1, j, by go_num, rfl, by omega, by omega, hjb, HW2.out, HT.out, HUP.out⟩
       case measure => simp [intOf]; omega
   · obtain rfl : i = j := by omega
     have HCUT : Hid (Cut (ltOf cf) (row d) a m b mid i) := Lib.hid ⟨by rw [if_neg hmm]; exact HLOW.out, by rw [if_neg hmm]; exact HUP.out, by rw [if_neg hmm]; exact hai, by rw [if_neg hmm]; exact hjb⟩
     have HPARTS := Lib.hid (HCUT.out.parts hS HMID.out ha hb HO1.out HO2.out)
     have HWR := HWK
     have hmid := HMID.out
     clear HLOW HUP HWK
     have x1 : i ≤ mid := by omega
     have x2 : i ≤ m := by omega
     have x3 : mid + m - i ≤ b := by omega
     have eE : ((mid + m - i : Nat) : Int) = (mid : Int) + (m : Int) - (i : Int) := by omega
     have wE : IntKind.i64.wrap ((mid : Int) + (m : Int) - (i : Int)) = (mid : Int) + (m : Int) - (i : Int) := by rw [IntKind.wrap_i64]; omega
     clear hmid
     rcases Nat.lt_or_ge i m with sm | sm
     · rcases Nat.lt_or_ge i mid with smid | smid
       · rcases Nat.lt_or_ge a i with las | las
         · rcases Nat.lt_or_ge (mid + m - i) b with reb | reb
           · have c1 : decide ((i : Int) < (m : Int)) = true := decide_eq_true (by omega)
             have c1' : (i : Int) < (m : Int) := by omega
             have c2 : decide ((m : Int) < (mid : Int) + (m : Int) - (i : Int)) = true := decide_eq_true (by omega)
             have c2' : (m : Int) < (mid : Int) + (m : Int) - (i : Int) := by omega
             have c3 : decide ((a : Int) < (i : Int)) = true := decide_eq_true (by omega)
             have c3' : (a : Int) < (i : Int) := by omega
             have c4 : decide ((i : Int) < (mid : Int)) = true := decide_eq_true (by omega)
             have c4' : (i : Int) < (mid : Int) := by omega
             have c5 : decide ((mid : Int) < (mid : Int) + (m : Int) - (i : Int)) = true := decide_eq_true (by omega)
             have c5' : (mid : Int) < (mid : Int) + (m : Int) - (i : Int) := by omega
             have c6 : decide ((mid : Int) + (m : Int) - (i : Int) < (b : Int)) = true := decide_eq_true (by omega)
             have c6' : (mid : Int) + (m : Int) - (i : Int) < (b : Int) := by omega
             have C := HROT.out i m (mid + m - i) d hs (by omega) (by omega) (by omega) wr HWR.out
             rw [eE] at C
             go_wp2_with fail
             refine C.mono ?_
             rintro e w3 ⟨rfl, d1, hs1, hw1, hr1⟩
             have HW1 := Lib.hid hw1
             have HR1 := Lib.hid hr1
             clear hw1 hr1 C
             obtain ⟨p1, p2, p3, p4⟩ := HPARTS.out
             rw [← HR1.out] at p1 p2 p3 p4
             have HP1 := Lib.hid p1
             have HP2 := Lib.hid p2
             have HP3 := Lib.hid p3
             have HP4 := Lib.hid p4
             clear p1 p2 p3 p4
             have C := HIN.out a i mid d1 hs1 (by omega) (by omega) (by omega) (by omega) HP1.out HP2.out _ HW1.out
             go_wp2_with fail
             refine C.mono ?_
             rintro e w4 ⟨rfl, d2, hs2, hw2, hm2⟩
             have HW2 := Lib.hid hw2
             have HM2 := Lib.hid hm2
             have hs2 : d2.size = d0.size := hs2.trans hs1
             clear hw2 hm2 C
             have C := HIN.out mid (mid + m - i) b d2 hs2 (by omega) (by omega) (by omega) (by omega) (HP3.out.congr (fun i h _ => HM2.out.out i (.inr h))) (HP4.out.congr (fun i h _ => HM2.out.out i (.inr (by omega)))) _ HW2.out
             rw [eE] at C
             go_wp2_with fail
             refine C.mono ?_
             rintro e w5 ⟨rfl, d3, hs3, hw3, hm3⟩
             have HW3 := Lib.hid hw3
             have HM3 := Lib.hid hm3
             have hs3 : d3.size = d0.size := hs3.trans hs2
             clear hw3 hm3 C
             go_wp2
             go_end0
             exact ⟨rfl, d3, hs3.trans hs.symm, HW3.out, merge_cut (A2 := row d2) (A3 := row d3) hS HMID.out ha hb HO1.out HO2.out HCUT.out (by rw [if_pos ⟨by omega, by omega⟩, ← HR1.out]; exact HM2.out) (by rw [if_pos ⟨by omega, by omega⟩]; exact HM3.out)⟩
           · have c1 : decide ((i : Int) < (m : Int)) = true := decide_eq_true (by omega)
             have c1' : (i : Int) < (m : Int) := by omega
             have c2 : decide ((m : Int) < (mid : Int) + (m : Int) - (i : Int)) = true := decide_eq_true (by omega)
             have c2' : (m : Int) < (mid : Int) + (m : Int) - (i : Int) := by omega
             have c3 : decide ((a : Int) < (i : Int)) = true := decide_eq_true (by omega)
             have c3' : (a : Int) < (i : Int) := by omega
             have c4 : decide ((i : Int) < (mid : Int)) = true := decide_eq_true (by omega)
             have c4' : (i : Int) < (mid : Int) := by omega
             have c5 : decide ((mid : Int) < (mid : Int) + (m : Int) - (i : Int)) = true := decide_eq_true (by omega)
             have c5' : (mid : Int) < (mid : Int) + (m : Int) - (i : Int) := by omega
             have c6 : decide ((mid : Int) + (m : Int) - (i : Int) < (b : Int)) = false := decide_eq_false (by omega)
             have c6' : ¬ (mid : Int) + (m : Int) - (i : Int) < (b : Int) := by omega
             have C := HROT.out i m (mid + m - i) d hs (by omega) (by omega) (by omega) wr HWR.out
             rw [eE] at C
             go_wp2_with fail
             refine C.mono ?_
             rintro e w3 ⟨rfl, d1, hs1, hw1, hr1⟩
             have HW1 := Lib.hid hw1
             have HR1 := Lib.hid hr1
             clear hw1 hr1 C
             obtain ⟨p1, p2, p3, p4⟩ := HPARTS.out
             rw [← HR1.out] at p1 p2 p3 p4
             have HP1 := Lib.hid p1
             have HP2 := Lib.hid p2
             have HP3 := Lib.hid p3
             have HP4 := Lib.hid p4
             clear p1 p2 p3 p4
             have C := HIN.out a i mid d1 hs1 (by omega) (by omega) (by omega) (by omega) HP1.out HP2.out _ HW1.out
             go_wp2_with fail
             refine C.mono ?_
             rintro e w4 ⟨rfl, d2, hs2, hw2, hm2⟩
             have HW2 := Lib.hid hw2
             have HM2 := Lib.hid hm2
             have hs2 : d2.size = d0.size := hs2.trans hs1
             clear hw2 hm2 C
             go_wp2
             go_end0
             exact ⟨rfl, d2, hs2.trans hs.symm, HW2.out, merge_cut (A2 := row d2) (A3 := row d2) hS HMID.out ha hb HO1.out HO2.out HCUT.out (by rw [if_pos ⟨by omega, by omega⟩, ← HR1.out]; exact HM2.out) (by rw [if_neg (by omega)])⟩
         · rcases Nat.lt_or_ge (mid + m - i) b with reb | reb
           · have c1 : decide ((i : Int) < (m : Int)) = true := decide_eq_true (by omega)
             have c1' : (i : Int) < (m : Int) := by omega
             have c2 : decide ((m : Int) < (mid : Int) + (m : Int) - (i : Int)) = true := decide_eq_true (by omega)
             have c2' : (m : Int) < (mid : Int) + (m : Int) - (i : Int) := by omega
             have c3 : decide ((a : Int) < (i : Int)) = false := decide_eq_false (by omega)
             have c3' : ¬ (a : Int) < (i : Int) := by omega
             have c5 : decide ((mid : Int) < (mid : Int) + (m : Int) - (i : Int)) = true := decide_eq_true (by omega)
             have c5' : (mid : Int) < (mid : Int) + (m : Int) - (i : Int) := by omega
             have c6 : decide ((mid : Int) + (m : Int) - (i : Int) < (b : Int)) = true := decide_eq_true (by omega)
             have c6' : (mid : Int) + (m : Int) - (i : Int) < (b : Int) := by omega
             have C := HROT.out i m (mid + m - i) d hs (by omega) (by omega) (by omega) wr HWR.out
             rw [eE] at C
             go_wp2_with fail
             refine C.mono ?_
             rintro e w3 ⟨rfl, d1, hs1, hw1, hr1⟩
             have HW1 := Lib.hid hw1
             have HR1 := Lib.hid hr1
             clear hw1 hr1 C
             obtain ⟨p1, p2, p3, p4⟩ := HPARTS.out
             rw [← HR1.out] at p1 p2 p3 p4
             have HP1 := Lib.hid p1
             have HP2 := Lib.hid p2
             have HP3 := Lib.hid p3
             have HP4 := Lib.hid p4
             clear p1 p2 p3 p4
             have C := HIN.out mid (mid + m - i) b d1 hs1 (by omega) (by omega) (by omega) (by omega) HP3.out HP4.out _ HW1.out
             rw [eE] at C
             go_wp2_with fail
             refine C.mono ?_
             rintro e w5 ⟨rfl, d3, hs3, hw3, hm3⟩
             have HW3 := Lib.hid hw3
             have HM3 := Lib.hid hm3
             have hs3 : d3.size = d0.size := hs3.trans hs1
             clear hw3 hm3 C
             go_wp2
             go_end0
             exact ⟨rfl, d3, hs3.trans hs.symm, HW3.out, merge_cut (A2 := row d1) (A3 := row d3) hS HMID.out ha hb HO1.out HO2.out HCUT.out (by rw [if_neg (by omega)]; exact HR1.out) (by rw [if_pos ⟨by omega, by omega⟩]; exact HM3.out)⟩
           · have c1 : decide ((i : Int) < (m : Int)) = true := decide_eq_true (by omega)
             have c1' : (i : Int) < (m : Int) := by omega
             have c2 : decide ((m : Int) < (mid : Int) + (m : Int) - (i : Int)) = true := decide_eq_true (by omega)
             have c2' : (m : Int) < (mid : Int) + (m : Int) - (i : Int) := by omega
             have c3 : decide ((a : Int) < (i : Int)) = false := decide_eq_false (by omega)
             have c3' : ¬ (a : Int) < (i : Int) := by omega
             have c5 : decide ((mid : Int) < (mid : Int) + (m : Int) - (i : Int)) = true := decide_eq_true (by omega)
             have c5' : (mid : Int) < (mid : Int) + (m : Int) - (i : Int) := by omega
             have c6 : decide ((mid : Int) + (m : Int) - (i : Int) < (b : Int)) = false := decide_eq_false (by omega)
             have c6' : ¬ (mid : Int) + (m : Int) - (i : Int) < (b : Int) := by omega
             have C := HROT.out i m (mid + m - i) d hs (by omega) (by omega) (by omega) wr HWR.out
             rw [eE] at C
             go_wp2_with fail
             refine C.mono ?_
             rintro e w3 ⟨rfl, d1, hs1, hw1, hr1⟩
             have HW1 := Lib.hid hw1
             have HR1 := Lib.hid hr1
             clear hw1 hr1 C
             obtain ⟨p1, p2, p3, p4⟩ := HPARTS.out
             rw [← HR1.out] at p1 p2 p3 p4
             have HP1 := Lib.hid p1
             have HP2 := Lib.hid p2
             have HP3 := Lib.hid p3
             have HP4 := Lib.hid p4
             clear p1 p2 p3 p4
             go_wp2
             go_end0
             exact ⟨rfl, d1, hs1.trans hs.symm, HW1.out, merge_cut (A2 := row d1) (A3 := row d1) hS HMID.out ha hb HO1.out HO2.out HCUT.out (by rw [if_neg (by omega)]; exact HR1.out) (by rw [if_neg (by omega)])⟩
       · have c1 : decide ((i : Int) < (m : Int)) = true := decide_eq_true (by omega)
         have c1' : (i : Int) < (m : Int) := by omega
         have c2 : decide ((m : Int) < (mid : Int) + (m : Int) - (i : Int)) = false := decide_eq_false (by omega)
         have c2' : ¬ (m : Int) < (mid : Int) + (m : Int) - (i : Int) := by omega
         have c3 : decide ((a : Int) < (i : Int)) = true := decide_eq_true (by omega)
         have c3' : (a : Int) < (i : Int) := by omega
         have c4 : decide ((i : Int) < (mid : Int)) = false := decide_eq_false (by omega)
         have c4' : ¬ (i : Int) < (mid : Int) := by omega
         have c5 : decide ((mid : Int) < (mid : Int) + (m : Int) - (i : Int)) = true := decide_eq_true (by omega)
         have c5' : (mid : Int) < (mid : Int) + (m : Int) - (i : Int) := by omega
         have c6 : decide ((mid : Int) + (m : Int) - (i : Int) < (b : Int)) = true := decide_eq_true (by omega)
         have c6' : (mid : Int) + (m : Int) - (i : Int) < (b : Int) := by omega
         have HR1 : Hid (row d = rot (row d) i m (mid + m - i)) := Lib.hid (by rw [show mid + m - i = m by omega]; exact (rot_right _ _ _ (by omega)).symm)
         obtain ⟨p1, p2, p3, p4⟩ := HPARTS.out
         rw [← HR1.out] at p1 p2 p3 p4
         have HP1 := Lib.hid p1
         have HP2 := Lib.hid p2
         have HP3 := Lib.hid p3
         have HP4 := Lib.hid p4
         clear p1 p2 p3 p4
         have C := HIN.out mid (mid + m - i) b d hs (by omega) (by omega) (by omega) (by omega) HP3.out HP4.out _ HWR.out
         rw [eE] at C
         go_wp2_with fail
         refine C.mono ?_
         rintro e w5 ⟨rfl, d3, hs3, hw3, hm3⟩
         have HW3 := Lib.hid hw3
         have HM3 := Lib.hid hm3
         have hs3 : d3.size = d0.size := hs3.trans hs
         clear hw3 hm3 C
         go_wp2
         go_end0
         exact ⟨rfl, d3, hs3.trans hs.symm, HW3.out, merge_cut (A2 := row d) (A3 := row d3) hS HMID.out ha hb HO1.out HO2.out HCUT.out (by rw [if_neg (by omega)]; exact HR1.out) (by rw [if_pos ⟨by omega, by omega⟩]; exact HM3.out)⟩
     · rcases Nat.lt_or_ge i mid with smid | smid
       · have c1 : decide ((i : Int) < (m : Int)) = false := decide_eq_false (by omega)
         have c1' : ¬ (i : Int) < (m : Int) := by omega
         have c3 : decide ((a : Int) < (i : Int)) = true := decide_eq_true (by omega)
         have c3' : (a : Int) < (i : Int) := by omega
         have c4 : decide ((i : Int) < (mid : Int)) = true := decide_eq_true (by omega)
         have c4' : (i : Int) < (mid : Int) := by omega
         have c5 : decide ((mid : Int) < (mid : Int) + (m : Int) - (i : Int)) = false := decide_eq_false (by omega)
         have c5' : ¬ (mid : Int) < (mid : Int) + (m : Int) - (i : Int) := by omega
         have HR1 : Hid (row d = rot (row d) i m (mid + m - i)) := Lib.hid (by rw [show i = m by omega]; exact (rot_left _ _ _ (by omega)).symm)
         obtain ⟨p1, p2, p3, p4⟩ := HPARTS.out
         rw [← HR1.out] at p1 p2 p3 p4
         have HP1 := Lib.hid p1
         have HP2 := Lib.hid p2
         have HP3 := Lib.hid p3
         have HP4 := Lib.hid p4
         clear p1 p2 p3 p4
         have C := HIN.out a i mid d hs (by omega) (by omega) (by omega) (by omega) HP1.out HP2.out _ HWR.out
         go_wp2_with fail
         refine C.mono ?_
         rintro e w4 ⟨rfl, d2, hs2, hw2, hm2⟩
         have HW2 := Lib.hid hw2
         have HM2 := Lib.hid hm2
         have hs2 : d2.size = d0.size := hs2.trans hs
         clear hw2 hm2 C
         go_wp2
         go_end0
         exact ⟨rfl, d2, hs2.trans hs.symm, HW2.out, merge_cut (A2 := row d2) (A3 := row d2) hS HMID.out ha hb HO1.out HO2.out HCUT.out (by rw [if_pos ⟨by omega, by omega⟩, ← HR1.out]; exact HM2.out) (by rw [if_neg (by omega)])⟩
       · have c1 : decide ((i : Int) < (m : Int)) = false := decide_eq_false (by omega)
         have c1' : ¬ (i : Int) < (m : Int) := by omega
         have c3 : decide ((a : Int) < (i : Int)) = true := decide_eq_true (by omega)
         have c3' : (a : Int) < (i : Int) := by omega
         have c4 : decide ((i : Int) < (mid : Int)) = false := decide_eq_false (by omega)
         have c4' : ¬ (i : Int) < (mid : Int) := by omega
         have c5 : decide ((mid : Int) < (mid : Int) + (m : Int) - (i : Int)) = false := decide_eq_false (by omega)
         have c5' : ¬ (mid : Int) < (mid : Int) + (m : Int) - (i : Int) := by omega
         have HR1 : Hid (row d = rot (row d) i m (mid + m - i)) := Lib.hid (by rw [show mid + m - i = m by omega]; exact (rot_right _ _ _ (by omega)).symm)
         obtain ⟨p1, p2, p3, p4⟩ := HPARTS.out
         rw [← HR1.out] at p1 p2 p3 p4
         have HP1 := Lib.hid p1
         have HP2 := Lib.hid p2
         have HP3 := Lib.hid p3
         have HP4 := Lib.hid p4
         clear p1 p2 p3 p4
         go_wp2
         go_end0
         exact ⟨rfl, d, hs.trans hs.symm, HWR.out, merge_cut (A2 := row d) (A3 := row d) hS HMID.out ha hb HO1.out HO2.out HCUT.out (by rw [if_neg (by omega)]; exact HR1.out) (by rw [if_neg (by omega)])⟩
set_option maxHeartbeats 1000000 in
theorem symMerge_any (L : Lays P k) (R : RowK enc k w0 blk off d0) (h62 : d0.size < 4611686018427387904) {cf : α → α → Int} (hS : SWO (ltOf cf)) (g : Nat) (cb : Array Value) (eg : ∀ args w, (callFunc g args).run P w = .ok (.enter g args) w) (hC : CmpLays P g cb enc k cf blk off d0.size w0) (cap : Nat) :
   ∀ (n a m b : Nat) (d : Array α), b - a < n → d.size = d0.size → a < m → m < b → b ≤ d0.size → Srt (ltOf cf) (row d) a m → Srt (ltOf cf) (row d) m b → ∀ w, SWK enc k w0 blk off d w →
   Calls P 170 #[.slice (some ⟨blk, off, none⟩) d0.size cap, .int .i64 a, .int .i64 m, .int .i64 b, .func (.func g) #[] cb] w (MergedTo cf enc k w0 blk off d a b)
 | 0, a, m, b, d, hn, _, _, _, _, _, _, _, _ => absurd hn (Nat.not_lt_zero _)
 | n + 1, a, m, b, d, hn, hs, ha, hm, hb, h1, h2, w, hw => by
   by_cases c1 : m = a + 1
   · subst c1
     exact merge_one L R h62 hS g cb eg hC cap a b d hs hm hb h2 w hw
   · by_cases c2 : b = m + 1
     · subst c2
       exact merge_two L R h62 hS g cb eg hC cap a m d hs (by omega) hb h1 w hw
     · have IN : Within P cf g cb enc k w0 blk off cap d0.size (b - a) := fun x y z d' hd hlt hx hy hz q1 q2 w' hw' => symMerge_any L R h62 hS g cb eg hC cap n x y z d' (by omega) hd hx hy hz q1 q2 w' hw'
       by_cases c3 : (a + b) / 2 < m
       · exact merge_gt L R h62 hS g cb eg hC cap a m b d hs ha hm (by omega) (by omega) hb h1 h2 (fun mid e => by rw [e]; exact c3) IN w hw
       · exact merge_le L R h62 hS g cb eg hC cap a m b d hs ha hm (by omega) (by omega) hb h1 h2 (fun mid e => by rw [e]; exact c3) IN w hw
end Go.Proofs.YtgaegfddobpomaaGreat.St
