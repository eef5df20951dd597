/- Words and contracts that the proofs of this seat stand on, part 25 of 39. -/
import Derived.Test.YtgaegfddobpomaaGreatOrX

namespace Go.Proofs.YtgaegfddobpomaaGreat.St
open Go.ChangeShapes Go.WideShapes Go.ChangeAt Go.RowKit Go.Shelf Go.Lib Go.Sort
set_option linter.unusedVariables false
set_option maxRecDepth 1000000
variable {P : Program} {α : Type} [Inhabited α] {enc : α → List Value} {k : Nat} {w0 : World} {blk off : Nat} {d0 : Array α}
omit [Inhabited α] in
theorem lt_yes {cf : α → α → Int} {x y : α} (h : cf x y < 0) : ltOf cf x y = true := decide_eq_true h
omit [Inhabited α] in
theorem lt_no {cf : α → α → Int} {x y : α} (h : ¬ cf x y < 0) : ltOf cf x y = false := decide_eq_false h
theorem half_int (i j : Nat) : ((i : Int) + (j : Int)) / 2 = (((i + j) / 2 : Nat) : Int) := by omega
theorem rot_first_next {dk : Array α} {A : Nat → α} {a x : Nat} (h1 : x < dk.size) (h2 : x + 1 < dk.size) (ha : a ≤ x) (h : row dk = rot A a (a + 1) (x + 1)) : row (swp dk x (x + 1)) = rot A a (a + 1) (x + 1 + 1) := by
 rw [row_swp dk h1 h2, h]
 funext k
 unfold rot
 repeat' split
 all_goals first | rfl | (congr 1; omega) | (exfalso; omega)
def MergedTo (cf : α → α → Int) (enc : α → List Value) (k : Nat) (w0 : World) (blk off : Nat) (d : Array α) (a b : Nat) (e : Ending) (w' : World) : Prop :=
 e = .returned (.tuple #[]) ∧ ∃ d', d'.size = d.size ∧ SWK enc k w0 blk off d' w' ∧ Merged (ltOf cf) (row d) (row d') a b
set_option maxHeartbeats 16000000 in
theorem merge_one (L : Lays P k) (R : RowK enc k w0 blk off d0) (h62 : d0.size < 4611686018427387904) {cf : α → α → Int} (hS : SWO (ltOf cf)) (g : Nat) (cb : Array Value) (eg : ∀ args w, (callFunc g args).run P w = .ok (.enter g args) w) (hC : CmpLays P g cb enc k cf blk off d0.size w0)
   (cap a b : Nat) (d : Array α) (hs : d.size = d0.size) (ha : a + 1 < b) (hb : b ≤ d0.size) (h1 : Srt (ltOf cf) (row d) (a + 1) b) (w : World) (hw : SWK enc k w0 blk off d w) :
   Calls P 170 #[.slice (some ⟨blk, off, none⟩) d0.size cap, .int .i64 a, .int .i64 (a + 1 : Nat), .int .i64 b, .func (.func g) #[] cb] w (MergedTo cf enc k w0 blk off d a b) := by
 have mixed := L.mixed; have t0 := L.t0; have a0 := L.a0; have z0 := L.z0; have v0 := L.v0; have t3 := L.t3; have a3 := L.a3; have z3 := L.z3; have v3 := L.v3; have t4 := L.t4; have a4 := L.a4; have z4 := L.z4; have v4 := L.v4; have t62 := L.t62; have a62 := L.a62; have z62 := L.z62; have v62 := L.v62; have t30 := L.t30; have a30 := L.a30; have z30 := L.z30; have v30 := L.v30; have t51 := L.t51; have a51 := L.a51; have z51 := L.z51; have v51 := L.v51; have aE := L.aE; have zE := L.zE
 have u30 := run_underlying L.t30
 have F := L.fMerge
 have HR := Lib.hid R
 have HW := Lib.hid hw
 have HC := Lib.hid hC
 have HO := Lib.hid h1
 clear hw R L hC h1
 have g1 : ((a : Int) + 1 - (a : Int) == 1) = true := by rw [beq_iff_eq]; omega
 have g2 : IntKind.i64.wrap ((a : Int) + 1 - (a : Int)) = 1 := by rw [IntKind.wrap_i64]; omega
 rw [show ((a + 1 : Nat) : Int) = (a : Int) + 1 by omega]
 go_enter F, Tryz.ntmps170
 go_wp2
 go_loopw [10, 11] (fun vi vj wr => ∃ (i j : Nat), vi = .int .i64 (i : Int) ∧ vj = .int .i64 (j : Int) ∧ a + 1 ≤ i ∧ i ≤ j ∧ j ≤ b ∧ SWK enc k w0 blk off d wr ∧ (∀ h, a + 1 ≤ h → h < i → ltOf cf (row d h) (row d a) = true) ∧ (∀ h, j ≤ h → h < b → ltOf cf (row d h) (row d a) = false)) (fun vi vj _ => (intOf vj).toNat - (intOf vi).toNat)
 case atStart => exact ⟨a + 1, b, by go_num, by go_num, Nat.le_refl _, by omega, Nat.le_refl _, HW.out, fun h h1 h2 => by omega, fun h h1 h2 => by omega⟩
 case round =>
   obtain ⟨i, j, rfl, rfl, hai, hij, hjb, hwk, hlow, hup⟩ := hrel
   have HWK := Lib.hid hwk
   have HLOW := Lib.hid hlow
   have HUP := Lib.hid hup
   clear hwk hlow hup
   by_cases hlt : i < j
   · have hz : (i : Int) < (j : Int) := by omega
     have i0 : (0 : Int) ≤ (i : Int) + (j : Int) := by omega
     have wa : IntKind.i64.wrap ((i : Int) + (j : Int)) = (i : Int) + (j : Int) := by rw [IntKind.wrap_i64]; omega
     have wb : IntKind.u64.wrap ((i : Int) + (j : Int)) = (i : Int) + (j : Int) := by rw [IntKind.wrap_u64]; omega
     have he := half_int i j
     obtain ⟨h, hh⟩ : ∃ h : Nat, h = (i + j) / 2 := ⟨_, rfl⟩
     rw [← hh] at he
     have wc : IntKind.i64.wrap (((i : Int) + (j : Int)) / 2) = ((i : Int) + (j : Int)) / 2 := by rw [IntKind.wrap_i64]; omega
     have HE := Lib.hid he
     clear he
     have hlo : i ≤ h := by omega
     have hhi : h < j := by omega
     clear hh
     have q1 : (h : Int) < (d0.size : Int) := by omega
     have q2 : (a : Int) < (d0.size : Int) := by omega
     have l1 := HWK.out.ld HR.out hs P h (by omega)
     have l2 := HWK.out.ld HR.out hs P a (by omega)
     have hc := HWK.out.cmp HC.out hs d[h]! d[a]!
     have HG := Lib.hid (fun n os => HWK.out.grown n os)
     have hsA : (enc d[h]!).length = k := HR.out.hk _
     have hsB : (enc d[a]!).length = k := HR.out.hk _
     go_wp2_with fail
     rw [HE.out]
     clear wa wb wc i0
     by_cases hlv : cf d[h]! d[a]! < 0
     · have HT : Hid (∀ x, a + 1 ≤ x → x < h + 1 → ltOf cf (row d x) (row d a) = true) := Lib.hid (fun x x1 x2 => le_lt hS (HO.out.le hS x1 (by omega) (by omega)) (lt_yes hlv))
       generalize cf d[h]! d[a]! = cv at hc hlv
       generalize enc d[h]! = cA at *
       generalize enc d[a]! = cB at *
       go_quiet_grown (first | (go_at_fn g; refine Calls.grown_of (hc _ _)))
       have HW2 := Lib.hid (HG.out nq osq)
       clear l1 l2 hc HG
       generalize grow (wr.drewN nq) osq = w2 at HW2 ⊢
       go_wp2
       go_roundw
       case rel => exact ⟨h + 1, j, by go_num, rfl, by omega, by omega, hjb, HW2.out, HT.out, HUP.out⟩
       case measure => simp [intOf]; omega
     · have HT : Hid (∀ x, h ≤ x → x < b → ltOf cf (row d x) (row d a) = false) := Lib.hid (fun x x1 x2 => hS.ntrans _ _ _ (HO.out.le hS (by omega) x1 x2) (lt_no hlv))
       generalize cf d[h]! d[a]! = cv at hc hlv
       generalize enc d[h]! = cA at *
       generalize enc d[a]! = cB at *
       go_quiet_grown (first | (go_at_fn g; refine Calls.grown_of (hc _ _)))
       have HW2 := Lib.hid (HG.out nq osq)
       clear l1 l2 hc HG
       generalize grow (wr.drewN nq) osq = w2 at HW2 ⊢
       go_wp2
       go_roundw
       case rel => exact ⟨i, h, rfl, rfl, hai, by omega, by omega, HW2.out, HLOW.out, HT.out⟩
       case measure => simp [intOf]; omega
   · obtain rfl : i = j := by omega
     have HM := Lib.hid (merge_first hS HO.out hai hjb HLOW.out HUP.out)
     clear HLOW HUP
     have w5 : IntKind.i64.wrap ((i : Int) - 1) = (i : Int) - 1 := by rw [IntKind.wrap_i64]; omega
     go_wp2
     go_loopw [13] (fun vk wr => ∃ (x : Nat) (dk : Array α), vk = .int .i64 (x : Int) ∧ a ≤ x ∧ x + 1 ≤ i ∧ dk.size = d0.size ∧ SWK enc k w0 blk off dk wr ∧ row dk = rot (row d) a (a + 1) (x + 1)) (fun vk _ => i - (intOf vk).toNat)
     case atStart => exact ⟨a, d, by go_num, Nat.le_refl _, by omega, hs, HWK.out, (rot_right _ _ _ (by omega)).symm⟩
     case round =>
       obtain ⟨x, dk, rfl, hax, hxi, hsk, hwk, hrow⟩ := hrel
       have HWX := Lib.hid hwk
       have HROW := Lib.hid hrow
       clear hwk hrow
       by_cases hx : x + 1 < i
       · have hz : (x : Int) < (i : Int) - 1 := by omega
         have i1 : x < dk.size := by omega
         have i2 : x + 1 < dk.size := by omega
         have w1 : IntKind.i64.wrap ((x : Int) + 1) = (x : Int) + 1 := by rw [IntKind.wrap_i64]; omega
         have n2 : ((x : Int) + 1).toNat = x + 1 := by omega
         have p2 : (0 : Int) ≤ (x : Int) + 1 := by omega
         have q1 : (x : Int) < (d0.size : Int) := by omega
         have q2 : (x : Int) + 1 < (d0.size : Int) := by omega
         have l1 := HWX.out.ld1 HR.out hsk P x i1
         have l2 := HWX.out.ld1 HR.out hsk P (x + 1) i2
         have s1 := HWX.out.st1 HR.out hsk P x i1 dk[x + 1]!
         have s2 := HWX.out.st2 HR.out hsk P x (x + 1) i1 i2 dk[x + 1]! dk[x]!
         have HSW := Lib.hid (HWX.out.swapped HR.out x (x + 1) i1 i2)
         have hsA : (enc dk[x]!).length = k := HR.out.hk _
         have hsB : (enc dk[x + 1]!).length = k := HR.out.hk _
         have HN := Lib.hid (rot_first_next i1 i2 hax HROW.out)
         clear HWX HROW
         generalize enc dk[x]! = cA at *
         generalize enc dk[x + 1]! = cB at *
         go_wp2_with fail
         go_big_region_o
         all_goals go_wp2
         go_roundw
         case rel => exact ⟨x + 1, _, by go_num, by omega, by omega, by rw [size_swp]; exact hsk, HSW.out, HN.out⟩
         case measure => simp [intOf]; omega
       · obtain rfl : x + 1 = i := by omega
         have hz : ¬ (x : Int) < ((x + 1 : Nat) : Int) - 1 := by omega
         go_wp2
         ((try simp only [Exit.inBlock, Exit.then]); refine bodyPost_ret (results_none rfl _ _ _) rfl ?_)
         exact ⟨rfl, dk, hsk.trans hs.symm, HWX.out, by rw [HROW.out]; exact HM.out⟩
theorem rot_last_next {dk : Array α} {A : Nat → α} {m y : Nat} (h1 : y < dk.size) (h2 : y + 1 < dk.size) (hm : y + 1 ≤ m) (h : row dk = rot A (y + 1) m (m + 1)) : row (swp dk (y + 1) y) = rot A y m (m + 1) := by
 rw [row_swp dk h2 h1, h]
 funext k
 unfold rot
 repeat' split
 all_goals first | rfl | (congr 1; omega) | (exfalso; omega)
set_option maxHeartbeats 16000000 in
theorem merge_two (L : Lays P k) (R : RowK enc k w0 blk off d0) (h62 : d0.size < 4611686018427387904) {cf : α → α → Int} (hS : SWO (ltOf cf)) (g : Nat) (cb : Array Value) (eg : ∀ args w, (callFunc g args).run P w = .ok (.enter g args) w) (hC : CmpLays P g cb enc k cf blk off d0.size w0)
   (cap a m : Nat) (d : Array α) (hs : d.size = d0.size) (ha : a + 1 < m) (hb : m + 1 ≤ d0.size) (h1 : Srt (ltOf cf) (row d) a m) (w : World) (hw : SWK enc k w0 blk off d w) :
   Calls P 170 #[.slice (some ⟨blk, off, none⟩) d0.size cap, .int .i64 a, .int .i64 m, .int .i64 (m + 1 : Nat), .func (.func g) #[] cb] w (MergedTo cf enc k w0 blk off d a (m + 1 : Nat)) := by
 have mixed := L.mixed; have t0 := L.t0; have a0 := L.a0; have z0 := L.z0; have v0 := L.v0; have t3 := L.t3; have a3 := L.a3; have z3 := L.z3; have v3 := L.v3; have t4 := L.t4; have a4 := L.a4; have z4 := L.z4; have v4 := L.v4; have t62 := L.t62; have a62 := L.a62; have z62 := L.z62; have v62 := L.v62; have t30 := L.t30; have a30 := L.a30; have z30 := L.z30; have v30 := L.v30; have t51 := L.t51; have a51 := L.a51; have z51 := L.z51; have v51 := L.v51; have aE := L.aE; have zE := L.zE
 have u30 := run_underlying L.t30
 have F := L.fMerge
 have HR := Lib.hid R
 have HW := Lib.hid hw
 have HC := Lib.hid hC
 have HO := Lib.hid h1
 clear hw R L hC h1
 have g1 : ((m : Int) - (a : Int) == 1) = false := by rw [beq_eq_false_iff_ne]; omega
 have g2 : IntKind.i64.wrap ((m : Int) - (a : Int)) = (m : Int) - (a : Int) := by rw [IntKind.wrap_i64]; omega
 have g3 : ((m : Int) + 1 - (m : Int) == 1) = true := by rw [beq_iff_eq]; omega
 have g4 : IntKind.i64.wrap ((m : Int) + 1 - (m : Int)) = 1 := by rw [IntKind.wrap_i64]; omega
 rw [show ((m + 1 : Nat) : Int) = (m : Int) + 1 by omega]
 go_enter F, Tryz.ntmps170
 go_wp2
 go_loopw [14, 15] (fun vi vj wr => ∃ (i j : Nat), vi = .int .i64 (i : Int) ∧ vj = .int .i64 (j : Int) ∧ a ≤ i ∧ i ≤ j ∧ j ≤ m ∧ SWK enc k w0 blk off d wr ∧ (∀ h, a ≤ h → h < i → ltOf cf (row d m) (row d h) = false) ∧ (∀ h, j ≤ h → h < m → ltOf cf (row d m) (row d h) = true)) (fun vi vj _ => (intOf vj).toNat - (intOf vi).toNat)
 case atStart => exact ⟨a, m, by go_num, by go_num, Nat.le_refl _, by omega, Nat.le_refl _, HW.out, fun h h1 h2 => by omega, fun h h1 h2 => by omega⟩
 case round =>
   obtain ⟨i, j, rfl, rfl, hai, hij, hjb, hwk, hlow, hup⟩ := hrel
   have HWK := Lib.hid hwk
   have HLOW := Lib.hid hlow
   have HUP := Lib.hid hup
   clear hwk hlow hup
   by_cases hlt : i < j
   · have hz : (i : Int) < (j : Int) := by omega
     have i0 : (0 : Int) ≤ (i : Int) + (j : Int) := by omega
     have wa : IntKind.i64.wrap ((i : Int) + (j : Int)) = (i : Int) + (j : Int) := by rw [IntKind.wrap_i64]; omega
     have wb : IntKind.u64.wrap ((i : Int) + (j : Int)) = (i : Int) + (j : Int) := by rw [IntKind.wrap_u64]; omega
     have he := half_int i j
     obtain ⟨h, hh⟩ : ∃ h : Nat, h = (i + j) / 2 := ⟨_, rfl⟩
     rw [← hh] at he
     have wc : IntKind.i64.wrap (((i : Int) + (j : Int)) / 2) = ((i : Int) + (j : Int)) / 2 := by rw [IntKind.wrap_i64]; omega
     have HE := Lib.hid he
     clear he
     have hlo : i ≤ h := by omega
     have hhi : h < j := by omega
     clear hh
     have q1 : (h : Int) < (d0.size : Int) := by omega
     have q2 : (m : Int) < (d0.size : Int) := by omega
     have l1 := HWK.out.ld HR.out hs P h (by omega)
     have l2 := HWK.out.ld HR.out hs P m (by omega)
     have hc := HWK.out.cmp HC.out hs d[m]! d[h]!
     have HG := Lib.hid (fun n os => HWK.out.grown n os)
     have hsA : (enc d[h]!).length = k := HR.out.hk _
     have hsB : (enc d[m]!).length = k := HR.out.hk _
     go_wp2_with fail
     rw [HE.out]
     clear wa wb wc i0
     by_cases hlv : cf d[m]! d[h]! < 0
     · have HT : Hid (∀ x, h ≤ x → x < m → ltOf cf (row d m) (row d x) = true) := Lib.hid (fun x x1 x2 => lt_le hS (lt_yes hlv) (HO.out.le hS (by omega) x1 x2))
       generalize cf d[m]! d[h]! = cv at hc hlv
       generalize enc d[h]! = cA at *
       generalize enc d[m]! = cB at *
       go_quiet_grown (first | (go_at_fn g; refine Calls.grown_of (hc _ _)))
       have HW2 := Lib.hid (HG.out nq osq)
       clear l1 l2 hc HG
       generalize grow (wr.drewN nq) osq = w2 at HW2 ⊢
       go_wp2
       go_roundw
       case rel => exact ⟨i, h, rfl, rfl, hai, by omega, by omega, HW2.out, HLOW.out, HT.out⟩
       case measure => simp [intOf]; omega
     · have HT : Hid (∀ x, a ≤ x → x < h + 1 → ltOf cf (row d m) (row d x) = false) := Lib.hid (fun x x1 x2 => hS.ntrans _ _ _ (lt_no hlv) (HO.out.le hS x1 (by omega) (by omega)))
       generalize cf d[m]! d[h]! = cv at hc hlv
       generalize enc d[h]! = cA at *
       generalize enc d[m]! = cB at *
       go_quiet_grown (first | (go_at_fn g; refine Calls.grown_of (hc _ _)))
       have HW2 := Lib.hid (HG.out nq osq)
       clear l1 l2 hc HG
       generalize grow (wr.drewN nq) osq = w2 at HW2 ⊢
       go_wp2
       go_roundw
       case rel => exact ⟨h + 1, j, by go_num, rfl, by omega, by omega, hjb, HW2.out, HT.out, HUP.out⟩
       case measure => simp [intOf]; omega
   · obtain rfl : i = j := by omega
     have HM := Lib.hid (merge_last hS HO.out hai hjb HLOW.out HUP.out)
     clear HLOW HUP
     go_wp2
     go_loopw [17] (fun vk wr => ∃ (x : Nat) (dk : Array α), vk = .int .i64 (x : Int) ∧ i ≤ x ∧ x ≤ m ∧ dk.size = d0.size ∧ SWK enc k w0 blk off dk wr ∧ row dk = rot (row d) x m (m + 1)) (fun vk _ => (intOf vk).toNat)
     case atStart => exact ⟨m, d, by go_num, by omega, Nat.le_refl _, hs, HWK.out, (rot_left _ _ _ (by omega)).symm⟩
     case round =>
       obtain ⟨x, dk, rfl, hix, hxm, hsk, hwk, hrow⟩ := hrel
       have HWX := Lib.hid hwk
       have HROW := Lib.hid hrow
       clear hwk hrow
       by_cases hx : i < x
       · obtain ⟨y, rfl⟩ : ∃ y, x = y + 1 := ⟨x - 1, by omega⟩
         have hz : ((y + 1 : Nat) : Int) > (i : Int) := by omega
         have hz' : (i : Int) < (y : Int) + 1 := by omega
         have i1 : y < dk.size := by omega
         have i2 : y + 1 < dk.size := by omega
         have w1 : IntKind.i64.wrap (y : Int) = (y : Int) := by rw [IntKind.wrap_i64]; omega
         have n2 : ((y : Int) + 1).toNat = y + 1 := by omega
         have p2 : (0 : Int) ≤ (y : Int) + 1 := by omega
         have q1 : (y : Int) < (d0.size : Int) := by omega
         have q2 : (y : Int) + 1 < (d0.size : Int) := by omega
         have l1 := HWX.out.ld1 HR.out hsk P y i1
         have l2 := HWX.out.ld1 HR.out hsk P (y + 1) i2
         have s1 := HWX.out.st1 HR.out hsk P (y + 1) i2 dk[y]!
         have s2 := HWX.out.st2 HR.out hsk P (y + 1) y i2 i1 dk[y]! dk[y + 1]!
         have HSW := Lib.hid (HWX.out.swapped HR.out (y + 1) y i2 i1)
         have hsA : (enc dk[y]!).length = k := HR.out.hk _
         have hsB : (enc dk[y + 1]!).length = k := HR.out.hk _
         have HN := Lib.hid (rot_last_next i1 i2 (by omega) HROW.out)
         clear HWX HROW
         generalize enc dk[y]! = cA at *
         generalize enc dk[y + 1]! = cB at *
         go_wp2_with fail
         go_big_region_o
         all_goals go_wp2
         go_roundw
         case rel => exact ⟨y, _, by go_num, by omega, by omega, by rw [size_swp]; exact hsk, HSW.out, HN.out⟩
         case measure => simp [intOf]
       · obtain rfl : x = i := by omega
         go_wp2
         ((try simp only [Exit.inBlock, Exit.then]); refine bodyPost_ret (results_none rfl _ _ _) rfl ?_)
         exact ⟨rfl, dk, hsk.trans hs.symm, HWX.out, by rw [HROW.out]; exact HM.out⟩
end Go.Proofs.YtgaegfddobpomaaGreat.St
