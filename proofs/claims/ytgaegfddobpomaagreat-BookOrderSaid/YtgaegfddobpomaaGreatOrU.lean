/- Words and contracts that the proofs of this seat stand on, part 21 of 39. -/
import Derived.Test.YtgaegfddobpomaaGreatOrS
import Derived.Test.YtgaegfddobpomaaGreatOrK
import Derived.Test.YtgaegfddobpomaaGreatOrT
import Derived.Test.YtgaegfddobpomaaGreatOrO
import Derived.Test.YtgaegfddobpomaaGreatOrP
import Derived.Test.YtgaegfddobpomaaGreatOrH
import Derived.Shelf.SlSortCmp.QuietGrown

namespace Go.Proofs.YtgaegfddobpomaaGreat.Cx
open Go.ChangeShapes Go.WideShapes Go.ChangeAt Go.RowKit Go.Maps
set_option linter.unusedVariables false
set_option maxRecDepth 4000
set_option maxHeartbeats 4000000 in
theorem phas_any (w : World) (A1 : Option Addr) (a : List Part) (n1 c1 : Nat) (d : Dot) (h1 : CtxAt w A1 a n1 c1) (hd : d.1 < 65536 ∧ d.2 < 18446744073709551616) :
   Calls Tryz.prog 46 #[.slice A1 n1 c1, .agg #[.int .u16 (d.1 : Int), .int .u64 (d.2 : Int)]] w fun e w' => e = .returned (.bool (hasC a d)) ∧ Below w.heap.size w w' := by
 have CG := fun W => Dt.pgood_x W d
 have H1 := Lib.hid h1
 have hn63 : n1 ≤ 9223372036854775807 := Nat.le_trans h1.cap h1.max
 have HB2 : Hid (Below w.heap.size w ((w.alloc (.cells #[.int .u16 (d.1 : Int), .int .u64 (d.2 : Int)] 35)).alloc (.cells #[.int .u16 (d.1 : Int), .int .u64 (d.2 : Int)] 35))) := Lib.hid (bel_alloc _ (Dt.below_new _ _))
 have HXB := Lib.hid (Dt.box_at w d)
 have HBX : Hid (Below (w.alloc (.cells #[.int .u16 (d.1 : Int), .int .u64 (d.2 : Int)] 35)).heap.size (w.alloc (.cells #[.int .u16 (d.1 : Int), .int .u64 (d.2 : Int)] 35)) ((w.alloc (.cells #[.int .u16 (d.1 : Int), .int .u64 (d.2 : Int)] 35)).alloc (.cells #[.int .u16 (d.1 : Int), .int .u64 (d.2 : Int)] 35))) := Lib.hid (Dt.below_new _ _)
 obtain ⟨dd, dn⟩ := d
 dsimp only at CG HB2 HXB HBX hd
 obtain ⟨hd1, hd2⟩ := hd
 clear h1
 cases hm : Dt.mayD (dd, dn) with
 | false =>
   rw [has_none hm]
   rw [hm] at CG
   clear hm
   go_enter Tryz.func46, Tryz.ntmps46
   go_wp2_with fail
   refine (CG _).mono ?_
   rintro e w1 ⟨rfl, rfl⟩
   go_wp2
   go_ret
   exact ⟨rfl, HB2.out⟩
 | true =>
   have HE := Lib.hid (has_any' (c := a) hm)
   rw [HE.out]
   rw [hm] at CG
   clear hm HE
   go_enter Tryz.func46, Tryz.ntmps46
   go_wp2_with fail
   refine (CG _).mono ?_
   rintro e w1 ⟨rfl, rfl⟩
   clear CG
   go_wp2_with fail
   generalize (w.alloc (.cells #[.int .u16 (dd : Int), .int .u64 (dn : Int)] 35)).alloc (.cells #[.int .u16 (dd : Int), .int .u64 (dn : Int)] 35) = w0 at *
   have HXC : Hid (∀ V, Below w0.heap.size w0 V → V.cell? ⟨w.heap.size, 0, none⟩ = some (.int .u16 (dd : Int)) ∧ V.cell? ⟨w.heap.size, 1, none⟩ = some (.int .u64 (dn : Int))) := Lib.hid (fun V hV => HXB.out V (HBX.out.trans (hV.mono HBX.out.size)))
   have H2 := Lib.hid (H1.out.up HB2.out)
   go_loopw [12] (fun i wr => ∃ k : Nat, k ≤ n1 ∧ i = .int .i64 (k : Int) ∧ (a.take k).any (hitC (dd, dn)) = false ∧ Below w0.heap.size w0 wr) (fun i _ => n1 - (intOf i).toNat)
   case atStart => exact ⟨0, Nat.zero_le _, rfl, rfl, Below.refl _ _⟩
   case round =>
     obtain ⟨k, hk, rfl, hf, hw⟩ := hrel
     have HF := Lib.hid hf
     have HW := Lib.hid hw
     clear hf hw
     by_cases hlt : k < n1
     · obtain ⟨ad, p, x, rfl, hB, hx, hp, hcell⟩ := H2.out.cells hlt
       obtain ⟨x1, xl⟩ := x
       have HN := Lib.hid (any_next (d := (dd, dn)) hx)
       have HH := Lib.hid (any_hit (d := (dd, dn)) hx)
       have HX := Lib.hid (hp.up HW.out)
       obtain ⟨d1, d2⟩ := hcell wr HW.out
       dsimp only at d1 d2
       clear hx hp hcell
       have BX : Hid (Below wr.heap.size wr (wr.alloc (.cells #[.int .u16 (x1 : Int), .slice p.adr p.len p.cap] 71))) := Lib.hid (Dt.below_new _ _)
       have HW1 := Lib.hid (HW.out.trans (BX.out.mono HW.out.size))
       obtain ⟨d3, d4⟩ := pbox_at wr x1 p.adr p.len p.cap _ (Below.refl _ _)
       obtain ⟨d5, d6⟩ := HXC.out _ HW1.out
       have HWF : Hid (Below w.heap.size w (wr.alloc (.cells #[.int .u16 (x1 : Int), .slice p.adr p.len p.cap] 71))) := Lib.hid (HB2.out.trans (HW1.out.mono HB2.out.size))
       by_cases hxd : x1 = dd
       · subst hxd
         have HXB2 := Lib.hid (HX.out.up BX.out)
         have CH := Ru.phas_any _ p.adr xl p.len p.cap dn HXB2.out.len HXB2.out.runs (Nat.le_trans HXB2.out.cap HXB2.out.max)
         have HT : Hid (hitC (x1, dn) (x1, xl) = Ru.has xl dn) := Lib.hid (by unfold hitC; simp)
         rw [HT.out] at HN HH
         clear HX BX HXB2 HT
         cases hh : Ru.has xl dn with
         | true =>
           rw [hh] at CH
           have HA := Lib.hid (HH.out hh)
           clear HN HH hh
           go_wp2_with fail
           refine CH.mono ?_
           rintro e w2 ⟨rfl, hb2⟩
           have HWG := Lib.hid (HWF.out.trans (hb2.mono HWF.out.size))
           clear hb2 CH
           go_wp2
           go_ret
           exact ⟨Ru.ret_bool HA.out.symm, HWG.out⟩
         | false =>
           rw [hh] at CH
           have HA : Hid ((a.take (k + 1)).any (hitC (x1, dn)) = false) := Lib.hid (by rw [HN.out, HF.out, hh]; rfl)
           clear HN HH hh
           go_wp2_with fail
           refine CH.mono ?_
           rintro e w2 ⟨rfl, hb2⟩
           have HWG := Lib.hid (HW1.out.trans (hb2.mono HW1.out.size))
           clear hb2 CH
           go_wp2
           go_roundw
           case rel => exact ⟨k + 1, by omega, by go_num, HA.out, HWG.out⟩
           case measure => simp [intOf]; omega
       · have e1 : ((x1 : Int) == (dd : Int)) = false := by rw [beq_eq_false_iff_ne]; omega
         have HA : Hid ((a.take (k + 1)).any (hitC (dd, dn)) = false) := Lib.hid (by
           have : hitC (dd, dn) (x1, xl) = false := by unfold hitC; simp [hxd]
           rw [HN.out, HF.out, this]; rfl)
         clear HN HH HX BX
         go_wp2
         go_roundw
         case rel => exact ⟨k + 1, by omega, by go_num, HA.out, HW1.out⟩
         case measure => simp [intOf]; omega
     · obtain rfl : k = n1 := by omega
       have HA : Hid (a.any (hitC (dd, dn)) = false) := Lib.hid (by
         have h := HF.out
         rw [List.take_of_length_le (by rw [H2.out.len]; exact Nat.le_refl _)] at h
         exact h)
       have HWG := Lib.hid (HB2.out.trans (HW.out.mono HB2.out.size))
       go_wp2
       go_ret
       exact ⟨Ru.ret_bool HA.out.symm, HWG.out⟩
end Go.Proofs.YtgaegfddobpomaaGreat.Cx

namespace Go.Proofs.YtgaegfddobpomaaGreat.Bk
open Go.ChangeShapes Go.WideShapes Go.ChangeAt Go.RowKit Go.Proofs.YtgaegfddobpomaaGreat.Kl
set_option linter.unusedVariables false
set_option maxRecDepth 4000
def FrPost (R : Lay) (w : World) (c : List Cx.Part) (l : List Ev.Evt) (e : Ending) (w' : World) : Prop :=
 if fromB c l = true then ∃ p, e = .returned (.tuple #[.pointer (some ⟨p, 0, none⟩), .int .i64 0]) ∧ Fresh R w (c, l) p w' else e = .returned (.tuple #[.pointer none, .int .i64 1]) ∧ Below w.heap.size w w'
structure PFr (R : Lay) : Prop where
 from_ : ∀ w A1 A2 c l n1 c1 n2 c2, Cx.CtxAt w A1 c n1 c1 → Ev.EventsAt w w.heap.size A2 l n2 c2 → Lim (c, l) → Calls Tryz.prog 27 #[.slice A1 n1 c1, .slice A2 n2 c2] w (FrPost R w c l)
end Go.Proofs.YtgaegfddobpomaaGreat.Bk

namespace Go.Proofs.YtgaegfddobpomaaGreat.Ru
open Go.ChangeShapes Go.WideShapes Go.ChangeAt Go.RowKit Go.Shelf
set_option linter.unusedVariables false
set_option maxRecDepth 4000
end Go.Proofs.YtgaegfddobpomaaGreat.Ru

namespace Go.Proofs.YtgaegfddobpomaaGreat.Cx
open Go.ChangeShapes Go.WideShapes Go.ChangeAt Go.RowKit Go.Maps
set_option linter.unusedVariables false
set_option maxRecDepth 4000
end Go.Proofs.YtgaegfddobpomaaGreat.Cx
