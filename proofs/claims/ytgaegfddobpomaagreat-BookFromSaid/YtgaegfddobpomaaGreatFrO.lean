/- Words and contracts that the proofs of this seat stand on, part 15 of 28. -/
import Derived.Test.YtgaegfddobpomaaGreatFrN
import Derived.Test.YtgaegfddobpomaaGreatFrF
import Derived.Shelf.SlSortCmp.QuietGrown
import Derived.Test.YtgaegfddobpomaaGreatFrM

namespace Go.Proofs.YtgaegfddobpomaaGreat.Ru
open Go.ChangeShapes Go.WideShapes Go.ChangeAt Go.RowKit Go.Shelf
set_option linter.unusedVariables false
set_option maxRecDepth 4000
theorem order_one {r : Run} (h : mayR r = true) : InOrder [r] := ⟨fun s hs => by obtain rfl := List.mem_singleton.1 hs; exact h, by simp⟩
theorem order_last {o : List Run} {s r : Run} (h : InOrder (o ++ [s])) (hr : mayR r = true) (hf : s.2 + 1 < r.1) : InOrder (o ++ [s] ++ [r]) := by
 refine order_snoc h hr fun t ht => ?_
 obtain ⟨h1, h2, h3⟩ := order_init h
 rcases List.mem_append.1 ht with ht | ht
 · have := h3 t ht
   have := (may_iff s).1 h2
   omega
 · obtain rfl := List.mem_singleton.1 ht
   exact hf
theorem order_take {l : List Run} (h : InOrder l) (k : Nat) : InOrder (l.take k) := ⟨fun r hr => h.1 r (List.mem_of_mem_take hr), List.Pairwise.sublist (List.take_sublist _ _) h.2⟩
theorem take_snoc {l : List Run} {k : Nat} {r : Run} (h : l[k]? = some r) : l.take (k + 1) = l.take k ++ [r] := by rw [List.take_add_one, h]; rfl
theorem tells_x (w : World) (lo hi : Nat) :
   Calls Tryz.prog 145 #[.agg #[.int .u64 (lo : Int), .int .u64 (hi : Int)]] w fun e w' => e = .returned (.bool (mayR (lo, hi))) ∧ w' = w.alloc (.cells #[.int .u64 (lo : Int), .int .u64 (hi : Int)] 68) := by
 by_cases c1 : lo = 0
 · subst c1
   have hd : mayR (0, hi) = false := decide_eq_false (fun h => by have := h.1; simp at this)
   rw [hd]
   clear hd
   go_enter Tryz.func145, Tryz.ntmps145
   go_wp2
   go_ret
   exact ⟨rfl, rfl⟩
 · have d1 : ((lo : Int) != 0) = true := by rw [bne_iff_ne]; omega
   by_cases c2 : lo ≤ hi
   · have d2 : decide ((lo : Int) ≤ (hi : Int)) = true := decide_eq_true (by omega)
     have hd : mayR (lo, hi) = decide ((hi : Int) ≤ 281474976710655) := decide_eq_decide.2 ⟨fun h => by have := h.2.2; simp at this; omega, fun h => ⟨by simp; omega, c2, by simp; omega⟩⟩
     rw [hd]
     clear hd
     go_enter Tryz.func145, Tryz.ntmps145
     go_wp2
     go_ret
     exact ⟨rfl, rfl⟩
   · have hd : mayR (lo, hi) = false := decide_eq_false (fun h => c2 h.2.1)
     have d2 : decide ((lo : Int) ≤ (hi : Int)) = false := decide_eq_false (by omega)
     rw [hd]
     clear hd
     go_enter Tryz.func145, Tryz.ntmps145
     go_wp2
     go_ret
     exact ⟨rfl, rfl⟩
theorem tells_g (W : World) (r : Run) (b : Bool) (hb : mayR r = b) :
   Calls Tryz.prog 145 #[.agg #[.int .u64 (r.1 : Int), .int .u64 (r.2 : Int)]] W fun e w' => e = .returned (.bool b) ∧ ∃ q os', w' = Sort.grow (W.drewN q) os' :=
 (tells_x W r.1 r.2).mono fun _ _ ⟨h1, h2⟩ => ⟨by rw [h1, ← hb], 0, #[.cells #[.int .u64 (r.1 : Int), .int .u64 (r.2 : Int)] 68], h2.trans (Sort.alloc_eq_grow _ _)⟩
theorem apart_g (W : World) (s r : Run) (b : Bool) (h : s.2 ≤ 281474976710656) (hb : decide (s.2 + 1 < r.1) = b) :
   Calls Tryz.prog 146 #[.agg #[.int .u64 (s.1 : Int), .int .u64 (s.2 : Int)], .agg #[.int .u64 (r.1 : Int), .int .u64 (r.2 : Int)]] W fun e w' => e = .returned (.bool b) ∧ ∃ q os', w' = Sort.grow (W.drewN q) os' := by
 have h1 : IntKind.u64.wrap ((s.2 : Int) + 1) = ((s.2 + 1 : Nat) : Int) := by simp [IntKind.wrap, IntKind.bits, IntKind.signed]; omega
 have hd : decide (((s.2 + 1 : Nat) : Int) < (r.1 : Int)) = b := by rw [← hb]; exact decide_eq_decide.2 (by omega)
 generalize ((s.2 + 1 : Nat) : Int) = z at h1 hd ⊢
 clear hb
 go_enter Tryz.func146, Tryz.ntmps146
 go_wp2
 go_ret
 exact ⟨rfl, 0, _, by rw [Sort.alloc_eq_grow, Sort.alloc_eq_grow, Sort.grow_grow]; rfl⟩
theorem below_grow (V : World) (n : Nat) (os : Array Obj) : Below V.heap.size V (Sort.grow (V.drewN n) os) :=
 ⟨rfl, rfl, rfl, by show V.heap.size ≤ (V.heap ++ os).size; simp, fun i hi => by show (V.heap ++ os)[i]? = V.heap[i]?; exact Array.getElem?_append_left hi⟩
set_option maxHeartbeats 1000000 in
theorem pgood_any (w : World) (A1 : Option Addr) (l : List Run) (n c1 : Nat) (hl : l.length = n) (hb : Runs w w.heap.size A1 l) (h63 : n ≤ 9223372036854775807) :
   Calls Tryz.prog 110 #[.slice A1 n c1] w fun e w' => e = .returned (.bool (decide (l = nrm l))) ∧ Below w.heap.size w w' := by
 have HL := Lib.hid hl
 have HB := Lib.hid hb
 have HT : Hid (InOrder l → decide (l = nrm l) = true) := fun h => decide_eq_true ((good_comes l).1 h)
 have HF : Hid (¬ InOrder l → decide (l = nrm l) = false) := fun h => decide_eq_false (fun e => h ((good_comes l).2 e))
 clear hl hb
 generalize decide (l = nrm l) = ans at HT HF ⊢
 go_enter Tryz.func110, Tryz.ntmps110
 go_wp2
 go_loopw [7] (fun i wr => ∃ k : Nat, k ≤ n ∧ i = .int .i64 (k : Int) ∧ InOrder (l.take k) ∧ Below w.heap.size w wr) (fun i _ => n - (intOf i).toNat)
 case atStart => exact ⟨0, Nat.zero_le _, rfl, order_nil, Below.refl _ _⟩
 case round =>
   obtain ⟨k, hk, rfl, hi, hbl⟩ := hrel
   have HI := Lib.hid hi
   have HW := Lib.hid hbl
   clear hi hbl
   by_cases hlt : k < n
   · obtain ⟨ad, lo, hi, rfl, hlk, hlo, hhi, q1, q2⟩ := (HB.out.below HW.out).at_ (k := k) (by rw [HL.out]; exact hlt)
     have q3 : wr.cell? ⟨(ad.add (k * 2)).block, (ad.add (k * 2)).off + 1, none⟩ = some (.int .u64 (hi : Int)) := by rw [add_next]; exact q2
     have LK := Lib.hid hlk
     have L0 : Hid (Below wr.heap.size wr (wr.alloc (.cells #[.int .u64 (lo : Int), .int .u64 (hi : Int)] 68))) := below_new _ _
     have P0 := Lib.hid (Pair.new wr (lo, hi))
     clear hlk q2
     have HCR : Hid (∀ V, Below (wr.alloc (.cells #[.int .u64 (lo : Int), .int .u64 (hi : Int)] 68)).heap.size (wr.alloc (.cells #[.int .u64 (lo : Int), .int .u64 (hi : Int)] 68)) V → V.cell? ⟨wr.heap.size, 0, none⟩ = some (.int .u64 (lo : Int)) ∧ V.cell? ⟨wr.heap.size, 1, none⟩ = some (.int .u64 (hi : Int))) := fun V hV => ⟨(P0.out.below hV).cell1, (P0.out.below hV).cell2⟩
     have HWV : Hid (∀ V, Below (wr.alloc (.cells #[.int .u64 (lo : Int), .int .u64 (hi : Int)] 68)).heap.size (wr.alloc (.cells #[.int .u64 (lo : Int), .int .u64 (hi : Int)] 68)) V → Below w.heap.size w V) := fun V hV => HW.out.trans ((L0.out.trans (hV.mono L0.out.size)).mono HW.out.size)
     have HNO : Hid (¬ InOrder (l.take (k + 1)) → ans = false) := fun h => HF.out (fun h2 => h (order_take h2 _))
     clear P0
     rcases k with _ | z
     · have q4 : wr.cell? ad = some (.int .u64 (lo : Int)) := by simpa [Addr.add] using q1
       have q5 : wr.cell? ⟨ad.block, ad.off + 1, none⟩ = some (.int .u64 (hi : Int)) := by simpa [Addr.add] using q3
       clear q1 q3
       obtain ⟨b, hb⟩ : ∃ b, mayR (lo, hi) = b := ⟨_, rfl⟩
       go_wp2_with fail
       clear q4 q5
       generalize wr.alloc (.cells #[.int .u64 (lo : Int), .int .u64 (hi : Int)] 68) = V0 at HCR HWV L0 ⊢
       have hmx : Tryz.prog.follows .mixedOrders = true := by kernel_rfl
       have g3 : ∀ n os, (Sort.grow (V0.drewN n) os).cell? ⟨wr.heap.size, 0, none⟩ = some (.int .u64 (lo : Int)) := fun n os => (HCR.out _ (below_grow V0 n os)).1
       have g4 : ∀ n os, (Sort.grow (V0.drewN n) os).cell? ⟨wr.heap.size, 1, none⟩ = some (.int .u64 (hi : Int)) := fun n os => (HCR.out _ (below_grow V0 n os)).2
       have ct := fun W => tells_g W (lo, hi) b hb
       clear HCR L0
       cases b with
       | true =>
         have HR : Hid (InOrder (l.take (0 + 1))) := by
           show InOrder _
           rw [take_snoc LK.out]
           exact order_one hb
         refine wp_region_quiet_grown hmx (by kernel_rfl) ?_
         repeat (
           (with_reducible refine wpQuiet_step (fun K hK => ?_))
           go_simp
           first
             | ((with_reducible refine hK _ ?_); clear hK K)
             | ((rw [if_neg (fun h => by cases h)]); (with_reducible refine hK _ ?_); clear hK K)
             | (apply Exists.intro; refine ⟨fun _ => ?_, hK _ ?_⟩; (go_at_call 145; refine Calls.grown_of (ct _)); clear hK K))
         with_reducible refine wpQuiet_nil ?_
         intro _ hw'
         obtain ⟨⟨nq, osq⟩, hw''⟩ := hw'
         subst hw''
         have HWV2 := Lib.hid (HWV.out _ (below_grow V0 nq osq))
         generalize Sort.grow (V0.drewN nq) osq = V at HWV2 ⊢
         go_wp2
         go_roundw
         case rel => exact ⟨1, by omega, by go_num, HR.out, HWV2.out⟩
         case measure => simp [intOf]; omega
       | false =>
         have HA : Hid (ans = false) := HNO.out (fun h => by
           have := h.1 (lo, hi) (by rw [take_snoc LK.out]; simp)
           rw [hb] at this; cases this)
         refine wp_region_quiet_grown hmx (by kernel_rfl) ?_
         repeat (
           (with_reducible refine wpQuiet_step (fun K hK => ?_))
           go_simp
           first
             | ((with_reducible refine hK _ ?_); clear hK K)
             | ((rw [if_neg (fun h => by cases h)]); (with_reducible refine hK _ ?_); clear hK K)
             | (apply Exists.intro; refine ⟨fun _ => ?_, hK _ ?_⟩; (go_at_call 145; refine Calls.grown_of (ct _)); clear hK K))
         with_reducible refine wpQuiet_nil ?_
         intro _ hw'
         obtain ⟨⟨nq, osq⟩, hw''⟩ := hw'
         subst hw''
         have HWV2 := Lib.hid (HWV.out _ (below_grow V0 nq osq))
         generalize Sort.grow (V0.drewN nq) osq = V at HWV2 ⊢
         go_wp2
         go_ret
         exact ⟨ret_bool HA.out.symm, HWV2.out⟩
     · obtain ⟨b, hb⟩ : ∃ b, mayR (lo, hi) = b := ⟨_, rfl⟩
       have hzn : z < n := by omega
       obtain ⟨ad2, slo, shi, e, hlz, hslo, hshi, s1, s2⟩ := (HB.out.below HW.out).at_ (k := z) (by rw [HL.out]; exact hzn)
       cases e
       have s3 : wr.cell? ⟨(ad.add (z * 2)).block, (ad.add (z * 2)).off + 1, none⟩ = some (.int .u64 (shi : Int)) := by rw [add_next]; exact s2
       have SK := Lib.hid hlz
       have hs2 : shi ≤ 281474976710656 := by
         have := (may_iff (slo, shi)).1 (HI.out.1 (slo, shi) (by rw [take_snoc hlz]; simp))
         have h2 : shi ≤ 281474976710655 := this.2.2
         omega
       have S1 : Hid ((wr.alloc (.cells #[.int .u64 (lo : Int), .int .u64 (hi : Int)] 68)).cell? (ad.add (z * 2)) = some (.int .u64 (slo : Int)) ∧ (wr.alloc (.cells #[.int .u64 (lo : Int), .int .u64 (hi : Int)] 68)).cell? ⟨(ad.add (z * 2)).block, (ad.add (z * 2)).off + 1, none⟩ = some (.int .u64 (shi : Int))) := ⟨(L0.out.cell (World.block_lt_of_cell? wr _ s1)).trans s1, (L0.out.cell (World.block_lt_of_cell? wr _ s3)).trans s3⟩
       have SB : Hid ((ad.add (z * 2)).block < (wr.alloc (.cells #[.int .u64 (lo : Int), .int .u64 (hi : Int)] 68)).heap.size) := Nat.lt_of_lt_of_le (World.block_lt_of_cell? wr _ s1) L0.out.size
       clear hlz s1 s2 s3
       go_wp2_with fail
       clear q1 q3
       generalize wr.alloc (.cells #[.int .u64 (lo : Int), .int .u64 (hi : Int)] 68) = V0 at HCR HWV L0 S1 SB ⊢
       have hmx : Tryz.prog.follows .mixedOrders = true := by kernel_rfl
       have g1 : ∀ n os, (Sort.grow (V0.drewN n) os).cell? (ad.add (z * 2)) = some (.int .u64 (slo : Int)) := fun n os => ((below_grow V0 n os).cell SB.out).trans S1.out.1
       have g2 : ∀ n os, (Sort.grow (V0.drewN n) os).cell? ⟨(ad.add (z * 2)).block, (ad.add (z * 2)).off + 1, none⟩ = some (.int .u64 (shi : Int)) := fun n os => ((below_grow V0 n os).cell (p := ⟨(ad.add (z * 2)).block, (ad.add (z * 2)).off + 1, none⟩) SB.out).trans S1.out.2
       have g3 : ∀ n os, (Sort.grow (V0.drewN n) os).cell? ⟨wr.heap.size, 0, none⟩ = some (.int .u64 (lo : Int)) := fun n os => (HCR.out _ (below_grow V0 n os)).1
       have g4 : ∀ n os, (Sort.grow (V0.drewN n) os).cell? ⟨wr.heap.size, 1, none⟩ = some (.int .u64 (hi : Int)) := fun n os => (HCR.out _ (below_grow V0 n os)).2
       have ct := fun W => tells_g W (lo, hi) b hb
       clear HCR L0 S1 SB
       have hp : (0 : Int) < ((z : Nat) : Int) + 1 := by omega
       have hp2 : decide ((0 : Int) < ((z : Nat) : Int) + 1) = true := decide_eq_true (by omega)
       have hw1 : IntKind.i64.wrap (((z : Nat) : Int) + 1 - 1) = (z : Int) := by simp [IntKind.wrap, IntKind.bits, IntKind.signed]; omega
       have hw2 : IntKind.i64.wrap ((z : Nat) : Int) = (z : Int) := by simp [IntKind.wrap, IntKind.bits, IntKind.signed]; omega
       have hz0 : (0 : Int) ≤ (z : Int) := by omega
       have hz1 : (z : Int) < (n : Int) := by omega
       cases b with
       | true =>
         obtain ⟨b2, hb2⟩ : ∃ b2, decide (shi + 1 < lo) = b2 := ⟨_, rfl⟩
         have ca := fun W => apart_g W (slo, shi) (lo, hi) b2 hs2 hb2
         cases b2 with
         | true =>
           have HR : Hid (InOrder (l.take (z + 1 + 1))) := by
             show InOrder _
             have h1 := HI.out
             rw [take_snoc LK.out]
             rw [take_snoc SK.out] at h1 ⊢
             exact order_last h1 hb (of_decide_eq_true hb2)
           refine wp_region_quiet_grown hmx (by kernel_rfl) ?_
           repeat (
             (with_reducible refine wpQuiet_step (fun K hK => ?_))
             go_simp
             first
               | ((with_reducible refine hK _ ?_); clear hK K)
               | ((rw [if_neg (fun h => by cases h)]); (with_reducible refine hK _ ?_); clear hK K)
               | (apply Exists.intro; refine ⟨fun _ => ?_, hK _ ?_⟩; (first | (go_at_call 145; refine Calls.grown_of (ct _)) | (go_at_call 146; refine Calls.grown_of (ca _))); clear hK K))
           with_reducible refine wpQuiet_nil ?_
           intro _ hw'
           obtain ⟨⟨nq, osq⟩, hw''⟩ := hw'
           subst hw''
           have HWV2 := Lib.hid (HWV.out _ (below_grow V0 nq osq))
           generalize Sort.grow (V0.drewN nq) osq = V at HWV2 ⊢
           go_wp2
           go_roundw
           case rel => exact ⟨z + 1 + 1, by omega, by go_num, HR.out, HWV2.out⟩
           case measure => simp [intOf]; omega
         | false =>
           have HA : Hid (ans = false) := HNO.out (fun h => by
             rw [take_snoc LK.out, take_snoc SK.out] at h
             have := (order_init h).2.2 (slo, shi) (by simp)
             exact of_decide_eq_false hb2 this)
           refine wp_region_quiet_grown hmx (by kernel_rfl) ?_
           repeat (
             (with_reducible refine wpQuiet_step (fun K hK => ?_))
             go_simp
             first
               | ((with_reducible refine hK _ ?_); clear hK K)
               | ((rw [if_neg (fun h => by cases h)]); (with_reducible refine hK _ ?_); clear hK K)
               | (apply Exists.intro; refine ⟨fun _ => ?_, hK _ ?_⟩; (first | (go_at_call 145; refine Calls.grown_of (ct _)) | (go_at_call 146; refine Calls.grown_of (ca _))); clear hK K))
           with_reducible refine wpQuiet_nil ?_
           intro _ hw'
           obtain ⟨⟨nq, osq⟩, hw''⟩ := hw'
           subst hw''
           have HWV2 := Lib.hid (HWV.out _ (below_grow V0 nq osq))
           generalize Sort.grow (V0.drewN nq) osq = V at HWV2 ⊢
           go_wp2
           go_ret
           exact ⟨ret_bool HA.out.symm, HWV2.out⟩
       | false =>
         have HA : Hid (ans = false) := HNO.out (fun h => by
           have := h.1 (lo, hi) (by rw [take_snoc LK.out]; simp)
           rw [hb] at this; cases this)
         refine wp_region_quiet_grown hmx (by kernel_rfl) ?_
         repeat (
           (with_reducible refine wpQuiet_step (fun K hK => ?_))
           go_simp
           first
             | ((with_reducible refine hK _ ?_); clear hK K)
             | ((rw [if_neg (fun h => by cases h)]); (with_reducible refine hK _ ?_); clear hK K)
             | (apply Exists.intro; refine ⟨fun _ => ?_, hK _ ?_⟩; (go_at_call 145; refine Calls.grown_of (ct _)); clear hK K))
         with_reducible refine wpQuiet_nil ?_
         intro _ hw'
         obtain ⟨⟨nq, osq⟩, hw''⟩ := hw'
         subst hw''
         have HWV2 := Lib.hid (HWV.out _ (below_grow V0 nq osq))
         generalize Sort.grow (V0.drewN nq) osq = V at HWV2 ⊢
         go_wp2
         go_ret
         exact ⟨ret_bool HA.out.symm, HWV2.out⟩
   · obtain rfl : k = n := by omega
     have e : Hid (ans = true) := HT.out (by have := HI.out; rwa [List.take_of_length_le (by rw [HL.out]; exact Nat.le_refl _)] at this)
     go_wp2
     go_ret
     exact ⟨ret_bool e.out.symm, HW.out⟩
end Go.Proofs.YtgaegfddobpomaaGreat.Ru

namespace Go.Proofs.YtgaegfddobpomaaGreat.Cx
open Go.ChangeShapes Go.WideShapes Go.ChangeAt Go.RowKit Go.Maps
set_option linter.unusedVariables false
set_option maxRecDepth 4000
set_option maxHeartbeats 4000000 in
theorem pgood_any (w : World) (A1 : Option Addr) (a : List Part) (n1 c1 : Nat) (h1 : CtxAt w A1 a n1 c1) :
   Calls Tryz.prog 64 #[.slice A1 n1 c1] w fun e w' => e = .returned (.bool (goodC a)) ∧ Below w.heap.size w w' := by
 have H1 := Lib.hid h1
 have h63 : n1 ≤ 9223372036854775807 := Nat.le_trans h1.cap h1.max
 have HT : Hid ((∀ k, k < n1 → okP a k) → goodC a = true) := Lib.hid (fun h => good_yes h1.fit (by rw [h1.len]; exact h))
 have HF : Hid (∀ k, k < n1 → ¬ okP a k → goodC a = false) := Lib.hid (fun k hk h => good_no h1.fit (by rw [h1.len]; exact hk) h)
 clear h1
 generalize goodC a = ans at HT HF ⊢
 go_enter Tryz.func64, Tryz.ntmps64
 go_wp2
 go_loopw [7] (fun i wr => ∃ k : Nat, k ≤ n1 ∧ i = .int .i64 (k : Int) ∧ (∀ j, j < k → okP a j) ∧ Below w.heap.size w wr) (fun i _ => n1 - (intOf i).toNat)
 case atStart => exact ⟨0, Nat.zero_le _, rfl, (fun j hj => absurd hj (Nat.not_lt_zero _)), Below.refl _ _⟩
 case round =>
   obtain ⟨k, hk, rfl, hi, hbl⟩ := hrel
   have HI := Lib.hid hi
   have HW := Lib.hid hbl
   clear hi hbl
   by_cases hlt : k < n1
   · obtain ⟨ad, p, x, rfl, hB, hx, hp, hcell⟩ := H1.out.cells hlt
     obtain ⟨x1, xl⟩ := x
     have LK := Lib.hid hx
     have HX := Lib.hid (hp.up HW.out)
     have hxf := hp.fit
     obtain ⟨d1, d2⟩ := hcell wr HW.out
     dsimp only at d1 d2 hxf
     clear hx hp hcell
     have L0 : Hid (Below wr.heap.size wr (wr.alloc (.cells #[.int .u16 (x1 : Int), .slice p.adr p.len p.cap] 71))) := Lib.hid (Dt.below_new _ _)
     have HX0 := Lib.hid (HX.out.up L0.out)
     have HCR := Lib.hid (pbox_at wr x1 p.adr p.len p.cap)
     have HWV : Hid (∀ V, Below (wr.alloc (.cells #[.int .u16 (x1 : Int), .slice p.adr p.len p.cap] 71)).heap.size (wr.alloc (.cells #[.int .u16 (x1 : Int), .slice p.adr p.len p.cap] 71)) V → Below w.heap.size w V) := Lib.hid (fun V hV => HW.out.trans ((L0.out.trans (hV.mono L0.out.size)).mono HW.out.size))
     have HNO : Hid (¬ okP a k → ans = false) := Lib.hid (HF.out k hlt)
     clear HX
     by_cases h0 : x1 = 0
     · have HA : Hid (ans = false) := Lib.hid (HNO.out (fun h => by have := (h _ LK.out).1; dsimp only at this; omega))
       have dz : ((x1 : Int) == 0) = true := by rw [beq_iff_eq]; omega
       have h0' := Lib.hid h0
       clear h0
       go_wp2_with fail
       generalize wr.alloc (.cells #[.int .u16 (x1 : Int), .slice p.adr p.len p.cap] 71) = V0 at HCR HWV HX0 L0 ⊢
       have hmx : Tryz.prog.follows .mixedOrders = true := by kernel_rfl
       have g3 : ∀ n os, (Sort.grow (V0.drewN n) os).cell? ⟨wr.heap.size, 0, none⟩ = some (.int .u16 (x1 : Int)) := fun n os => (HCR.out _ (below_grow V0 n os)).1
       have g4 : ∀ n os, (Sort.grow (V0.drewN n) os).cell? ⟨wr.heap.size, 1, none⟩ = some (.slice p.adr p.len p.cap) := fun n os => (HCR.out _ (below_grow V0 n os)).2
       have g1 : True := trivial
       refine wp_region_quiet_grown hmx (by kernel_rfl) ?_
       repeat (
         (with_reducible refine wpQuiet_step (fun K hK => ?_))
         go_simp
         first
           | ((with_reducible refine hK _ ?_); clear hK K)
           | ((rw [if_neg (fun h => by cases h)]); (with_reducible refine hK _ ?_); clear hK K))
       with_reducible refine wpQuiet_nil ?_
       intro _ hw'
       obtain ⟨⟨nq, osq⟩, hw''⟩ := hw'
       subst hw''
       have bV := below_grow V0 nq osq
       have HWV2 := Lib.hid (HWV.out _ bV)
       obtain ⟨e3, e4⟩ := HCR.out _ bV
       have HXV := Lib.hid (HX0.out.up bV)
       clear bV g1 g3 g4
       generalize Sort.grow (V0.drewN nq) osq = V at HWV2 HXV e3 e4 ⊢
       go_wp2
       go_ret
       exact ⟨Ru.ret_bool HA.out.symm, HWV2.out⟩
     · have dz : ((x1 : Int) == 0) = false := by rw [beq_eq_false_iff_ne]; omega
       rcases k with _ | z
       · have q4 : wr.cell? ad = some (.int .u16 (x1 : Int)) := by simpa [Addr.add] using d1
         have q5 : wr.cell? ⟨ad.block, ad.off + 1, none⟩ = some (.slice p.adr p.len p.cap) := by simpa [Addr.add] using d2
         clear d1 d2
         go_wp2_with fail
         clear q4 q5
         generalize wr.alloc (.cells #[.int .u16 (x1 : Int), .slice p.adr p.len p.cap] 71) = V0 at HCR HWV HX0 L0 ⊢
         have hmx : Tryz.prog.follows .mixedOrders = true := by kernel_rfl
         have g3 : ∀ n os, (Sort.grow (V0.drewN n) os).cell? ⟨wr.heap.size, 0, none⟩ = some (.int .u16 (x1 : Int)) := fun n os => (HCR.out _ (below_grow V0 n os)).1
         have g4 : ∀ n os, (Sort.grow (V0.drewN n) os).cell? ⟨wr.heap.size, 1, none⟩ = some (.slice p.adr p.len p.cap) := fun n os => (HCR.out _ (below_grow V0 n os)).2
         have g1 : True := trivial
         refine wp_region_quiet_grown hmx (by kernel_rfl) ?_
         repeat (
           (with_reducible refine wpQuiet_step (fun K hK => ?_))
           go_simp
           first
             | ((with_reducible refine hK _ ?_); clear hK K)
             | ((rw [if_neg (fun h => by cases h)]); (with_reducible refine hK _ ?_); clear hK K))
         with_reducible refine wpQuiet_nil ?_
         intro _ hw'
         obtain ⟨⟨nq, osq⟩, hw''⟩ := hw'
         subst hw''
         have bV := below_grow V0 nq osq
         have HWV2 := Lib.hid (HWV.out _ bV)
         obtain ⟨e3, e4⟩ := HCR.out _ bV
         have HXV := Lib.hid (HX0.out.up bV)
         clear bV g1 g3 g4
         generalize Sort.grow (V0.drewN nq) osq = V at HWV2 HXV e3 e4 ⊢
         by_cases hl0 : p.len = 0
         · have HA : Hid (ans = false) := Lib.hid (HNO.out (fun h => (h _ LK.out).2.1 (List.eq_nil_of_length_eq_zero (by rw [HXV.out.len]; exact hl0))))
           have dl : ((p.len : Int) == 0) = true := by rw [beq_iff_eq]; omega
           have hl0' := Lib.hid hl0
           clear hl0
           go_wp2
           go_ret
           exact ⟨Ru.ret_bool HA.out.symm, HWV2.out⟩
         · have dl : ((p.len : Int) == 0) = false := by rw [beq_eq_false_iff_ne]; omega
           have hne : xl ≠ [] := fun e => hl0 (by rw [← HXV.out.len, e]; rfl)
           have CG := Ru.pgood_any V p.adr xl p.len p.cap HXV.out.len HXV.out.runs (Nat.le_trans HXV.out.cap HXV.out.max)
           by_cases hg : xl = Ru.nrm xl
           · rw [decide_eq_true hg] at CG
             have HR : Hid (∀ j, j < 0 + 1 → okP a j) := Lib.hid (fun j hj => by
               rcases Nat.lt_or_ge j (0) with h | h
               · exact HI.out j h
               · obtain rfl : j = 0 := by omega
                 intro y hy
                 rw [LK.out] at hy
                 cases hy
                 exact ⟨by omega, hne, hg, fun y h => absurd h (Nat.lt_irrefl _)⟩)
             clear hg hne
             go_wp2_with fail
             refine CG.mono ?_
             rintro e V2 ⟨rfl, hb⟩
             have HV2 := Lib.hid (HWV2.out.trans (hb.mono HWV2.out.size))
             clear hb CG e3 e4
             go_wp2
             go_roundw
             case rel => exact ⟨0 + 1, by omega, by go_num, HR.out, HV2.out⟩
             case measure => simp [intOf]; omega
           · rw [decide_eq_false hg] at CG
             have HA : Hid (ans = false) := Lib.hid (HNO.out (fun h => hg (h _ LK.out).2.2.1))
             clear hg hne
             go_wp2_with fail
             refine CG.mono ?_
             rintro e V2 ⟨rfl, hb⟩
             have HV2 := Lib.hid (HWV2.out.trans (hb.mono HWV2.out.size))
             clear hb CG e3 e4
             go_wp2
             go_ret
             exact ⟨Ru.ret_bool HA.out.symm, HV2.out⟩
       · have hzn : z < n1 := by omega
         obtain ⟨ad2, p2, y, e, hB2, hy, hp2, hcell2⟩ := H1.out.cells hzn
         cases e
         obtain ⟨y1, yl⟩ := y
         have SK := Lib.hid hy
         have hyf := hp2.fit
         obtain ⟨s1, s2⟩ := hcell2 wr HW.out
         dsimp only at s1 hyf
         have S1 : Hid ((wr.alloc (.cells #[.int .u16 (x1 : Int), .slice p.adr p.len p.cap] 71)).cell? (ad.add (z * 2)) = some (.int .u16 (y1 : Int))) := Lib.hid ((L0.out.cell (World.block_lt_of_cell? wr _ s1)).trans s1)
         have SB : Hid ((ad.add (z * 2)).block < (wr.alloc (.cells #[.int .u16 (x1 : Int), .slice p.adr p.len p.cap] 71)).heap.size) := Lib.hid (Nat.lt_of_lt_of_le (World.block_lt_of_cell? wr _ s1) L0.out.size)
         clear hy hp2 hcell2 s1 s2
         go_wp2_with fail
         clear d1 d2
         generalize wr.alloc (.cells #[.int .u16 (x1 : Int), .slice p.adr p.len p.cap] 71) = V0 at HCR HWV HX0 L0 S1 SB ⊢
         have hmx : Tryz.prog.follows .mixedOrders = true := by kernel_rfl
         have g1 : ∀ n os, (Sort.grow (V0.drewN n) os).cell? (ad.add (z * 2)) = some (.int .u16 (y1 : Int)) := fun n os => ((below_grow V0 n os).cell SB.out).trans S1.out
         have g3 : ∀ n os, (Sort.grow (V0.drewN n) os).cell? ⟨wr.heap.size, 0, none⟩ = some (.int .u16 (x1 : Int)) := fun n os => (HCR.out _ (below_grow V0 n os)).1
         have g4 : ∀ n os, (Sort.grow (V0.drewN n) os).cell? ⟨wr.heap.size, 1, none⟩ = some (.slice p.adr p.len p.cap) := fun n os => (HCR.out _ (below_grow V0 n os)).2
         clear S1 SB
         have hp : (0 : Int) < ((z : Nat) : Int) + 1 := by omega
         have hp2 : decide ((0 : Int) < ((z : Nat) : Int) + 1) = true := decide_eq_true (by omega)
         have hw1 : IntKind.i64.wrap (((z : Nat) : Int) + 1 - 1) = (z : Int) := by simp [IntKind.wrap, IntKind.bits, IntKind.signed]; omega
         have hw2 : IntKind.i64.wrap ((z : Nat) : Int) = (z : Int) := by simp [IntKind.wrap, IntKind.bits, IntKind.signed]; omega
         have hz0 : (0 : Int) ≤ (z : Int) := by omega
         have hz1 : (z : Int) < (n1 : Int) := by omega
         by_cases hsl : y1 < x1
         · have hge : decide ((x1 : Int) ≤ (y1 : Int)) = false := decide_eq_false (by omega)
           have hge2 : ¬ (x1 : Int) ≤ (y1 : Int) := by omega
           have hge3 : ¬ x1 ≤ y1 := by omega
           refine wp_region_quiet_grown hmx (by kernel_rfl) ?_
           repeat (
             (with_reducible refine wpQuiet_step (fun K hK => ?_))
             go_simp
             first
               | ((with_reducible refine hK _ ?_); clear hK K)
               | ((rw [if_neg (fun h => by cases h)]); (with_reducible refine hK _ ?_); clear hK K))
           with_reducible refine wpQuiet_nil ?_
           intro _ hw'
           obtain ⟨⟨nq, osq⟩, hw''⟩ := hw'
           subst hw''
           have bV := below_grow V0 nq osq
           have HWV2 := Lib.hid (HWV.out _ bV)
           obtain ⟨e3, e4⟩ := HCR.out _ bV
           have HXV := Lib.hid (HX0.out.up bV)
           clear bV g1 g3 g4
           generalize Sort.grow (V0.drewN nq) osq = V at HWV2 HXV e3 e4 ⊢
           by_cases hl0 : p.len = 0
           · have HA : Hid (ans = false) := Lib.hid (HNO.out (fun h => (h _ LK.out).2.1 (List.eq_nil_of_length_eq_zero (by rw [HXV.out.len]; exact hl0))))
             have dl : ((p.len : Int) == 0) = true := by rw [beq_iff_eq]; omega
             have hl0' := Lib.hid hl0
             clear hl0
             go_wp2
             go_ret
             exact ⟨Ru.ret_bool HA.out.symm, HWV2.out⟩
           · have dl : ((p.len : Int) == 0) = false := by rw [beq_eq_false_iff_ne]; omega
             have hne : xl ≠ [] := fun e => hl0 (by rw [← HXV.out.len, e]; rfl)
             have CG := Ru.pgood_any V p.adr xl p.len p.cap HXV.out.len HXV.out.runs (Nat.le_trans HXV.out.cap HXV.out.max)
             by_cases hg : xl = Ru.nrm xl
             · rw [decide_eq_true hg] at CG
               have HR : Hid (∀ j, j < z + 1 + 1 → okP a j) := Lib.hid (fun j hj => by
                 rcases Nat.lt_or_ge j (z + 1) with h | h
                 · exact HI.out j h
                 · obtain rfl : j = z + 1 := by omega
                   intro y hy
                   rw [LK.out] at hy
                   cases hy
                   exact ⟨by omega, hne, hg, fun y _ hy2 => by rw [Nat.add_sub_cancel] at hy2; rw [SK.out] at hy2; cases hy2; exact hsl⟩)
               clear hg hne
               go_wp2_with fail
               refine CG.mono ?_
               rintro e V2 ⟨rfl, hb⟩
               have HV2 := Lib.hid (HWV2.out.trans (hb.mono HWV2.out.size))
               clear hb CG e3 e4
               go_wp2
               go_roundw
               case rel => exact ⟨z + 1 + 1, by omega, by go_num, HR.out, HV2.out⟩
               case measure => simp [intOf]; omega
             · rw [decide_eq_false hg] at CG
               have HA : Hid (ans = false) := Lib.hid (HNO.out (fun h => hg (h _ LK.out).2.2.1))
               clear hg hne
               go_wp2_with fail
               refine CG.mono ?_
               rintro e V2 ⟨rfl, hb⟩
               have HV2 := Lib.hid (HWV2.out.trans (hb.mono HWV2.out.size))
               clear hb CG e3 e4
               go_wp2
               go_ret
               exact ⟨Ru.ret_bool HA.out.symm, HV2.out⟩
         · have hge : decide ((x1 : Int) ≤ (y1 : Int)) = true := decide_eq_true (by omega)
           have hge2 : (x1 : Int) ≤ (y1 : Int) := by omega
           have hge3 : x1 ≤ y1 := by omega
           have HA : Hid (ans = false) := Lib.hid (HNO.out (fun h => hsl ((h _ LK.out).2.2.2 _ (Nat.succ_pos _) (by rw [Nat.add_sub_cancel]; exact SK.out))))
           refine wp_region_quiet_grown hmx (by kernel_rfl) ?_
           repeat (
             (with_reducible refine wpQuiet_step (fun K hK => ?_))
             go_simp
             first
               | ((with_reducible refine hK _ ?_); clear hK K)
               | ((rw [if_neg (fun h => by cases h)]); (with_reducible refine hK _ ?_); clear hK K))
           with_reducible refine wpQuiet_nil ?_
           intro _ hw'
           obtain ⟨⟨nq, osq⟩, hw''⟩ := hw'
           subst hw''
           have bV := below_grow V0 nq osq
           have HWV2 := Lib.hid (HWV.out _ bV)
           obtain ⟨e3, e4⟩ := HCR.out _ bV
           have HXV := Lib.hid (HX0.out.up bV)
           clear bV g1 g3 g4
           generalize Sort.grow (V0.drewN nq) osq = V at HWV2 HXV e3 e4 ⊢
           go_wp2
           go_ret
           exact ⟨Ru.ret_bool HA.out.symm, HWV2.out⟩
   · obtain rfl : k = n1 := by omega
     have HA : Hid (ans = true) := Lib.hid (HT.out HI.out)
     go_wp2
     go_ret
     exact ⟨Ru.ret_bool HA.out.symm, HW.out⟩
end Go.Proofs.YtgaegfddobpomaaGreat.Cx
