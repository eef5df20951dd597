/- Words and contracts that the proofs of this seat stand on, part 33 of 39. -/
import Derived.Test.YtgaegfddobpomaaGreatOrR
import Derived.Test.YtgaegfddobpomaaGreatOrN
import Derived.Test.YtgaegfddobpomaaGreatOrBE
import Derived.Test.YtgaegfddobpomaaGreatOrBF
import Derived.Test.YtgaegfddobpomaaGreatOrW
import Derived.Test.YtgaegfddobpomaaGreatOrBC
import Derived.Test.YtgaegfddobpomaaGreatOrD
import Derived.Lib.AppendZeros
import Derived.Lib.SliceRun

namespace Go.Proofs.YtgaegfddobpomaaGreat.Kl
open Go.ChangeShapes Go.WideShapes Go.ChangeAt Go.RowKit
set_option linter.unusedVariables false
set_option maxRecDepth 4000
theorem run_any5 (w : World) (B k : Nat) (v : Value) (xs : List Dt.Dot) (A : Option Addr) (m : List Dt.Dot) (n c : Nat) (ho : w.ownsRow B 35 2 v k (Dt.dv xs)) (hA : A = none → n = 0 ∧ c = 0) (hb : Dt.Lies w w.heap.size A (Dt.dv m)) (hl : m.length = n)
   (hn : k + n ≤ 8796093022208) (hB : B ≤ w.heap.size) :
   ∃ A' c' w', (Builtin.append_ #[36, 36] 36 #[v, .slice A n c]).run Tryz.prog w = .ok (.slice A' (k + n) c') w' ∧
     w'.ownsRow B 35 2 (.slice A' (k + n) c') (k + n) (Dt.dv (xs ++ m)) ∧ w.grownBy w' v.ownBlock ∧ ((Value.slice A' (k + n) c').ownBlock = v.ownBlock ∨ (Value.slice A' (k + n) c').ownBlock = some w.heap.size) := by
 obtain ⟨i0, hi0, hz0, hz1, hz2⟩ := info_parts Dt.dot_info
 cases A with
 | none =>
   obtain ⟨rfl, rfl⟩ := hA rfl
   obtain rfl := List.eq_nil_of_length_eq_zero hl
   obtain ⟨A', c', rfl⟩ := Dt.own_form ho
   exact ⟨A', c', w, run_append_owned_none (P := Tryz.prog) (w := w) B 36 36 35 i0 2 Tryz.underlying36 hi0 _ k (Dt.dv xs) ho, by rw [List.append_nil]; exact ho, Dt.turn_refl _ _, .inl rfl⟩
 | some ad =>
   have hc : ∀ j u, (Dt.dv m)[j]? = some u → w.cell? (ad.add j) = some u := by
     intro j u hu
     have hjl : j < (Dt.dv m).length := (List.getElem?_eq_some_iff.1 hu).1
     obtain ⟨ad', e, hadb, hc⟩ := hb (by omega)
     obtain rfl := Option.some.inj e
     exact hc j u hu
   obtain ⟨v', w', hr, h2, h3, hat, h5⟩ := run_append_own_at (P := Tryz.prog) w B 36 36 35 i0 (.agg #[.int .u16 0, .int .u64 0]) 2 16 Tryz.underlying36 hi0 hz0 hz1 hz2 rfl (by decide) v k (Dt.dv xs) ho ad n c (Dt.dv m) (by rw [Dt.dv_length, hl]) hc (Dt.dv_one m) (by simp only [maxLen]; omega) (by omega) hB
   obtain ⟨A', c', rfl⟩ := Dt.own_form h2
   exact ⟨A', c', w', hr, by rw [Dt.dv_append]; exact h2, h3, h5⟩
theorem wpList_any5 {ops : Array Oper} {rest : List Oper} {o : Oper} {a : Act} {Q : Exit → Act → World → Prop} (hgd : o.guard = none) (s x : Operand) (ho : o.op = .call { callee := .builtin .append, args := #[s, x], argTypes := #[36, 36] }) (hty : o.type = 36)
   (w : World) (B k : Nat) (v : Value) (xs : List Dt.Dot) (A : Option Addr) (m : List Dt.Dot) (n c : Nat) (hs : a.eval s = v) (hx : a.eval x = .slice A n c) (hw : w.ownsRow B 35 2 v k (Dt.dv xs)) (hA : A = none → n = 0 ∧ c = 0) (hb : Dt.Lies w w.heap.size A (Dt.dv m)) (hl : m.length = n)
   (hn : k + n ≤ 8796093022208) (hB : B ≤ w.heap.size)
   (hK : ∀ A' c' w', w'.ownsRow B 35 2 (.slice A' (k + n) c') (k + n) (Dt.dv (xs ++ m)) → w.grownBy w' v.ownBlock → ((Value.slice A' (k + n) c').ownBlock = v.ownBlock ∨ (Value.slice A' (k + n) c').ownBlock = some w.heap.size) → wpList Tryz.prog ops Q rest (a.put o.dst (.slice A' (k + n) c')) w') : wpList Tryz.prog ops Q (o :: rest) a w := by
 refine wpList_plain hgd fun K hQ => ?_
 obtain ⟨A', c', w', hr, h2, h3, h5⟩ := run_any5 w B k v xs A m n c hw hA hb hl hn hB
 rw [← hty] at hr
 unfold Oper.wp execOp
 simp only [ho, resolve, invoke, builtin, Sem.run_bind, Sem.run_pure, Result.andThen_ok, List.map_toArray, List.map_cons, List.map_nil, hs, hx]
 rw [hty] at hr ⊢
 rw [hr]
 exact hQ _ _ (hK _ _ _ h2 h3 h5)
theorem own_far {w : World} {B n c : Nat} {A : Option Addr} {xs : List Value} (h : w.ownsRow B 35 2 (.slice A n c) n xs) : 0 < n → ∀ ad : Addr, A = some ad → B ≤ ad.block := fun _ ad e => by
 subst e
 exact (h.lt ad.block rfl).1
theorem own_dots' {w : World} {B n c : Nat} {A : Option Addr} {m : List Dt.Dot} (h : w.ownsRow B 35 2 (.slice A n c) n (Dt.dv m)) (hf : Dt.Fit m) (hw : n ≤ 8796093022208) : Ev.DotsAt w w.heap.size A m n c := by
 have h1 := h.1
 rw [Dt.dv_length] at h1
 obtain ⟨h2, h3, h4⟩ := Dt.own_len h
 exact ⟨by omega, h4, h2, h3, hw, Dt.dots_own h hf⟩
def Not (v : Value) (q : Nat) : Prop := ∀ j, v.ownBlock = some j → j ≠ q
theorem Not.next {w : World} {v v' : Value} {q : Nat} (h : Not v q) (h5 : v'.ownBlock = v.ownBlock ∨ v'.ownBlock = some w.heap.size) (hq : q < w.heap.size) : Not v' q := fun j hj => by
 rcases h5 with h5 | h5
 · rw [h5] at hj; exact h j hj
 · rw [h5] at hj; cases hj; omega
theorem not_cell {w w' : World} {v : Value} {q k : Nat} {u : Value} (h : Not v q) (hg : w.grownBy w' v.ownBlock) (hc : w.cell? ⟨q, k, none⟩ = some u) : w'.cell? ⟨q, k, none⟩ = some u := hg.cell hc (fun e => h q e.symm rfl)
structure KRel (w2 : World) (xs : List Dt.Dot) (A : Option Addr) (m c : Nat) (wr : World) : Prop where
 len : xs.length = m
 own : wr.ownsRow w2.heap.size 35 2 (.slice A m c) m (Dt.dv xs)
 bel : Below w2.heap.size w2 wr
theorem KRel.alloc {w2 wr : World} {xs : List Dt.Dot} {A : Option Addr} {m c : Nat} (h : KRel w2 xs A m c wr) (o : Obj) : KRel w2 xs A m c (wr.alloc o) := ⟨h.len, h.own.alloc o, Ev.bel_alloc o h.bel⟩
theorem KRel.not {w2 wr : World} {xs : List Dt.Dot} {A : Option Addr} {m c : Nat} (h : KRel w2 xs A m c wr) : Not (.slice A m c) wr.heap.size := fun j hj => by have := (h.own.lt j hj).2; omega
theorem KRel.more {w2 V w' : World} {xs : List Dt.Dot} {A A' : Option Addr} {m c c' : Nat} {d : Dt.Dot} (h : KRel w2 xs A m c V) (ho : w'.ownsRow w2.heap.size 35 2 (.slice A' (m + 1) c') (m + 1) (Dt.dv (xs ++ [d]))) (hg : V.grownBy w' (Value.slice A m c).ownBlock) : KRel w2 (xs ++ [d]) A' (m + 1) c' w' :=
 ⟨by rw [List.length_append, h.len]; rfl, ho, Dt.any_grown h.own h.bel hg⟩
theorem rbox_at (w : World) (lo hi : Nat) : ∀ V, Below (w.alloc (.cells #[.int .u64 (lo : Int), .int .u64 (hi : Int)] 68)).heap.size (w.alloc (.cells #[.int .u64 (lo : Int), .int .u64 (hi : Int)] 68)) V → V.cell? ⟨w.heap.size, 0, none⟩ = some (.int .u64 (lo : Int)) ∧ V.cell? ⟨w.heap.size, 1, none⟩ = some (.int .u64 (hi : Int)) := fun V hV =>
 ⟨Ev.stays hV (by simp [go_sem]), Ev.stays hV (by simp [go_sem])⟩
set_option maxHeartbeats 8000000 in
theorem pkeep_any (w : World) (A0 A2 : Option Addr) (l : List Dt.Dot) (x : List Cx.Part) (n c0 n2 c2 : Nat) (hl : Ev.DotsAt w w.heap.size A0 l n c0) (hx : Cx.CtxAt w A2 x n2 c2) (hn : n ≤ 1024) (hf : Cx.fewC x = true) :
   Calls Tryz.prog 99 #[.slice A0 n c0, .slice A2 n2 c2] w (DotsFar w (Dt.sortD (l.filter (Cx.hasC x)))) := by
 have CO := Cx.pof_any w A0 l n c0 ⟨hl.len, hl.nil, hl.cap, hl.max, hl.dots⟩ (by omega)
 have HWO : Hid (Cx.Wide 268435456 (Cx.ofC l)) := Lib.hid ((of_wide hl.dots.1).more (by rw [hl.len]; omega))
 have HWX : Hid (Cx.Wide 268435456 x) := Lib.hid ((Cx.small_wide (Cx.few_is hf)).more (by decide))
 have HOM := Lib.hid (Cx.ord_set (Cx.ord_of hl.dots.1).fit hx.fit 1)
 have HBD := Lib.hid (both_dots hl.dots.1 hx.fit)
 have HX := Lib.hid hx
 have HFT : Hid (Dt.Fit (Dt.sortD (l.filter (Cx.hasC x)))) := Lib.hid (fun r hr => hl.dots.1 r (List.mem_filter.1 ((Dt.sort_mem _ _).1 hr)).1)
 have hln : (Dt.sortD (l.filter (Cx.hasC x))).length ≤ 1024 := by
   have h1 := sortd_len (l.filter (Cx.hasC x))
   have h2 := List.length_filter_le (Cx.hasC x) l
   have h3 := hl.len
   omega
 rw [← HBD.out] at hln HFT ⊢
 clear hl hx hf
 go_enter Tryz.func99, Tryz.ntmps99
 go_wp2_with fail
 refine CO.mono ?_
 intro e w1 hp
 obtain ⟨A3, n3, c3, rfl, h3, hb1⟩ := Cx.post_ctx hp
 have CM := Cx.pmeet_any w1 A3 A2 (Cx.ofC l) x n3 n2 c3 c2 h3 (HX.out.up hb1) HWO.out HWX.out
 have HB1 := Lib.hid hb1
 clear CO hp h3 hb1
 go_wp2_with fail
 refine CM.mono ?_
 intro e w2 hp
 obtain ⟨A4, n4, c4, rfl, h4, hb2⟩ := Cx.post_ctx hp
 have HB2 := Lib.hid (HB1.out.trans (hb2.mono HB1.out.size))
 have H4 := Lib.hid h4
 have hn4 : n4 ≤ 9223372036854775807 := Nat.le_trans h4.cap h4.max
 have HPT := Lib.hid (ord_parts' HOM.out)
 clear CM hp h4 hb2 HBD HWO HWX HX HB1 HOM
 generalize Cx.setC (Cx.ofC l) x 1 = M at *
 go_wp2
 go_loopw [5, 16] (fun v vi wr => ∃ (k m : Nat) (A : Option Addr) (c : Nat), k ≤ n4 ∧ vi = .int .i64 (k : Int) ∧ v = .slice A m c ∧ KRel w2 (dotsC (M.take k)) A m c wr) (fun _ vi _ => n4 - (intOf vi).toNat)
 case atStart => exact ⟨0, 0, none, 0, Nat.zero_le _, rfl, rfl, rfl, World.ownsRow_nil _ _ _ _, Below.refl _ _⟩
 case round =>
   obtain ⟨k, m, A, c, hk, rfl, rfl, hrel⟩ := hrel
   have HR := Lib.hid hrel
   clear hrel
   by_cases hlt : k < n4
   · obtain ⟨ad, p, y, rfl, hB, hy, hp, hcell⟩ := H4.out.cells hlt
     have HY := Lib.hid hy
     have HP := Lib.hid hp
     have hpl : p.len ≤ 9223372036854775807 := Nat.le_trans hp.cap hp.max
     obtain ⟨g1, g2⟩ := hcell wr HR.out.bel
     obtain ⟨hy1, hy2, hy3⟩ := HPT.out y (List.mem_of_getElem? hy)
     have HIO := Lib.hid hy3
     obtain ⟨z1, z2⟩ := Cx.pbox_at wr y.1 p.adr p.len p.cap _ (Below.refl _ _)
     have HZ1 := Lib.hid z1
     have HRB := Lib.hid (HR.out.alloc (.cells #[.int .u16 (y.1 : Int), .slice p.adr p.len p.cap] 71))
     have HNB := Lib.hid HR.out.not
     have HPB : Hid (wr.heap.size < (wr.alloc (.cells #[.int .u16 (y.1 : Int), .slice p.adr p.len p.cap] 71)).heap.size) := Lib.hid (by simp)
     clear hy hp hcell hy2 hy3 HR
     go_wp2
     generalize wr.alloc (.cells #[.int .u16 (y.1 : Int), .slice p.adr p.len p.cap] 71) = w3 at *
     generalize wr.heap.size = pb at *
     clear g1 g2 z1 z2
     go_loopw [5, 23] (fun v vj wr => ∃ (j m : Nat) (A : Option Addr) (c : Nat), j ≤ p.len ∧ vj = .int .i64 (j : Int) ∧ v = .slice A m c ∧ KRel w2 (dotsC (M.take k) ++ (y.2.take j).flatMap (runD y.1)) A m c wr ∧ Not (.slice A m c) pb ∧ wr.cell? ⟨pb, 0, none⟩ = some (.int .u16 (y.1 : Int)) ∧ pb < wr.heap.size) (fun _ vj _ => p.len - (intOf vj).toNat)
     case atStart => exact ⟨0, m, A, c, Nat.zero_le _, rfl, rfl, by simpa using HRB.out, HNB.out, HZ1.out, HPB.out⟩
     case round =>
       obtain ⟨j, m, A, c, hj, rfl, rfl, hrel, hnb, hzb, hpb⟩ := hrel
       have HR := Lib.hid hrel
       have HNB := Lib.hid hnb
       have HZB := Lib.hid hzb
       have HPB := Lib.hid hpb
       clear hrel hnb hzb hpb
       by_cases hjl : j < p.len
       · obtain ⟨ad2, lo, hi, hpa, hr, hlo, hhi, c1, c3⟩ := (HP.out.runs.below HR.out.bel).at_ (k := j) (by rw [HP.out.len]; exact hjl)
         have c3' : wr.cell? ⟨(ad2.add (j * 2)).block, (ad2.add (j * 2)).off + 1, none⟩ = some (.int .u64 (hi : Int)) := by rw [Dt.add_next]; exact c3
         have HRN := Lib.hid hr
         have hmr := (Ru.may_iff (lo, hi)).1 (HIO.out.1 (lo, hi) (List.mem_of_getElem? hr))
         simp only at hmr
         obtain ⟨hm1, hm2, hm3⟩ := hmr
         have HB4 := Lib.hid (Ev.below_new wr (.cells #[.int .u64 (lo : Int), .int .u64 (hi : Int)] 68))
         have HRA := Lib.hid (HR.out.alloc (.cells #[.int .u64 (lo : Int), .int .u64 (hi : Int)] 68))
         have HNR := Lib.hid HR.out.not
         have HZA := Lib.hid (Ev.stays HB4.out HZB.out)
         obtain ⟨z1, z2⟩ := rbox_at wr lo hi _ (Below.refl _ _)
         have HZ2 := Lib.hid z2
         have HRS : Hid (wr.heap.size < (wr.alloc (.cells #[.int .u64 (lo : Int), .int .u64 (hi : Int)] 68)).heap.size) := Lib.hid (by simp)
         have HPS : Hid (pb < (wr.alloc (.cells #[.int .u64 (lo : Int), .int .u64 (hi : Int)] 68)).heap.size) := Lib.hid (by have := HPB.out; simp; omega)
         clear hr c3 HR HZB HPB HB4
         go_wp2
         generalize wr.alloc (.cells #[.int .u64 (lo : Int), .int .u64 (hi : Int)] 68) = w5 at *
         generalize wr.heap.size = rb at *
         clear z1 z2 c1 c3' hpa
         go_loopw [5, 10] (fun v vn wr => ∃ (nn m : Nat) (A : Option Addr) (c : Nat), lo ≤ nn ∧ nn ≤ hi + 1 ∧ vn = .int .u64 (nn : Int) ∧ v = .slice A m c ∧ KRel w2 (dotsC (M.take k) ++ ((y.2.take j).flatMap (runD y.1) ++ runTo y.1 (lo, hi) (nn - lo))) A m c wr ∧ Not (.slice A m c) pb ∧ Not (.slice A m c) rb ∧ wr.cell? ⟨pb, 0, none⟩ = some (.int .u16 (y.1 : Int)) ∧ wr.cell? ⟨rb, 1, none⟩ = some (.int .u64 (hi : Int)) ∧ pb < wr.heap.size ∧ rb < wr.heap.size) (fun _ vn _ => hi + 1 - (intOf vn).toNat)
         case atStart => exact ⟨lo, m, A, c, Nat.le_refl _, by omega, rfl, rfl, by simpa [runTo] using HRA.out, HNB.out, HNR.out, HZA.out, HZ2.out, HPS.out, HRS.out⟩
         case round =>
           obtain ⟨nn, m, A, c, hi0, hi1, rfl, rfl, hrel, hnp, hnr, hzp, hzr, hps, hrs⟩ := hrel
           have HR := Lib.hid hrel
           have HNP := Lib.hid hnp
           have HNR := Lib.hid hnr
           have HZP := Lib.hid hzp
           have HPS := Lib.hid hps
           have HRS := Lib.hid hrs
           clear hrel hnp hnr hps hrs
           by_cases hil : nn ≤ hi
           · have hle : decide ((nn : Int) ≤ (hi : Int)) = true := decide_eq_true (by omega)
             have hmost := gath_most (i := nn - lo) HY.out HRN.out (by simp only; omega)
             rw [HR.out.len] at hmost
             have HLO : Hid (m + 1 ≤ 8796093022208) := Lib.hid (by omega)
             have hwr : IntKind.u64.wrap ((nn : Int) + 1) = (nn : Int) + 1 := by
               simp [IntKind.wrap, IntKind.bits, IntKind.signed]; omega
             have HBA : Hid (w2.heap.size ≤ (wr.alloc (.cells #[.int .u16 (y.1 : Int), .int .u64 (nn : Int)] 35)).heap.size) := Lib.hid (HR.out.alloc _).bel.size
             have HRA := Lib.hid (HR.out.alloc (.cells #[.int .u16 (y.1 : Int), .int .u64 (nn : Int)] 35))
             have hb6 := Ev.below_new wr (.cells #[.int .u16 (y.1 : Int), .int .u64 (nn : Int)] 35)
             have HZP6 := Lib.hid (Ev.stays hb6 hzp)
             have HZR6 := Lib.hid (Ev.stays hb6 hzr)
             have HSZ := Lib.hid hb6.size
             have hLD := Dt.lies_one wr (y.1, nn)
             simp only at hLD
             have HLD := Lib.hid hLD
             have HNX : Hid (runTo y.1 (lo, hi) (nn + 1 - lo) = runTo y.1 (lo, hi) (nn - lo) ++ [(y.1, nn)]) := Lib.hid (by
               have h := run_next y.1 (lo, hi) (nn - lo)
               rw [show nn - lo + 1 = nn + 1 - lo by omega, show (lo, hi).1 + (nn - lo) = nn by simp only; omega] at h
               exact h)
             clear hmost hb6 hLD
             go_wp2_with (at_builtin; refine wpList_any5 rfl (.tmp 35) (.tmp 40) rfl rfl _ w2.heap.size m (.slice A m c) (dotsC (M.take k) ++ ((y.2.take j).flatMap (runD y.1) ++ runTo y.1 (lo, hi) (nn - lo))) (some ⟨wr.heap.size, 0, none⟩) [(y.1, nn)] 1 1 rfl rfl HRA.out.own (fun h => by cases h) HLD.out rfl HLO.out HBA.out ?_; intro A6 c6 w6 ho6 hg6 h6
                          have HR6 := Lib.hid (HRA.out.more ho6 hg6)
                          have HN6 := Lib.hid (HNP.out.next h6 (Nat.lt_of_lt_of_le HPS.out HSZ.out))
                          have HN7 := Lib.hid (HNR.out.next h6 (Nat.lt_of_lt_of_le HRS.out HSZ.out))
                          have hzp6 := not_cell HNP.out hg6 HZP6.out
                          have hzr6 := not_cell HNR.out hg6 HZR6.out
                          have HS6 := Lib.hid (Nat.le_trans HSZ.out hg6.size)
                          clear hzp hzr ho6 hg6 h6)
             go_roundw
             case rel => exact ⟨nn + 1, m + 1, A6, c6, by omega, by omega, by simp, rfl, by rw [HNX.out]; have h := HR6.out; simp only [List.append_assoc] at h ⊢; exact h, HN6.out, HN7.out, hzp6, hzr6, Nat.lt_of_lt_of_le HPS.out HS6.out, Nat.lt_of_lt_of_le HRS.out HS6.out⟩
             case measure => simp [intOf]; omega
           · have hle : decide ((nn : Int) ≤ (hi : Int)) = false := decide_eq_false (by omega)
             have hie : nn - lo = hi + 1 - lo := by omega
             have HRN2 : Hid ((y.2.take (j + 1)).flatMap (runD y.1) = (y.2.take j).flatMap (runD y.1) ++ runTo y.1 (lo, hi) (nn - lo)) := Lib.hid (by rw [part_next HRN.out, hie]; rfl)
             rw [← HRN2.out] at HR
             clear hie
             go_wp2
             go_roundw
             case rel => exact ⟨j + 1, m, A, c, by omega, by go_num, rfl, HR.out, HNP.out, HZP.out, HPS.out⟩
             case measure => simp [intOf]; omega
       · obtain rfl : j = p.len := by omega
         have e : y.2.take p.len = y.2 := List.take_of_length_le (by rw [HP.out.len]; exact Nat.le_refl _)
         rw [e] at HR
         have HN : Hid (KRel w2 (dotsC (M.take (k + 1))) A m c wr) := Lib.hid (by rw [dotsC_next HY.out]; exact HR.out)
         clear e HR
         go_wp2
         go_roundw
         case rel => exact ⟨k + 1, m, A, c, by omega, by go_num, rfl, HN.out⟩
         case measure => simp [intOf]; omega
   · obtain rfl : k = n4 := by omega
     have e : M.take k = M := List.take_of_length_le (by rw [H4.out.len]; exact Nat.le_refl _)
     rw [e] at HR
     have hmn : m ≤ 1024 := by rw [← HR.out.len]; exact hln
     have HD := Lib.hid (own_dots' HR.out.own HFT.out (by omega))
     have HF := Lib.hid (own_far HR.out.own)
     clear e
     go_wp2
     go_ret
     exact ⟨A, m, c, rfl, HD.out, (fun h0 ad e => Nat.le_trans HB2.out.size (HF.out h0 ad e)), HB2.out.trans (HR.out.bel.mono HB2.out.size)⟩
end Go.Proofs.YtgaegfddobpomaaGreat.Kl

namespace Go.Proofs.YtgaegfddobpomaaGreat.Bk
open Go.ChangeShapes Go.WideShapes Go.ChangeAt Go.RowKit Go.Proofs.YtgaegfddobpomaaGreat.Kl
set_option linter.unusedVariables false
set_option maxRecDepth 4000
theorem owns_up {w W : World} {l : List Ev.Evt} {e : Ending} {V : World} (hb : Below w.heap.size w W) (h : Ev.OwnsPost W l e V) : Ev.OwnsPost w l e V := by
 obtain ⟨A, n, c, h1, h2, h3, h4⟩ := h
 refine ⟨A, n, c, h1, h2, fun k hk => ?_, hb.trans (h4.mono hb.size)⟩
 obtain ⟨ad, p, a1, a2, a3, a4, a5⟩ := h3 k hk
 exact ⟨ad, p, a1, Nat.le_trans hb.size a2, a3, a4.less hb.size, a5⟩
theorem owns_evt {w : World} {l : List Ev.Evt} {e : Ending} {V : World} (h : Ev.OwnsPost w l e V) : Ev.EvPost w l e V := by
 obtain ⟨A, n, c, h1, h2, h3, h4⟩ := h
 exact ⟨A, n, c, h1, h2, h4⟩
theorem owns_far {w : World} {l : List Ev.Evt} {e : Ending} {V : World} (h : Ev.OwnsPost w l e V) : EvFar w l e V := by
 obtain ⟨A, n, c, h1, h2, h3, h4⟩ := h
 obtain ⟨ps, h5, h6⟩ := h2.evts
 refine ⟨A, n, c, h1, ⟨h2, ps, h5, h6, fun p hp h0 ad hA => ?_, fun h0 ad hA => ?_⟩, h4⟩
 · obtain ⟨k, hk, rfl⟩ := List.getElem_of_mem hp
   have hkn : k < n := by have := h6.1; have := h2.len; omega
   obtain ⟨a0, q, b1, b2, b3, b4, b5⟩ := h3 k hkn
   obtain ⟨a1, e1, _, hc⟩ := h5 (by rw [Ev.ev_length]; omega)
   rw [b1] at e1
   cases e1
   have h7 := hc (k * 7 + 6) _ (Ev.ev_get (List.getElem?_eq_getElem hk) 6 (by decide))
   rw [b3] at h7
   simp only [Option.some.injEq, Value.slice.injEq] at h7
   have h9 := h7
   obtain ⟨h8, hl, _⟩ := h9
   have h10 : q.len = ps[k].len := by omega
   obtain ⟨a3, e3, b6, _⟩ := b4 0 (by omega)
   rw [h8, hA] at e3
   cases e3
   exact b6
 · obtain ⟨a0, q, b1, b2, b3, b4, b5⟩ := h3 0 h0
   rw [hA] at b1
   cases b1
   exact b2
set_option maxHeartbeats 4000000 in
theorem pinord_any (w : World) (mo : Option Nat) (L : List Ev.EV) (l : List Ev.Evt) (h : MapO w mo L) (hm : Ev.Match w w.heap.size L l) (hl : Ev.OrdE l) (hn : L.length ≤ 1024) :
   Calls Tryz.prog 80 #[.map mo] w (Ev.OwnsPost w l) := by
 have HB := Lib.hid (Ev.below_new w (.cells #[.map mo] 82))
 have hc0 : (w.alloc (.cells #[.map mo] 82)).cell? ⟨w.heap.size, 0, none⟩ = some (.map mo) := World.cell?_alloc_new _ _ _ _
 have C1 := vmake_any w mo
 have C2 := vcol_any (w.alloc (.cells #[.map mo] 82)) w.heap.size mo L (by rw [Ev.alloc_size]; exact Nat.lt_succ_self _) hc0 (h.up HB.out) (by omega)
 have HM := Lib.hid hm
 have HL := Lib.hid hl
 have HN := Lib.hid hn
 clear h hm hl hn hc0
 go_enter Tryz.func80, Tryz.ntmps80
 go_wp2_with fail
 refine C1.mono ?_
 rintro e w1 ⟨rfl, rfl⟩
 clear C1
 generalize w.alloc (.cells #[.map mo] 82) = w1 at *
 go_wp2_with fail
 refine C2.mono ?_
 rintro e w2 ⟨xs, A, n, c, rfl, hp, hx, ho, hb⟩
 have HB2 := Lib.hid (HB.out.trans (hb.mono HB.out.size))
 obtain ⟨ys, hq, hy⟩ := match_turn hp HM.out
 have hev : Ev.EventsAt w2 w2.heap.size A ys n c := Ev.own_events HB2.out hy hx (by have := hp.length_eq; have := HN.out; omega) ho
 have hs : Ev.sortE ys = l := sort_set HL.out (fun x => hq.mem_iff.symm)
 have C3 := Ev.psortE_any w2 A ys n c hev (by have := hp.length_eq; have := HN.out; omega)
 rw [hs] at C3
 clear C2 hp hx ho hb hq hy hev hs
 go_wp2_with fail
 refine C3.mono ?_
 rintro e w3 hpost
 have HP := Lib.hid (owns_up HB2.out hpost)
 obtain ⟨A3, n3, c3, rfl, _⟩ := hpost
 clear C3
 go_wp2
 go_ret
 exact HP.out
theorem among_dots {w : World} {B : Nat} {L xs : List Ev.EV} {l : List Ev.Evt} {c : List Cx.Part} (hm : Ev.Match w B L l) (hp : L.Perm xs) (hl : Ev.OrdE l) : Dt.sortD ((xs.map dotV).filter (Cx.hasC c)) = (l.filter fun x => Cx.hasC c x.dot).map (·.dot) := by
 have hd : L.map dotV = l.map (·.dot) := by
   have : ∀ (L : List Ev.EV) (l : List Ev.Evt), Ev.Match w B L l → L.map dotV = l.map (·.dot) := by
     intro L
     induction L with
     | nil => intro l h; cases l with
       | nil => rfl
       | cons x l => have := h.1; simp at this
     | cons p L ih => intro l h; cases l with
       | nil => have := h.1; simp at this
       | cons x l =>
         obtain ⟨h1, h2⟩ := match_cons.1 h
         rw [List.map_cons, List.map_cons, ih l h2, Ev.is_dot h1]
   exact this L l hm
 have e : (l.filter fun x => Cx.hasC c x.dot).map (·.dot) = (l.map (·.dot)).filter (Cx.hasC c) := by rw [List.filter_map]; rfl
 rw [e]
 refine (Dt.sort_uniq ?_ (fun d => ?_)).symm
 · exact List.Pairwise.filter _ (List.pairwise_map.2 hl)
 · rw [List.mem_filter, List.mem_filter, ← hd, (hp.map dotV).mem_iff]
set_option maxHeartbeats 4000000 in
theorem pamong_any (w : World) (mo : Option Nat) (L : List Ev.EV) (l : List Ev.Evt) (A2 : Option Addr) (x : List Cx.Part) (n2 c2 : Nat) (h : MapO w mo L) (hm : Ev.Match w w.heap.size L l) (hl : Ev.OrdE l) (hn : L.length ≤ 1024) (hx : Cx.CtxAt w A2 x n2 c2) (hf : Cx.fewC x = true) :
   Calls Tryz.prog 57 #[.map mo, .slice A2 n2 c2] w (Ev.DPost w ((l.filter fun y => Cx.hasC x y.dot).map (·.dot))) := by
 have HB := Lib.hid (Ev.below_new w (.cells #[.map mo] 82))
 have hc0 : (w.alloc (.cells #[.map mo] 82)).cell? ⟨w.heap.size, 0, none⟩ = some (.map mo) := World.cell?_alloc_new _ _ _ _
 have C1 := kmake_any w mo
 have C2 := kcol_any (w.alloc (.cells #[.map mo] 82)) w.heap.size mo L (by rw [Ev.alloc_size]; exact Nat.lt_succ_self _) hc0 (h.up HB.out) (by omega)
 have HM := Lib.hid hm
 have HL := Lib.hid hl
 have HN := Lib.hid hn
 have HX := Lib.hid hx
 have HF := Lib.hid hf
 have HFT := Lib.hid h.fit
 clear h hm hl hn hc0 hx hf
 go_enter Tryz.func57, Tryz.ntmps57
 go_wp2_with fail
 refine C1.mono ?_
 rintro e w1 ⟨rfl, rfl⟩
 clear C1
 generalize w.alloc (.cells #[.map mo] 82) = w1 at *
 go_wp2_with fail
 refine C2.mono ?_
 rintro e w2 ⟨xs, A, n, c, rfl, hp, hxl, ho, hb⟩
 have HB2 := Lib.hid (HB.out.trans (hb.mono HB.out.size))
 have hn1 : n ≤ 1024 := by have := hp.length_eq; have := HN.out; omega
 have hfit : Dt.Fit (xs.map dotV) := fun d hd => by
   obtain ⟨p, h1, rfl⟩ := List.mem_map.1 hd
   exact HFT.out p (hp.mem_iff.2 h1)
 obtain ⟨g2, g3, g4⟩ := Dt.own_len ho
 have hds : Ev.DotsAt w2 w2.heap.size A (xs.map dotV) n c := ⟨by rw [List.length_map]; exact hxl, g4, g2, g3, by omega, Dt.dots_own ho hfit⟩
 have C3 := pkeep_any w2 A A2 (xs.map dotV) x n c n2 c2 hds (HX.out.up HB2.out) hn1 HF.out
 rw [among_dots HM.out hp HL.out] at C3
 clear C2 hp hxl ho hb hfit g2 g3 g4 hds
 go_wp2_with fail
 refine C3.mono ?_
 rintro e w3 hpost
 obtain ⟨A3, n3, c3, rfl, h4, h5⟩ := hpost.post
 have HP : Hid (Ev.DPost w ((l.filter fun y => Cx.hasC x y.dot).map (·.dot)) (.returned (.slice A3 n3 c3)) w3) := ⟨A3, n3, c3, rfl, h4, HB2.out.trans (h5.mono HB2.out.size)⟩
 clear C3 h4 h5 hpost
 go_wp2
 go_ret
 exact HP.out
theorem match_two {w : World} {B : Nat} : ∀ {ps qs : List Ev.EV} {a b : List Ev.Evt}, Ev.Match w B ps a → Ev.Match w B qs b → Ev.Match w B (ps ++ qs) (a ++ b)
 | [], _, [], _, _, h2 => h2
 | [], _, _ :: _, _, h1, _ => by have := h1.1; simp at this
 | _ :: _, _, [], _, h1, _ => by have := h1.1; simp at this
 | p :: ps, qs, x :: a, b, h1, h2 => by
   obtain ⟨h3, h4⟩ := match_cons.1 h1
   exact match_cons.2 ⟨h3, match_two h4 h2⟩
theorem run_intoE (w : World) (B k cap : Nat) (A0 : Option Addr) (xs : List Ev.EV) (A : Option Addr) (m : List Ev.EV) (n c : Nat) (ho : w.ownsRow B 38 7 (.slice A0 k cap) k (Ev.ev xs)) (hA : A = none → n = 0 ∧ c = 0) (hb : Dt.Lies w w.heap.size A (Ev.ev m)) (hl : m.length = n)
   (hn : k + n ≤ cap) (hB : B ≤ w.heap.size) (ty : TypeId) :
   ∃ w', (Builtin.append_ #[29, 29] ty #[.slice A0 k cap, .slice A n c]).run Tryz.prog w = .ok (.slice A0 (k + n) cap) w' ∧
     w'.ownsRow B 38 7 (.slice A0 (k + n) cap) (k + n) (Ev.ev (xs ++ m)) ∧ w.grownBy w' (Value.slice A0 k cap).ownBlock := by
 obtain ⟨i0, hi0, hz0, hz1, hz2⟩ := info_parts Ev.evt_info
 cases A with
 | none =>
   obtain ⟨rfl, rfl⟩ := hA rfl
   obtain rfl := List.eq_nil_of_length_eq_zero hl
   exact ⟨w, run_append_owned_none (P := Tryz.prog) (w := w) B 29 ty 38 i0 7 Tryz.underlying29 hi0 _ k (Ev.ev xs) ho, by rw [List.append_nil]; exact ho, Dt.turn_refl _ _⟩
 | some ad =>
   have hc : ∀ j u, (Ev.ev m)[j]? = some u → w.cell? (ad.add j) = some u := by
     intro j u hu
     have hjl : j < (Ev.ev m).length := (List.getElem?_eq_some_iff.1 hu).1
     obtain ⟨ad', e, hadb, hc⟩ := hb (by omega)
     obtain rfl := Option.some.inj e
     exact hc j u hu
   cases A0 with
   | none =>
     obtain ⟨h1, h2, h3⟩ := Dt.own_len ho
     obtain ⟨rfl, rfl⟩ := h3 rfl
     obtain rfl : n = 0 := by omega
     obtain ⟨v', w', hr, h2, h3, hat, h5⟩ := run_append_own_at (P := Tryz.prog) w B 29 ty 38 i0 (.agg #[.int .u16 0, .int .u64 0, .int .u8 0, .int .u64 0, .int .u8 0, .string ⟨#[]⟩, .slice none 0 0]) 7 80 Tryz.underlying29 hi0 hz0 hz1 hz2 rfl (by decide) _ 0 (Ev.ev xs) ho ad 0 c (Ev.ev m) (by rw [Ev.ev_length, hl]) hc (Ev.ev_one m) (by simp only [maxLen]; omega) (by omega) hB
     obtain rfl := hat.2 ⟨rfl, rfl⟩
     exact ⟨w', hr, by rw [Ev.ev_append]; exact h2, h3⟩
   | some ad0 =>
     rcases ho.2 with ⟨h, _⟩ | ⟨g, cap', cur, h, _⟩
     · cases h
     · cases h
       obtain ⟨w', hr, h2, h3⟩ := run_append_fits (P := Tryz.prog) w B 29 ty 38 i0 7 Tryz.underlying29 hi0 hz1 g k cap (Ev.ev xs) ho ad n c (Ev.ev m) (by rw [Ev.ev_length, hl]) hc (Ev.ev_one m) hn
       exact ⟨w', hr, by rw [Ev.ev_append]; exact h2, h3⟩
theorem wpList_intoE {ops : Array Oper} {rest : List Oper} {o : Oper} {a : Act} {Q : Exit → Act → World → Prop} (hgd : o.guard = none) (s x : Operand) (ho : o.op = .call { callee := .builtin .append, args := #[s, x], argTypes := #[29, 29] })
   (w : World) (B k cap : Nat) (A0 : Option Addr) (xs : List Ev.EV) (A : Option Addr) (m : List Ev.EV) (n c : Nat) (hs : a.eval s = .slice A0 k cap) (hx : a.eval x = .slice A n c) (hw : w.ownsRow B 38 7 (.slice A0 k cap) k (Ev.ev xs)) (hA : A = none → n = 0 ∧ c = 0) (hb : Dt.Lies w w.heap.size A (Ev.ev m)) (hl : m.length = n)
   (hn : k + n ≤ cap) (hB : B ≤ w.heap.size)
   (hK : ∀ w', w'.ownsRow B 38 7 (.slice A0 (k + n) cap) (k + n) (Ev.ev (xs ++ m)) → w.grownBy w' (Value.slice A0 k cap).ownBlock → wpList Tryz.prog ops Q rest (a.put o.dst (.slice A0 (k + n) cap)) w') : wpList Tryz.prog ops Q (o :: rest) a w := by
 refine wpList_plain hgd fun K hQ => ?_
 obtain ⟨w', hr, h2, h3⟩ := run_intoE w B k cap A0 xs A m n c hw hA hb hl hn hB o.type
 unfold Oper.wp execOp
 simp only [ho, resolve, invoke, builtin, Sem.run_bind, Sem.run_pure, Result.andThen_ok, List.map_toArray, List.map_cons, List.map_nil, hs, hx]
 rw [hr]
 exact hQ _ _ (hK _ h2 h3)
theorem pgrowE_any (w : World) (n : Nat) (hn : n ≤ 1099511627776) :
   Calls Tryz.prog 114 #[.slice none 0 0, .int .i64 (n : Int)] w fun e w' => ∃ A0 cap, e = .returned (.slice A0 0 cap) ∧ n ≤ cap ∧ w'.ownsRow w.heap.size 38 7 (.slice A0 0 cap) 0 (Ev.ev []) ∧ Below w.heap.size w w' := by
 rcases Nat.eq_zero_or_pos n with rfl | h0
 · go_enter Tryz.func114, Tryz.ntmps114
   go_wp2
   go_ret
   exact ⟨none, 0, rfl, Nat.le_refl _, World.ownsRow_nil _ _ _ _, Below.refl _ _⟩
 · obtain ⟨i0, hi0, hz0, hz1, hz2⟩ := info_parts Ev.evt_info
   have hr := Lib.run_append_nil_zeros (P := Tryz.prog) w 29 3 29 38 i0 (.agg #[.int .u16 0, .int .u64 0, .int .u8 0, .int .u64 0, .int .u8 0, .string ⟨#[]⟩, .slice none 0 0]) .i64 .i64 Tryz.underlying29 Tryz.underlying3 hi0 hz0 n h0 (by omega) (by omega) (by rw [hz2]; omega)
   have hge := grownCap_ge w n 0 38
   have hmx := grownCap_le_maxLen w n 0 38 (by simp only [maxLen]; omega)
   generalize grownCap w n 0 38 = cap at *
   have hsz : (Builtin.zeroCells (Value.agg #[.int .u16 0, .int .u64 0, .int .u8 0, .int .u64 0, .int .u8 0, .string ⟨#[]⟩, .slice none 0 0]).cells n ++ Builtin.zeroCells (Value.agg #[.int .u16 0, .int .u64 0, .int .u8 0, .int .u64 0, .int .u8 0, .string ⟨#[]⟩, .slice none 0 0]).cells (cap - n)).size = cap * 7 := by
     simp only [Array.size_append, size_zeroCells]
     show n * 7 + (cap - n) * 7 = cap * 7
     omega
   have HO : Hid ((w.drew.alloc (.cells (Builtin.zeroCells (Value.agg #[.int .u16 0, .int .u64 0, .int .u8 0, .int .u64 0, .int .u8 0, .string ⟨#[]⟩, .slice none 0 0]).cells n ++ Builtin.zeroCells (Value.agg #[.int .u16 0, .int .u64 0, .int .u8 0, .int .u64 0, .int .u8 0, .string ⟨#[]⟩, .slice none 0 0]).cells (cap - n)) 38)).ownsRow w.heap.size 38 7 (.slice (some ⟨w.heap.size, 0, none⟩) 0 cap) 0 (Ev.ev [])) :=
     World.ownsRow_made w.drew _ cap (Nat.le_refl _) hmx hsz
   have HB : Hid (Below w.heap.size w (w.drew.alloc (.cells (Builtin.zeroCells (Value.agg #[.int .u16 0, .int .u64 0, .int .u8 0, .int .u64 0, .int .u8 0, .string ⟨#[]⟩, .slice none 0 0]).cells n ++ Builtin.zeroCells (Value.agg #[.int .u16 0, .int .u64 0, .int .u8 0, .int .u64 0, .int .u8 0, .string ⟨#[]⟩, .slice none 0 0]).cells (cap - n)) 38))) := (Below.refl _ _).drew.alloc (Nat.le_refl _) _
   clear hsz
   generalize Builtin.zeroCells (Value.agg #[.int .u16 0, .int .u64 0, .int .u8 0, .int .u64 0, .int .u8 0, .string ⟨#[]⟩, .slice none 0 0]).cells n ++ Builtin.zeroCells (Value.agg #[.int .u16 0, .int .u64 0, .int .u8 0, .int .u64 0, .int .u8 0, .string ⟨#[]⟩, .slice none 0 0]).cells (cap - n) = cs at *
   go_enter Tryz.func114, Tryz.ntmps114
   go_wp2_with (at_builtin; refine Lib.wpList_append_run _ rfl _ _ _ _ rfl _ _ rfl rfl _ _ hr ?_)
   clear hr
   go_wp2
   go_ret
   exact ⟨some ⟨w.heap.size, 0, none⟩, cap, rfl, hge, HO.out, HB.out⟩
set_option maxHeartbeats 2000000 in
theorem pconcatE_two (w : World) (b : Nat) (A1 A2 : Option Addr) (l1 l2 : List Ev.Evt) (n1 n2 c1 c2 : Nat) (h1 : Ev.EventsAt w w.heap.size A1 l1 n1 c1) (h2 : Ev.EventsAt w w.heap.size A2 l2 n2 c2) (hf1 : n1 ≤ 274877906944) (hf2 : n2 ≤ 274877906944) (hb : b < w.heap.size)
   (hc1 : w.cell? ⟨b, 0, none⟩ = some (.slice A1 n1 c1)) (hc2 : w.cell? ⟨b, 1, none⟩ = some (.slice A2 n2 c2)) :
   Calls Tryz.prog 74 #[.slice (some ⟨b, 0, none⟩) 2 2] w (Ev.EvPost w (l1 ++ l2)) := by
 have HN1 := Lib.hid h1.nil
 have HN2 := Lib.hid h2.nil
 have HL1 := Lib.hid h1.len
 have HL2 := Lib.hid h2.len
 obtain ⟨ps, hp1, hp2⟩ := h1.evts
 obtain ⟨qs, hq1, hq2⟩ := h2.evts
 have HP1 := Lib.hid hp1
 have HP2 := Lib.hid hp2
 have HQ1 := Lib.hid hq1
 have HQ2 := Lib.hid hq2
 have hpl : ps.length = n1 := by rw [hp2.1, h1.len]
 have hql : qs.length = n2 := by rw [hq2.1, h2.len]
 have HC := Lib.hid (fun V (hV : Below w.heap.size w V) => And.intro ((hV.cell (p := ⟨b, 0, none⟩) hb).trans hc1) ((hV.cell (p := ⟨b, 1, none⟩) hb).trans hc2))
 have CG := fun W => pgrowE_any W (n1 + n2) (by omega)
 simp only [Int.natCast_add] at CG
 clear h1 h2 hp1 hp2 hq1 hq2
 go_enter Tryz.func74, Tryz.ntmps74
 go_wp2
 refine wp_loop_rounds 3 ?_
 rw [rounds_succ]
 go_wp2
 rw [rounds_succ]
 go_wp2
 rw [rounds_succ]
 go_wp2_with fail
 refine (CG _).mono ?_
 rintro e W1 ⟨A0, cap, rfl, hcap, ho1, hb1⟩
 have HO1 := Lib.hid ho1
 have HB1 := Lib.hid hb1
 obtain ⟨q1, q2⟩ := HC.out W1 HB1.out
 clear ho1 hb1 CG hc1 hc2
 go_wp2
 refine wp_loop_rounds 3 ?_
 rw [rounds_succ]
 go_wp2_with (at_builtin; refine wpList_intoE rfl (.tmp 31) (.tmp 32) rfl _ w.heap.size 0 cap A0 [] A1 ps n1 c1 rfl rfl HO1.out HN1.out ((HP1.out.below HB1.out).more HB1.out.size) hpl (by omega) HB1.out.size ?_; intro W2 ho2 hg2)
 rw [Nat.zero_add, List.nil_append] at ho2
 have HB2 : Hid (Below w.heap.size w W2) := Lib.hid (HB1.out.grown hg2 HB1.out.size (fun j hj => (HO1.out.lt j hj).1))
 have HO2 := Lib.hid ho2
 obtain ⟨q3, q4⟩ := HC.out W2 HB2.out
 clear ho2 hg2 q1 q2
 rw [rounds_succ]
 go_wp2_with (at_builtin; refine wpList_intoE rfl (.tmp 31) (.tmp 32) rfl _ w.heap.size n1 cap A0 ps A2 qs n2 c2 rfl rfl HO2.out HN2.out ((HQ1.out.below HB2.out).more HB2.out.size) hql hcap HB2.out.size ?_; intro W3 ho3 hg3)
 have HB3 : Hid (Below w.heap.size w W3) := Lib.hid (HB2.out.grown hg3 HB2.out.size (fun j hj => (HO2.out.lt j hj).1))
 have HO3 := Lib.hid ho3
 clear ho3 hg3 q3 q4
 rw [rounds_succ]
 go_wp2
 go_ret
 exact ⟨A0, n1 + n2, cap, rfl, Ev.own_events HB3.out (match_two HP2.out HQ2.out) (by rw [List.length_append]; omega) (by omega) HO3.out, HB3.out⟩
end Go.Proofs.YtgaegfddobpomaaGreat.Bk
