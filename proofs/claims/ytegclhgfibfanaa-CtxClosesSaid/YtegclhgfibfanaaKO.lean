/- The contracts of the program's Norm, Runs, Add, Of and Only of layer ctx. -/
import Derived.Test.YtegclhgfibfanaaKN
import Derived.Test.YtegclhgfibfanaaMPCSort
import Derived.Test.YtegclhgfibfanaaKE

/- The contracts of the program's Norm, Runs, Add and Of of layer ctx. Condition: at most 2^28 parts, of at most 2^28 runs together; at most 2^28 dots. -/
namespace Go.Proofs.Ytegclhgfibfanaa.Cx
open Go.ChangeShapes Go.WideShapes Go.ChangeAt Go.RowKit Go.Maps
set_option linter.unusedVariables false
set_option maxRecDepth 4000

theorem cpost_up {w W V : World} {m : List Part} {e : Ending} (hb : Below w.heap.size w W) (h : CtxPost W m e V) : CtxPost w m e V := by
  obtain ⟨A, n, c, ps, h1, h2, h3, h4, h5⟩ := h
  exact ⟨A, n, c, ps, h1, h2, Dt.own_less h3 hb.size, h4, hb.trans (h5.mono hb.size)⟩
theorem raw_short {a : List Part} {k : Nat} (h : Wide k a) (d : Nat) : (rawC a d).length ≤ k := by
  have q := raw_whole (fun _ => []) a d
  have q2 := h.2
  simp only [List.length_nil] at q
  show (rawF (fun _ => []) a d).length ≤ k
  omega
set_option maxHeartbeats 4000000 in
theorem pnorm_any (w : World) (A1 : Option Addr) (a : List Part) (n1 c1 : Nat) (h1 : CtxAt w A1 a n1 c1) (ha : Wide 268435456 a) :
    Calls Try.prog 20 #[.slice A1 n1 c1] w (CtxPost w (normC a)) := by
  have CB := pbydev_any w A1 a n1 c1 h1 ha
  have HT : Hid (Tells (fun d => Ru.nrm (rawC a d))) := Lib.hid (by rw [nrm_rawC]; exact tells_runs h1.fit)
  have HL := Lib.hid (fun d => raw_short ha d)
  have hn1 : n1 ≤ 268435456 := by rw [← h1.len]; exact ha.1
  rw [← norm_raw]
  clear h1 ha
  go_enter Try.func20, Try.ntmps20
  go_wp2_with fail
  refine CB.mono ?_
  rintro e w1 ⟨rfl, hM, hb⟩
  have CI := pinord_any psorts w1 _ _ _ _ hM.mapS HT.out (fun d => by have := HL.out d; omega) (by omega)
  have HB := Lib.hid hb
  clear CB hM hb
  go_wp2_with fail
  refine CI.mono ?_
  intro e w2 hp
  obtain ⟨A2, n2, c2, ps, rfl, h2⟩ := cpost_up HB.out hp
  have HP := Lib.hid h2
  clear hp h2 CI
  go_wp2
  go_ret
  exact ⟨A2, n2, c2, ps, rfl, HP.out⟩
theorem rawF_d (c : List Part) (k d : Nat) {x : Part} (h : c[k]? = some x) : rawC (c.take (k + 1)) d = stepR d (rawC (c.take k) d) x := congrFun (raw_next (f := fun _ => []) h) d
set_option maxHeartbeats 4000000 in
theorem pruns_any (w : World) (A1 : Option Addr) (a : List Part) (n1 c1 d : Nat) (h1 : CtxAt w A1 a n1 c1) (ha : Wide 268435456 a) :
    Calls Try.prog 31 #[.slice A1 n1 c1, .int .u16 (d : Int)] w (Ru.RunPost w (runsC a d)) := by
  have H1 := Lib.hid h1
  have hn1 : n1 ≤ 268435456 := by rw [← h1.len]; exact ha.1
  have HL : Hid (∀ k, (rawC (a.take k) d).length ≤ 268435456) := Lib.hid (fun k => by
    have q1 := raw_len (fun _ => []) a k d
    have q2 := weight_take a k
    have q3 := ha.2
    simp only [List.length_nil] at q1
    show (rawF (fun _ => []) (a.take k) d).length ≤ 268435456
    omega)
  have HP : Hid (∀ (k : Nat) (x : Part), a[k]? = some x → x.2.length ≤ 268435456) := Lib.hid (fun k x hx => Nat.le_trans (weight_part hx) ha.2)
  have HF : Hid (Ru.Fit (rawC a d)) := Lib.hid (raw_fit h1.fit d (fun r hr => by cases hr))
  have HZ := Lib.hid (nrm_raw a d)
  clear h1 ha
  go_enter Try.func31, Try.ntmps31
  go_wp2_with fail
  go_loopw [5, 10] (fun v i wr => ∃ (k m : Nat) (A : Option Addr) (q : Nat), k ≤ n1 ∧ i = .int .i64 (k : Int) ∧ v = .slice A m q ∧ (rawC (a.take k) d).length = m ∧ wr.ownsRow w.heap.size 59 2 (.slice A m q) m (Ru.rv (rawC (a.take k) d)) ∧ Below w.heap.size w wr) (fun _ i _ => n1 - (intOf i).toNat)
  case atStart => exact ⟨0, 0, none, 0, Nat.zero_le _, rfl, rfl, rfl, World.ownsRow_nil _ _ _ _, Below.refl _ _⟩
  case round =>
    obtain ⟨k, m, A, q, hk, rfl, rfl, hm, ho, hw⟩ := hrel
    have HM := Lib.hid hm
    have HO := Lib.hid ho
    have HW := Lib.hid hw
    have hm28 : m ≤ 268435456 := by rw [← hm]; exact HL.out k
    clear hm ho hw
    by_cases hlt : k < n1
    · obtain ⟨ad, p, x, rfl, hB, hx, hp, hcell⟩ := H1.out.cells hlt
      have HN := Lib.hid (rawF_d a k d hx)
      have HPL := Lib.hid (HP.out k x hx)
      obtain ⟨x1, xl⟩ := x
      have HX := Lib.hid (hp.up HW.out)
      have hpl' : p.len ≤ 268435456 := by rw [← hp.len]; exact HPL.out
      obtain ⟨d1, d2⟩ := hcell wr HW.out
      dsimp only at d1 d2 HN HX HPL
      clear hx hp hcell HPL
      have BX : Hid (Below wr.heap.size wr (wr.alloc (.cells #[.int .u16 (x1 : Int), .slice p.adr p.len p.cap] 47))) := Lib.hid (Dt.below_new _ _)
      obtain ⟨d3, d4⟩ := pbox_at wr x1 p.adr p.len p.cap _ (Below.refl _ _)
      have HO1 := Lib.hid (Dt.own_kept HO.out BX.out)
      have HW1 := Lib.hid (HW.out.trans (BX.out.mono HW.out.size))
      by_cases hxd : x1 = d
      · by_cases hd0 : d = 0
        · have HE : Hid (rawC (a.take (k + 1)) d = rawC (a.take k) d) := Lib.hid (by rw [HN.out]; exact if_neg (fun h => h.2 hd0))
          subst hxd
          subst hd0
          clear HN HX BX
          go_wp2
          go_roundw
          case rel => exact ⟨k + 1, m, A, q, by omega, by go_num, rfl, by rw [HE.out]; exact HM.out, by rw [HE.out]; exact HO1.out, HW1.out⟩
          case measure => simp [intOf]; omega
        · have hne : ((d : Int) != 0) = true := by rw [bne_iff_ne]; omega
          have HE : Hid (rawC (a.take (k + 1)) d = rawC (a.take k) d ++ xl) := Lib.hid (by rw [HN.out]; exact if_pos ⟨hxd, hd0⟩)
          have HXB := Lib.hid (HX.out.up BX.out)
          subst hxd
          clear HN HX BX
          go_wp2_with (first
            | (at_builtin; refine wpList_app rfl (.tmp 22) (.tmp 24) rfl rfl _ w.heap.size m (.slice A m q) (rawC (a.take k) x1) p.adr xl p.len p.cap rfl rfl HO1.out HXB.out.nil HXB.out.runs.2 HXB.out.len (by omega) HW1.out.size ?_; intro A5 c5 w5 ho5 hg5 hl5)
            | go_in)
          have HO5 := Lib.hid ho5
          have HW5 := Lib.hid (HW1.out.grown hg5 HW1.out.size (fun j hj => (HO1.out.lt j hj).1))
          have HXL := Lib.hid HXB.out.len
          clear ho5 hg5 hl5 d1 d2 d3 d4 HXB HO1 HW1 HO HW
          go_roundw
          case rel => exact ⟨k + 1, m + p.len, A5, c5, by omega, by go_num, rfl, by rw [HE.out, List.length_append, HM.out, HXL.out], by rw [HE.out]; exact HO5.out, HW5.out⟩
          case measure => simp [intOf]; omega
      · have hne : ((x1 : Int) == (d : Int)) = false := by rw [beq_eq_false_iff_ne]; omega
        have HE : Hid (rawC (a.take (k + 1)) d = rawC (a.take k) d) := Lib.hid (by rw [HN.out]; exact if_neg (fun h => hxd h.1))
        clear HN HX BX
        go_wp2
        go_roundw
        case rel => exact ⟨k + 1, m, A, q, by omega, by go_num, rfl, by rw [HE.out]; exact HM.out, by rw [HE.out]; exact HO1.out, HW1.out⟩
        case measure => simp [intOf]; omega
    · obtain rfl : k = n1 := by omega
      have e : Hid (a.take k = a) := Lib.hid (List.take_of_length_le (by rw [H1.out.len]; exact Nat.le_refl _))
      rw [e.out] at HM HO
      have hl := Ru.own_len HO.out
      have CN := Ru.pnorm_any wr A (rawC a d) m q HM.out ⟨HF.out, Ru.lies_any (by decide) HO.out⟩ (by omega)
      rw [HZ.out] at CN
      clear hl
      go_wp2_with fail
      refine CN.mono ?_
      intro e w2 hp
      obtain ⟨A2, n2, c2, rfl, h2, h3, h4⟩ := hp
      have HP2 := Lib.hid (And.intro h2 (And.intro (Dt.own_less h3 HW.out.size) (HW.out.trans (h4.mono HW.out.size))))
      clear h2 h3 h4 CN
      go_wp2
      go_ret
      exact ⟨A2, n2, c2, rfl, HP2.out⟩
end Go.Proofs.Ytegclhgfibfanaa.Cx

/- The contracts of the program's Add and Of of layer ctx. Condition: at most 2^28 parts, of at most 2^28 runs together; at most 2^28 dots. -/
namespace Go.Proofs.Ytegclhgfibfanaa.Cx
open Go.ChangeShapes Go.WideShapes Go.ChangeAt Go.RowKit Go.Maps
set_option linter.unusedVariables false
set_option maxRecDepth 4000

theorem add_fit {a : List Part} {l : List Dot} (ha : FitC a) (hl : Dt.Fit l) (k d : Nat) : Ru.Fit (addF (rawC a) (l.take k) d) := by
  have : ∀ (l : List Dot), Dt.Fit l → ∀ f : Nat → List Run, (∀ d, Ru.Fit (f d)) → ∀ d, Ru.Fit (addF f l d) := fun l => by
    unfold addF
    induction l with
    | nil => intro _ f hf d; exact hf d
    | cons x l ih =>
      intro hl f hf d
      rw [List.foldl_cons]
      refine ih (fun y hy => hl y (List.mem_cons_of_mem _ hy)) _ (fun e => ?_) d
      unfold stepA
      split
      · show Ru.Fit (if e = x.1 then f x.1 ++ [(x.2, x.2)] else f e)
        split
        · intro r hr
          rcases List.mem_append.1 hr with hr | hr
          · exact hf _ r hr
          · obtain rfl := List.mem_singleton.1 hr
            have := (hl x (List.mem_cons_self ..)).2
            exact ⟨this, this⟩
        · exact hf e
      · exact hf e
  exact this _ (fun x hx => hl x (List.mem_of_mem_take hx)) _ (fun e => raw_fit ha e (fun r hr => by cases hr)) d
set_option maxHeartbeats 8000000 in
theorem padd_any (w : World) (A1 A2 : Option Addr) (a : List Part) (l : List Dot) (n1 n2 c1 c2 : Nat) (h1 : CtxAt w A1 a n1 c1) (h2 : DotsAt w A2 l n2 c2) (ha : Wide 268435456 a) (hn2 : n2 ≤ 268435456) :
    Calls Try.prog 15 #[.slice A1 n1 c1, .slice A2 n2 c2] w (CtxPost w (setC a (ofC l) 0)) := by
  have CB := pbydev_any w A1 a n1 c1 h1 ha
  have HD := Lib.hid h2.dots
  have HDL := Lib.hid h2.len
  have HT : Hid (Tells (fun d => Ru.nrm (addF (rawC a) l d))) := Lib.hid (tells_add h1.fit h2.fit)
  have HE : Hid (listC (fun d => Ru.nrm (addF (rawC a) l d)) = setC a (ofC l) 0) := Lib.hid (by rw [add_fin h1.fit h2.fit]; rfl)
  have HL : Hid (∀ k d, (addF (rawC a) (l.take k) d).length ≤ 268435456 + k) := Lib.hid (fun k d => by
    have q1 := add_len l (rawC a) k d
    have q2 := raw_short ha d
    omega)
  have HF := Lib.hid (add_fit h1.fit h2.fit)
  have hn1 : n1 ≤ 268435456 := by rw [← h1.len]; exact ha.1
  rw [← HE.out]
  clear h1 h2 ha HE
  go_enter Try.func15, Try.ntmps15
  go_wp2_with fail
  refine CB.mono ?_
  rintro e w0 ⟨rfl, hM, hb⟩
  have HM0 := Lib.hid hM
  have HB0 := Lib.hid hb
  clear CB hM hb
  go_wp2_with fail
  go_loopw [12] (fun i wr => ∃ k : Nat, k ≤ n2 ∧ i = .int .i64 (k : Int) ∧ MapO wr (w.heap.size + 1) w.heap.size (n1 + k) (addF (rawC a) (l.take k)) ∧ Below w.heap.size w wr) (fun i _ => n2 - (intOf i).toNat)
  case atStart => exact ⟨0, Nat.zero_le _, rfl, HM0.out, HB0.out⟩
  case round =>
    obtain ⟨k, hk, rfl, hmk, hg⟩ := hrel
    have HMK := Lib.hid hmk
    have HW := Lib.hid hg
    have hsz := hmk.lt
    clear hmk hg
    by_cases hlt : k < n2
    · obtain ⟨ad, x, rfl, hB, hlx, hx1, hx2, hcx⟩ := HD.out.cells (k := k) (by rw [HDL.out]; exact hlt)
      have HN := Lib.hid (add_next (f := rawC a) hlx)
      clear hlx
      obtain ⟨x1, x2⟩ := x
      dsimp only at hx1 hx2 hcx
      obtain ⟨d1, d2⟩ := hcx wr HW.out
      have CG := fun W => Dt.pgood_x W (x1, x2)
      have BX : Hid (Below wr.heap.size wr ((wr.alloc (.cells #[.int .u16 (x1 : Int), .int .u64 (x2 : Int)] 27)).alloc (.cells #[.int .u16 (x1 : Int), .int .u64 (x2 : Int)] 27))) := Lib.hid (bel_alloc _ (Dt.below_new _ _))
      have HXB := Lib.hid (Dt.box_at wr (x1, x2))
      clear hcx
      cases hmx : Dt.mayD (x1, x2) with
      | false =>
        have HS := Lib.hid (stepA_not (f := addF (rawC a) (l.take k)) hmx)
        rw [hmx] at CG
        clear hmx
        go_wp2_with fail
        refine (CG _).mono ?_
        rintro e w1 ⟨rfl, rfl⟩
        have HM2 := Lib.hid (((HMK.out.up BX.out).more (Nat.le_succ _)).turn (by rw [← HS.out, ← HN.out]))
        have HW2 := Lib.hid (HW.out.trans (BX.out.mono HW.out.size))
        clear d1 d2
        go_wp2
        go_roundw
        case rel => exact ⟨k + 1, by omega, by go_num, HM2.out, HW2.out⟩
        case measure => simp [intOf]; omega
      | true =>
        have HS : Hid ((fun e => if e = x1 then addF (rawC a) (l.take k) x1 ++ [(x2, x2)] else addF (rawC a) (l.take k) e) = addF (rawC a) (l.take (k + 1))) := Lib.hid (by rw [HN.out, ← stepA_put hmx])
        have HFN := Lib.hid (HF.out (k + 1) x1)
        have HEN : Hid (addF (rawC a) (l.take (k + 1)) x1 = addF (rawC a) (l.take k) x1 ++ [(x2, x2)]) := Lib.hid (by rw [← HS.out]; exact if_pos rfl)
        rw [HEN.out] at HFN
        rw [hmx] at CG
        clear hmx
        go_wp2_with fail
        refine (CG _).mono ?_
        rintro e w1 ⟨rfl, rfl⟩
        have hb2 : ((wr.alloc (.cells #[.int .u16 (x1 : Int), .int .u64 (x2 : Int)] 27)).alloc (.cells #[.int .u16 (x1 : Int), .int .u64 (x2 : Int)] 27)).heap.size = wr.heap.size + 2 := by simp
        have HBX : Hid (Below (wr.alloc (.cells #[.int .u16 (x1 : Int), .int .u64 (x2 : Int)] 27)).heap.size (wr.alloc (.cells #[.int .u16 (x1 : Int), .int .u64 (x2 : Int)] 27)) ((wr.alloc (.cells #[.int .u16 (x1 : Int), .int .u64 (x2 : Int)] 27)).alloc (.cells #[.int .u16 (x1 : Int), .int .u64 (x2 : Int)] 27))) := Lib.hid (Dt.below_new _ _)
        generalize hwb : (wr.alloc (.cells #[.int .u16 (x1 : Int), .int .u64 (x2 : Int)] 27)).alloc (.cells #[.int .u16 (x1 : Int), .int .u64 (x2 : Int)] 27) = wb at *
        have HXC : Hid (∀ V, Below wb.heap.size wb V → V.cell? ⟨wr.heap.size, 0, none⟩ = some (.int .u16 (x1 : Int)) ∧ V.cell? ⟨wr.heap.size, 1, none⟩ = some (.int .u64 (x2 : Int))) := Lib.hid (fun V hV => HXB.out V (HBX.out.trans (hV.mono HBX.out.size)))
        obtain ⟨d3, d4⟩ := HXC.out wb (Below.refl _ _)
        obtain ⟨A2', k2, c2', hA2, hk2, hlook, hstore⟩ := (HMK.out.up BX.out).look hx1
        obtain ⟨o1, ho1⟩ : ∃ o : Obj, o = .cells #[.int .u64 (x2 : Int), .int .u64 (x2 : Int)] 59 := ⟨_, rfl⟩
        have r1 := hlook wb (Ru.turn_refl _ _)
        have r2 := hlook wb.drew (bel_grown ((Below.refl _ _).drew) _)
        have r3 := hlook (wb.alloc o1) (bel_grown (Dt.below_new _ _) _)
        have r4 := hlook (wb.alloc o1).drew (bel_grown ((Dt.below_new _ _).drew) _)
        have BD : Hid (Below wb.heap.size wb (wb.alloc o1).drew) := Lib.hid ((Dt.below_new _ _).drew)
        have HO2 := Lib.hid (Dt.own_kept hA2 BD.out)
        have hk2' : k2 ≤ 536870912 := by rw [← hk2]; have := HL.out k x1; omega
        have HRL : Hid (RunsAt (wb.alloc o1) (some ⟨wr.heap.size + 2, 0, none⟩) [(x2, x2)] 1 1) := Lib.hid (by rw [ho1]; exact run_lit wb _ x2 x2 hb2.symm hx2 hx2)
        have HBL : Hid (Ru.Lies (wb.alloc o1).drew (wb.alloc o1).drew.heap.size (some ⟨wr.heap.size + 2, 0, none⟩) (Ru.rv [(x2, x2)])) := Lib.hid ((HRL.out.up ((Below.refl _ _).drew)).runs.2)
        have HOL := Lib.hid (fun j hj => (hA2.lt j hj))
        have HST := Lib.hid hstore
        have HWB := Lib.hid (HW.out.trans (BX.out.mono HW.out.size))
        have HW1 := Lib.hid (HWB.out.trans (BD.out.mono HWB.out.size))
        have hBsz : w.heap.size + 1 ≤ (wb.alloc o1).drew.heap.size := by have := BD.out.size; omega
        have HGD : Hid (wb.grownBy (wb.alloc o1).drew (Value.slice A2' k2 c2').ownBlock) := Lib.hid (bel_grown BD.out _)
        have HSZ : Hid (wb.heap.size ≤ (wb.alloc o1).drew.heap.size) := Lib.hid BD.out.size
        have HKC : Hid (∀ w5 : World, World.grownBy (wb.alloc o1).drew w5 (Value.slice A2' k2 c2').ownBlock → w5.cell? ⟨wr.heap.size, 0, none⟩ = some (.int .u16 (x1 : Int)) ∧ w5.cell? ⟨wr.heap.size, 1, none⟩ = some (.int .u64 (x2 : Int))) := Lib.hid (fun w5 hg5 => by
          have hne : some wr.heap.size ≠ (Value.slice A2' k2 c2').ownBlock := fun e => by
            obtain ⟨A9, k9, c9, hA9, _, hl9, _⟩ := HMK.out.look hx1
            have e9 := hl9 wb (bel_grown BX.out _)
            rw [r1] at e9
            have e8 : Value.slice A2' k2 c2' = Value.slice A9 k9 c9 := by injection e9
            rw [e8] at e
            have := (hA9.lt wr.heap.size e.symm).2
            omega
          have hl2 : wr.heap.size < (wb.alloc o1).drew.heap.size := by have := BD.out.size; omega
          obtain ⟨q1, q2⟩ := HXC.out _ BD.out
          exact ⟨(hg5.cell_far _ hl2 hne).trans q1, (hg5.cell_far _ hl2 hne).trans q2⟩)
        have HK6 : Hid (∀ w5 w6 : World, World.grownBy (wb.alloc o1).drew w5 (Value.slice A2' k2 c2').ownBlock → w5.grownBy w6 (some w.heap.size) → w6.cell? ⟨wr.heap.size, 0, none⟩ = some (.int .u16 (x1 : Int)) ∧ w6.cell? ⟨wr.heap.size, 1, none⟩ = some (.int .u64 (x2 : Int))) := Lib.hid (fun w5 w6 hg5 hg6 => by
          obtain ⟨q1, q2⟩ := HKC.out w5 hg5
          have hl2 : wr.heap.size < w5.heap.size := by have := hg5.size; have := BD.out.size; omega
          have hne : some wr.heap.size ≠ some w.heap.size := fun e => by injection e with e; omega
          exact ⟨(hg6.cell_far _ hl2 hne).trans q1, (hg6.cell_far _ hl2 hne).trans q2⟩)
        clear HN hA2 hlook hstore HMK BX BD HBX HXB hk2 HEN HRL HWB hwb
        subst ho1
        go_wp2_with fail
        go_region_held3 (fun V => V.cell? ⟨wr.heap.size, 0, none⟩ = some (.int .u16 (x1 : Int)) ∧ V.cell? ⟨wr.heap.size, 1, none⟩ = some (.int .u64 (x2 : Int))) (first | exact ⟨d3, d4⟩ | assumption | exact HXC.out _ (by (repeat (first | exact Below.refl _ _ | assumption | apply bel_drew | apply bel_alloc)))) (first
          | (refine step_app rfl (.tmp 24) (.tmp 30) rfl rfl (w.heap.size + 1) k2 (.slice A2' k2 c2') (addF (rawC a) (l.take k) x1) (some ⟨wr.heap.size + 2, 0, none⟩) [(x2, x2)] 1 1 rfl rfl HO2.out (fun h => by cases h) HBL.out rfl (by omega) hBsz ?_; intro A5 c5 w5 ho5 hg5 hl5; have hcV := HKC.out w5 hg5; obtain ⟨w6, hrun, hM6, hg6⟩ := HST.out w5 A5 (k2 + 1) c5 _ (HGD.out.trans hg5) ho5 HFN.out (hl5.imp (fun h => h) (fun h j hj => by rw [h] at hj; injection hj with hj; rw [← hj]; exact HSZ.out)) (by omega); have hcV6 := HK6.out w5 w6 hg5 hg6))
        all_goals
          have HR : Hid (MapO w6 (w.heap.size + 1) w.heap.size (n1 + (k + 1)) (addF (rawC a) (l.take (k + 1)))) := Lib.hid (hM6.turn HS.out)
          have HW6 : Hid (Below w.heap.size w w6) := Lib.hid ((HW1.out.grown hg5 HW1.out.size (fun j hj => by have := (HOL.out j hj).1; omega)).grown hg6 (Nat.le_trans HW1.out.size hg5.size) (fun j hj => by cases hj; exact Nat.le_refl _))
          clear hM6 hg6 hrun hg5 hl5 ho5 hcV hcV6 r1 r2 r3 r4 HO2 HBL HOL HST HW1 HKC HK6 HS HFN d1 d2 d3 d4 HXC HGD HSZ
          go_wp2
          go_roundw
          case rel => exact ⟨k + 1, hlt, by go_num, HR.out, HW6.out⟩
          case measure => simp [intOf]; omega
    · obtain rfl : k = n2 := by omega
      have e : Hid (l.take k = l) := Lib.hid (List.take_of_length_le (by rw [HDL.out]; exact Nat.le_refl _))
      have HL2 := Lib.hid (HL.out k)
      rw [e.out] at HMK HL2
      have CI := pinord_any psorts wr _ _ _ _ HMK.out.mapS HT.out (fun d => by have := HL2.out d; omega) (by omega)
      go_wp2_with fail
      refine CI.mono ?_
      intro e w2 hp
      obtain ⟨A5, n5, c5, ps, rfl, h2⟩ := cpost_up HW.out hp
      have HP := Lib.hid h2
      clear hp h2 CI
      go_wp2
      go_ret
      exact ⟨A5, n5, c5, ps, rfl, HP.out⟩
set_option maxHeartbeats 1000000 in
theorem pof_any (w : World) (A2 : Option Addr) (l : List Dot) (n2 c2 : Nat) (h2 : DotsAt w A2 l n2 c2) (hn2 : n2 ≤ 268435456) :
    Calls Try.prog 17 #[.slice A2 n2 c2] w (CtxPost w (ofC l)) := by
  have CA := padd_any w none A2 [] l 0 n2 0 c2 (CtxAt.none_ w) h2 ⟨Nat.zero_le _, Nat.zero_le _⟩ hn2
  have e : setC [] (ofC l) 0 = ofC l := by rw [join_turn, norm_set]; exact (ord_of h2.fit).norm
  rw [e] at CA
  clear h2 e
  go_enter Try.func17, Try.ntmps17
  go_wp2_with fail
  refine CA.mono ?_
  intro e w2 hp
  obtain ⟨A5, n5, c5, ps, rfl, h2⟩ := hp
  have HP := Lib.hid h2
  clear h2 CA
  go_wp2
  go_ret
  exact ⟨A5, n5, c5, ps, rfl, HP.out⟩
end Go.Proofs.Ytegclhgfibfanaa.Cx

/- The contract of the program's Only of layer ctx. Condition: at most 2^28 parts, of at most 2^28 runs together. -/
namespace Go.Proofs.Ytegclhgfibfanaa.Cx
open Go.ChangeShapes Go.WideShapes Go.ChangeAt Go.RowKit Go.Maps
set_option linter.unusedVariables false
set_option maxRecDepth 4000

/-- a store, as an equation. -/
theorem MapS.store {w : World} {B b n : Nat} {f : Nat → List Run} (h : MapS w B b n f) (hn : n ≤ 8796093022208) {d : Nat} (hd : d < 65536) {A : Option Addr} {l : List Run} {k c : Nat} (hl : RunsAt w A l k c) (hb : ∀ ad, A = some ad → B ≤ ad.block) :
    ∃ w', (Instr.mapUpdate 52 (.map (some b)) (.int .u16 (d : Int)) (.slice A k c)).run Try.prog w = .ok () w' ∧ MapS w' B b (n + 1) (fun e => if e = d then l else f e) ∧ w.grownBy w' (some b) := by
  obtain ⟨hbB, D, g, h1, h2, h3⟩ := h
  obtain ⟨w', hrun, h4, h5⟩ := h1.update law16 Try.underlying52 (by unfold maxLen; omega) (key_is hd) (val_is ⟨A, k, c⟩)
  exact ⟨w', hrun, ⟨hbB, _, _, h4, h2.put h1.isMap hd, (h3.put (s := ⟨A, k, c⟩) hl hb).grown h5 hbB⟩, h5⟩
end Go.Proofs.Ytegclhgfibfanaa.Cx
