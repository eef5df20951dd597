/- Words and contracts that the proofs of this seat stand on, part 10 of 14. -/
import Derived.Test.YtblgbbpbhcaodaaMgH
import Derived.Test.YtblgbbpbhcaodaaMgI
import Derived.Deep.RegionLaw
import Derived.Deep.DeepCutAuto
import Derived.Deep.RegionHeld3
import Derived.Test.YtblgbbpbhcaodaaMgC

/- The contracts of the document's Put and PutAll of layer ecode. -/
namespace Go.Proofs.Ytblgbbpbhcaodaa.Ec
open Go.ChangeShapes Go.WideShapes Go.ChangeAt Go.RowKit Go.Proofs.Ytblgbbpbhcaodaa.Dc
set_option linter.unusedVariables false
set_option maxRecDepth 4000

/-- a byte more in a list of one's own. -/
theorem run_push (w : World) (B n : Nat) (v : Value) (l : List Nat) (b y : Nat) (hw : w.ownsRow B 5 1 v n (Nu.vals l)) (hc : w.cell? ⟨b, 0, none⟩ = some (.int .u8 (y : Int))) (hn : n ≤ 70368744177664) (hB : B ≤ w.heap.size) :
    ∃ A' c' w', (Builtin.append_ #[25, 25] 25 #[v, .slice (some ⟨b, 0, none⟩) 1 1]).run Try.prog w = .ok (.slice A' (n + 1) c') w' ∧ w'.ownsRow B 5 1 (.slice A' (n + 1) c') (n + 1) (Nu.vals (l ++ [y])) ∧ w.grownBy w' v.ownBlock := by
  obtain ⟨i0, hi0, hz0, hz1, hz2⟩ := info_parts Nu.byte_info
  have hcell : ∀ (j : Nat) (u : Value), (Nu.vals [y])[j]? = some u → w.cell? ((⟨b, 0, none⟩ : Addr).add j) = some u := by
    intro j u hu
    cases j with
    | zero =>
      rw [Dt.zero_add, hc]
      exact hu
    | succ j => simp [Nu.vals] at hu
  obtain ⟨v', w', hr, h2, h3, hat, h5⟩ := run_append_own_at (P := Try.prog) w B 25 25 5 i0 (.int .u8 0) 1 1 Try.underlying25 hi0 hz0 hz1 hz2 rfl (by decide) v n (Nu.vals l) hw ⟨b, 0, none⟩ 1 1 (Nu.vals [y]) rfl hcell (Nu.vals_one [y]) (by simp only [maxLen]; omega) (by omega) hB
  obtain ⟨A', c', rfl⟩ := Dt.own_form h2
  exact ⟨A', c', w', hr, by rw [Nu.vals_append]; exact h2, h3⟩
theorem wpList_push {ops : Array Oper} {rest : List Oper} {o : Oper} {a : Act} {Q : Exit → Act → World → Prop} (hgd : o.guard = none) (s x : Operand) (ho : o.op = .call { callee := .builtin .append, args := #[s, x], argTypes := #[25, 25] }) (hty : o.type = 25)
    (w : World) (B n : Nat) (v : Value) (l : List Nat) (b y : Nat) (hs : a.eval s = v) (hx : a.eval x = .slice (some ⟨b, 0, none⟩) 1 1) (hw : w.ownsRow B 5 1 v n (Nu.vals l)) (hc : w.cell? ⟨b, 0, none⟩ = some (.int .u8 (y : Int))) (hn : n ≤ 70368744177664) (hB : B ≤ w.heap.size)
    (hK : ∀ A' c' w', w'.ownsRow B 5 1 (.slice A' (n + 1) c') (n + 1) (Nu.vals (l ++ [y])) → w.grownBy w' v.ownBlock → wpList Try.prog ops Q rest (a.put o.dst (.slice A' (n + 1) c')) w') : wpList Try.prog ops Q (o :: rest) a w := by
  refine wpList_plain hgd fun K hQ => ?_
  obtain ⟨A', c', w', hr, h2, h3⟩ := run_push w B n v l b y hw hc hn hB
  unfold Oper.wp execOp
  simp only [ho, resolve, invoke, builtin, Sem.run_bind, Sem.run_pure, Result.andThen_ok, List.map_toArray, List.map_cons, List.map_nil, hs, hx]
  rw [hty, hr]
  exact hQ _ _ (hK _ _ _ h2 h3)
/-- the same within a drawn region that began in world W. -/
theorem step_push {ops : Array Oper} {o : Oper} {a : Act} {K : Act → World → Prop} {Q : Exit → Act → World → Prop} {E : Prop} {w : World} (hgd : o.guard = none) (s x : Operand)
    (ho : o.op = .call { callee := .builtin .append, args := #[s, x], argTypes := #[25, 25] }) (hty : o.type = 25)
    (W : World) (n : Nat) (v : Value) (l : List Nat) (b y : Nat) (hs : a.eval s = v) (hx : a.eval x = .slice (some ⟨b, 0, none⟩) 1 1) (hW : Below W.heap.size W w) (hw : w.ownsRow W.heap.size 5 1 v n (Nu.vals l)) (hc : w.cell? ⟨b, 0, none⟩ = some (.int .u8 (y : Int))) (hn : n ≤ 70368744177664)
    (hK : ∀ A' c' w', w'.ownsRow W.heap.size 5 1 (.slice A' (n + 1) c') (n + 1) (Nu.vals (l ++ [y])) → Below W.heap.size W w' → K (a.put o.dst (.slice A' (n + 1) c')) w') :
    if Region.wanted o (yielded ops a.tmps) = true then Oper.wp Try.prog o a w K Q else E := by
  have hwd : Region.wanted o (yielded ops a.tmps) = true := by simp [Region.wanted, hgd]
  rw [if_pos hwd]
  obtain ⟨A', c', w', hr, h2, h3⟩ := run_push w W.heap.size n v l b y hw hc hn hW.size
  unfold Oper.wp execOp
  simp only [ho, resolve, invoke, builtin, Sem.run_bind, Sem.run_pure, Result.andThen_ok, List.map_toArray, List.map_cons, List.map_nil, hs, hx]
  rw [hty, hr]
  exact hK _ _ _ h2 (hW.grown h3 hW.size (fun k hk => (hw.lt k hk).1))
theorem app_low {w W U : World} {m : List Nat} {e : Ending} (hW : Below w.heap.size w W) (h : Nu.AppPost W m e U) : Nu.AppPost w m e U := by
  obtain ⟨g, cap, n, rfl, hn, hg, ho, hb⟩ := h
  exact ⟨g, cap, n, rfl, hn, Nat.le_trans hW.size hg, Dt.own_less ho hW.size, hW.trans (hb.mono hW.size)⟩
theorem app_below {w U : World} {m : List Nat} {e : Ending} (h : Nu.AppPost w m e U) : Below w.heap.size w U := by
  obtain ⟨g, cap, n, rfl, hn, hg, ho, hb⟩ := h
  exact hb
/-- bytes of one's own. -/
theorem app_bl {w U : World} {m : List Nat} {e : Ending} (hs : Nu.Small m) (h : Nu.AppPost w m e U) : ∃ A n c, e = .returned (.slice A n c) ∧ BL U A m n c ∧ U.ownsRow w.heap.size 5 1 (.slice A n c) n (Nu.vals m) ∧ Below w.heap.size w U := by
  obtain ⟨g, cap, n, rfl, hn, hg, ho, hb⟩ := h
  obtain ⟨h1, h2, h3⟩ := Dt.own_len ho
  exact ⟨_, n, cap, rfl, ⟨hn, h3, h1, h2, Nu.bytes_own ho hs⟩, ho, hb⟩
theorem own_blist {w : World} {B n c : Nat} {A : Option Addr} {m : List Nat} (hs : Nu.Small m) (hn : m.length = n) (ho : w.ownsRow B 5 1 (.slice A n c) n (Nu.vals m)) (h0 : 0 < n) : BL w A m n c := by
  obtain ⟨g, cap, e, hg⟩ := Nu.own_shape (w := w) ho (.inl h0)
  cases e
  obtain ⟨h1, h2, h3⟩ := Dt.own_len ho
  exact ⟨hn, h3, h1, h2, Nu.bytes_own ho hs⟩

set_option maxHeartbeats 4000000 in
theorem rputdot_own (w : World) (A : Option Addr) (l : List Nat) (n c : Nat) (d : Dot) (h : BL w A l n c) (hn : n ≤ 70368744177664) (hd : d.1 < 65536) (hd2 : d.2 < big) :
    Calls Try.prog 28 #[.slice A n c, dval d] w (Nu.AppPost w (l ++ dotB d)) := by
  have HB := Lib.hid (below_new w (dbox d))
  have H := Lib.hid (h.up HB.out)
  have hw : (IntKind.u64.wrap (d.1 : Int)) = (d.1 : Int) := by rw [IntKind.wrap_u64]; omega
  have HK : Hid (∀ V, Below (w.alloc (dbox d)).heap.size (w.alloc (dbox d)) V → V.cell? ⟨w.heap.size, 0, none⟩ = some (.int .u16 (d.1 : Int)) ∧ V.cell? ⟨w.heap.size, 1, none⟩ = some (.int .u64 (d.2 : Int))) := Lib.hid (fun V hV => dbox_new w d V (by rw [alloc_size] at hV; exact hV))
  clear h
  go_enter Try.func28, Try.ntmps28
  go_wp2_with fail
  generalize w.alloc (dbox d) = w1 at *
  obtain ⟨k0, k1⟩ := HK.out w1 (Below.refl _ _)
  have hb1 : d.1 < big := by show d.1 < 18446744073709551616; omega
  have C1 := fun W (hW : Below w1.heap.size w1 W) => app_later H.out (by omega) hb1 hW
  have C2 : ∀ (V W : World) (A' : Option Addr) (n' c' : Nat), BL V A' (l ++ Nu.enc d.1) n' c' → Below w1.heap.size w1 V → n' ≤ 140737488351232 → Below V.heap.size V W → Calls Try.prog 23 #[.slice A' n' c', .int .u64 (d.2 : Int)] W fun e U => Nu.AppPost w1 (l ++ Nu.enc d.1 ++ Nu.enc d.2) e U := fun V W A' n' c' hV bV hn' hW => by
    refine (Nu.rappend_any W A' (l ++ Nu.enc d.1) n' c' d.2 hV.len hV.nil (hV.up hW).at_ hn' hd2).mono ?_
    intro e U hp
    exact app_low (bV.trans (hW.mono bV.size)) hp
  have HCC := Lib.hid C2
  have hnn : n ≤ 70368744177664 := hn
  have hln := Lib.hid H.out.len
  clear H C2
  go_region_held3 (fun V => V.cell? ⟨w.heap.size, 0, none⟩ = some (.int .u16 (d.1 : Int)) ∧ V.cell? ⟨w.heap.size, 1, none⟩ = some (.int .u64 (d.2 : Int))) (first | go_keep | assumption | exact HK.out _ (by (repeat (first | exact Below.refl _ _ | assumption | apply bel_drew)))) (first
    | (go_at_call 23; (with_reducible refine (C1 _ ?_).mono ?_); (repeat (first | exact Below.refl _ _ | assumption | apply bel_drew)); rintro e V ⟨A', n', c', rfl, hV, bv⟩; have k2 := HK.out V bv)
    | (go_at_call 23; (with_reducible refine (HCC.out _ _ _ _ _ hV bv (len_more hln.out hV.len hnn) ?_).mono ?_); (repeat (first | exact Below.refl _ _ | assumption | apply bel_drew)); rintro e U ⟨g2, c2, n2, rfl, hn2, hg2, ho2, bu⟩; have k3 := HK.out U bu))
  all_goals
    go_wp2
    go_ret
    exact ⟨g2, c2, n2, rfl, by unfold dotB; rw [← List.append_assoc]; exact hn2, Nat.le_trans HB.out.size hg2, by unfold dotB; rw [← List.append_assoc]; exact Dt.own_less ho2 HB.out.size, HB.out.trans (bu.mono HB.out.size)⟩
theorem put_later {w1 W : World} {A : Option Addr} {l : List Nat} {n c : Nat} {d : Dot} (h : BL w1 A l n c) (hn : n ≤ 70368744177664) (hd : d.1 < 65536) (hd2 : d.2 < big) (hW : Below w1.heap.size w1 W) :
    Calls Try.prog 28 #[.slice A n c, dval d] W fun e V => ∃ g c2 n2, e = .returned (.slice (some ⟨g, 0, none⟩) n2 c2) ∧ (l ++ dotB d).length = n2 ∧ V.ownsRow w1.heap.size 5 1 (.slice (some ⟨g, 0, none⟩) n2 c2) n2 (Nu.vals (l ++ dotB d)) ∧ Below w1.heap.size w1 V ∧ Below W.heap.size W V := by
  refine (rputdot_own W A l n c d (h.up hW) hn hd hd2).mono ?_
  intro e V hp
  have hb := app_below hp
  obtain ⟨g, c2, n2, rfl, h1, h2, h3, h4⟩ := app_low hW hp
  exact ⟨g, c2, n2, rfl, h1, h3, h4, hb⟩
theorem lit_new (w : World) (y : Nat) : (w.alloc (.cells #[.int .u8 (y : Int)] 5)).cell? ⟨w.heap.size, 0, none⟩ = some (.int .u8 (y : Int)) := by rw [World.cell?_alloc_mark]; rfl

set_option maxHeartbeats 8000000 in
theorem rput_any (w : World) (A : Option Addr) (l : List Nat) (n c : Nat) (p : Ev.EV) (x : Evt) (h : BL w A l n c) (hn : n ≤ 549755813888) (hp : Ev.EventIs w w.heap.size p x) (hk : x.kills.length ≤ 1048576) (ht : x.txt.size ≤ 1048576) :
    Calls Try.prog 12 #[.slice A n c, p.val] w (BPost w (l ++ evtB x)) := by
  obtain ⟨L, hL⟩ : ∃ L, x.kills = L := ⟨_, rfl⟩
  have hx := hp.eq
  rw [hL] at hx hk
  subst hx
  have HB := Lib.hid (below_new w p.box)
  have H := Lib.hid (h.up HB.out)
  have HP := Lib.hid (hp.up HB.out)
  have HK : Hid (∀ V, Below (w.alloc p.box).heap.size (w.alloc p.box) V → Ev.CellsAt V ⟨w.heap.size, 0, none⟩ p) := Lib.hid (fun V hV => Ev.box_new w p V (by rw [alloc_size] at hV; exact hV))
  have HF := Lib.hid hp.fits
  have hbx : w.heap.size < (w.alloc p.box).heap.size := by rw [alloc_size]; omega
  clear h hp hL
  go_enter Try.func12, Try.ntmps12
  go_upto_region 1 with fail
  generalize w.alloc p.box = w1 at *
  go_cut [5] (fun v wx => ∃ (A2 : Option Addr) (n2 c2 : Nat), v = .slice A2 n2 c2 ∧ (l ++ dotB (p.dev, p.num) ++ [p.kind]).length = n2 ∧ wx.ownsRow w1.heap.size 5 1 (.slice A2 n2 c2) n2 (Nu.vals (l ++ dotB (p.dev, p.num) ++ [p.kind])) ∧ Below w1.heap.size w1 wx)
  case first =>
    have C1 : ∀ W, Below w1.heap.size w1 W → Calls Try.prog 28 #[.slice A n c, .agg #[.int .u16 (p.dev : Int), .int .u64 (p.num : Int)]] W fun e V => ∃ g c2 n2, e = .returned (.slice (some ⟨g, 0, none⟩) n2 c2) ∧ (l ++ dotB (p.dev, p.num)).length = n2 ∧ V.ownsRow w1.heap.size 5 1 (.slice (some ⟨g, 0, none⟩) n2 c2) n2 (Nu.vals (l ++ dotB (p.dev, p.num))) ∧ Below w1.heap.size w1 V ∧ Below W.heap.size W V := fun W (hW : Below w1.heap.size w1 W) => put_later (d := (p.dev, p.num)) H.out (by omega) HF.out.dot.1 HF.out.dot.2 hW
    have HS : Hid (∀ V, Below w1.heap.size w1 V → V.cell? ⟨w.heap.size, 0, none⟩ = some (.int .u16 (p.dev : Int)) ∧ V.cell? ⟨w.heap.size, 1, none⟩ = some (.int .u64 (p.num : Int)) ∧ V.cell? ⟨w.heap.size, 2, none⟩ = some (.int .u8 (p.kind : Int))) := Lib.hid (fun V hV => by
      obtain ⟨k0, k1, k2, _⟩ := (HK.out V hV).all
      exact ⟨k0, k1, k2⟩)
    obtain ⟨k0, k1, k2⟩ := HS.out w1 (Below.refl _ _)
    have hln : Hid (∀ n1, (l ++ dotB (p.dev, p.num)).length = n1 → n1 ≤ 70368744177664) := Lib.hid (fun n1 h1 => by
      have h2 := H.out.len
      have h3 := dotB_le (p.dev, p.num)
      rw [List.length_append] at h1
      omega)
    have hlit := Lib.hid (lit_new w1 p.kind)
    go_region_held3 (fun V => V.cell? ⟨w.heap.size, 0, none⟩ = some (.int .u16 (p.dev : Int)) ∧ V.cell? ⟨w.heap.size, 1, none⟩ = some (.int .u64 (p.num : Int)) ∧ V.cell? ⟨w.heap.size, 2, none⟩ = some (.int .u8 (p.kind : Int))) (first | exact ⟨k0, k1, k2⟩ | assumption | exact HS.out _ (by (repeat (first | exact Below.refl _ _ | assumption | apply bel_drew | apply bel_alloc)))) (first
      | (go_at_call 28; (with_reducible refine (C1 _ ?_).mono ?_); (repeat (first | exact Below.refl _ _ | assumption | apply bel_drew | apply bel_alloc)); rintro e V ⟨g1, c1, n1, rfl, hn1, ho1, bv, bw⟩; have HN1 := Lib.hid hn1; have HO1 := Lib.hid ho1; have hS1 := HS.out V bv; clear hn1 ho1)
      | (refine step_push rfl (.tmp 9) (.tmp 12) rfl rfl w1 n1 _ (l ++ dotB (p.dev, p.num)) _ p.kind rfl rfl ?_ ?_ ?_ ?_ ?_; (focus ((repeat (first | exact Below.refl _ _ | assumption | apply bel_drew | apply bel_alloc)); done)); (focus (first | exact HO1.out | exact HO1.out.alloc _)); (focus (first | exact lit_new _ _ | exact Ev.stays bw hlit.out)); (focus exact hln.out _ HN1.out); intro A5 c5 V5 ho5 hb5; have HO5 := Lib.hid ho5; have HB5 := Lib.hid hb5; have hS5 := HS.out V5 hb5; clear ho5 hb5))
    all_goals
      go_wp2
      go_meet
      exact ⟨A5, _, c5, rfl, by rw [List.length_append, HN1.out]; rfl, HO5.out, HB5.out⟩
  case rest =>
    obtain ⟨A2, n2, c2, rfl, hn2, ho2, hb2⟩ := hcut
    obtain ⟨M2, hM2⟩ : ∃ M2, l ++ dotB (p.dev, p.num) ++ [p.kind] = M2 := ⟨_, rfl⟩
    rw [hM2] at hn2 ho2
    have hk1 : p.kind < 256 := HF.out.kind
    have hf1 : p.fld < 256 := HF.out.fld
    have hc1 : p.cid < 18446744073709551616 := HF.out.cid
    have ht1 : p.txt.size ≤ 1048576 := ht
    have s2 : Nu.Small M2 := by
      rw [← hM2]
      refine Nu.small_append (Nu.small_append H.out.at_.1 (dotB_small _)) (fun y hy => ?_)
      obtain rfl := List.mem_singleton.1 hy
      exact hk1
    have hl2 : n2 ≤ n + 19 := by
      have h1 := H.out.len
      have h2 := dotB_le (p.dev, p.num)
      rw [← hn2, ← hM2, List.length_append, List.length_append, h1]
      simp only [List.length_singleton]
      omega
    have hl0 : 0 < n2 := by rw [← hn2, ← hM2, List.length_append]; simp only [List.length_singleton]; omega
    have B2 := Lib.hid (own_blist s2 hn2 ho2 hl0)
    have S2 := Lib.hid s2
    have HM := Lib.hid hM2
    have W2 := Lib.hid hb2
    clear hM2 hn2 ho2 hb2 s2
    obtain ⟨_, _, _, k3, k4, k5, k6⟩ := (HK.out wc W2.out).all
    have C3 := Nu.rappend_any wc A2 M2 n2 c2 p.cid B2.out.len B2.out.nil B2.out.at_ (by omega) hc1
    go_wp2_with fail
    refine C3.mono ?_
    intro e w3 hp3
    have hb3 := app_below hp3
    obtain ⟨g3, c3, n3, rfl, hn3, hg3, ho3, _⟩ := hp3
    have O3 := Lib.hid ho3
    have HN3 := Lib.hid hn3
    have W3 := Lib.hid (W2.out.trans (hb3.mono W2.out.size))
    have B3 := Lib.hid hb3
    have hl3 : n3 ≤ n + 28 := by
      have h1 := B2.out.len
      have h2 := enc_le p.cid
      rw [← hn3, List.length_append, h1]
      omega
    obtain ⟨_, _, _, _, m4, m5, m6⟩ := (HK.out w3 W3.out).all
    clear hb3 hn3 hg3 ho3 C3 k3 k4 k5 k6
    go_wp2_with (at_builtin; refine wpList_push rfl (.tmp 18) (.tmp 21) rfl rfl _ wc.heap.size n3 _ (M2 ++ Nu.enc p.cid) w3.heap.size p.fld rfl rfl (O3.out.alloc _) (lit_new w3 p.fld) (by omega) (Nat.le_trans B3.out.size (by rw [alloc_size]; omega)) ?_; intro A4 c4 w4 ho4 hg4; have O4 := Lib.hid ho4; have B4 := Lib.hid ((B3.out.alloc B3.out.size _).grown hg4 (Nat.le_trans B3.out.size (by rw [alloc_size]; omega)) (fun k hk => (O3.out.lt k hk).1)); clear ho4 hg4; have W4 := Lib.hid (W2.out.trans (B4.out.mono W2.out.size)); obtain ⟨_, _, _, _, _, j5, j6⟩ := (HK.out w4 W4.out).all; clear m4 m5 m6)
    have s4 : Nu.Small (M2 ++ Nu.enc p.cid ++ [p.fld]) := Nu.small_append (Nu.small_append S2.out (Nu.enc_small _)) (fun y hy => by obtain rfl := List.mem_singleton.1 hy; exact hf1)
    have hn4 : (M2 ++ Nu.enc p.cid ++ [p.fld]).length = n3 + 1 := by rw [List.length_append, HN3.out]; rfl
    have bl4 := own_blist s4 hn4 O4.out (by omega)
    have S4 := Lib.hid s4
    have C5 := Nu.ptext_any w4 A4 (M2 ++ Nu.enc p.cid ++ [p.fld]) (n3 + 1) c4 p.txt bl4.len bl4.nil bl4.at_ (by omega)
    refine C5.mono ?_
    intro e w5 hp5
    obtain ⟨A5, n5, c5, rfl, bl5, _, hb5⟩ := app_bl (Nu.small_append S4.out (Nu.small_append (Nu.enc_small _) (Nu.sb_small _))) hp5
    have BL5 := Lib.hid bl5
    have W5 := Lib.hid (W4.out.trans (hb5.mono W4.out.size))
    have hl5 : n5 ≤ n + 38 + p.txt.size := by
      have h1 := bl5.len
      have h2 := enc_le p.txt.size
      have h3 := Nu.sb_length p.txt
      rw [List.length_append, hn4, List.length_append, h3] at h1
      omega
    obtain ⟨_, _, _, _, _, _, i6⟩ := (HK.out w5 W5.out).all
    have D5 := (HP.out.up W5.out).kills
    have C6 := rputdots_any w5 A5 _ n5 c5 p.adr L p.len p.cap bl5 (by omega) D5.len D5.dots (by have h9 : L.length = p.len := D5.len; omega)
    clear bl5 hb5 C5 bl4 s4 j5 j6 D5
    go_wp2_with fail
    refine C6.mono ?_
    rintro e w6 ⟨A6, n6, c6, rfl, bl6, hb6⟩
    have BL6 := Lib.hid bl6
    have W6 := Lib.hid (HB.out.trans ((W5.out.trans (hb6.mono W5.out.size)).mono HB.out.size))
    clear bl6 hb6 C6 i6
    go_wp2
    go_ret
    refine ⟨A6, n6, c6, rfl, ?_, W6.out⟩
    have h := BL6.out
    rw [← HM.out] at h
    simp only [List.append_assoc] at h
    unfold evtB
    exact h

set_option maxHeartbeats 4000000 in
theorem rputall_any (w : World) (A : Option Addr) (l : List Nat) (n c : Nat) (A0 : Option Addr) (X : List Evt) (n0 c0 : Nat) (h : BL w A l n c) (hn : n ≤ 1048576) (he : Ev.EventsAt w w.heap.size A0 X n0 c0) (h0 : n0 ≤ 1048576) (hs : ∀ x ∈ X, Slim x) :
    Calls Try.prog 10 #[.slice A n c, .slice A0 n0 c0] w (BPost w (l ++ evtsB X)) := by
  have HE := Lib.hid he
  have HS := Lib.hid hs
  have HL := Lib.hid h.len
  have hwr : IntKind.u64.wrap (n0 : Int) = (n0 : Int) := by rw [IntKind.wrap_u64]; omega
  have CA := app_later (v := n0) h (by omega) (show n0 < 18446744073709551616 by omega) (Below.refl _ w)
  have HX : Hid (X.length = n0) := Lib.hid he.len
  clear h he hs
  go_enter Try.func10, Try.ntmps10
  go_wp2_with fail
  refine CA.mono ?_
  rintro e w1 ⟨A1, n1, c1, rfl, h1, hb1⟩
  have H1 := Lib.hid h1
  have HB1 := Lib.hid hb1
  clear h1 hb1 CA
  go_wp2_with fail
  go_loopw [5, 6] (fun v i wq => ∃ (k : Nat) (A3 : Option Addr) (n3 c3 : Nat), k ≤ n0 ∧ i = .int .i64 (k : Int) ∧ v = .slice A3 n3 c3 ∧ BL wq A3 (l ++ Nu.enc X.length ++ (X.take k).flatMap evtB) n3 c3 ∧ Below w.heap.size w wq) (fun _ i _ => n0 - (intOf i).toNat)
  case atStart => exact ⟨0, A1, n1, c1, Nat.zero_le _, rfl, rfl, by rw [List.take_zero, List.flatMap_nil, List.append_nil, HX.out]; exact H1.out, HB1.out⟩
  case round =>
    clear H1 HB1
    obtain ⟨k, A3, n3, c3, hk3, rfl, rfl, h3, hb3⟩ := hrel
    have H3 := Lib.hid h3
    have HB3 := Lib.hid hb3
    clear h3 hb3
    by_cases hlt : k < n0
    · obtain ⟨ad, p, x, rfl, hB, hlx, hp, hc⟩ := HE.out.at_ hlt
      have HN := Lib.hid (evts_next (l := l) hlx)
      have hsx := HS.out x (List.mem_of_getElem? hlx)
      have hl3 : n3 ≤ 549755813888 := by
        have h9 := H3.out.len
        have h8 := upto_len (k := k) (l := l) (U := X) HL.out HS.out
        rw [HX.out] at h8
        rw [HX.out] at h9
        omega
      have CP := rput_any wr A3 _ n3 c3 p x H3.out hl3 (hp.up HB3.out) (by have := hsx.1; omega) (by have := hsx.2; omega)
      obtain ⟨d0, d1, d2, d3, d4, d5, d6⟩ := hc.kept HB3.out
      clear hlx hp hc hsx
      go_wp2_with fail
      refine CP.mono ?_
      rintro e V ⟨A4, n4, c4, rfl, h4, hb4⟩
      have H4 := Lib.hid h4
      have HB4 := Lib.hid (HB3.out.trans (hb4.mono HB3.out.size))
      clear h4 hb4 CP d0 d1 d2 d3 d4 d5 d6
      go_wp2
      go_roundw
      case rel => exact ⟨k + 1, A4, n4, c4, hlt, by go_num, rfl, by rw [HN.out]; exact H4.out, HB4.out⟩
      case measure => simp [intOf]; omega
    · obtain rfl : k = n0 := by omega
      go_wp2
      go_ret
      refine ⟨A3, n3, c3, rfl, ?_, HB3.out⟩
      have h := H3.out
      rw [evts_all l HX.out] at h
      exact h
end Go.Proofs.Ytblgbbpbhcaodaa.Ec

/- EcodeWrites: the law's walk. -/
namespace Go.Proofs.Ytblgbbpbhcaodaa.Ec
open Go.ChangeShapes Go.WideShapes Go.ChangeAt Go.RowKit Go.Proofs.Ytblgbbpbhcaodaa.Dc
set_option linter.unusedVariables false
set_option maxRecDepth 4000

/-- bytes that come out, seen from a world before. -/
theorem post_from {V W U : World} {m : List Nat} {e : Ending} (hW : Below V.heap.size V W) (k : BPost W m e U) : BPost V m e U := by
  obtain ⟨A, n, c, h1, h2, h3⟩ := k
  exact ⟨A, n, c, h1, h2, hW.trans (h3.mono hW.size)⟩
theorem bytes_later {V W : World} {B g : Nat} {r : Option Nat} {m : List Nat} (h : Nu.PW V B g r m) (hm : m.length ≤ 140737488355328) (hW : Below V.heap.size V W) : Calls Try.prog 9 #[.pointer (some ⟨g, 0, none⟩)] W (BPost V m) :=
  (Nu.wbytes_any W B g r m (pw_up h hW) hm).mono fun e U k => post_from hW (post_clone k)
theorem put_of {V W : World} {p : Ev.EV} {x : Evt} (hp : Ev.EventIs V V.heap.size p x) (hs : Slim x) (hW : Below V.heap.size V W) : Calls Try.prog 12 #[.slice none 0 0, .agg #[.int .u16 (p.dev : Int), .int .u64 (p.num : Int), .int .u8 (p.kind : Int), .int .u64 (p.cid : Int), .int .u8 (p.fld : Int), .string p.txt, .slice p.adr p.len p.cap]] W (BPost V (evtB x)) :=
  (rput_any W none [] 0 0 p x (BL.none_ W) (by decide) (hp.up hW) (by have := hs.1; omega) (by have := hs.2; omega)).mono fun e U k => post_from hW k
theorem eq_later {V W : World} {m : List Nat} {A1 A2 : Option Addr} {n1 n2 c1 c2 : Nat} (h1 : BL V A1 m n1 c1) (h2 : BL V A2 m n2 c2) (hW : Below V.heap.size V W) : Calls Try.prog 8 #[.slice A1 n1 c1, .slice A2 n2 c2] W fun e U => e = .returned (.bool true) ∧ Below V.heap.size V U :=
  (Nu.equal_any W W.heap.size W.heap.size A1 A2 m m n1 n2 c1 c2 h1.len h2.len (h1.up hW).at_ (h2.up hW).at_).mono fun e U k => ⟨by rw [k.1, decide_eq_true rfl], by rw [← k.2]; exact hW⟩
/-- an event in a list: its seven cells. -/
abbrev Row7 (V : World) (a : Addr) (p : Ev.EV) : Prop := V.cell? a = some (.int .u16 (p.dev : Int)) ∧ V.cell? ⟨a.block, a.off + 1, none⟩ = some (.int .u64 (p.num : Int)) ∧ V.cell? ⟨a.block, a.off + 2, none⟩ = some (.int .u8 (p.kind : Int)) ∧ V.cell? ⟨a.block, a.off + 3, none⟩ = some (.int .u64 (p.cid : Int)) ∧ V.cell? ⟨a.block, a.off + 4, none⟩ = some (.int .u8 (p.fld : Int)) ∧ V.cell? ⟨a.block, a.off + 5, none⟩ = some (.string p.txt) ∧ V.cell? ⟨a.block, a.off + 6, none⟩ = some (.slice p.adr p.len p.cap)
theorem row7 {V : World} {a : Addr} {p : Ev.EV} (h : Ev.CellsAt V a p) : Row7 V a p := ⟨h.c0, h.c1, h.c2, h.c3, h.c4, h.c5, h.c6⟩

set_option maxHeartbeats 16000000 in
theorem writes_walk (P : PEc) (w : World) (A1 : Option Addr) (l : List Evt) (n1 c1 : Nat) (hl : Ev.EventsAt w w.heap.size A1 l n1 c1) :
    Calls Try.prog 3 #[.slice A1 n1 c1] w fun e w' => e = .returned (.bool true) ∧ Below w.heap.size w w' := by
  have C1 := Ev.rfew_any w A1 l n1 c1 12 (by decide) hl
  by_cases hf : Ev.fewB l 12 = true
  · rw [hf] at C1
    have HL := Lib.hid hl
    have HF := Lib.hid (few_slim hf)
    have hn1 : n1 ≤ 12 := by have := HF.out.1; have := hl.len; omega
    have hlen := evtsB_le HF.out.2 HF.out.1
    have W0 := Lib.hid (Nu.PW.new w)
    have O0 := Lib.hid (hl.below (below_new w (.cells #[.slice none 0 0] 27)))
    have Y0 := Lib.hid (below_new w (.cells #[.slice none 0 0] 27))
    clear hl hf
    go_enter Try.func3, Try.ntmps3
    go_wp2_with fail
    refine C1.mono ?_
    rintro e w1 ⟨rfl, rfl⟩
    go_wp2_with fail
    have C2 := P.putall _ _ _ _ _ A1 l n1 c1 W0.out Y0.out.size O0.out (by omega) HF.out.2 (by decide)
    generalize w1.alloc (.cells #[.slice none 0 0] 27) = v1 at *
    refine C2.mono ?_
    rintro e v2 ⟨rfl, r2, p2, _, y2⟩
    rw [List.nil_append] at p2
    have W1 := Lib.hid p2
    have Y1 := Lib.hid (Y0.out.trans (Nu.below_two y2 (Nat.le_refl _) (fun q e => by cases e) Y0.out.size))
    clear C1 C2 W0 O0 Y0 p2 y2
    go_wp2_with fail
    have C3 := Nu.wbytes_any v2 _ _ _ _ W1.out (by omega)
    refine C3.mono ?_
    rintro e v3 q3
    obtain ⟨A3, n3, c3, rfl, l3, b3⟩ := post_clone q3
    have L3 := Lib.hid l3
    have Y2 := Lib.hid (Y1.out.trans (b3.mono Y1.out.size))
    clear C3 W1 Y1 q3 l3 b3
    go_wp2_with fail
    have C4 := rputall_any v3 none [] 0 0 A1 l n1 c1 (BL.none_ v3) (by decide) (HL.out.up Y2.out) (by omega) HF.out.2
    refine C4.mono ?_
    rintro e v4 ⟨A4, n4, c4, rfl, l4, b4⟩
    rw [List.nil_append] at l4
    have L4 := Lib.hid l4
    have L3' := Lib.hid (L3.out.up b4)
    have Y3 := Lib.hid (Y2.out.trans (b4.mono Y2.out.size))
    clear C4 L3 l4 b4 Y2
    go_wp2_with fail
    refine (eq_later L3'.out L4.out (Below.refl _ _)).mono ?_
    rintro e v5 ⟨rfl, b5⟩
    have Y4 := Lib.hid (Y3.out.trans (b5.mono Y3.out.size))
    clear L3' L4 Y3 b5
    go_wp2_with fail
    go_loopw [4] (fun i wr => ∃ k : Nat, k ≤ n1 ∧ i = .int .i64 (k : Int) ∧ Below w1.heap.size w1 wr) (fun i _ => n1 - (intOf i).toNat)
    case atStart => exact ⟨0, Nat.zero_le _, rfl, Y4.out⟩
    case round =>
      obtain ⟨k, hk, rfl, hw⟩ := hrel
      have HW := Lib.hid hw
      clear hw Y4
      by_cases hlt : k < n1
      · obtain ⟨ad, p, x, rfl, hB, hlx, hp, cp⟩ := (HL.out.up HW.out).at_ hlt
        have hsx := Lib.hid (HF.out.2 x (List.mem_of_getElem? hlx))
        have hsk : x.kills.length ≤ 300 := hsx.out.1
        have hst : x.txt.size ≤ 200 := hsx.out.2
        have hxl := evtB_len x
        have W5 := Lib.hid (Nu.PW.new wr)
        have O5 := Lib.hid (hp.below (below_new wr (.cells #[.slice none 0 0] 27)))
        have Y5 := Lib.hid (below_new wr (.cells #[.slice none 0 0] 27))
        have HP := Lib.hid hp
        have HCP := Lib.hid cp
        obtain ⟨x0, x1, x2, x3, x4, x5, x6⟩ := cp.kept Y5.out
        clear hlx hp cp
        go_upto_region 11 with fail
        have C5 := P.put _ _ _ _ _ p x W5.out Y5.out.size O5.out (by omega) (by omega) (by decide)
        simp only [Ev.EV.val] at C5
        generalize wr.alloc (.cells #[.slice none 0 0] 27) = u1 at *
        go_wp2_with fail
        refine C5.mono ?_
        rintro e u2 ⟨rfl, r6, p6, _, y6⟩
        rw [List.nil_append] at p6
        have W6 := Lib.hid p6
        have Y6 := Lib.hid (Y5.out.trans (Nu.below_two y6 (Nat.le_refl _) (fun q e => by cases e) Y5.out.size))
        have P6 := Lib.hid (HP.out.up Y6.out)
        have R6 := Lib.hid (HCP.out.kept Y6.out)
        have Z6 := Lib.hid (HW.out.trans (Y6.out.mono HW.out.size))
        clear C5 W5 O5 Y5 HP HCP p6 y6 x0 x1 x2 x3 x4 x5 x6
        have HS : Hid (∀ V, Below u2.heap.size u2 V → Row7 V (ad.add (k * 7)) p) := Lib.hid (fun V hV => row7 (R6.out.kept hV))
        obtain ⟨x0, x1, x2, x3, x4, x5, x6⟩ := HS.out u2 (Below.refl _ _)
        have hxm : (evtB x).length ≤ 140737488355328 := by omega
        go_upto_region 12 with fail
        go_cut [37] (fun v wx => v = .bool false ∧ Below u2.heap.size u2 wx)
        case first =>
          go_region_held3 (fun V => Row7 V (ad.add (k * 7)) p) (first | exact ⟨x0, x1, x2, x3, x4, x5, x6⟩ | assumption | exact HS.out _ (by (repeat (first | exact Below.refl _ _ | assumption | apply bel_drew)))) (first
            | (go_at_call 8; (with_reducible refine (eq_later (V := V2) M2.out L2.out ?_).mono ?_); (repeat (first | exact Below.refl _ _ | assumption | apply bel_drew)); rintro e V3 ⟨rfl, b3⟩; have B3 := Lib.hid (B2.out.trans (b3.mono B2.out.size)); have K3 := HS.out V3 B3.out; clear b3)
            | (go_at_call 12; (with_reducible refine (put_of (V := V1) (P6.out.up B1.out) hsx.out ?_).mono ?_); (repeat (first | exact Below.refl _ _ | assumption | apply bel_drew)); rintro e V2 ⟨a2, q2, s2, rfl, h2, b2⟩; have B2 := Lib.hid (B1.out.trans (b2.mono B1.out.size)); have K2 := HS.out V2 B2.out; have M2 := Lib.hid (L1.out.up b2); have L2 := Lib.hid h2; clear h2 b2)
            | (go_at_call 9; (with_reducible refine (bytes_later (V := u2) W6.out hxm ?_).mono ?_); (repeat (first | exact Below.refl _ _ | assumption | apply bel_drew)); rintro e V1 ⟨a1, q1, s1, rfl, h1, b1⟩; have B1 := Lib.hid b1; have K1 := HS.out V1 b1; have L1 := Lib.hid h1; clear h1 b1))
          all_goals
            go_wp2
            go_meet
            exact ⟨rfl, B3.out⟩
        case rest =>
          obtain ⟨rfl, h3⟩ := hcut
          have H3 := Lib.hid h3
          clear h3 W6 x0 x1 x2 x3 x4 x5 x6 R6
          have P7 := Lib.hid (P6.out.up H3.out)
          have C7 := P.encode _ p x P7.out (by omega) (by omega)
          simp only [Ev.EV.val] at C7
          obtain ⟨x0, x1, x2, x3, x4, x5, x6⟩ := HS.out _ H3.out
          go_wp2_with fail
          refine C7.mono ?_
          rintro e u4 ⟨A7, n7, c7, rfl, l7, b7⟩
          have P8 := Lib.hid (P7.out.up b7)
          have H8 := Lib.hid (H3.out.trans (b7.mono H3.out.size))
          have L7 := Lib.hid l7
          clear C7 b7 l7 x0 x1 x2 x3 x4 x5 x6 P7 H3
          obtain ⟨x0, x1, x2, x3, x4, x5, x6⟩ := HS.out u4 H8.out
          have C8 := Ev.rgood_any u4 p x P8.out
          simp only [Ev.EV.val] at C8
          cases hgd : Ev.goodE x with
          | false =>
            rw [hgd] at C8 L7
            have L8 : Hid (BL u4 A7 [] n7 c7) := Lib.hid (by have h := L7.out; rwa [if_neg (by decide)] at h)
            rw [if_neg (by decide)]
            clear L7 hgd
            have hn7 : n7 = 0 := L8.out.len.symm
            subst hn7
            go_wp2_with fail
            refine C8.mono ?_
            rintro e u5 ⟨rfl, b9⟩
            have H9 := Lib.hid (Z6.out.trans ((H8.out.trans (b9.mono H8.out.size)).mono Z6.out.size))
            clear C8 b9 x0 x1 x2 x3 x4 x5 x6 L8
            go_wp2
            go_roundw
            case rel => exact ⟨k + 1, by omega, by go_num, H9.out⟩
            case measure => simp [intOf]; omega
          | true =>
            rw [hgd] at C8 L7
            have L8 : Hid (BL u4 A7 (evtB x) n7 c7) := Lib.hid (by have h := L7.out; rwa [if_pos rfl] at h)
            rw [if_pos rfl]
            clear L7 hgd
            go_wp2_with fail
            refine C8.mono ?_
            rintro e u5 ⟨rfl, b9⟩
            have P9 := Lib.hid (P8.out.up b9)
            have L9 := Lib.hid (L8.out.up b9)
            have H9 := Lib.hid (H8.out.trans (b9.mono H8.out.size))
            clear C8 b9 x0 x1 x2 x3 x4 x5 x6 P8 L8 H8
            obtain ⟨x0, x1, x2, x3, x4, x5, x6⟩ := HS.out u5 H9.out
            go_wp2_with fail
            refine (put_of (V := u5) P9.out hsx.out (Below.refl _ _)).mono ?_
            rintro e u6 ⟨A10, n10, c10, rfl, l10, b10⟩
            have L10 := Lib.hid l10
            have L9' := Lib.hid (L9.out.up b10)
            have H10 := Lib.hid (H9.out.trans (b10.mono H9.out.size))
            clear l10 b10 L9 P9 H9 x0 x1 x2 x3 x4 x5 x6
            go_wp2_with fail
            refine (eq_later (V := u6) L9'.out L10.out (Below.refl _ _)).mono ?_
            rintro e u7 ⟨rfl, b11⟩
            have H11 := Lib.hid (Z6.out.trans ((H10.out.trans (b11.mono H10.out.size)).mono Z6.out.size))
            clear b11 L9' L10 H10
            go_wp2
            go_roundw
            case rel => exact ⟨k + 1, by omega, by go_num, H11.out⟩
            case measure => simp [intOf]; omega
      · obtain rfl : k = n1 := by omega
        go_wp2_with fail
        refine (works_any P _).mono ?_
        rintro e v8 ⟨rfl, b10⟩
        have Y7 := Lib.hid (HW.out.trans (b10.mono HW.out.size))
        clear b10
        go_wp2
        go_ret
        exact ⟨rfl, Y7.out⟩
  · rw [Bool.not_eq_true] at hf
    rw [hf] at C1
    clear hf hl
    go_enter Try.func3, Try.ntmps3
    go_wp2_with fail
    refine C1.mono ?_
    rintro e w1 ⟨rfl, rfl⟩
    go_wp2_with fail
    refine (works_any P _).mono ?_
    rintro e w2 ⟨rfl, b2⟩
    have HE := Lib.hid b2
    clear b2 C1
    go_wp2
    go_ret
    exact ⟨rfl, HE.out⟩
end Go.Proofs.Ytblgbbpbhcaodaa.Ec

/- Walks over a writer, step by step, beside what another call made; a context that came out apart. -/
namespace Go.Proofs.Ytblgbbpbhcaodaa.Dc
open Go.ChangeShapes Go.WideShapes Go.ChangeAt Go.RowKit
set_option linter.unusedVariables false
set_option maxRecDepth 4000

/-- a writer that began in world w, and what it has by now. -/
structure WS (w V : World) (B g : Nat) (rb : Option Nat) (m : List Nat) : Prop where
  now : ∃ r, Nu.PW V B g r m ∧ (r = rb ∨ ∀ k, r = some k → w.heap.size ≤ k)
  two : Nu.Two w V g rb
theorem WS.start {w : World} {B g : Nat} {rb : Option Nat} {m : List Nat} (h : Nu.PW w B g rb m) : WS w w B g rb m := ⟨⟨rb, h, .inl rfl⟩, ⟨rfl, rfl, rfl, Nat.le_refl _, fun _ _ _ _ => rfl⟩⟩
theorem two_below {w V : World} {g : Nat} {rb : Option Nat} (h : Below w.heap.size w V) : Nu.Two w V g rb := ⟨h.os, h.tape, h.output, h.size, fun k hk _ _ => h.block k hk⟩
theorem WS.more {w V U : World} {B g : Nat} {rb : Option Nat} {m : List Nat} (h : WS w V B g rb m) (hb : Below V.heap.size V U) : WS w U B g rb m := by
  obtain ⟨r, h1, h2⟩ := h.now
  exact ⟨⟨r, pw_up h1 hb, h2⟩, Nu.two_trans h.two (two_below (g := g) (rb := rb) hb) (.inl rfl)⟩
/-- a call of the writer's. -/
theorem WS.step {w V : World} {B g f : Nat} {rb : Option Nat} {m m2 : List Nat} {args : Array Value} (h : WS w V B g rb m) (hc : ∀ r, Nu.PW V B g r m → Calls Try.prog f args V (Nu.WPost V B g r m2)) :
    Calls Try.prog f args V fun e U => e = .returned (.tuple #[]) ∧ WS w U B g rb m2 := by
  obtain ⟨r, h1, h2⟩ := h.now
  refine (hc r h1).mono ?_
  rintro e U ⟨rfl, r', k1, k2, k3⟩
  refine ⟨rfl, ⟨r', k1, ?_⟩, Nu.two_trans h.two k3 h2⟩
  rcases k2 with rfl | k2
  · exact h2
  · exact .inr fun k e => Nat.le_trans h.two.size (k2 k e)
theorem WS.post {w V : World} {B g : Nat} {rb : Option Nat} {m : List Nat} (h : WS w V B g rb m) : Nu.WPost w B g rb m (.returned (.tuple #[])) V := by
  obtain ⟨r, h1, h2⟩ := h.now
  exact ⟨rfl, r, h1, h2, h.two⟩
/-- what was made first, told from the world ahead of it. -/
theorem WS.from {w w1 V : World} {B g : Nat} {rb : Option Nat} {m : List Nat} (h : WS w1 V B g rb m) (hb : Below w.heap.size w w1) : WS w V B g rb m := by
  obtain ⟨r, h1, h2⟩ := h.now
  refine ⟨⟨r, h1, ?_⟩, Nu.two_trans (two_below hb) h.two (.inl rfl)⟩
  rcases h2 with h2 | h2
  · exact .inl h2
  · exact .inr fun k e => Nat.le_trans hb.size (h2 k e)
theorem WS.pw {w V : World} {B g : Nat} {rb : Option Nat} {m : List Nat} (h : WS w V B g rb m) : ∃ r, Nu.PW V B g r m := by
  obtain ⟨r, h1, _⟩ := h.now
  exact ⟨r, h1⟩
theorem lies_two {w V : World} {g : Nat} {rb : Option Nat} {A : Option Addr} {vs : List Value} (h : Dt.Lies w w.heap.size A vs) (ht : Nu.Two w V g rb) (hg : ∀ ad, A = some ad → ad.block ≠ g ∧ some ad.block ≠ rb) : Dt.Lies V V.heap.size A vs := fun hl => by
  obtain ⟨ad, e, hB, hc⟩ := h hl
  refine ⟨ad, e, Nat.lt_of_lt_of_le hB ht.size, fun j u hu => ?_⟩
  obtain ⟨h1, h2⟩ := hg ad e
  have hb := ht.block ad.block hB h1 h2
  have hc := hc j u hu
  have : V.cell? (ad.add j) = w.cell? (ad.add j) := by
    have e2 : (ad.add j).block = ad.block := Dt.block_add ..
    unfold World.cell?
    rw [e2, hb]
  rw [this]
  exact hc
theorem DL.two {B0 n c g : Nat} {rb : Option Nat} {V U : World} {A : Option Addr} {l : List Dot} (h : DL B0 V A l n c) (ht : Nu.Two V U g rb) (hB : g < B0) (hr : ∀ k, rb = some k → k < B0) : DL B0 U A l n c :=
  ⟨h.len, h.nil, h.cap, h.max, ⟨h.dots.1, lies_two h.dots.2 ht (fun ad e => by have := h.far ad e; exact ⟨by omega, fun e => by have := hr _ e.symm; omega⟩)⟩, h.far⟩
/-- calls told from a world in between. -/
theorem WS.join {w V U : World} {B g : Nat} {rb r : Option Nat} {m2 : List Nat} (h2 : r = rb ∨ ∀ k, r = some k → w.heap.size ≤ k) (ht : Nu.Two w V g rb) (k : WS V U B g r m2) : WS w U B g rb m2 := by
  obtain ⟨r', k1, k2⟩ := k.now
  refine ⟨⟨r', k1, ?_⟩, Nu.two_trans ht k.two h2⟩
  rcases k2 with rfl | k2
  · exact h2
  · exact .inr fun q e => Nat.le_trans ht.size (k2 q e)
/-- cells of a block that is neither the writer's nor its row. -/
theorem two_cell {w V : World} {g bx : Nat} {rb : Option Nat} (ht : Nu.Two w V g rb) (hb : bx < w.heap.size) (h1 : bx ≠ g) (h2 : some bx ≠ rb) (i : Nat) : V.cell? ⟨bx, i, none⟩ = w.cell? ⟨bx, i, none⟩ := by
  unfold World.cell?
  rw [ht.block bx hb h1 h2]
/-- a writer at hand, and a new box beside it: all that a few calls with the box need. -/
structure Side (w V : World) (B g bx : Nat) (m : List Nat) (r : Option Nat) : Prop where
  ws : WS w V B g r m
  g_ne : bx ≠ g
  r_ne : some bx ≠ r
  lt : bx < w.heap.size
theorem Side.cell {w V : World} {B g bx : Nat} {m : List Nat} {r : Option Nat} (h : Side w V B g bx m r) (i : Nat) : V.cell? ⟨bx, i, none⟩ = w.cell? ⟨bx, i, none⟩ := two_cell h.ws.two h.lt h.g_ne h.r_ne i
theorem side_new {w V : World} {B g : Nat} {rb : Option Nat} {m : List Nat} (h : WS w V B g rb m) (o : Obj) : ∃ r, (r = rb ∨ ∀ k, r = some k → w.heap.size ≤ k) ∧ Nu.Two w (V.alloc o) g rb ∧ Side (V.alloc o) (V.alloc o) B g V.heap.size m r := by
  obtain ⟨r, h1, h2⟩ := h.now
  refine ⟨r, h2, (h.more (below_new V o)).two, WS.start (pw_up h1 (below_new V o)), ?_, fun e => ?_, by rw [alloc_size]; omega⟩
  · have := h1.base.2; omega
  · have := (h1.row _ e.symm).2; omega
theorem pr_new {w : World} {h B e : Nat} {l : List Nat} (k : Nu.PR w h B l e) (hB : B ≤ h) (o : Obj) : Nu.PR (w.alloc o) h B l e :=
  k.kept (Nu.turn_below (below_new w o) none) (Nat.le_of_lt (Nat.lt_of_le_of_lt hB k.lt)) (fun e => by cases e) (fun q e => by cases e)
theorem pr_below {w V : World} {h B e : Nat} {l : List Nat} (k : Nu.PR w h B l e) (hB : B ≤ h) (hb : Below w.heap.size w V) : Nu.PR V h B l e :=
  k.kept (Nu.turn_below hb none) (Nat.le_of_lt (Nat.lt_of_le_of_lt hB k.lt)) (fun e => by cases e) (fun q e => by cases e)
theorem pr_set {w : World} {h B e g : Nat} {l : List Nat} (k : Nu.PR w h B l e) (hB : B ≤ h) (hg : h < g) (i : Nat) (u : Value) : Nu.PR (w.setCell ⟨g, i, none⟩ u) h B l e :=
  k.kept (Nu.turn_set w g i u) (Nat.le_of_lt (Nat.lt_of_le_of_lt hB k.lt)) (fun e => by cases e; omega) (fun k hk => by cases hk; omega)
theorem pr_row {w V : World} {h B e : Nat} {l : List Nat} {row : Option Nat} (k : Nu.PR w h B l e) (hB : B ≤ h) (hg : w.grownBy V row) (hr : ∀ q, row = some q → h < q) : Nu.PR V h B l e :=
  k.kept hg (Nat.le_of_lt (Nat.lt_of_le_of_lt hB k.lt)) (fun e => by have := hr h e.symm; omega) (fun q e => Nat.le_trans hB (Nat.le_of_lt (hr q e)))
end Go.Proofs.Ytblgbbpbhcaodaa.Dc

/- Words for the program's reading, and the contract of its device. -/
namespace Go.Proofs.Ytblgbbpbhcaodaa.Dt
open Go.ChangeShapes Go.WideShapes Go.ChangeAt Go.RowKit
set_option maxRecDepth 4000
theorem pgood_x (w : World) (d : Dot) :
    Calls Try.prog 53 #[.agg #[.int .u16 (d.1 : Int), .int .u64 (d.2 : Int)]] w fun e w' => e = .returned (.bool (mayD d)) ∧ w' = w.alloc (.cells #[.int .u16 (d.1 : Int), .int .u64 (d.2 : Int)] 37) := by
  obtain ⟨a, n⟩ := d
  by_cases c1 : 1 ≤ a
  · have d1 : ((a : Int) != 0) = true := by rw [bne_iff_ne]; omega
    by_cases c2 : 1 ≤ n
    · have d2 : ((n : Int) != 0) = true := by rw [bne_iff_ne]; omega
      have hd : mayD (a, n) = decide ((n : Int) ≤ 281474976710655) := decide_eq_decide.2 ⟨fun h => by have := h.2.2; simp at this; omega, fun h => ⟨c1, c2, by simp; omega⟩⟩
      rw [hd]
      clear hd
      go_enter Try.func53, Try.ntmps53
      go_wp2
      go_ret
      exact ⟨rfl, rfl⟩
    · have hd : mayD (a, n) = false := decide_eq_false (fun h => c2 h.2.1)
      have d2 : ((n : Int) != 0) = false := by rw [bne_eq_false_iff_eq]; omega
      rw [hd]
      clear hd
      go_enter Try.func53, Try.ntmps53
      go_wp2
      go_ret
      exact ⟨rfl, rfl⟩
  · have hd : mayD (a, n) = false := decide_eq_false (fun h => c1 h.1)
    have d1 : ((a : Int) != 0) = false := by rw [bne_eq_false_iff_eq]; omega
    rw [hd]
    clear hd
    go_enter Try.func53, Try.ntmps53
    go_wp2
    go_ret
    exact ⟨rfl, rfl⟩
end Go.Proofs.Ytblgbbpbhcaodaa.Dt
namespace Go.Proofs.Ytblgbbpbhcaodaa.Dc
open Go.ChangeShapes Go.WideShapes Go.ChangeAt Go.RowKit
set_option linter.unusedVariables false
set_option maxRecDepth 4000

/-- a number there is only where no error is. -/
theorem num_zero {s : St} (hs : Sound s) (h : (numS s).2 ≠ 0) : numN s = 0 := by
  by_cases he : s.2 = 0
  · have h1 : Nu.numE s.1 ≠ 0 := fun e => h (stop_iff.2 ⟨he, e⟩)
    unfold numN
    cases hl : s.1 with
    | nil => rfl
    | cons x r =>
      rw [hl] at h1
      rw [Nu.numV_cons]
      split
      · rename_i hc
        exfalso
        apply h1
        show (if Nu.form x r = true then (if x ≤ r.length then 0 else 2) else 4) = 0
        rw [if_pos hc.1, if_pos hc.2]
      · rfl
  · unfold numN
    rw [hs he]
    rfl
theorem sound_pr {w : World} {h B e : Nat} {l : List Nat} (k : Nu.PR w h B l e) : Sound (l, e) := fun he => by
  obtain ⟨A, n, c, _, _, _, _, _, _, q7⟩ := k
  exact q7 he
theorem fail_self {s : St} (hs : Sound s) (h : s.2 ≠ 0) : failS 4 s = s := by
  obtain ⟨a, e⟩ := s
  show ([], Nu.stopE e 4) = (a, e)
  rw [show a = [] from hs h, stop_nz h]
theorem pdev_any (w : World) (h B : Nat) (s : St) (k : Nu.PR w h B s.1 s.2) (hB : B ≤ h) :
    Calls Try.prog 82 #[.pointer (some ⟨h, 0, none⟩)] w (Nu.PPost w h B (.int .u16 ((uptoN 65535 s : Nat) : Int)) (uptoS 65535 s).1 (uptoS 65535 s).2) := by
  have C1 : Calls Try.prog 99 #[.pointer (some ⟨h, 0, none⟩), .int .u64 (65535 : Int)] w (Nu.PPost w h B (.int .u64 ((uptoN 65535 s : Nat) : Int)) (uptoS 65535 s).1 (uptoS 65535 s).2) := Nu.upto_any w h B s.1 s.2 65535 k hB
  have hd := uptoN_le 65535 s
  generalize uptoN 65535 s = dev at *
  generalize uptoS 65535 s = s1 at *
  have hw16 : IntKind.u16.wrap (dev : Int) = (dev : Int) := by rw [IntKind.wrap_u16]; omega
  clear k hd
  go_enter Try.func82, Try.ntmps82
  go_wp2_with fail
  refine C1.mono ?_
  rintro r w1 ⟨rfl, k1, g1⟩
  have K1 := Lib.hid k1
  have G1 := Lib.hid g1
  clear k1 g1 C1
  go_wp2
  go_ret
  exact ⟨rfl, K1.out, G1.out⟩
/-- a number is read. -/
theorem pnum_st (w : World) (h B : Nat) (s : St) (k : Nu.PR w h B s.1 s.2) (hB : B ≤ h) :
    Calls Try.prog 40 #[.pointer (some ⟨h, 0, none⟩)] w (Nu.PPost w h B (.int .u64 ((numN s : Nat) : Int)) (numS s).1 (numS s).2) := Nu.num_any w h B s.1 s.2 k hB
end Go.Proofs.Ytblgbbpbhcaodaa.Dc

/- The contracts of the program's Dot, of the function that Dots hands to listOf, of listOf at dots, and of Dots, of layer dcode. -/
namespace Go.Proofs.Ytblgbbpbhcaodaa.Dc
open Go.ChangeShapes Go.WideShapes Go.ChangeAt Go.RowKit
set_option linter.unusedVariables false
set_option maxRecDepth 4000

theorem dotR_may {s : St} (hs : Sound s) (hm : Dt.mayD (dotN s) = true) : dotR s = (dotN s, dotS s) := by
  refine dotR_good ?_ hm
  rcases Nat.eq_zero_or_pos (dotS s).2 with h | h
  · exact h
  · have h1 := num_zero (s := uptoS 65535 s) (upto_sound hs) (show (dotS s).2 ≠ 0 by omega)
    have h2 := (Dt.may_iff _).1 hm
    have h3 : (dotN s).2 = numN (uptoS 65535 s) := rfl
    omega
theorem dotR_not {s : St} (hm : Dt.mayD (dotN s) = false) : dotR s = ((0, 0), failS 4 (dotS s)) := dotR_no (fun h => by rw [hm] at h; cases h.2)

set_option maxHeartbeats 4000000 in
theorem pdot_any (w : World) (h B : Nat) (l : List Nat) (e : Nat) (k : Nu.PR w h B l e) (hB : B ≤ h) :
    Calls Try.prog 72 #[.pointer (some ⟨h, 0, none⟩)] w (Nu.PPost w h B (dval (dotR (l, e)).1) (dotR (l, e)).2.1 (dotR (l, e)).2.2) := by
  have hh : h < w.heap.size := k.lt
  have K0 := Lib.hid (pr_new k hB (dbox (0, 0)))
  have G0 := Lib.hid (grown_new (Nu.turn_refl w (some h)) (dbox (0, 0)))
  have R0 := Lib.hid (Nu.At.new w 37 #[.int .u16 0, .int .u64 0])
  have C1 := pdev_any (w.alloc (dbox (0, 0))) h B (l, e) K0.out hB
  have hS : dotS (l, e) = numS (uptoS 65535 (l, e)) := rfl
  have hN : dotN (l, e) = (uptoN 65535 (l, e), numN (uptoS 65535 (l, e))) := rfl
  have hf := dotN_fit (s := (l, e)) (Nu.small_of k)
  have hgood := dotR_may (s := (l, e)) (sound_pr k)
  have hno := dotR_not (s := (l, e))
  obtain ⟨D, hD⟩ : ∃ D, dotR (l, e) = D := ⟨_, rfl⟩
  rw [hD, hS, hN] at hgood hno
  rw [hN] at hf
  rw [hD]
  obtain ⟨dev, hdev⟩ : ∃ dev, uptoN 65535 (l, e) = dev := ⟨_, rfl⟩
  obtain ⟨s1, hs1⟩ : ∃ s1, uptoS 65535 (l, e) = s1 := ⟨_, rfl⟩
  obtain ⟨num, hnum⟩ : ∃ num, numN s1 = num := ⟨_, rfl⟩
  obtain ⟨s2, hs2⟩ : ∃ s2, numS s1 = s2 := ⟨_, rfl⟩
  rw [hdev, hs1, hnum, hs2] at hgood hno
  rw [hdev, hs1, hnum] at hf
  rw [hdev, hs1] at C1
  have HG := Lib.hid hgood
  have HNO := Lib.hid hno
  have hd1 : dev < 65536 := hf.1
  have HNUM := Lib.hid hnum
  have HS2 := Lib.hid hs2
  clear hS hN hf hD hgood hno hdev hs1 hnum hs2 k
  go_enter Try.func72, Try.ntmps72
  go_wp2_with fail
  refine C1.mono ?_
  rintro r w1 ⟨rfl, k1, g1⟩
  have C2 := pnum_st w1 h B s1 k1 hB
  rw [HNUM.out, HS2.out] at C2
  have G1 := Lib.hid (G0.out.trans g1)
  have R1 := Lib.hid (R0.out.kept g1 (fun e => by cases e; omega))
  clear k1 g1 K0 G0 R0 C1
  go_wp2_with fail
  refine C2.mono ?_
  rintro r w2 ⟨rfl, k2, g2⟩
  have K2 := Lib.hid (pr_new k2 hB (dbox (dev, num)))
  have G2 := Lib.hid (grown_new (G1.out.trans g2) (dbox (dev, num)))
  have hs2 : w.heap.size < w2.heap.size := Nat.lt_of_lt_of_le R1.out.lt g2.size
  have R2 := Lib.hid ((R1.out.kept g2 (fun e => by cases e; omega)).kept (Nu.turn_below (below_new w2 (dbox (dev, num))) none) (by simp))
  have V2 := Lib.hid (dbox_new w2 (dev, num))
  clear k2 g2 G1 R1 C2
  obtain ⟨b0, b1⟩ := V2.out _ (by have h := Below.refl (w2.alloc (dbox (dev, num))).heap.size (w2.alloc (dbox (dev, num))); rw [alloc_size] at h; exact h)
  rw [show w2.heap.size + 1 = (w2.alloc (dbox (dev, num))).heap.size from (alloc_size _ _).symm] at V2
  go_wp2_with fail
  generalize w2.alloc (dbox (dev, num)) = w3 at *
  have HGd := Lib.hid (Dt.pgood_x w3 (dev, num))
  have HBG := Lib.hid (below_new w3 (dbox (dev, num)))
  have K3 := Lib.hid (pr_new K2.out hB (dbox (dev, num)))
  have G3 := Lib.hid (grown_new G2.out (dbox (dev, num)))
  have R3 := Lib.hid (R2.out.kept (Nu.turn_below HBG.out none) (by simp))
  obtain ⟨b2, b3⟩ := V2.out _ HBG.out
  cases hm : Dt.mayD (dev, num) with
  | true =>
    rw [hm] at HGd
    have HD := Lib.hid (HG.out hm)
    have Q3 := R3.out.set 0 (.int .u16 (dev : Int))
    have Q4 := Q3.set 1 (.int .u64 (num : Int))
    have z0 := R3.out.cell 0
    have z1 := Q3.cell 1
    have f0 := R3.out.frozen 0
    have f1 := Q3.frozen 1
    have g0 := Q4.cell 0
    have g1 := Q4.cell 1
    simp at z0 z1 g0 g1
    have KF := Lib.hid (pr_set (pr_set K3.out hB hh 0 (.int .u16 (dev : Int))) hB hh 1 (.int .u64 (num : Int)))
    have GF := Lib.hid (grown_set (grown_set G3.out (Nat.le_refl _) 0 (.int .u16 (dev : Int))) (Nat.le_refl _) 1 (.int .u64 (num : Int)))
    clear Q3 Q4 HG HNO
    refine HGd.out.mono ?_
    rintro r w4 ⟨rfl, rfl⟩
    generalize w3.alloc (dbox (dev, num)) = w4 at *
    go_wp2
    refine bodyPost_ret (v := dval (dev, num)) ?_ rfl ?_
    · simp [results, Try.f72, go_sem, g0, g1]
    · rw [HD.out]
      exact ⟨rfl, KF.out, GF.out⟩
  | false =>
    rw [hm] at HGd
    have HD := Lib.hid (HNO.out hm)
    have CF := Nu.fail_any _ h B _ _ 4 K3.out hB (by decide)
    clear HG HNO b2 b3
    refine HGd.out.mono ?_
    rintro r w4 ⟨rfl, rfl⟩
    go_wp2_with fail
    refine CF.mono ?_
    rintro r w5 ⟨rfl, k5, g5⟩
    have R5 := Lib.hid (R3.out.kept g5 (fun e => by cases e; omega))
    have G5 := Lib.hid (G3.out.trans g5)
    have K5 := Lib.hid k5
    have Q3 := R5.out.set 0 (.int .u16 0)
    have Q4 := Q3.set 1 (.int .u64 0)
    have z0 := R5.out.cell 0
    have z1 := Q3.cell 1
    have f0 := R5.out.frozen 0
    have f1 := Q3.frozen 1
    have g0 := Q4.cell 0
    have g1 := Q4.cell 1
    simp at z0 z1 g0 g1
    have KF := Lib.hid (pr_set (pr_set K5.out hB hh 0 (.int .u16 0)) hB hh 1 (.int .u64 0))
    have GF := Lib.hid (grown_set (grown_set G5.out (Nat.le_refl _) 0 (.int .u16 0)) (Nat.le_refl _) 1 (.int .u64 0))
    clear Q3 Q4 k5 g5 CF
    go_wp2
    refine bodyPost_ret (v := dval (0, 0)) ?_ rfl ?_
    · simp [results, Try.f72, go_sem, g0, g1]
    · rw [HD.out]
      exact ⟨rfl, KF.out, GF.out⟩

/-- the last dot that was read; ahead of all the empty one. -/
def lastD (o : List Dot) : Dot := o.getLast?.getD (0, 0)
theorem last_snoc (o : List Dot) (d : Dot) : lastD (o ++ [d]) = d := by
  unfold lastD
  rw [List.getLast?_append]
  rfl
/-- a dot is read that is to stand behind this one. -/
def closS (x : Dot) (s : St) : St := if Dt.aheadD x (dotR s).1 = true then (dotR s).2 else failS 4 (dotR s).2
theorem clos_last {o : List Dot} {s : St} (hs : Sound s) : closS (lastD o) s = dotsS o s := by
  unfold closS
  by_cases h : (dotR s).2.2 = 0
  · obtain ⟨_, h2, h3⟩ := dotR_ok h
    have h4 : stepsB o (dotR s).1 = Dt.aheadD (lastD o) (dotR s).1 := by
      unfold stepsB lastD
      cases o.getLast? with
      | none =>
        have h5 := (Dt.may_iff _).1 h2
        rw [h3]
        show true = Dt.aheadD (0, 0) (dotN s)
        unfold Dt.aheadD
        exact (decide_eq_true (.inl (show 0 < (dotN s).1 by omega))).symm
      | some x => rfl
    cases ha : Dt.aheadD (lastD o) (dotR s).1 with
    | true =>
      have e : dotsS o s = (dotR s).2 := if_neg (fun h5 => by rw [h4, ha] at h5; cases h5.2)
      rw [if_pos rfl, e]
    | false =>
      have e : dotsS o s = failS 4 (dotR s).2 := if_pos ⟨h, by rw [h4, ha]⟩
      rw [if_neg (fun h => by cases h), e]
  · have e : dotsS o s = (dotR s).2 := if_neg (fun h2 => h h2.1)
    rw [e, fail_self (dotR_sound hs) h, ite_self]
/-- the writing of one block more. -/
theorem two_grown {w V : World} {h : Nat} {rb : Option Nat} (hg : w.grownBy V (some h)) : Nu.Two w V h rb := ⟨hg.os, hg.tape, hg.output, hg.size, fun k hk h1 _ => hg.block k hk (fun e => by cases e; exact h1 rfl)⟩
theorem two_set {w V : World} {h b : Nat} (ht : Nu.Two w V h (some b)) (i : Nat) (u : Value) : Nu.Two w (V.setCell ⟨b, i, none⟩ u) h (some b) :=
  ⟨ht.os, ht.tape, ht.output, by simpa [World.setCell] using ht.size, fun k hk h1 h2 => (Below.heap_setCell V ⟨b, i, none⟩ u k (fun e => by have e : b = k := e.symm; exact h2 (by rw [e]))).trans (ht.block k hk h1 h2)⟩
theorem two_far {w V : World} {h g : Nat} {rb : Option Nat} (ht : Nu.Two w V h rb) (hg : w.heap.size ≤ g) (i : Nat) (u : Value) : Nu.Two w (V.setCell ⟨g, i, none⟩ u) h rb :=
  ⟨ht.os, ht.tape, ht.output, by simpa [World.setCell] using ht.size, fun k hk h1 h2 => (Below.heap_setCell V ⟨g, i, none⟩ u k (fun e => by have e : g = k := e.symm; omega)).trans (ht.block k hk h1 h2)⟩
/-- what the function works on: the reader, the last dot, its own result, the new dot. -/
structure CW (w : World) (h B b g : Nat) (x d : Dot) (s : St) (V : World) : Prop where
  rr : Nu.PR V h B s.1 s.2
  gr : w.grownBy V (some h)
  last : Nu.At V b 37 #[.int .u16 (x.1 : Int), .int .u64 (x.2 : Int)]
  res : Nu.At V w.heap.size 37 #[.int .u16 0, .int .u64 0]
  box : Nu.At V g 37 #[.int .u16 (d.1 : Int), .int .u64 (d.2 : Int)]
theorem CW.below {w V U : World} {h B b g : Nat} {x d : Dot} {s : St} (k : CW w h B b g x d s V) (hB : B ≤ h) (hb : Below V.heap.size V U) : CW w h B b g x d s U :=
  ⟨pr_below k.rr hB hb, grown_below k.gr hb, k.last.below hb k.last.lt, k.res.below hb k.res.lt, k.box.below hb k.box.lt⟩
theorem CW.read {w V U : World} {h B b g : Nat} {x d : Dot} {s s' : St} (k : CW w h B b g x d s V) (hr : Nu.PR U h B s'.1 s'.2) (hg : V.grownBy U (some h)) (h1 : h < b) (h2 : h < w.heap.size) (h3 : h < g) : CW w h B b g x d s' U :=
  ⟨hr, k.gr.trans hg, k.last.kept hg (fun e => by cases e; omega), k.res.kept hg (fun e => by cases e; omega), k.box.kept hg (fun e => by cases e; omega)⟩
/-- what the function leaves. -/
def ClosPost (w : World) (h B b : Nat) (d : Dot) (s : St) (r : Ending) (V : World) : Prop :=
  r = .returned (dval d) ∧ Nu.PR V h B s.1 s.2 ∧ Nu.At V b 37 #[.int .u16 (d.1 : Int), .int .u64 (d.2 : Int)] ∧ Nu.Two w V h (some b)
theorem CW.done {w V : World} {h B b g : Nat} {x d : Dot} {s : St} (k : CW w h B b g x d s V) (hB : B ≤ h) (h1 : h < b) (h2 : b < w.heap.size) (a1 a2 : Value) :
    ClosPost w h B b d s (.returned (dval d)) ((((V.setCell ⟨b, 0, none⟩ (.int .u16 (d.1 : Int))).setCell ⟨b, 1, none⟩ (.int .u64 (d.2 : Int))).setCell ⟨w.heap.size, 0, none⟩ a1).setCell ⟨w.heap.size, 1, none⟩ a2) := by
  have q1 := (k.last.set 0 (.int .u16 (d.1 : Int))).set 1 (.int .u64 (d.2 : Int))
  have q2 : Nu.At ((V.setCell ⟨b, 0, none⟩ (.int .u16 (d.1 : Int))).setCell ⟨b, 1, none⟩ (.int .u64 (d.2 : Int))) b 37 #[.int .u16 (d.1 : Int), .int .u64 (d.2 : Int)] := q1
  refine ⟨rfl, pr_set (pr_set (pr_set (pr_set k.rr hB h1 0 _) hB h1 1 _) hB (by omega) 0 _) hB (by omega) 1 _, ?_, two_far (two_far (two_set (two_set (two_grown k.gr) 0 _) 1 _) (Nat.le_refl _) 0 _) (Nat.le_refl _) 1 _⟩
  exact (q2.kept (Nu.turn_set _ w.heap.size 0 a1) (fun e => by cases e; omega)).kept (Nu.turn_set _ w.heap.size 1 a2) (fun e => by cases e; omega)

set_option maxHeartbeats 8000000 in
theorem pclos_any (w : World) (h B b : Nat) (x : Dot) (s : St) (k : Nu.PR w h B s.1 s.2) (hB : B ≤ h) (hb : h < b) (hx : Nu.At w b 37 #[.int .u16 (x.1 : Int), .int .u64 (x.2 : Int)]) :
    Calls Try.prog 86 #[.pointer (some ⟨h, 0, none⟩), .pointer (some ⟨b, 0, none⟩)] w (ClosPost w h B b (dotR s).1 (closS x s)) := by
  have hh : h < w.heap.size := k.lt
  have hbw : b < w.heap.size := hx.lt
  have K0 := Lib.hid (pr_new k hB (dbox (0, 0)))
  have G0 := Lib.hid (grown_new (Nu.turn_refl w (some h)) (dbox (0, 0)))
  have R0 := Lib.hid (Nu.At.new w 37 #[.int .u16 0, .int .u64 0])
  have X0 := Lib.hid (hx.kept (Nu.turn_below (below_new w (dbox (0, 0))) none) (by simp))
  have C1 : Calls Try.prog 72 #[.pointer (some ⟨h, 0, none⟩)] (w.alloc (dbox (0, 0))) (Nu.PPost (w.alloc (dbox (0, 0))) h B (dval (dotR s).1) (dotR s).2.1 (dotR s).2.2) := pdot_any (w.alloc (dbox (0, 0))) h B s.1 s.2 K0.out hB
  have hC : closS x s = if Dt.aheadD x (dotR s).1 = true then (dotR s).2 else failS 4 (dotR s).2 := rfl
  obtain ⟨E, hE⟩ : ∃ E, closS x s = E := ⟨_, rfl⟩
  rw [hE] at hC ⊢
  obtain ⟨D, hD⟩ : ∃ D, dotR s = D := ⟨_, rfl⟩
  rw [hD] at hC C1 ⊢
  obtain ⟨d, s'⟩ := D
  have HC := Lib.hid hC
  clear hC hE hD k hx
  go_enter Try.func86, Try.ntmps86
  go_wp2_with fail
  refine C1.mono ?_
  rintro r w1 ⟨rfl, k1, g1⟩
  have hg1 : w.heap.size < w1.heap.size := by have := g1.size; rw [alloc_size] at this; omega
  have W2 : Hid (CW w h B b w1.heap.size x d s' (w1.alloc (dbox d))) := Lib.hid
    ⟨pr_new k1 hB _, grown_new (G0.out.trans g1) _, (X0.out.kept g1 (fun e => by cases e; omega)).kept (Nu.turn_below (below_new w1 (dbox d)) none) (by simp), (R0.out.kept g1 (fun e => by cases e; omega)).kept (Nu.turn_below (below_new w1 (dbox d)) none) (by simp), Nu.At.new w1 _ _⟩
  have x0 : (w1.alloc (dbox d)).cell? ⟨b, 0, none⟩ = some (.int .u16 (x.1 : Int)) := W2.out.last.cell 0
  have x1 : (w1.alloc (dbox d)).cell? ⟨b, 1, none⟩ = some (.int .u64 (x.2 : Int)) := W2.out.last.cell 1
  have C2 := Dt.pcmp_any (w1.alloc (dbox d)) x d
  have hcg := cmp_ge x d
  clear k1 g1 K0 G0 R0 X0 C1
  go_wp2_with fail
  generalize w1.alloc (dbox d) = w2 at *
  obtain ⟨g, hg⟩ : ∃ g, w1.heap.size = g := ⟨_, rfl⟩
  rw [hg] at W2 hg1 ⊢
  refine C2.mono ?_
  rintro r w3 ⟨rfl, hb3⟩
  have W3 := Lib.hid (W2.out.below hB hb3)
  generalize Dt.cmpD x d = z at *
  clear x0 x1 C2 W2 hb3 hg
  have hgh : h < g := by omega
  cases ha : Dt.aheadD x d with
  | true =>
    rw [ha] at hcg
    have HE : Hid (E = s') := Lib.hid (by rw [HC.out]; exact if_pos ha)
    have q1 := W3.out.last.set 0 (.int .u16 (d.1 : Int))
    have q2 := q1.set 1 (.int .u64 (d.2 : Int))
    have q3 := W3.out.res.kept (Nu.turn_set w3 b 0 (.int .u16 (d.1 : Int))) (fun e => by cases e; omega)
    have q4 := q3.kept (Nu.turn_set _ b 1 (.int .u64 (d.2 : Int))) (fun e => by cases e; omega)
    have q5 := q4.set 0 (.int .u16 (d.1 : Int))
    have q6 := q5.set 1 (.int .u64 (d.2 : Int))
    have p1 := W3.out.box.kept (Nu.turn_set w3 b 0 (.int .u16 (d.1 : Int))) (fun e => by cases e; omega)
    have p2 := p1.kept (Nu.turn_set _ b 1 (.int .u64 (d.2 : Int))) (fun e => by cases e; omega)
    have c0 := W3.out.box.cell 0
    have c1 := W3.out.box.cell 1
    have c2 := W3.out.last.cell 0
    have c3 := q1.cell 1
    have f0 := W3.out.last.frozen 0
    have f1 := q1.frozen 1
    have c4 := p2.cell 0
    have c5 := p2.cell 1
    have c6 := q4.cell 0
    have c7 := q5.cell 1
    have f2 := q4.frozen 0
    have f3 := q5.frozen 1
    have e0 := q6.cell 0
    have e1 := q6.cell 1
    simp at c0 c1 c2 c3 c4 c5 c6 c7 e0 e1
    have HF := Lib.hid (W3.out.done hB hb hbw (.int .u16 (d.1 : Int)) (.int .u64 (d.2 : Int)))
    clear q1 q2 q3 q4 q5 q6 p1 p2
    clear ha
    go_wp2
    refine bodyPost_ret (v := dval d) ?_ rfl ?_
    · simp [results, Try.f86, go_sem, e0, e1]
    · rw [HE.out]
      exact HF.out
  | false =>
    rw [ha] at hcg
    have HE : Hid (E = failS 4 s') := Lib.hid (by rw [HC.out]; exact if_neg (fun h2 => by rw [ha] at h2; cases h2))
    have CF := Nu.fail_any w3 h B s'.1 s'.2 4 W3.out.rr hB (by decide)
    clear ha
    go_wp2_with fail
    refine CF.mono ?_
    rintro r w5 ⟨rfl, k5, g5⟩
    have W5 := Lib.hid (W3.out.read (s' := failS 4 s') k5 g5 hb hh hgh)
    clear k5 g5 CF W3 hcg
    have q1 := W5.out.last.set 0 (.int .u16 (d.1 : Int))
    have q2 := q1.set 1 (.int .u64 (d.2 : Int))
    have q3 := W5.out.res.kept (Nu.turn_set w5 b 0 (.int .u16 (d.1 : Int))) (fun e => by cases e; omega)
    have q4 := q3.kept (Nu.turn_set _ b 1 (.int .u64 (d.2 : Int))) (fun e => by cases e; omega)
    have q5 := q4.set 0 (.int .u16 (d.1 : Int))
    have q6 := q5.set 1 (.int .u64 (d.2 : Int))
    have p1 := W5.out.box.kept (Nu.turn_set w5 b 0 (.int .u16 (d.1 : Int))) (fun e => by cases e; omega)
    have p2 := p1.kept (Nu.turn_set _ b 1 (.int .u64 (d.2 : Int))) (fun e => by cases e; omega)
    have c0 := W5.out.box.cell 0
    have c1 := W5.out.box.cell 1
    have c2 := W5.out.last.cell 0
    have c3 := q1.cell 1
    have f0 := W5.out.last.frozen 0
    have f1 := q1.frozen 1
    have c4 := p2.cell 0
    have c5 := p2.cell 1
    have c6 := q4.cell 0
    have c7 := q5.cell 1
    have f2 := q4.frozen 0
    have f3 := q5.frozen 1
    have e0 := q6.cell 0
    have e1 := q6.cell 1
    simp at c0 c1 c2 c3 c4 c5 c6 c7 e0 e1
    have HF := Lib.hid (W5.out.done hB hb hbw (.int .u16 (d.1 : Int)) (.int .u64 (d.2 : Int)))
    clear q1 q2 q3 q4 q5 q6 p1 p2
    go_wp2
    refine bodyPost_ret (v := dval d) ?_ rfl ?_
    · simp [results, Try.f86, go_sem, e0, e1]
    · rw [HE.out]
      exact HF.out
end Go.Proofs.Ytblgbbpbhcaodaa.Dc
