/- Words and contracts that the proofs of this seat stand on, part 10 of 22. -/
import Derived.Test.YtmebokpgiehgmaaGreatMgI
import Derived.Test.YtmebokpgiehgmaaGreatMgH
import Derived.Deep.AppendLies

/- KillsParts: the law's walk. -/
namespace Go.Proofs.YtmebokpgiehgmaaGreat.Kl
open Go.ChangeShapes Go.WideShapes Go.ChangeAt Go.RowKit
set_option linter.unusedVariables false
set_option maxRecDepth 4000

/-- a row of one event. -/
theorem evts_one (W : World) (q : Ev.EV) (x : Ev.Evt) (h : Ev.EventIs W W.heap.size q x) : Ev.EventsAt (W.alloc q.box) (W.alloc q.box).heap.size (some ⟨W.heap.size, 0, none⟩) [x] 1 1 := by
  refine ⟨rfl, (fun e => by cases e), Nat.le_refl _, by decide, by decide, [q], Ev.lies_evt W q, rfl, fun k p y hp hy => ?_⟩
  have hk : k = 0 := by have := (List.getElem?_eq_some_iff.1 hp).1; simp at this; omega
  subst hk
  cases hp; cases hy
  exact h.up (Ev.below_new W _)

theorem rsortd_any (w : World) (A : Option Addr) (l : List Dt.Dot) (n c : Nat) (h : Ev.DotsAt w w.heap.size A l n c) (hn : n ≤ 1099511627776) :
    Calls Tryz.prog 13 #[.slice A n c] w (Ev.DPost w (Dt.sortD l)) := by
  refine (Dt.rsort_any w A l n c h.len h.dots (by omega)).mono ?_
  intro e w' hp
  have h1 := Dt.sort_fit l h.dots.1 l.length
  rw [List.take_of_length_le (Nat.le_refl _), h.len] at h1
  exact Ev.dpost_of hp h1.1 (by omega)
theorem later_one {f : FuncId} {args : Array Value} {w W : World} {x : Ev.Evt} (hW : Below w.heap.size w W) (h : Calls Tryz.prog f args W (OnePost W x)) :
    Calls Tryz.prog f args W fun e V => ∃ q : Ev.EV, e = .returned q.val ∧ Ev.EventIs V V.heap.size q x ∧ Below w.heap.size w V ∧ Below W.heap.size W V := h.mono fun e V ⟨q, h1, h2, h3⟩ => ⟨q, h1, h2, hW.trans (h3.mono hW.size), h3⟩
theorem same_one {w W : World} {p q : Ev.EV} {x : Ev.Evt} (hW : Below w.heap.size w W) (h1 : Ev.EventIs W W.heap.size p x) (h2 : Ev.EventIs W W.heap.size q x) :
    Calls Tryz.prog 14 #[p.val, q.val] W fun e V => e = .returned (.bool true) ∧ Below w.heap.size w V :=
  later hW ((Ev.rsame_any W p q x x h1 h2).mono fun e V ⟨h3, h4⟩ => ⟨by rw [h3, decide_eq_true rfl], h4⟩)
/-- an append to a list of one's own, one operation of a region. -/
theorem step_dots {ops : Array Oper} {o : Oper} {a : Act} {K : Act → World → Prop} {Q : Exit → Act → World → Prop} {E : Prop} (hwa : Region.wanted o (yielded ops a.tmps) = true) (s x : Operand) (ho : o.op = .call { callee := .builtin .append, args := #[s, x], argTypes := #[22, 22] }) (hty : o.type = 22)
    (w W : World) (k q : Nat) (v : Value) (xs : List Dt.Dot) (A : Option Addr) (m : List Dt.Dot) (n c : Nat) (hs : a.eval s = v) (hx : a.eval x = .slice A n c) (hbl : Below W.heap.size W w) (hw : w.ownsRow W.heap.size 28 2 v k (Dt.dv xs)) (hd : Ev.DotsAt w w.heap.size A m n c)
    (hq : k + n = q) (hn : q ≤ 8796093022208)
    (hK : ∀ A' c' w', w'.ownsRow W.heap.size 28 2 (.slice A' q c') q (Dt.dv (xs ++ m)) → w.grownBy w' v.ownBlock → Below W.heap.size W w' → K (a.put o.dst (.slice A' q c')) w') :
    if Region.wanted o (yielded ops a.tmps) = true then Oper.wp Tryz.prog o a w K Q else E := by
  subst hq
  rw [if_pos hwa]
  obtain ⟨A', c', w', hr, h2, h3⟩ := Dt.run_any w W.heap.size k v xs A m n c hw hd.nil hd.dots.2 hd.len hn hbl.size
  rw [← hty] at hr
  unfold Oper.wp execOp
  simp only [ho, resolve, invoke, builtin, Sem.run_bind, Sem.run_pure, Result.andThen_ok, List.map_toArray, List.map_cons, List.map_nil, hs, hx]
  rw [hty] at hr ⊢
  rw [hr]
  exact hK _ _ _ h2 h3 (Dt.any_grown hw hbl h3)
theorem own_lit {W V : World} (hB : Below W.heap.size W V) : (V.alloc (.cells #[] 28)).ownsRow W.heap.size 28 2 (.slice (some ⟨V.heap.size, 0, none⟩) 0 0) 0 (Dt.dv []) :=
  World.ownsRow_lit V #[] 0 hB.size (by simp [maxLen]) rfl

theorem own_dots {w : World} {B n c : Nat} {A : Option Addr} {m : List Dt.Dot} (h : w.ownsRow B 28 2 (.slice A n c) n (Dt.dv m)) (hf : Dt.Fit m) (hw : n ≤ 8796093022208) : Ev.DotsAt w w.heap.size A m n c := by
  have h1 := h.1
  rw [Dt.dv_length] at h1
  obtain ⟨h2, h3, h4⟩ := Dt.own_len h
  exact ⟨by omega, h4, h2, h3, hw, Dt.dots_own h hf⟩

set_option maxHeartbeats 8000000 in
theorem parts_end (P : PKl) (w : World) (A1 A2 : Option Addr) (l : List Dt.Dot) (x : List Cx.Part) (q : Ev.EV) (e : Ev.Evt) (n1 c1 n2 c2 : Nat) (hl : Ev.DotsAt w w.heap.size A1 l n1 c1) (hx : Cx.CtxAt w A2 x n2 c2) (hq : Ev.EventIs w w.heap.size q e) (h : ¬ (n1 ≤ 60 ∧ Cx.fewC x = true ∧ Ev.fewB [e] 1 = true)) :
    Calls Tryz.prog 3 #[.slice A1 n1 c1, .slice A2 n2 c2, q.val] w fun e w' => e = .returned (.bool true) ∧ Below w.heap.size w w' := by
  have HB := Lib.hid (Ev.below_new w q.box)
  have HX := Lib.hid (hx.up HB.out)
  have HQ := Lib.hid (hq.up HB.out)
  have HXC := Lib.hid (fun V (hV : Below (w.alloc q.box).heap.size (w.alloc q.box) V) => (Ev.box_new w q V (by rw [Ev.alloc_size] at hV; exact hV)).all)
  simp only [Ev.EV.val]
  simp only [Ev.EV.box] at HB HX HQ HXC
  clear hx hq
  by_cases h1 : n1 ≤ 60
  · have g1 : decide ((60 : Int) < (n1 : Int)) = false := decide_eq_false (by omega)
    have C1 := Cx.rfew_any _ A2 x n2 c2 HX.out
    cases h2 : Cx.fewC x with
    | false =>
      rw [h2] at C1
      clear h
      go_enter Tryz.func3, Tryz.ntmps3
      go_wp2_with fail
      refine C1.mono ?_
      rintro r w1 ⟨rfl, b1⟩
      have HC : Hid (Below w.heap.size w w1) := Lib.hid (HB.out.trans (b1.mono HB.out.size))
      clear b1 C1 HB
      go_wp2_with fail
      refine (works_any P _).mono ?_
      rintro r w2 ⟨rfl, b2⟩
      have HE : Hid (Below w.heap.size w w2) := Lib.hid (HC.out.trans (b2.mono HC.out.size))
      clear b2
      go_wp2
      go_ret
      exact ⟨rfl, HE.out⟩
    | true =>
      rw [h2] at C1
      have h3 : Ev.fewB [e] 1 = false := by
        rw [← Bool.not_eq_true]
        exact fun h3 => h ⟨h1, h2, h3⟩
      clear h
      go_enter Tryz.func3, Tryz.ntmps3
      go_wp2_with fail
      refine C1.mono ?_
      rintro r w1 ⟨rfl, b1⟩
      have HC : Hid (Below w.heap.size w w1) := Lib.hid (HB.out.trans (b1.mono HB.out.size))
      obtain ⟨x0, x1, x2, x3, x4, x5, x6⟩ := HXC.out w1 b1
      have CF := Ev.rfew_any (w1.alloc q.box) _ [e] 1 1 1 (by decide) (evts_one w1 q e (HQ.out.up b1))
      simp only [show ((1 : Nat) : Int) = 1 from rfl, h3] at CF
      have HN : Hid (Below w.heap.size w (w1.alloc q.box)) := Lib.hid (Ev.bel_alloc _ HC.out)
      simp only [Ev.EV.box] at CF HN
      clear b1 C1 HB HX HQ HXC
      go_wp2_with fail
      refine CF.mono ?_
      rintro r w2 ⟨rfl, rfl⟩
      have CW := works_any P (w1.alloc q.box)
      simp only [Ev.EV.box] at CW
      clear x0 x1 x2 x3 x4 x5 x6 CF
      go_wp2_with fail
      refine CW.mono ?_
      rintro r w3 ⟨rfl, b2⟩
      have HE : Hid (Below w.heap.size w w3) := Lib.hid (HN.out.trans (b2.mono HN.out.size))
      clear b2
      go_wp2
      go_ret
      exact ⟨rfl, HE.out⟩
  · have g1 : decide ((60 : Int) < (n1 : Int)) = true := decide_eq_true (by omega)
    clear h
    go_enter Tryz.func3, Tryz.ntmps3
    go_wp2_with fail
    refine (works_any P _).mono ?_
    rintro r w2 ⟨rfl, b2⟩
    have HE : Hid (Below w.heap.size w w2) := Lib.hid (HB.out.trans (b2.mono HB.out.size))
    clear b2
    go_wp2
    go_ret
    exact ⟨rfl, HE.out⟩

set_option maxHeartbeats 16000000 in
theorem parts_few (P : PKl) (w : World) (A1 A2 : Option Addr) (l : List Dt.Dot) (x : List Cx.Part) (q : Ev.EV) (e : Ev.Evt) (n1 c1 n2 c2 : Nat) (hl : Ev.DotsAt w w.heap.size A1 l n1 c1) (hx : Cx.CtxAt w A2 x n2 c2) (hq : Ev.EventIs w w.heap.size q e) (h1 : n1 ≤ 60) (h2 : Cx.fewC x = true) (h3 : Ev.fewB [e] 1 = true) :
    Calls Tryz.prog 3 #[.slice A1 n1 c1, .slice A2 n2 c2, q.val] w fun e w' => e = .returned (.bool true) ∧ Below w.heap.size w w' := by
  have HB := Lib.hid (Ev.below_new w q.box)
  have HX := Lib.hid (hx.up HB.out)
  have HQ := Lib.hid (hq.up HB.out)
  have HL := Lib.hid (hl.up HB.out)
  have HXC := Lib.hid (fun V (hV : Below (w.alloc q.box).heap.size (w.alloc q.box) V) => (Ev.box_new w q V (by rw [Ev.alloc_size] at hV; exact hV)).all)
  have C1 := Cx.rfew_any _ A2 x n2 c2 HX.out
  rw [h2] at C1
  have g1 : decide ((60 : Int) < (n1 : Int)) = false := decide_eq_false (by omega)
  have hek : e.kills.length ≤ 1024 := Nat.le_trans ((few_all h3).2 e (List.mem_cons_self ..)) (by decide)
  have hsm := Cx.few_is h2
  simp only [Ev.EV.val]
  simp only [Ev.EV.box] at HB HX HQ HL HXC C1
  clear hl hx hq
  go_enter Tryz.func3, Tryz.ntmps3
  go_wp2_with fail
  refine C1.mono ?_
  rintro r w1 ⟨rfl, b1⟩
  have B1 := Lib.hid (Ev.bel_alloc q.box b1)
  obtain ⟨x0, x1, x2, x3, x4, x5, x6⟩ := HXC.out w1 b1
  have CF := Ev.rfew_any (w1.alloc q.box) _ [e] 1 1 1 (by decide) (evts_one w1 q e (HQ.out.up b1))
  simp only [show ((1 : Nat) : Int) = 1 from rfl, h3] at CF
  simp only [Ev.EV.box] at CF B1
  clear b1 C1
  go_wp2_with fail
  generalize w1.alloc (.cells #[.int .u16 (q.dev : Int), .int .u64 (q.num : Int), .int .u8 (q.kind : Int), .int .u64 (q.cid : Int), .int .u8 (q.fld : Int), .string q.txt, .slice q.adr q.len q.cap] 30) = w2 at *
  refine CF.mono ?_
  rintro r w2' ⟨rfl, rfl⟩
  have L2 := Lib.hid (HL.out.up B1.out)
  have X2 := Lib.hid (HX.out.up B1.out)
  have CK := P.keep w2' A1 A2 l x n1 c1 n2 c2 L2.out X2.out (by omega) h2
  clear x0 x1 x2 x3 x4 x5 x6 CF
  go_wp2_with fail
  refine CK.mono ?_
  rintro r w3 ⟨A3, n3, c3, rfl, k3, b3⟩
  have L3 := Lib.hid (L2.out.up b3)
  have X3 := Lib.hid (X2.out.up b3)
  have B3 := Lib.hid (B1.out.trans (b3.mono B1.out.size))
  have CD := P.drop w3 A1 A2 l x n1 c1 n2 c2 L3.out X3.out (by omega) h2
  have K3 := Lib.hid k3
  clear CK b3 k3 L2 X2 B1
  go_wp2_with fail
  refine CD.mono ?_
  rintro r w4 ⟨A4, n4, c4, rfl, d4, b4⟩
  have L4 := Lib.hid (L3.out.up b4)
  have X4 := Lib.hid (X3.out.up b4)
  have K4 := Lib.hid (K3.out.up b4)
  have B4 := Lib.hid (B3.out.trans (b4.mono B3.out.size))
  have D4 := Lib.hid d4
  have HQW : Hid (∀ W, Below w4.heap.size w4 W → Ev.EventIs W W.heap.size q e) := Lib.hid (fun W hW => HQ.out.up (B4.out.trans (hW.mono B4.out.size)))
  have HNO := Lib.hid (fun d (hd : d ∈ Dt.sortD (l.filter (Cx.hasC x))) => parts_none hd)
  clear CD b4 d4 L3 X3 K3 B3
  go_wp2_with fail
  go_loopw [9] (fun i wr => ∃ k : Nat, k ≤ n3 ∧ i = .int .i64 (k : Int) ∧ Below w4.heap.size w4 wr) (fun i _ => n3 - (intOf i).toNat)
  case atStart => exact ⟨0, Nat.zero_le _, rfl, Below.refl _ _⟩
  case round =>
    obtain ⟨k, hk, rfl, hw⟩ := hrel
    have HW := Lib.hid hw
    clear hw
    have h63 : n3 ≤ 8796093022208 := K4.out.wide
    by_cases hlt : k < n3
    · obtain ⟨ad, y1, y2, rfl, hly, hy1, hy2, z1, z2⟩ := (K4.out.up HW.out).dots.at_ (k := k) (by rw [K4.out.len]; exact hlt)
      have z2' : wr.cell? ⟨(ad.add (k * 2)).block, (ad.add (k * 2)).off + 1, none⟩ = some (.int .u64 (y2 : Int)) := by rw [Dt.add_next]; exact z2
      have CH := rhas_later wr wr A4 _ n4 c4 (y1, y2) (D4.out.up HW.out) (Below.refl _ _)
      rw [decide_eq_false (HNO.out _ (List.mem_of_getElem? hly))] at CH
      clear hly z2
      go_wp2_with fail
      refine CH.mono ?_
      rintro r V ⟨rfl, hbV⟩
      have HV := Lib.hid (HW.out.trans (hbV.mono HW.out.size))
      clear CH hbV z1 z2'
      go_wp2
      go_roundw
      case rel => exact ⟨k + 1, by omega, by go_num, HV.out⟩
      case measure => simp [intOf]; omega
    · obtain rfl : k = n3 := by omega
      have hn3 : k ≤ 60 := by
        have a := keep_len (Cx.hasC x) l n1
        rw [keep_all L4.out.len, K4.out.len] at a
        omega
      have hn4 : n4 ≤ 60 := by
        have a := keep_len (fun d => !Cx.hasC x d) l n1
        rw [keep_all L4.out.len, D4.out.len] at a
        omega
      have A23 := fun W (hW : Below w4.heap.size w4 W) => later_dots hW (rkeep_any W A1 A2 l x n1 c1 n2 c2 (L4.out.up hW) (X4.out.up hW) hsm (by omega))
      have A24 := fun W (hW : Below w4.heap.size w4 W) => later_dots hW (rdrop_any W A1 A2 l x n1 c1 n2 c2 (L4.out.up hW) (X4.out.up hW) hsm (by omega))
      have A25 := fun W (hW : Below w4.heap.size w4 W) => later_dots hW (rsortd_any W A1 l n1 c1 (L4.out.up hW) (by omega))
      have A26 := fun W (hW : Below w4.heap.size w4 W) A' m' c' (h : Ev.DotsAt W W.heap.size A' (Dt.sortD (l.filter (Cx.hasC x)) ++ Dt.sortD (l.filter fun d => !Cx.hasC x d)) m' c') (hm : m' ≤ 120) => later_dots hW ((parts_all (Cx.hasC x) l) ▸ rsortd_any W A' _ m' c' h (by omega))
      have A27 := fun W (hW : Below w4.heap.size w4 W) => later_one hW (P.strip W A2 q e x n2 c2 (HQW.out W hW) (X4.out.up hW) h2 hek)
      have A28 := fun W (hW : Below w4.heap.size w4 W) => later_one hW (rstrip_any W A2 q e x n2 c2 (HQW.out W hW) (X4.out.up hW) hsm)
      have A8 := fun W (hW : Below w4.heap.size w4 W) => later hW (works_any P W)
      have A9 := fun (m : List Dt.Dot) W (hW : Below w4.heap.size w4 W) A' A'' m' m'' c' c'' (h1 : Ev.DotsAt W W.heap.size A' m m' c') (h2 : Ev.DotsAt W W.heap.size A'' m m'' c'') => same_dots hW h1 h2
      have A29 := fun W (hW : Below w4.heap.size w4 W) q' q'' (h1 : Ev.EventIs W W.heap.size q' (stripE x e)) (h2 : Ev.EventIs W W.heap.size q'' (stripE x e)) => same_one hW h1 h2
      have HXW : Hid (∀ V, Below w4.heap.size w4 V → V.cell? ⟨w.heap.size, 0, none⟩ = some (.int .u16 (q.dev : Int)) ∧ V.cell? ⟨w.heap.size, 1, none⟩ = some (.int .u64 (q.num : Int)) ∧ V.cell? ⟨w.heap.size, 2, none⟩ = some (.int .u8 (q.kind : Int)) ∧ V.cell? ⟨w.heap.size, 3, none⟩ = some (.int .u64 (q.cid : Int)) ∧ V.cell? ⟨w.heap.size, 4, none⟩ = some (.int .u8 (q.fld : Int)) ∧ V.cell? ⟨w.heap.size, 5, none⟩ = some (.string q.txt) ∧ V.cell? ⟨w.heap.size, 6, none⟩ = some (.slice q.adr q.len q.cap)) := Lib.hid (fun V hV => HXC.out V (B4.out.trans (hV.mono B4.out.size)))
      have hwr := HW.out
      have HWR : Hid (Below w.heap.size w w4) := Lib.hid (HB.out.trans (B4.out.mono HB.out.size))
      have HN3 : Hid (k ≤ 8796093022208) := Lib.hid (by omega)
      have HN4 : Hid (k + n4 ≤ 8796093022208) := Lib.hid (by omega)
      have HN5 : Hid (k + n4 ≤ 120) := Lib.hid (by omega)
      have hfd : Dt.Fit (Dt.sortD (l.filter (Cx.hasC x)) ++ Dt.sortD (l.filter fun d => !Cx.hasC x d)) := fun r hr => (List.mem_append.1 hr).elim (fun h => K4.out.dots.1 r h) (fun h => D4.out.dots.1 r h)
      have HOD := Lib.hid (fun (w8 : World) (A8 : Option Addr) (c8 : Nat) (ho : w8.ownsRow w4.heap.size 28 2 (.slice A8 (k + n4) c8) (k + n4) (Dt.dv (([] ++ Dt.sortD (l.filter (Cx.hasC x))) ++ Dt.sortD (l.filter fun d => !Cx.hasC x d)))) => (own_dots ho hfd HN4.out : Ev.DotsAt w8 w8.heap.size A8 (Dt.sortD (l.filter (Cx.hasC x)) ++ Dt.sortD (l.filter fun d => !Cx.hasC x d)) (k + n4) c8))
      have A9A := A9 (Dt.sortD (l.filter (Cx.hasC x)))
      have A9B := A9 (Dt.sortD (l.filter fun d => !Cx.hasC x d))
      have A9C := A9 (Dt.sortD l)
      simp only [Ev.EV.val] at A27 A28 A29
      obtain ⟨x0, x1, x2, x3, x4, x5, x6⟩ := HXW.out _ hwr
      clear A9 HNO HQW HX HQ HXC HL L4 X4 HB h1 h2 h3 hek hsm g1 h63 hlt
      go_wp2_with fail
      go_region_held3 (fun V => V.cell? ⟨w.heap.size, 0, none⟩ = some (.int .u16 (q.dev : Int)) ∧ V.cell? ⟨w.heap.size, 1, none⟩ = some (.int .u64 (q.num : Int)) ∧ V.cell? ⟨w.heap.size, 2, none⟩ = some (.int .u8 (q.kind : Int)) ∧ V.cell? ⟨w.heap.size, 3, none⟩ = some (.int .u64 (q.cid : Int)) ∧ V.cell? ⟨w.heap.size, 4, none⟩ = some (.int .u8 (q.fld : Int)) ∧ V.cell? ⟨w.heap.size, 5, none⟩ = some (.string q.txt) ∧ V.cell? ⟨w.heap.size, 6, none⟩ = some (.slice q.adr q.len q.cap)) (first | exact ⟨x0, x1, x2, x3, x4, x5, x6⟩ | assumption | exact HXW.out _ (by (repeat (first | exact Below.refl _ _ | assumption | apply Ev.bel_drew | apply Ev.bel_alloc)))) (first
        | (go_at_call 11; (with_reducible refine (A23 _ ?_).mono ?_); (focus (repeat (first | exact Below.refl _ _ | assumption | apply Ev.bel_drew | apply Ev.bel_alloc))); rintro r V' ⟨A6, m6, c6, rfl, hM, bv', cv''⟩; have hcV' := HXW.out V' bv')
        | (go_at_call 10; (with_reducible refine (A9A _ ?_ _ _ _ _ _ _ ?_ ?_).mono ?_); (focus (repeat (first | exact Below.refl _ _ | assumption | apply Ev.bel_drew | apply Ev.bel_alloc))); (focus exact K4.out.up bv'); (focus exact hM); rintro r V ⟨rfl, bv⟩; have hcV := HXW.out V bv)
        | (go_at_call 12; (with_reducible refine (A24 _ ?_).mono ?_); (focus (repeat (first | exact Below.refl _ _ | assumption | apply Ev.bel_drew | apply Ev.bel_alloc))); rintro r V' ⟨A6, m6, c6, rfl, hM, bv', cv''⟩; have hcV' := HXW.out V' bv')
        | (go_at_call 10; (with_reducible refine (A9B _ ?_ _ _ _ _ _ _ ?_ ?_).mono ?_); (focus (repeat (first | exact Below.refl _ _ | assumption | apply Ev.bel_drew | apply Ev.bel_alloc))); (focus exact D4.out.up bv'); (focus exact hM); rintro r V ⟨rfl, bv⟩; have hcV := HXW.out V bv)
        | (refine step_dots (by first | rfl | decide) (.tmp 56) (.tmp 57) rfl rfl _ w4 0 k _ [] A3 (Dt.sortD (l.filter (Cx.hasC x))) k c3 rfl rfl (Ev.bel_alloc _ bv) (own_lit bv) (K4.out.up (Ev.bel_alloc _ bv)) (Nat.zero_add _) HN3.out ?_; intro A7 c7 w7 ho7 hg7 hb7; have hcV := HXW.out w7 hb7)
        | (refine step_dots (by first | rfl | decide) (.tmp 58) (.tmp 59) rfl rfl _ w4 k (k + n4) _ ([] ++ Dt.sortD (l.filter (Cx.hasC x))) A4 (Dt.sortD (l.filter fun d => !Cx.hasC x d)) n4 c4 rfl rfl hb7 ho7 (D4.out.up hb7) rfl HN4.out ?_; intro A88 c8 w8 ho8 hg8 hb8; have hcV := HXW.out w8 hb8; have hd8 := HOD.out _ _ _ ho8)
        | (go_at_call 13; (with_reducible refine (A26 _ ?_ _ _ _ ?_ ?_).mono ?_); (focus (repeat (first | exact Below.refl _ _ | assumption | apply Ev.bel_drew | apply Ev.bel_alloc))); (focus exact hd8); (focus exact HN5.out); rintro r V ⟨A5, m5, c5, rfl, hN, bv, cv'⟩; have hcV := HXW.out V bv)
        | (go_at_call 13; (with_reducible refine (A25 _ ?_).mono ?_); (focus (repeat (first | exact Below.refl _ _ | assumption | apply Ev.bel_drew | apply Ev.bel_alloc))); rintro r V' ⟨A6, m6, c6, rfl, hM, bv', cv''⟩; have hcV' := HXW.out V' bv'; have hN2 := Ev.DotsAt.up hN cv'')
        | (go_at_call 10; (with_reducible refine (A9C _ ?_ _ _ _ _ _ _ ?_ ?_).mono ?_); (focus (repeat (first | exact Below.refl _ _ | assumption | apply Ev.bel_drew | apply Ev.bel_alloc))); (focus exact hN2); (focus exact hM); rintro r V ⟨rfl, bv⟩; have hcV := HXW.out V bv)
        | (go_at_call 15; (with_reducible refine (A27 _ ?_).mono ?_); (focus (repeat (first | exact Below.refl _ _ | assumption | apply Ev.bel_drew | apply Ev.bel_alloc))); rintro r V ⟨qa, rfl, ha, bv, cv'⟩; have hcV := HXW.out V bv)
        | (go_at_call 16; (with_reducible refine (A28 _ ?_).mono ?_); (focus (repeat (first | exact Below.refl _ _ | assumption | apply Ev.bel_drew | apply Ev.bel_alloc))); rintro r V' ⟨qb, rfl, hb, bv', cv''⟩; have hcV' := HXW.out V' bv'; have ha2 := Ev.EventIs.up ha cv'')
        | (go_at_call 14; (with_reducible refine (A29 _ ?_ _ _ ?_ ?_).mono ?_); (focus (repeat (first | exact Below.refl _ _ | assumption | apply Ev.bel_drew | apply Ev.bel_alloc))); (focus exact ha2); (focus exact hb); rintro r V ⟨rfl, bv⟩; have hcV := HXW.out V bv)
        | (go_at_call 6; (with_reducible refine (A8 _ ?_).mono ?_); (focus (repeat (first | exact Below.refl _ _ | assumption | apply Ev.bel_drew | apply Ev.bel_alloc))); rintro r V ⟨rfl, bv⟩; have hcV := HXW.out V bv))
      all_goals
        have HE : Hid (Below w.heap.size w V) := Lib.hid (HWR.out.trans (bv.mono HWR.out.size))
        go_wp2
        go_ret
        exact ⟨rfl, HE.out⟩
theorem parts_walk (P : PKl) (w : World) (A1 A2 : Option Addr) (l : List Dt.Dot) (x : List Cx.Part) (q : Ev.EV) (e : Ev.Evt) (n1 c1 n2 c2 : Nat) (hl : Ev.DotsAt w w.heap.size A1 l n1 c1) (hx : Cx.CtxAt w A2 x n2 c2) (hq : Ev.EventIs w w.heap.size q e) :
    Calls Tryz.prog 3 #[.slice A1 n1 c1, .slice A2 n2 c2, q.val] w fun e w' => e = .returned (.bool true) ∧ Below w.heap.size w w' := by
  by_cases h : n1 ≤ 60 ∧ Cx.fewC x = true ∧ Ev.fewB [e] 1 = true
  · exact parts_few P w A1 A2 l x q e n1 c1 n2 c2 hl hx hq h.1 h.2.1 h.2.2
  · exact parts_end P w A1 A2 l x q e n1 c1 n2 c2 hl hx hq h
end Go.Proofs.YtmebokpgiehgmaaGreat.Kl

/- The contracts of the document's Only, Size, Base and Plain of layer ctx. -/
namespace Go.Proofs.YtmebokpgiehgmaaGreat.Cx
open Go.ChangeShapes Go.WideShapes Go.ChangeAt Go.RowKit
set_option linter.unusedVariables false

/-- a new context of one part. -/
theorem part_lit (W : World) (d b n c : Nat) (A : Option Addr) (l : List Run) (hb : b = W.heap.size) (hd : d < 65536) (h : RunsAt W A l n c) :
    CtxAt (W.alloc (.cells #[.int .u16 (d : Int), .slice A n c] 44)) (some ⟨b, 0, none⟩) [(d, l)] 1 1 := by
  subst hb
  have hB := Dt.below_new W (.cells #[.int .u16 (d : Int), .slice A n c] 44)
  refine ⟨rfl, (fun h => by cases h), by decide, by decide, [⟨d, A, n, c⟩], fun _ => ⟨_, rfl, by simp, part_at W ⟨d, A, n, c⟩⟩, rfl, ?_⟩
  intro k p y hp hy
  have hk : k = 0 := by
    rcases Nat.eq_zero_or_pos k with h | h
    · exact h
    · rw [List.getElem?_eq_none (by simp; omega)] at hp; cases hp
  subst hk
  have e1 : p = ⟨d, A, n, c⟩ := by simpa using hp.symm
  have e2 : y = (d, l) := by simpa using hy.symm
  subst e1 e2
  have h2 := h.up hB
  exact ⟨rfl, hd, h2.len, h2.nil, h2.cap, h2.max, h2.runs⟩
/-! A context's norm, as it is read. -/
theorem norm_len {a : List Part} (s : Small a) (h : FitC a) : (normC a).length ≤ 1000 := by
  rw [← norm_set]
  have := set_len (b := []) h (fun x hx => by cases hx) 0
  have := s.1
  simp only [List.length_nil] at *
  omega
theorem norm_part {a : List Part} (s : Small a) (h : FitC a) {x : Part} (hx : x ∈ normC a) : Ru.InOrder x.2 ∧ x.2.length ≤ 10000 ∧ x.1 < 65536 := by
  obtain ⟨h1, _⟩ := (list_mem (tells_runs h) x).1 hx
  exact ⟨by rw [h1]; exact runs_order _ _, by rw [h1]; exact small_runs s _, (fit_norm h x hx).1⟩
theorem nrm_self {l : List Run} (h : Ru.InOrder l) : Ru.normL l = l := set_self h
def sizeUpto (c : List Part) (k : Nat) : Nat := ((c.take k).map (fun x => Ru.sizeR x.2)).sum
theorem size_next {c : List Part} {k : Nat} {x : Part} (h : c[k]? = some x) : sizeUpto c (k + 1) = sizeUpto c k + Ru.sizeR x.2 := by
  unfold sizeUpto
  rw [List.take_add_one, h, List.map_append, List.sum_append]; simp
theorem size_most {c : List Part} (hc : ∀ x ∈ c, Ru.InOrder x.2) (k : Nat) : sizeUpto c k ≤ k * 281474976710656 := by
  induction k with
  | zero => simp [sizeUpto]
  | succ k ih =>
    by_cases hk : k < c.length
    · have hg := List.getElem?_eq_getElem hk
      rw [size_next hg]
      have := Ru.size_le (hc _ (List.getElem_mem hk))
      omega
    · have e : c.take (k + 1) = c.take k := by rw [List.take_of_length_le (by omega), List.take_of_length_le (by omega)]
      have e2 : sizeUpto c (k + 1) = sizeUpto c k := by unfold sizeUpto; rw [e]
      omega
end Go.Proofs.YtmebokpgiehgmaaGreat.Cx

/- The contract of the document's Base of layer ctx. -/
namespace Go.Proofs.YtmebokpgiehgmaaGreat.Cx
open Go.ChangeShapes Go.WideShapes Go.ChangeAt Go.RowKit
set_option linter.unusedVariables false

/-- the last dot of a device that is told without a gap. -/
def lastB (x : Part) : Option Dot := if 1 < Ru.firstR x.2 then some (x.1, Ru.firstR x.2 - 1) else none
theorem base_fold (c : List Part) : baseC c = (normC c).filterMap lastB := rfl
theorem base_next {N : List Part} {k : Nat} {x : Part} (h : N[k]? = some x) : (N.take (k + 1)).filterMap lastB = (N.take k).filterMap lastB ++ (if 1 < Ru.firstR x.2 then [(x.1, Ru.firstR x.2 - 1)] else []) := by
  rw [List.take_add_one, h, List.filterMap_append]
  congr 1
  show [x].filterMap lastB = _
  by_cases h1 : 1 < Ru.firstR x.2
  · rw [List.filterMap_cons, show lastB x = some (x.1, Ru.firstR x.2 - 1) from if_pos h1, if_pos h1]; rfl
  · rw [List.filterMap_cons, show lastB x = none from if_neg h1, if_neg h1]; rfl
theorem first_max {l : List Run} (h : Ru.InOrder l) : 1 ≤ Ru.firstR l ∧ Ru.firstR l ≤ 281474976710656 := by
  refine ⟨(Ru.first_spec h).1, ?_⟩
  cases l with
  | nil => show 1 ≤ 281474976710656; omega
  | cons r l =>
    have := (Ru.may_iff r).1 (h.1 r (List.mem_cons_self ..))
    show (if r.1 = 1 then r.2 + 1 else 1) ≤ _
    split <;> omega
end Go.Proofs.YtmebokpgiehgmaaGreat.Cx

/- What the laws of layer ctx ask of contexts. Plain arithmetic; no program is named here. -/
namespace Go.Proofs.YtmebokpgiehgmaaGreat.Cx
set_option linter.unusedVariables false

/-- a context in order. -/
def OrdC (c : List Part) : Prop := ∃ f, Tells f ∧ c = listC f
theorem OrdC.fit {c : List Part} (h : OrdC c) : FitC c := by
  obtain ⟨f, h1, rfl⟩ := h
  exact list_fit h1
theorem OrdC.norm {c : List Part} (h : OrdC c) : normC c = c := by
  obtain ⟨f, h1, rfl⟩ := h
  unfold normC
  rw [runs_list h1]
theorem tells_uniq {f g : Nat → List Run} (hf : Tells f) (hg : Tells g) (h : ∀ d n, Ru.has (f d) n = Ru.has (g d) n) : f = g := funext fun d => Ru.uniq (hf.order d) (hg.order d) (h d)
theorem norm_eq {a b : List Part} (ha : FitC a) (hb : FitC b) (h : ∀ d n, Ru.has (runsC a d) n = Ru.has (runsC b d) n) : normC a = normC b := by
  unfold normC
  rw [tells_uniq (tells_runs ha) (tells_runs hb) h]
theorem ord_eq {a b : List Part} (ha : OrdC a) (hb : OrdC b) (h : ∀ d n, Ru.has (runsC a d) n = Ru.has (runsC b d) n) : a = b := by
  rw [← ha.norm, ← hb.norm]
  exact norm_eq ha.fit hb.fit h
theorem ord_set {a b : List Part} (ha : FitC a) (hb : FitC b) (how : Int) : OrdC (setC a b how) := ⟨_, tells_both ha hb how, rfl⟩
theorem ord_norm {a : List Part} (ha : FitC a) : OrdC (normC a) := ⟨_, tells_runs ha, rfl⟩
theorem ord_good {a : List Part} (h : OrdC a) : goodC a = true := decide_eq_true h.norm.symm
theorem ord_nil : OrdC [] := ⟨fun _ => [], ⟨rfl, fun _ _ => rfl, fun _ => Ru.order_nil⟩, by
  unfold listC
  induction List.range Dt.topV with
  | nil => rfl
  | cons d l ih => rw [List.filterMap_cons]; exact ih⟩
theorem list_none {f : Nat → List Run} (h : ∀ d, f d = []) : listC f = [] := by
  unfold listC
  induction List.range Dt.topV with
  | nil => rfl
  | cons d l ih => rw [List.filterMap_cons, show oneC f d = none from if_pos (by rw [h]; rfl)]; exact ih
theorem has_set0 {a b : List Part} (ha : FitC a) (hb : FitC b) (d n : Nat) : Ru.has (runsC (setC a b 0) d) n = (Ru.has (runsC a d) n || Ru.has (runsC b d) n) := by rw [runs_set ha hb]; exact Ru.has0 _ _ _
theorem has_set1 {a b : List Part} (ha : FitC a) (hb : FitC b) (d n : Nat) : Ru.has (runsC (setC a b 1) d) n = (Ru.has (runsC a d) n && Ru.has (runsC b d) n) := by rw [runs_set ha hb]; exact Ru.has1 _ _ _
theorem has_set2 {a b : List Part} (ha : FitC a) (hb : FitC b) (d n : Nat) : Ru.has (runsC (setC a b 2) d) n = (Ru.has (runsC a d) n && !Ru.has (runsC b d) n) := by rw [runs_set ha hb]; exact Ru.has2 _ _ _

/-! CtxLaws. -/
theorem has_join {a b : List Part} (ha : FitC a) (hb : FitC b) (x : Dot) : hasC (setC a b 0) x = (hasC a x || hasC b x) := by
  unfold hasC
  rw [has_set0 ha hb]
  cases Dt.mayD x <;> simp
theorem has_meet {a b : List Part} (ha : FitC a) (hb : FitC b) (x : Dot) : hasC (setC a b 1) x = (hasC a x && hasC b x) := by
  unfold hasC
  rw [has_set1 ha hb]
  cases Dt.mayD x <;> simp
theorem has_minus {a b : List Part} (ha : FitC a) (hb : FitC b) (x : Dot) : hasC (setC a b 2) x = (hasC a x && !hasC b x) := by
  unfold hasC
  rw [has_set2 ha hb]
  cases Dt.mayD x <;> simp
theorem join_turn (a b : List Part) : setC b a 0 = setC a b 0 := by
  unfold setC
  congr 1
  funext d
  exact Ru.join_turn _ _
theorem meet_turn (a b : List Part) : setC b a 1 = setC a b 1 := by
  unfold setC
  congr 1
  funext d
  exact Ru.meet_turn _ _
theorem both_parts {a b : List Part} (ha : FitC a) (hb : FitC b) : sameC (setC (setC a b 2) (setC a b 1) 0) a = true := by
  have h1 := fit_set ha hb 2
  have h2 := fit_set ha hb 1
  refine decide_eq_true (norm_eq (fit_set h1 h2 0) ha fun d n => ?_)
  rw [has_set0 h1 h2, has_set2 ha hb, has_set1 ha hb]
  cases Ru.has (runsC a d) n <;> cases Ru.has (runsC b d) n <;> rfl
theorem within_iff {a b : List Part} (ha : FitC a) (hb : FitC b) (h : ∀ d n, Ru.has (runsC a d) n = true → Ru.has (runsC b d) n = true) : withinC a b = true := by
  refine decide_eq_true (list_none fun d => Ru.empty_of (Ru.set_spec _ _ _).1 fun n => ?_)
  rw [Ru.has2]
  cases h1 : Ru.has (runsC a d) n with
  | false => rfl
  | true => rw [h d n h1]; rfl
theorem within_meet {a b : List Part} (ha : FitC a) (hb : FitC b) : withinC (setC a b 1) b = true := within_iff (fit_set ha hb 1) hb fun d n h => by
  rw [has_set1 ha hb, Bool.and_eq_true] at h
  exact h.2
theorem within_join {a b : List Part} (ha : FitC a) (hb : FitC b) : withinC b (setC a b 0) = true := within_iff hb (fit_set ha hb 0) fun d n h => by
  rw [has_set0 ha hb, h, Bool.or_true]

/-! Sizes. -/
theorem size_list (f : Nat → List Run) (l : List Nat) : ((l.filterMap (oneC f)).map (fun x => Ru.sizeR x.2)).sum = (l.map (fun d => Ru.sizeR (f d))).sum := by
  induction l with
  | nil => rfl
  | cons d l ih =>
    rw [List.filterMap_cons]
    by_cases h : (f d).length = 0
    · rw [show oneC f d = none from if_pos h, List.map_cons, List.sum_cons, List.eq_nil_of_length_eq_zero h, ih]
      simp [Ru.sizeR]
    · rw [show oneC f d = some (d, f d) from if_neg h]
      simp only [List.map_cons, List.sum_cons, ih]
theorem size_sum (c : List Part) : sizeC c = ((List.range Dt.topV).map (fun d => Ru.sizeR (runsC c d))).sum := size_list _ _
theorem sum_two (l : List Nat) (f g : Nat → Nat) : (l.map f).sum + (l.map g).sum = (l.map (fun d => f d + g d)).sum := by
  induction l with
  | nil => rfl
  | cons d l ih => simp only [List.map_cons, List.sum_cons]; omega
theorem size_both {a b : List Run} (ha : Ru.InOrder a) (hb : Ru.InOrder b) : Ru.sizeR (Ru.setL a b 0) + Ru.sizeR (Ru.setL a b 1) = Ru.sizeR a + Ru.sizeR b := by
  have h := Ru.sizes a b
  have e : ∀ l, Ru.InOrder l → Ru.nrm l = l := fun l hl => set_self hl
  rw [e _ (Ru.set_spec a b 0).1, e _ (Ru.set_spec a b 1).1, e a ha, e b hb] at h
  exact h
theorem sizes {a b : List Part} (ha : FitC a) (hb : FitC b) : sizeC (setC a b 0) + sizeC (setC a b 1) = sizeC a + sizeC b := by
  rw [size_sum, size_sum, size_sum, size_sum, sum_two, sum_two, runs_set ha hb, runs_set ha hb]
  congr 2
  funext d
  exact size_both (runs_order a d) (runs_order b d)
theorem sum_less (n : Nat) (f : Nat → Nat) (m : Nat) (h0 : f 0 = 0) (h : ∀ d, f d ≤ m) : ((List.range (n + 1)).map f).sum ≤ n * m := by
  induction n with
  | zero => simp [h0]
  | succ n ih =>
    rw [List.range_succ, List.map_append, List.sum_append]
    have := h (n + 1)
    have e : (n + 1) * m = n * m + m := Nat.succ_mul n m
    simp only [List.map_cons, List.map_nil, List.sum_cons, List.sum_nil]
    omega
theorem size_lt (c : List Part) : sizeC c < 18446744073709551616 := by
  rw [size_sum, Dt.top_eq]
  have h := sum_less 65535 (fun d => Ru.sizeR (runsC c d)) 281474976710656 (by show Ru.sizeR (runsC c 0) = 0; rw [runs_zero]; rfl) (fun d => Ru.size_le (runs_order c d))
  exact Nat.lt_of_le_of_lt h (by decide)

/-! Lists of dots as contexts. -/
theorem ord_of {l : List Dot} (hl : Dt.Fit l) : OrdC (ofC l) := by
  obtain ⟨f, h1, h2, _⟩ := (of_whole l hl).form
  exact ⟨f, h1, h2⟩
theorem dot_may {x : Dot} (h : Dt.mayD x = true) : Ru.mayR (x.2, x.2) = true := by
  have := (Dt.may_iff x).1 h
  exact (Ru.may_iff _).2 ⟨by show 1 ≤ x.2; omega, Nat.le_refl _, by show x.2 ≤ _; omega⟩
theorem has_dot {x : Dot} (h : Dt.mayD x = true) (d n : Nat) : Ru.has (runsC (dotC x) d) n = (decide (x.1 = d) && decide (x.2 = n)) := by
  have hx := (Dt.may_iff x).1 h
  rw [runs_has, show dotC x = [(x.1, [(x.2, x.2)])] from rfl, List.any_cons, List.any_nil, Bool.or_false, Ru.has_one, dot_may h, Bool.true_and]
  by_cases h1 : x.1 = d
  · subst h1
    have h2 : x.1 ≠ 0 := by omega
    by_cases h3 : x.2 = n
    · subst h3; simp [h2]
    · have h4 : ¬ n = x.2 := fun e => h3 e.symm
      simp [h3, h4]
  · simp [h1]
def isDot (d n : Nat) (x : Dot) : Bool := Dt.mayD x && (decide (x.1 = d) && decide (x.2 = n))
theorem has_stepO {o : List Part} (ho : FitC o) {x : Dot} (hx : x.1 < 65536 ∧ x.2 < 18446744073709551616) (d n : Nat) : Ru.has (runsC (stepO o x) d) n = (Ru.has (runsC o d) n || isDot d n x) := by
  unfold stepO isDot
  cases h : Dt.mayD x with
  | false => simp
  | true => rw [if_pos rfl, has_set0 ho (fit_dot hx.1 hx.2), has_dot h, Bool.true_and]
theorem has_of_upto {l : List Dot} (hl : Dt.Fit l) (d n k : Nat) : Ru.has (runsC (ofC (l.take k)) d) n = (l.take k).any (isDot d n) := by
  induction k with
  | zero => show Ru.has (runsC [] d) n = false; rw [runs_nil]; rfl
  | succ k ih =>
    by_cases hk : k < l.length
    · have hg := List.getElem?_eq_getElem hk
      rw [of_next hg, has_stepO (of_most l hl k).fit (hl _ (List.getElem_mem hk)), ih, List.take_add_one, hg, List.any_append]
      simp
    · have e : l.take (k + 1) = l.take k := by rw [List.take_of_length_le (by omega), List.take_of_length_le (by omega)]
      rw [e]; exact ih
theorem has_of {l : List Dot} (hl : Dt.Fit l) (d n : Nat) : Ru.has (runsC (ofC l) d) n = l.any (isDot d n) := by
  have := has_of_upto hl d n l.length
  rwa [List.take_length] at this
theorem fit_app {l m : List Dot} (hl : Dt.Fit l) (hm : Dt.Fit m) : Dt.Fit (l ++ m) := fun x hx => by
  rcases List.mem_append.1 hx with h | h
  · exact hl x h
  · exact hm x h
/-- more dots. -/
theorem set_of {l m : List Dot} (hl : Dt.Fit l) (hm : Dt.Fit m) : setC (ofC l) (ofC m) 0 = ofC (l ++ m) :=
  ord_eq (ord_set (ord_of hl).fit (ord_of hm).fit 0) (ord_of (fit_app hl hm)) fun d n => by
    rw [has_set0 (ord_of hl).fit (ord_of hm).fit, has_of hl, has_of hm, has_of (fit_app hl hm), List.any_append]
theorem of_same {l m : List Dot} (hl : Dt.Fit l) (hm : Dt.Fit m) (h : ∀ x, x ∈ l ↔ x ∈ m) : ofC l = ofC m :=
  ord_eq (ord_of hl) (ord_of hm) fun d n => by
    rw [has_of hl, has_of hm, Bool.eq_iff_iff, List.any_eq_true, List.any_eq_true]
    exact ⟨fun ⟨x, h1, h2⟩ => ⟨x, (h x).1 h1, h2⟩, fun ⟨x, h1, h2⟩ => ⟨x, (h x).2 h1, h2⟩⟩
/-- every place is met once one goes round. -/
theorem round_at {n r i : Nat} (hi : i < n) : ∃ j, j < n ∧ (n - 1 - j + r) % n = i := by
  refine ⟨(n - 1 + r - i) % n, Nat.mod_lt _ (by omega), ?_⟩
  have h1 := Nat.div_add_mod (n - 1 + r - i) n
  have h2 : (n - 1 + r - i) % n < n := Nat.mod_lt _ (by omega)
  generalize (n - 1 + r - i) % n = j at h1 h2 ⊢
  generalize (n - 1 + r - i) / n = q at h1
  have h3 : n - 1 - j + r = i + n * q := by omega
  rw [h3, Nat.add_mul_mod_self_left, Nat.mod_eq_of_lt hi]

/-! Bases. -/
def gapV (c : List Part) (d : Nat) : Nat := Ru.firstR (runsC c d) - 1
theorem first_nil : Ru.firstR [] = 1 := rfl
theorem tells_gap {c : List Part} (hc : FitC c) : Dt.Tells (gapV c) := by
  refine ⟨?_, fun d hd => ?_, fun d => ?_⟩
  · unfold gapV; rw [runs_zero]; rfl
  · unfold gapV; rw [runs_far hc hd]; rfl
  · have := first_max (runs_order c d)
    unfold gapV; omega
theorem base_list {c : List Part} : baseC c = Dt.listV (gapV c) := by
  rw [base_fold]
  unfold normC listC Dt.listV
  rw [List.filterMap_filterMap]
  congr 1
  funext d
  unfold oneC Dt.oneV gapV
  by_cases h : (runsC c d).length = 0
  · rw [if_pos h, List.eq_nil_of_length_eq_zero h]
    rfl
  · rw [if_neg h]
    show lastB (d, runsC c d) = _
    unfold lastB
    by_cases h1 : 1 < Ru.firstR (runsC c d)
    · rw [if_pos h1, if_pos (by omega)]
    · rw [if_neg h1, if_neg (by omega)]
theorem of_base {c : List Part} (hc : FitC c) : Dt.ofV (baseC c) = gapV c := by rw [base_list, Dt.of_list' (tells_gap hc)]
theorem fit_base {c : List Part} (hc : FitC c) : Dt.Fit (baseC c) := by rw [base_list]; exact Dt.list_fit (tells_gap hc)
theorem gap_has {c : List Part} {d n : Nat} (h1 : 1 ≤ n) (h2 : n ≤ gapV c d) : Ru.has (runsC c d) n = true := by
  unfold gapV at h2
  exact (Ru.first_spec (runs_order c d)).2.2 n h1 (by omega)
theorem base_in {c : List Part} (hc : FitC c) {x : Dot} (hx : x ∈ baseC c) : hasC c x = true ∧ hasC c (x.1, x.2 + 1) = false := by
  rw [base_list] at hx
  obtain ⟨h1, h2⟩ := (Dt.list_mem (tells_gap hc) x).1 hx
  have hm := Dt.list_may (tells_gap hc) hx
  have hs := Ru.first_spec (runs_order c x.1)
  constructor
  · unfold hasC
    rw [hm, Bool.true_and]
    exact gap_has (by omega) (by omega)
  · unfold hasC
    have e : x.2 + 1 = Ru.firstR (runsC c x.1) := by unfold gapV at h1 h2; omega
    show (Dt.mayD (x.1, x.2 + 1) && Ru.has (runsC c x.1) (x.2 + 1)) = false
    rw [e, hs.2.1, Bool.and_false]
theorem plain_has {v : List Dot} (hv : Dt.Fit v) (d n : Nat) : Ru.has (runsC (plainC v) d) n = (decide (1 ≤ n) && decide (n ≤ Dt.ofV v d)) := by
  rw [runs_has, Bool.eq_iff_iff]
  simp only [Bool.and_eq_true, decide_eq_true_eq, List.any_eq_true]
  constructor
  · rintro ⟨h0, y, hy, rfl, h2⟩
    obtain ⟨x, hx, rfl⟩ := List.mem_map.1 hy
    obtain ⟨h3, h4⟩ := (Dt.list_mem (Dt.tells_of hv) x).1 hx
    obtain ⟨r, hr, ht⟩ := (Ru.has_iff _ _).1 h2
    obtain rfl := List.mem_singleton.1 hr
    obtain ⟨_, h5, h6⟩ := (Ru.tst_iff _ _).1 ht
    simp only at h5 h6
    exact ⟨h5, by show n ≤ Dt.ofV v x.1; omega⟩
  · rintro ⟨h1, h2⟩
    have hp : 0 < Dt.ofV v d := by omega
    have hlt := Dt.of_lt v d
    have hd : d ≠ 0 := fun e => by rw [e, Dt.of_zero] at hp; omega
    refine ⟨hd, (d, [(1, Dt.ofV v d)]), List.mem_map.2 ⟨(d, Dt.ofV v d), (Dt.list_mem (Dt.tells_of hv) _).2 ⟨hp, rfl⟩, rfl⟩, rfl, ?_⟩
    refine (Ru.has_iff _ _).2 ⟨_, List.mem_singleton.2 rfl, (Ru.tst_iff _ _).2 ⟨(Ru.may_iff _).2 ⟨Nat.le_refl _, ?_, ?_⟩, h1, h2⟩⟩
    · show 1 ≤ Dt.ofV v d; omega
    · show Dt.ofV v d ≤ _; omega
theorem fit_plain {v : List Dot} (hv : Dt.Fit v) : FitC (plainC v) := fun x hx => by
  obtain ⟨y, hy, rfl⟩ := List.mem_map.1 hx
  have := Dt.fit_norm hv y hy
  exact ⟨this.1, fun r hr => by obtain rfl := List.mem_singleton.1 hr; exact ⟨by show 1 < _; omega, this.2⟩⟩
theorem gap_plain {v : List Dot} (hv : Dt.Fit v) (d : Nat) : gapV (plainC v) d = Dt.ofV v d := by
  obtain ⟨h1, h2, h3⟩ := Ru.first_spec (runs_order (plainC v) d)
  unfold gapV
  generalize Ru.firstR (runsC (plainC v) d) = z at h1 h2 h3
  rw [plain_has hv] at h2
  have h4 : ¬ z ≤ Dt.ofV v d := fun h => by rw [decide_eq_true h1, decide_eq_true h] at h2; cases h2
  have h5 : ¬ Dt.ofV v d + 1 < z := fun h => by
    have := h3 (Dt.ofV v d + 1) (by omega) h
    rw [plain_has hv, Bool.and_eq_true, decide_eq_true_eq, decide_eq_true_eq] at this
    omega
  omega
theorem base_plain {v : List Dot} (hv : Dt.Fit v) : baseC (plainC v) = Dt.normV v := by
  rw [base_list, show gapV (plainC v) = Dt.ofV v from funext (gap_plain hv)]
  rfl
theorem norm_base {c : List Part} (hc : FitC c) : Dt.normV (baseC c) = baseC c := by
  unfold Dt.normV
  rw [of_base hc, base_list]
theorem base_plain_base {c : List Part} (hc : FitC c) : baseC (plainC (baseC c)) = baseC c := by rw [base_plain (fit_base hc), norm_base hc]
theorem within_base {c : List Part} (hc : FitC c) : withinC (plainC (baseC c)) c = true := within_iff (fit_plain (fit_base hc)) hc fun d n h => by
  rw [plain_has (fit_base hc), of_base hc, Bool.and_eq_true, decide_eq_true_eq, decide_eq_true_eq] at h
  exact gap_has h.1 h.2

/-! What is in order. -/
theorem ord_rise {c : List Part} (hr : c.Pairwise (fun a b => a.1 < b.1)) (ho : ∀ x ∈ c, Ru.InOrder x.2 ∧ x.2 ≠ [] ∧ 1 ≤ x.1 ∧ x.1 < 65536) : OrdC c := by
  have hf : FitC c := fun x hx => ⟨(ho x hx).2.2.2, fit_runs (ho x hx).1⟩
  have same : ∀ x ∈ c, ∀ y ∈ c, y.1 = x.1 → y = x := fun x hx y hy e => by
    rcases List.getElem_of_mem hx with ⟨i, hi, rfl⟩
    rcases List.getElem_of_mem hy with ⟨j, hj, rfl⟩
    rcases Nat.lt_trichotomy i j with h | h | h
    · have := (List.pairwise_iff_getElem.1 hr) i j hi hj h; omega
    · subst h; rfl
    · have := (List.pairwise_iff_getElem.1 hr) j i hj hi h; omega
  have own : ∀ x ∈ c, runsC c x.1 = x.2 := fun x hx => by
    refine Ru.uniq (runs_order _ _) (ho x hx).1 fun n => ?_
    rw [runs_has, Bool.eq_iff_iff]
    simp only [Bool.and_eq_true, decide_eq_true_eq, List.any_eq_true]
    exact ⟨fun ⟨_, y, hy, e, h⟩ => by rw [same x hx y hy e] at h; exact h, fun h => ⟨by have := (ho x hx).2.2.1; omega, x, hx, rfl, h⟩⟩
  refine ⟨runsC c, tells_runs hf, rise_uniq (fun x => x.1) hr (list_rise _) fun x => ?_⟩
  rw [list_mem (tells_runs hf)]
  constructor
  · intro hx
    exact ⟨(own x hx).symm, by rw [own x hx]; exact (ho x hx).2.1⟩
  · rintro ⟨h1, h2⟩
    have h3 : ∃ y ∈ c, y.1 = x.1 := by
      refine Classical.byContradiction fun h => h2 (runs_empty (.inr fun y hy e => h ⟨y, hy, e⟩))
    obtain ⟨y, hy, e⟩ := h3
    have := own y hy
    rw [e, ← h1] at this
    have e2 : x = y := Prod.ext e.symm this
    rw [e2]; exact hy
end Go.Proofs.YtmebokpgiehgmaaGreat.Cx

/- The contract of the document's Plain of layer ctx. -/
namespace Go.Proofs.YtmebokpgiehgmaaGreat.Cx
open Go.ChangeShapes Go.WideShapes Go.ChangeAt Go.RowKit
set_option linter.unusedVariables false

/-- a new slice of one run. -/
theorem run_lit (V : World) (b lo hi : Nat) (hb : b = V.heap.size) (h1 : lo < 18446744073709551616) (h2 : hi < 18446744073709551616) :
    RunsAt (V.alloc (.cells #[.int .u64 (lo : Int), .int .u64 (hi : Int)] 50)) (some ⟨b, 0, none⟩) [(lo, hi)] 1 1 := by
  subst hb
  refine ⟨rfl, (fun h => by cases h), Nat.le_refl _, by decide, ⟨fun r hr => by obtain rfl := List.mem_singleton.1 hr; exact ⟨h1, h2⟩, fun _ => ⟨_, rfl, by simp, fun j u hu => ?_⟩⟩⟩
  have e3 : Ru.rv [(lo, hi)] = [.int .u64 (lo : Int), .int .u64 (hi : Int)] := rfl
  rw [e3] at hu
  rw [Dt.zero_add, World.cell?_alloc_new]
  simpa using hu
/-- a part in memory whose runs lie apart. -/
theorem step_part {ops : Array Oper} {o : Oper} {a : Act} {K : Act → World → Prop} {Q : Exit → Act → World → Prop} {E : Prop} {w : World} (hgd : o.guard = none) (s x : Operand)
    (ho : o.op = .call { callee := .builtin .append, args := #[s, x], argTypes := #[24, 24] }) (hty : o.type = 24)
    (B k : Nat) (v : Value) (ps : List PV) (ad : Addr) (p : PV) (hs : a.eval s = v) (hx : a.eval x = .slice (some ad) 1 1) (hw : w.ownsRow B 44 2 v k (cv ps)) (hc : ∀ (j : Nat) (u : Value), (cv [p])[j]? = some u → w.cell? (ad.add j) = some u)
    (hn : k + 1 ≤ 4398046511104) (hB : B ≤ w.heap.size)
    (hK : ∀ A' c' w', w'.ownsRow B 44 2 (.slice A' (k + 1) c') (k + 1) (cv (ps ++ [p])) → w.grownBy w' v.ownBlock → ((Value.slice A' (k + 1) c').ownBlock = v.ownBlock ∨ (Value.slice A' (k + 1) c').ownBlock = some w.heap.size) → K (a.put o.dst (.slice A' (k + 1) c')) w') :
    if Region.wanted o (yielded ops a.tmps) = true then Oper.wp Tryz.prog o a w K Q else E := by
  have hwd : Region.wanted o (yielded ops a.tmps) = true := by simp [Region.wanted, hgd]
  rw [if_pos hwd]
  obtain ⟨i0, hi0, hz0, hz1, hz2⟩ := info_parts part_info
  obtain ⟨v', w', hr, h2, h3, hat, h5⟩ := run_append_own_at (P := Tryz.prog) w B 24 24 44 i0 (.agg #[.int .u16 0, .slice none 0 0]) 2 32 Tryz.underlying24 hi0 hz0 hz1 hz2 rfl (by decide) v k (cv ps) hw ad 1 1 (cv [p]) (by rw [cv_length]; rfl) hc (cv_one [p]) (by simp only [maxLen]; omega) (by omega) hB
  obtain ⟨A', c', rfl⟩ := Dt.own_form h2
  unfold Oper.wp execOp
  simp only [ho, resolve, invoke, builtin, Sem.run_bind, Sem.run_pure, Result.andThen_ok, List.map_toArray, List.map_cons, List.map_nil, hs, hx]
  rw [hty, hr]
  refine hK _ _ _ ?_ h3 h5
  rw [cv_append]; exact h2
theorem plain_next {N : List Dot} {k : Nat} {x : Dot} (h : N[k]? = some x) : ((N.take (k + 1)).map (fun x => ((x.1, [(1, x.2)]) : Part))) = (N.take k).map (fun x => ((x.1, [(1, x.2)]) : Part)) ++ [(x.1, [(1, x.2)])] := by
  rw [List.take_add_one, h, List.map_append]; rfl
end Go.Proofs.YtmebokpgiehgmaaGreat.Cx

/- What the walks of layer ctx's laws ask of the program's own functions, and the chapter's example. -/
namespace Go.Proofs.YtmebokpgiehgmaaGreat.Cx
open Go.ChangeShapes Go.WideShapes Go.ChangeAt Go.RowKit
set_option linter.unusedVariables false

/-- a slice of dots, that lies in this world. -/
structure DotsAt (w : World) (A : Option Addr) (l : List Dot) (n c : Nat) : Prop where
  len : l.length = n
  nil : A = none → n = 0 ∧ c = 0
  cap : n ≤ c
  max : c ≤ 9223372036854775807
  dots : Dt.Dots w w.heap.size A l
theorem DotsAt.up {w W : World} {A : Option Addr} {l : List Dot} {n c : Nat} (h : DotsAt w A l n c) (hW : Below w.heap.size w W) : DotsAt W A l n c := ⟨h.len, h.nil, h.cap, h.max, h.dots.up hW⟩
theorem DotsAt.fit {w : World} {A : Option Addr} {l : List Dot} {n c : Nat} (h : DotsAt w A l n c) : Dt.Fit l := h.dots.1
def DotsHas (w : World) (m : List Dot) (e : Ending) (w' : World) : Prop := ∃ A n c, e = .returned (.slice A n c) ∧ DotsAt w' A m n c ∧ Below w.heap.size w w'
def RunsHas (w : World) (m : List Run) (e : Ending) (w' : World) : Prop := ∃ A n c, e = .returned (.slice A n c) ∧ RunsAt w' A m n c ∧ Below w.heap.size w w'
theorem dots_has {w w' : World} {m : List Dot} {e : Ending} (hf : Dt.Fit m) (h : Dt.DotPost w m e w') : DotsHas w m e w' := by
  obtain ⟨A, n, c, rfl, hn, hA, h1, h2, hD, _, hb⟩ := Dt.post_dots h hf
  exact ⟨A, n, c, rfl, ⟨hn, hA, h1, h2, hD⟩, hb⟩
theorem runs_has' {w w' : World} {m : List Run} {e : Ending} (hm : Ru.InOrder m) (h : Ru.RunPost w m e w') : RunsHas w m e w' := by
  obtain ⟨A, n, c, rfl, hR, hb, _⟩ := runs_post h hm
  exact ⟨A, n, c, rfl, hR, hb⟩
theorem ctx_has {w w' : World} {m : List Part} {e : Ending} (h : CtxPost w m e w') : CtxHas w m e w' := post_ctx h

/-- how many runs the parts have together. -/
def wC (c : List Part) : Nat := (c.map (fun x => x.2.length)).sum
/-- at most k parts, of at most k runs together. -/
def Wide (k : Nat) (c : List Part) : Prop := c.length ≤ k ∧ wC c ≤ k
theorem Wide.more {k m : Nat} {c : List Part} (h : Wide k c) (hk : k ≤ m) : Wide m c := ⟨Nat.le_trans h.1 hk, Nat.le_trans h.2 hk⟩
theorem small_wide {c : List Part} (h : Small c) : Wide 10000 c := ⟨Nat.le_trans h.1 (by decide), h.2⟩
theorem sum_le (l : List Nat) {f g : Nat → Nat} (h : ∀ d ∈ l, f d ≤ g d) : (l.map f).sum ≤ (l.map g).sum := by
  induction l with
  | nil => exact Nat.le_refl _
  | cons d l ih =>
    have h1 := h d (List.mem_cons_self ..)
    have h2 := ih (fun e he => h e (List.mem_cons_of_mem _ he))
    simp only [List.map_cons, List.sum_cons]
    omega
theorem sum_spot (l : List Nat) (hn : l.Nodup) (f : Nat → Nat) (d0 k : Nat) : (l.map (fun d => if d0 = d then f d + k else f d)).sum ≤ (l.map f).sum + k := by
  induction l with
  | nil => simp
  | cons d l ih =>
    obtain ⟨h1, h2⟩ := List.nodup_cons.1 hn
    simp only [List.map_cons, List.sum_cons]
    by_cases hd : d0 = d
    · subst hd
      have e : l.map (fun d => if d0 = d then f d + k else f d) = l.map f := List.map_congr_left fun x hx => if_neg (fun e => h1 (by rw [e]; exact hx))
      rw [e, if_pos rfl]
      omega
    · rw [if_neg hd]
      have := ih h2
      omega
theorem runs_total (c : List Part) : ((List.range Dt.topV).map (fun d => (runsC c d).length)).sum ≤ wC c := by
  suffices h : ∀ k, ((List.range Dt.topV).map (fun d => (runsC (c.take k) d).length)).sum ≤ wC (c.take k) by
    have := h c.length
    rwa [List.take_length] at this
  intro k
  induction k with
  | zero => exact Nat.le_trans (Nat.le_of_eq ((Dt.sum_zero _ _).2 fun d _ => rfl)) (Nat.zero_le _)
  | succ k ih =>
    by_cases hk : k < c.length
    · have hg := List.getElem?_eq_getElem hk
      have e : wC (c.take (k + 1)) = wC (c.take k) + c[k].2.length := by
        unfold wC
        rw [List.take_add_one, hg, List.map_append, List.sum_append]; simp
      rw [e]
      refine Nat.le_trans (sum_le _ fun d _ => ?_) (Nat.le_trans (sum_spot (List.range Dt.topV) List.nodup_range (fun d => (runsC (c.take k) d).length) c[k].1 c[k].2.length) (by omega))
      rw [runs_next d hg]
      unfold stepC
      by_cases h1 : c[k].1 = d
      · rw [if_pos h1]
        split
        · have := Ru.set_length0 (runsC (c.take k) d) c[k].2; omega
        · omega
      · rw [if_neg h1, if_neg (fun h => h1 h.1)]
        exact Nat.le_refl _
    · have e : c.take (k + 1) = c.take k := by rw [List.take_of_length_le (by omega), List.take_of_length_le (by omega)]
      rw [e]; exact ih
theorem list_weight {f : Nat → List Run} {g : Nat → Nat} (h : ∀ d, f d ≠ [] → (f d).length ≤ g d + 1) (l : List Nat) : ((l.filterMap (oneC f)).map (fun x => x.2.length)).sum ≤ (l.map g).sum + (l.filterMap (oneC f)).length := by
  induction l with
  | nil => simp
  | cons d l ih =>
    rw [List.filterMap_cons]
    by_cases h0 : (f d).length = 0
    · rw [show oneC f d = none from if_pos h0, List.map_cons, List.sum_cons]
      simp only
      omega
    · rw [show oneC f d = some (d, f d) from if_neg h0]
      have := h d (fun e => h0 (by rw [e]; rfl))
      simp only [List.map_cons, List.sum_cons, List.length_cons]
      omega
theorem weight_set {a b : List Part} (ha : FitC a) (hb : FitC b) (how : Int) (h3 : how = 0 ∨ how = 1 ∨ how = 2) : wC (setC a b how) ≤ wC a + wC b + (a.length + b.length) := by
  have h1 := list_weight (f := fun d => Ru.setL (runsC a d) (runsC b d) how) (g := fun d => (runsC a d).length + (runsC b d).length) (fun d _ => by
    rcases h3 with rfl | rfl | rfl
    · have := Ru.set_length0 (runsC a d) (runsC b d); omega
    · have := Ru.set_length1 (runsC a d) (runsC b d); omega
    · have := Ru.set_length2 (runsC a d) (runsC b d); omega) (List.range Dt.topV)
  rw [← sum_two] at h1
  have h4 := runs_total a
  have h5 := runs_total b
  have h6 := set_len ha hb how
  unfold setC listC at *
  unfold wC at *
  omega
theorem wide_set {k : Nat} {a b : List Part} (ha : FitC a) (hb : FitC b) (wa : Wide k a) (wb : Wide k b) (how : Int) (h3 : how = 0 ∨ how = 1 ∨ how = 2) : Wide (4 * k) (setC a b how) := by
  have h1 := weight_set ha hb how h3
  have h2 := set_len ha hb how
  obtain ⟨h4, h5⟩ := wa
  obtain ⟨h6, h7⟩ := wb
  exact ⟨by omega, by omega⟩

/-- the answers of the program's functions. -/
structure PCtx : Prop where
  of : ∀ (w : World) (A : Option Addr) (l : List Dot) (n c : Nat), DotsAt w A l n c → n ≤ 67108864 → Calls Tryz.prog 20 #[.slice A n c] w (CtxHas w (ofC l))
  has : ∀ (w : World) (A : Option Addr) (a : List Part) (n c : Nat) (d : Dot), CtxAt w A a n c → Wide 67108864 a → d.1 < 65536 ∧ d.2 < 18446744073709551616 → Calls Tryz.prog 24 #[.slice A n c, .agg #[.int .u16 (d.1 : Int), .int .u64 (d.2 : Int)]] w fun e w' => e = .returned (.bool (hasC a d)) ∧ Below w.heap.size w w'
  add : ∀ (w : World) (A A2 : Option Addr) (a : List Part) (l : List Dot) (n n2 c c2 : Nat), CtxAt w A a n c → DotsAt w A2 l n2 c2 → Wide 67108864 a → n2 ≤ 67108864 → Calls Tryz.prog 35 #[.slice A n c, .slice A2 n2 c2] w (CtxHas w (setC a (ofC l) 0))
  meet : ∀ (w : World) (A1 A2 : Option Addr) (a b : List Part) (n1 n2 c1 c2 : Nat), CtxAt w A1 a n1 c1 → CtxAt w A2 b n2 c2 → Wide 67108864 a → Wide 67108864 b → Calls Tryz.prog 19 #[.slice A1 n1 c1, .slice A2 n2 c2] w (CtxHas w (setC a b 1))

/-! The document's Same and Eq, of what came out. -/
theorem same_dots (w : World) (A1 A2 : Option Addr) (l m : List Dot) (n1 n2 c1 c2 : Nat) (h1 : DotsAt w A1 l n1 c1) (h2 : DotsAt w A2 m n2 c2) :
    Calls Tryz.prog 10 #[.slice A1 n1 c1, .slice A2 n2 c2] w fun e V => e = .returned (.bool (decide (l = m))) ∧ Below w.heap.size w V := by
  refine (Dt.rsame_any w _ _ A1 A2 l m n1 n2 c1 c2 h1.len h2.len h1.dots h2.dots (Nat.le_trans h1.cap h1.max)).mono ?_
  rintro e V ⟨rfl, k, rfl⟩
  exact ⟨rfl, Ru.below_drewK (Below.refl _ _) k⟩
/-! The chapter's example. -/
def exC : List Part := [(1, [(1, 2), (4, 4)]), (2, [(2, 2)])]
def exL : List Dot := [(1, 1), (1, 2), (1, 4), (2, 2)]
theorem ex_fit : Dt.Fit exL := by unfold exL Dt.Fit; decide
theorem ex_ord : OrdC exC := by
  refine ord_rise (by unfold exC; simp) fun x hx => ?_
  unfold exC at hx
  simp only [List.mem_cons, List.not_mem_nil, or_false] at hx
  rcases hx with rfl | rfl
  · exact ⟨⟨by decide, by simp⟩, by simp, by decide, by decide⟩
  · exact ⟨⟨by decide, by simp⟩, by simp, by decide, by decide⟩
theorem ex_has (d n : Nat) : Ru.has (runsC exC d) n = (decide (d = 1) && (decide (n = 1) || decide (n = 2) || decide (n = 4)) || decide (d = 2) && decide (n = 2)) := by
  rw [runs_has]
  have h1 : Ru.mayR (1, 2) = true := by decide
  have h2 : Ru.mayR (4, 4) = true := by decide
  have h3 : Ru.mayR (2, 2) = true := by decide
  simp only [exC, List.any_cons, List.any_nil, Ru.has_cons, Ru.has_nil, Ru.tst, h1, h2, h3]
  rw [Bool.eq_iff_iff]
  simp only [Bool.and_eq_true, Bool.or_eq_true, decide_eq_true_eq, Bool.or_false, Bool.true_and]
  omega
theorem ex_of : ofC exL = exC := ord_eq (ord_of ex_fit) ex_ord fun d n => by
  rw [has_of ex_fit, ex_has]
  have h1 : Dt.mayD (1, 1) = true := by decide
  have h2 : Dt.mayD (1, 2) = true := by decide
  have h3 : Dt.mayD (1, 4) = true := by decide
  have h4 : Dt.mayD (2, 2) = true := by decide
  simp only [exL, List.any_cons, List.any_nil, isDot, h1, h2, h3, h4]
  rw [Bool.eq_iff_iff]
  simp only [Bool.and_eq_true, Bool.or_eq_true, decide_eq_true_eq, Bool.or_false, Bool.true_and]
  omega
theorem ex_base : baseC exC = [(1, 2)] := by
  rw [base_fold, ex_ord.norm]
  rfl
theorem ex_one : Dt.Fit [(1, 3)] := by unfold Dt.Fit; decide
theorem ex_more : runsC (setC exC (ofC [(1, 3)]) 0) 1 = [(1, 4)] := by
  refine Ru.uniq (runs_order _ _) ⟨by decide, by simp⟩ fun n => ?_
  rw [has_set0 ex_ord.fit (ord_of ex_one).fit, ex_has, has_of ex_one]
  have h1 : Dt.mayD (1, 3) = true := by decide
  have h2 : Ru.mayR (1, 4) = true := by decide
  simp only [List.any_cons, List.any_nil, isDot, h1, Ru.has_cons, Ru.has_nil, Ru.tst, h2]
  rw [Bool.eq_iff_iff]
  simp only [Bool.and_eq_true, Bool.or_eq_true, decide_eq_true_eq, Bool.or_false, Bool.true_and, true_and]
  omega
theorem ex_wide : Wide 67108864 exC := by unfold Wide wC exC; simp
theorem ex_wide2 : Wide 67108864 (setC exC (ofC [(1, 3)]) 0) := by
  have h1 : Wide 10000 exC := by unfold Wide wC exC; simp
  have h2 := (of_whole _ ex_one).small (k := 1) (by omega)
  exact (wide_set ex_ord.fit (ord_of ex_one).fit h1 (small_wide h2) 0 (.inl rfl)).more (by decide)
theorem lit_dots (w : World) (bl : Nat) (l : List Dot) (cs : Array Value) (hcs : cs.toList = Dt.dv l) (hf : Dt.Fit l) (h : bl = w.heap.size) (hm : l.length ≤ 9223372036854775807) : DotsAt (w.alloc (.cells cs 28)) (some ⟨bl, 0, none⟩) l l.length l.length := by
  subst h
  refine ⟨rfl, (fun h => by cases h), Nat.le_refl _, hm, ⟨hf, fun _ => ⟨_, rfl, by simp, fun j u hu => ?_⟩⟩⟩
  rw [Dt.zero_add, World.cell?_alloc_new]
  rw [← hcs] at hu
  simpa using hu
end Go.Proofs.YtmebokpgiehgmaaGreat.Cx
