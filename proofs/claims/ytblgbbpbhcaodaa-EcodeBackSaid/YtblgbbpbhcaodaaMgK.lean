/- Words and contracts that the proofs of this seat stand on, part 11 of 14. -/
import Derived.Test.YtblgbbpbhcaodaaMgJ
import Derived.Test.YtblgbbpbhcaodaaMgI
import Derived.Test.YtblgbbpbhcaodaaMgD
import Derived.Test.YtblgbbpbhcaodaaMgH

/- The contracts of the program's listOf at dots, and of Dots, of layer dcode. -/
namespace Go.Proofs.Ytblgbbpbhcaodaa.Dc
open Go.ChangeShapes Go.WideShapes Go.ChangeAt Go.RowKit
set_option linter.unusedVariables false
set_option maxRecDepth 4000

theorem own_two {w U : World} {base n size g : Nat} {rb : Option Nat} {e : TypeId} {v : Value} {xs : List Value} (h : w.ownsRow base e size v n xs) (ht : Nu.Two w U g rb) (hne : ∀ q, v.ownBlock = some q → q ≠ g ∧ some q ≠ rb) : U.ownsRow base e size v n xs := by
  refine ⟨h.1, ?_⟩
  rcases h.2 with hn | ⟨k, cap, cur, rfl, hb, hgg, rest⟩
  · exact .inl hn
  · refine .inr ⟨k, cap, cur, rfl, hb, ?_, rest⟩
    obtain ⟨h1, h2⟩ := hne k rfl
    rw [ht.block k (Array.getElem?_eq_some_iff.1 hgg).1 h1 h2]
    exact hgg
theorem two_row {w V U : World} {h : Nat} {rb row : Option Nat} (ht : Nu.Two w V h rb) (hg : V.grownBy U row) (hr : ∀ q, row = some q → w.heap.size ≤ q) : Nu.Two w U h rb :=
  ⟨hg.os.trans ht.os, hg.tape.trans ht.tape, hg.output.trans ht.output, Nat.le_trans ht.size hg.size, fun q hq h1 h2 => (hg.block q (Nat.lt_of_lt_of_le hq ht.size) (fun e => by have := hr q e.symm; omega)).trans (ht.block q hq h1 h2)⟩
theorem grown_two {w V U : World} {h b : Nat} (hg : w.grownBy V (some h)) (ht : Nu.Two V U h (some b)) (hb : w.heap.size ≤ b) : w.grownBy U (some h) :=
  ⟨ht.os.trans hg.os, ht.tape.trans hg.tape, ht.output.trans hg.output, Nat.le_trans hg.size ht.size, fun q hq hne => (ht.block q (Nat.lt_of_lt_of_le hq hg.size) (fun e => hne (by rw [e])) (fun e => by cases e; omega)).trans (hg.block q hq hne)⟩
theorem DL.less {B0 B1 n c : Nat} {V : World} {A : Option Addr} {l : List Dot} (h : DL B0 V A l n c) (hB : B1 ≤ B0) : DL B1 V A l n c := ⟨h.len, h.nil, h.cap, h.max, h.dots, fun ad e => Nat.le_trans hB (h.far ad e)⟩
theorem DL.none_ (B0 : Nat) (w : World) : DL B0 w none [] 0 0 := ⟨rfl, (fun _ => ⟨rfl, rfl⟩), Nat.le_refl _, by decide, Dt.Dots.none_ _ _ _, fun ad e => by cases e⟩
/-- dots of one's own, beside a reader and the last dot. -/
structure DQ (w : World) (h B b : Nat) (V : World) (A : Option Addr) (m c : Nat) (o : List Dot) (s : St) : Prop where
  len : o.length = m
  fit : Dt.Fit o
  own : V.ownsRow w.heap.size 37 2 (.slice A m c) m (Dt.dv o)
  rr : Nu.PR V h B s.1 s.2
  two : Nu.Two w V h (some b)
  last : Nu.At V b 37 #[.int .u16 ((lastD o).1 : Int), .int .u64 ((lastD o).2 : Int)]
theorem DQ.dl {w V : World} {h B b m c : Nat} {A : Option Addr} {o : List Dot} {s : St} (k : DQ w h B b V A m c o s) : DL w.heap.size V A o m c := by
  obtain ⟨h1, h2, h3⟩ := Dt.own_len k.own
  exact ⟨k.len, h3, h1, h2, Dt.dots_own k.own k.fit, fun ad e => by subst e; exact (k.own.lt ad.block rfl).1⟩
theorem DQ.apart {w V : World} {h B b m c : Nat} {A : Option Addr} {o : List Dot} {s : St} (k : DQ w h B b V A m c o s) (hh : h < w.heap.size) (hb : b < w.heap.size) : ∀ q, (Value.slice A m c).ownBlock = some q → q ≠ h ∧ some q ≠ some b := fun q hq => by
  have := (k.own.lt q hq).1
  exact ⟨by omega, fun e => by cases e; omega⟩
/-- a dot more. -/
theorem DQ.more {w V V1 U : World} {h B b m c c8 : Nat} {A A8 : Option Addr} {o : List Dot} {d : Dot} {s s' : St} (k : DQ w h B b V A m c o s) (hh : h < w.heap.size) (hB : B ≤ h) (hb : b < w.heap.size) (hd : d.1 < 65536 ∧ d.2 < big)
    (hr : Nu.PR V1 h B s'.1 s'.2) (hx : Nu.At V1 b 37 #[.int .u16 (d.1 : Int), .int .u64 (d.2 : Int)]) (ht : Nu.Two V V1 h (some b))
    (ho : U.ownsRow w.heap.size 37 2 (.slice A8 (m + 1) c8) (m + 1) (Dt.dv (o ++ [d]))) (hg : (V1.alloc (dbox d)).grownBy U (Value.slice A m c).ownBlock) : DQ w h B b U A8 (m + 1) c8 (o ++ [d]) s' := by
  have hrow : ∀ t, (Value.slice A m c).ownBlock = some t → w.heap.size ≤ t := fun t ht => (k.own.lt t ht).1
  refine ⟨by rw [List.length_append, k.len]; rfl, fun x hx => ?_, ho, pr_row (pr_new hr hB (dbox d)) hB hg (fun t ht => by have := hrow t ht; omega), two_row (two_row (Nu.two_trans k.two ht (.inl rfl)) (Nu.turn_below (below_new V1 (dbox d)) none) (fun q e => by cases e)) hg hrow, ?_⟩
  · rcases List.mem_append.1 hx with hx | hx
    · exact k.fit x hx
    · rw [List.mem_singleton] at hx
      rw [hx]
      exact hd
  · rw [last_snoc]
    exact (hx.kept (Nu.turn_below (below_new V1 (dbox d)) none) (by simp)).kept hg (fun e => by have := hrow b e.symm; omega)
theorem dots_step {num k : Nat} {o : List Dot} {s s0 : St} (hk : k < num) (he : s.2 = 0) (hL : dotsL num [] s0 = dotsL (num - k) o s) : dotsL num [] s0 = dotsL (num - (k + 1)) (o ++ [(dotR s).1]) (dotsS o s) := by
  rw [hL, show num - k = num - (k + 1) + 1 by omega]
  conv => lhs; unfold dotsL
  rw [if_pos he]
/-- what stands between two rounds. -/
def DKeepL (w : World) (h B b L num : Nat) (s0 : St) (k m c : Nat) (A : Option Addr) (o : List Dot) (s : St) (V : World) : Prop :=
  k ≤ num ∧ DQ w h B b V A m c o s ∧ dotsL num [] s0 = dotsL (num - k) o s ∧ (s.2 = 0 → m + s.1.length ≤ L)
/-- what listOf answers at dots. -/
def DotsMade (w : World) (h B b : Nat) (D : List Dot × St) (r : Ending) (V : World) : Prop :=
  ∃ (A : Option Addr) (m c : Nat) (o : List Dot), r = .returned (.slice A m c) ∧ DL w.heap.size V A o m c ∧ Nu.PR V h B D.2.1 D.2.2 ∧ Nu.Two w V h (some b) ∧ (D.2.2 = 0 → o = D.1) ∧ (D.2.2 ≠ 0 → o = [])
theorem made_none {w V : World} {h B b : Nat} {D : List Dot × St} {s : St} (hD : D.2 = s) (he : s.2 ≠ 0) (hr : Nu.PR V h B s.1 s.2) (ht : Nu.Two w V h (some b)) : DotsMade w h B b D (.returned (.slice none 0 0)) V := by
  subst hD
  exact ⟨none, 0, 0, [], rfl, DL.none_ _ _, hr, ht, fun h0 => absurd h0 he, fun _ => rfl⟩

set_option maxHeartbeats 8000000 in
theorem pldot_any (w : World) (h B b num : Nat) (s0 : St) (k0 : Nu.PR w h B s0.1 s0.2) (hB : B ≤ h) (hb : h < b) (hx : Nu.At w b 37 #[.int .u16 0, .int .u64 0]) (hl : s0.1.length ≤ 1048576) (hnum : num < big) :
    Calls Try.prog 85 #[.pointer (some ⟨h, 0, none⟩), .int .u64 (num : Int), .func (.func 86) #[] #[.pointer (some ⟨b, 0, none⟩)]] w (DotsMade w h B b (dotsL num [] s0)) := by
  have hh : h < w.heap.size := k0.lt
  have hbw : b < w.heap.size := hx.lt
  have K0 := Lib.hid k0
  have X0 := Lib.hid hx
  have HLL := Lib.hid hl
  obtain ⟨D, hD⟩ : ∃ D, dotsL num [] s0 = D := ⟨_, rfl⟩
  rw [hD]
  have HD := Lib.hid hD
  have hnumb : num < 18446744073709551616 := hnum
  clear k0 hx hD hl hnum
  go_enter Try.func85, Try.ntmps85
  go_wp2_with fail
  go_loopw [1, 7] (fun i v wr => ∃ (k m c : Nat) (A : Option Addr) (o : List Dot) (s : St), i = .int .u64 ((num - k : Nat) : Int) ∧ v = .slice A m c ∧ DKeepL w h B b s0.1.length num s0 k m c A o s wr) (fun i _ _ => (intOf i).toNat)
  case atStart => exact ⟨0, 0, 0, none, [], s0, rfl, rfl, Nat.zero_le _, ⟨rfl, (fun x hx => by cases hx), World.ownsRow_nil _ _ _ _, K0.out, two_grown (Nu.turn_refl _ _), X0.out⟩, rfl, fun _ => by rw [Nat.zero_add]; exact Nat.le_refl _⟩
  case round =>
    clear K0 X0
    obtain ⟨k, m, c, A, o, ⟨sl, se⟩, rfl, rfl, hk, hro, hrl, hbl⟩ := hrel
    have HRO := Lib.hid hro
    have HRL := Lib.hid hrl
    have CE := Nu.err_any wr h B sl se hro.rr
    clear hro hrl
    by_cases hlt : k < num
    · have d0 : decide ((0 : Int) < ((num - k : Nat) : Int)) = true := decide_eq_true (by omega)
      go_wp2_with fail
      refine CE.mono ?_
      rintro r wr' ⟨rfl, rfl⟩
      by_cases he : se = 0
      · subst he
        have hmm : m + sl.length ≤ s0.1.length := hbl rfl
        have CR := pclos_any wr h B b (lastD o) (sl, 0) HRO.out.rr hB hb HRO.out.last
        rw [clos_last (sound_pr HRO.out.rr)] at CR
        have HFD := Lib.hid (dotR_fit (s := (sl, 0)) (Nu.small_of HRO.out.rr))
        have HNX := Lib.hid (dots_step hlt rfl HRL.out)
        have HBL := Lib.hid (fun h0 => dotsS_len (L := s0.1.length) o (sl, 0) h0 (by rw [HRO.out.len]; exact hmm))
        rw [HRO.out.len] at HBL
        have hw1 : IntKind.u64.wrap (((num - k : Nat) : Int) - 1) = ((num - (k + 1) : Nat) : Int) := by rw [IntKind.wrap_u64]; omega
        generalize dotsS o (sl, 0) = s4 at *
        generalize (dotR (sl, 0)).1 = d at *
        clear CE hbl d0
        go_wp2_with fail
        refine CR.mono ?_
        rintro r V ⟨rfl, k4, x4, t4⟩
        have K4 := Lib.hid k4
        have X4 := Lib.hid x4
        have T4 := Lib.hid t4
        have O4 := Lib.hid ((own_two HRO.out.own t4 (HRO.out.apart hh hbw)).alloc (dbox d))
        have L4 := Lib.hid (Dt.lies_one V d)
        have hsz : Hid (w.heap.size ≤ (V.alloc (dbox d)).heap.size) := Lib.hid (by rw [alloc_size]; have := HRO.out.two.size; have := t4.size; omega)
        have hm7 : Hid (m + 1 ≤ 8796093022208) := Lib.hid (by have := HLL.out; omega)
        clear k4 x4 t4 CR
        go_wp2_with (at_builtin; refine Dt.wpList_any rfl (.tmp 17) (.tmp 21) rfl rfl _ w.heap.size m (.slice A m c) o (some ⟨V.heap.size, 0, none⟩) [d] 1 1 rfl rfl O4.out (fun h => by cases h) L4.out rfl hm7.out hsz.out ?_; intro A8 c8 U ho hg; have RU := Lib.hid (HRO.out.more hh hB hbw HFD.out K4.out X4.out T4.out ho hg); clear ho hg)
        go_roundw
        case rel => exact ⟨k + 1, m + 1, c8, A8, _, s4, rfl, rfl, hlt, RU.out, HNX.out, HBL.out⟩
        case measure => simp [intOf]; omega
      · have hi0 : ((se : Int) == 0) = false := by rw [beq_eq_false_iff_ne]; omega
        have hi1 : ((se : Int) != 0) = true := by rw [bne, hi0]; rfl
        have hi2 : ¬ (se : Int) = 0 := by omega
        have HX : Hid (D.2 = (sl, se)) := Lib.hid (by rw [← HD.out, HRL.out, dotsL_bad he])
        go_wp2_with fail
        refine CE.mono ?_
        rintro r wr'' ⟨rfl, rfl⟩
        go_wp2
        go_ret
        exact made_none HX.out he HRO.out.rr HRO.out.two
    · obtain rfl : k = num := by omega
      have d0 : decide ((0 : Int) < ((k - k : Nat) : Int)) = false := decide_eq_false (by omega)
      have HX : Hid (D = (o, (sl, se))) := Lib.hid (by rw [← HD.out, HRL.out, Nat.sub_self]; rfl)
      go_wp2_with fail
      refine CE.mono ?_
      rintro r wr' ⟨rfl, rfl⟩
      by_cases he : se = 0
      · subst he
        go_wp2
        go_ret
        exact ⟨A, m, c, o, rfl, HRO.out.dl, by rw [HX.out]; exact HRO.out.rr, HRO.out.two, fun _ => by rw [HX.out], fun h0 => absurd (by rw [HX.out]) h0⟩
      · have hi0 : ((se : Int) == 0) = false := by rw [beq_eq_false_iff_ne]; omega
        have hi1 : ((se : Int) != 0) = true := by rw [bne, hi0]; rfl
        have hi2 : ¬ (se : Int) = 0 := by omega
        have HY : Hid (D.2 = (sl, se)) := Lib.hid (by rw [HX.out])
        go_wp2
        go_ret
        exact made_none HY.out he HRO.out.rr HRO.out.two

/-- what Dots answers. -/
def DotsGot (w : World) (h B : Nat) (D : List Dot × St) (r : Ending) (V : World) : Prop := ∃ A' m c', r = .returned (.slice A' m c') ∧ DL w.heap.size V A' D.1 m c' ∧ Nu.PR V h B D.2.1 D.2.2 ∧ w.grownBy V (some h)
theorem made_got {w w3 V : World} {h B : Nat} {E : List Dot × St} {r : Ending} (hg : w.grownBy w3 (some h)) (hm : DotsMade (w3.alloc (dbox (0, 0))) h B w3.heap.size E r V) : DotsGot w h B (if E.2.2 = 0 then E else ([], E.2)) r V := by
  obtain ⟨A, m, c, o, rfl, h1, h2, h3, h4, h5⟩ := hm
  have hs : w.heap.size ≤ (w3.alloc (dbox (0, 0))).heap.size := by rw [alloc_size]; have := hg.size; omega
  have hgr := grown_two (grown_new hg (dbox (0, 0))) h3 hg.size
  by_cases he : E.2.2 = 0
  · rw [if_pos he]
    obtain rfl := h4 he
    exact ⟨A, m, c, rfl, h1.less hs, h2, hgr⟩
  · rw [if_neg he]
    obtain rfl := h5 he
    exact ⟨A, m, c, rfl, h1.less hs, h2, hgr⟩

set_option maxHeartbeats 8000000 in
theorem pdotsr_any (w : World) (h B : Nat) (l : List Nat) (e : Nat) (most : Int) (k : Nu.PR w h B l e) (hB : B ≤ h) (hl : l.length ≤ 1048576) (hm1 : -9223372036854775808 ≤ most) (hm2 : most < 9223372036854775808) :
    Calls Try.prog 75 #[.pointer (some ⟨h, 0, none⟩), .int .i64 most] w (DotsGot w h B (dotsR most.toNat (l, e))) := by
  have hh : h < w.heap.size := k.lt
  have hS : dotsR most.toNat (l, e) = (if (dotsL (numN (l, e)) [] (dotsF most.toNat (l, e))).2.2 = 0 then dotsL (numN (l, e)) [] (dotsF most.toNat (l, e)) else ([], (dotsL (numN (l, e)) [] (dotsF most.toNat (l, e))).2)) := rfl
  have hF : dotsF most.toNat (l, e) = if most.toNat < numN (l, e) then failS 3 (numS (l, e)) else numS (l, e) := rfl
  have hv : numN (l, e) < big := Nu.numV_lt (Nu.small_of k)
  have hle : (numS (l, e)).1.length ≤ 1048576 := Nat.le_trans (numS_len (l, e)) hl
  have C1 := pnum_st w h B (l, e) k hB
  obtain ⟨D, hD⟩ : ∃ D, dotsR most.toNat (l, e) = D := ⟨_, rfl⟩
  obtain ⟨s1, hs1⟩ : ∃ s1, dotsF most.toNat (l, e) = s1 := ⟨_, rfl⟩
  obtain ⟨s0, hs0⟩ : ∃ s0, numS (l, e) = s0 := ⟨_, rfl⟩
  obtain ⟨num, hnum⟩ : ∃ num, numN (l, e) = num := ⟨_, rfl⟩
  obtain ⟨mo, hmo⟩ : ∃ mo, most.toNat = mo := ⟨_, rfl⟩
  rw [hD] at hS ⊢
  rw [hs1] at hF hS
  rw [hmo, hnum, hs0] at hF
  rw [hnum] at hS hv C1
  rw [hs0] at C1 hle
  have HS := Lib.hid hS
  have HF := Lib.hid hF
  have HLE := Lib.hid hle
  have HV := Lib.hid hv
  have hmax : (if most < 0 then 0 else most) = (mo : Int) := by split <;> omega
  have hmb : mo ≤ 9223372036854775807 := by omega
  have hw64 : IntKind.u64.wrap (mo : Int) = (mo : Int) := by rw [IntKind.wrap_u64]; omega
  clear hS hF hs1 hs0 hD hnum hle k hl hmo hv
  go_enter Try.func75, Try.ntmps75
  go_wp2_with fail
  refine C1.mono ?_
  rintro r w2 ⟨rfl, k2, g2⟩
  have K2 := Lib.hid k2
  have G2 := Lib.hid g2
  clear k2 g2 C1
  by_cases hlt : mo < num
  · have CF := Nu.fail_any w2 h B _ _ 3 K2.out hB (by decide)
    have hs : Hid (s1 = failS 3 s0) := Lib.hid (by rw [HF.out, if_pos hlt])
    have hd : decide (mo < num) = true := decide_eq_true hlt
    have hd' : decide ((mo : Int) < (num : Int)) = true := decide_eq_true (by omega)
    go_wp2_with fail
    refine CF.mono ?_
    rintro r w3 ⟨rfl, k3, g3⟩
    have G3 := Lib.hid (G2.out.trans g3)
    have hh3 : h < w3.heap.size := k3.lt
    have C3 := pldot_any (w3.alloc (dbox (0, 0))) h B w3.heap.size num s1 (by rw [hs.out]; exact pr_new k3 hB _) hB hh3 (Nu.At.new w3 _ _) (by rw [hs.out]; show 0 ≤ _; omega) HV.out
    clear k3 g3 CF
    go_wp2_with fail
    refine C3.mono ?_
    rintro r V hm
    have HM := Lib.hid (made_got G3.out hm)
    have HM2 := HM.out
    obtain ⟨A, m, c, rfl, _, _, _⟩ := HM2
    clear hm C3
    go_wp2
    go_ret
    rw [HS.out]
    exact HM.out
  · have hs : Hid (s1 = s0) := Lib.hid (by rw [HF.out, if_neg hlt])
    have hd : decide (mo < num) = false := decide_eq_false hlt
    have hd' : decide ((mo : Int) < (num : Int)) = false := decide_eq_false (by omega)
    have hh3 : h < w2.heap.size := K2.out.lt
    have C3 := pldot_any (w2.alloc (dbox (0, 0))) h B w2.heap.size num s1 (by rw [hs.out]; exact pr_new K2.out hB _) hB hh3 (Nu.At.new w2 _ _) (by rw [hs.out]; exact HLE.out) HV.out
    go_wp2_with fail
    refine C3.mono ?_
    rintro r V hm
    have HM := Lib.hid (made_got G2.out hm)
    have HM2 := HM.out
    obtain ⟨A, m, c, rfl, _, _, _⟩ := HM2
    clear hm C3
    go_wp2
    go_ret
    rw [HS.out]
    exact HM.out
end Go.Proofs.Ytblgbbpbhcaodaa.Dc

/- The contracts of the program's read and Get of layer ecode (gen-lget2.py printed it). -/
namespace Go.Proofs.Ytblgbbpbhcaodaa.Ec
open Go.ChangeShapes Go.WideShapes Go.ChangeAt Go.RowKit Go.Proofs.Ytblgbbpbhcaodaa.Dc
set_option linter.unusedVariables false
set_option maxRecDepth 4000

theorem pdot_st (w : World) (h B : Nat) (s : St) (k : RP h B w s) (hB : B ≤ h) :
    Calls Try.prog 72 #[.pointer (some ⟨h, 0, none⟩)] w fun r V => r = .returned (dval (dotR s).1) ∧ RP h B V (dotR s).2 ∧ w.grownBy V (some h) := pdot_any w h B s.1 s.2 k hB
theorem pbyte_st (w : World) (h B : Nat) (s : St) (k : RP h B w s) (hB : B ≤ h) :
    Calls Try.prog 73 #[.pointer (some ⟨h, 0, none⟩)] w fun r V => r = .returned (.int .u8 ((byteN s : Nat) : Int)) ∧ RP h B V (byteS s) ∧ w.grownBy V (some h) := Nu.byte_m w h B s.1 s.2 k hB
theorem pnum_st' (w : World) (h B : Nat) (s : St) (k : RP h B w s) (hB : B ≤ h) :
    Calls Try.prog 40 #[.pointer (some ⟨h, 0, none⟩)] w fun r V => r = .returned (.int .u64 ((numN s : Nat) : Int)) ∧ RP h B V (numS s) ∧ w.grownBy V (some h) := Nu.num_any w h B s.1 s.2 k hB
theorem ptext_st (w : World) (h B : Nat) (s : St) (k : RP h B w s) (hB : B ≤ h) :
    Calls Try.prog 74 #[.pointer (some ⟨h, 0, none⟩), .int .i64 60] w fun r V => r = .returned (.string (textN 60 s)) ∧ RP h B V (textS 60 s) ∧ w.grownBy V (some h) := Nu.text_any w h B s.1 s.2 60 k hB (by decide) (by decide)
theorem pfail_st (w : World) (h B : Nat) (s : St) (f : Nat) (k : RP h B w s) (hB : B ≤ h) (hf : f ≠ 0) :
    Calls Try.prog 41 #[.pointer (some ⟨h, 0, none⟩), .int .i64 (f : Int)] w fun r V => r = .returned (.tuple #[]) ∧ RP h B V (failS f s) ∧ w.grownBy V (some h) := Nu.fail_any w h B s.1 s.2 f k hB hf
theorem perr_st (w : World) (h B : Nat) (s : St) (k : RP h B w s) :
    Calls Try.prog 42 #[.pointer (some ⟨h, 0, none⟩)] w fun r V => r = .returned (.int .i64 (s.2 : Int)) ∧ w = V := Nu.err_any w h B s.1 s.2 k
theorem pdots_st (w : World) (h B : Nat) (s : St) (k : RP h B w s) (hB : B ≤ h) (hl : s.1.length ≤ 1048576) :
    Calls Try.prog 75 #[.pointer (some ⟨h, 0, none⟩), .int .i64 256] w fun r V => ∃ A' m c', r = .returned (.slice A' m c') ∧ DL w.heap.size V A' (dotsR 256 s).1 m c' ∧ RP h B V (dotsR 256 s).2 ∧ w.grownBy V (some h) :=
  pdotsr_any w h B s.1 s.2 256 k hB hl (by decide) (by decide)
theorem rp_small {h B : Nat} {w : World} {s : St} (k : RP h B w s) : Nu.Small s.1 := Nu.small_of k
theorem rp_sound {h B : Nat} {w : World} {s : St} (k : RP h B w s) : Sound s := sound_pr k

theorem fail_nz (s : St) : (failS 4 s).2 ≠ 0 := by
  show Nu.stopE s.2 4 ≠ 0
  unfold Nu.stopE
  split <;> omega
theorem qbox_cells {V : World} {g : Nat} {q : Ev.EV} (h : Nu.At V g 40 #[.int .u16 (q.dev : Int), .int .u64 (q.num : Int), .int .u8 (q.kind : Int), .int .u64 (q.cid : Int), .int .u8 (q.fld : Int), .string q.txt, .slice q.adr q.len q.cap]) :
    V.cell? ⟨g, 0, none⟩ = some (.int .u16 (q.dev : Int)) ∧ V.cell? ⟨g, 1, none⟩ = some (.int .u64 (q.num : Int)) ∧ V.cell? ⟨g, 2, none⟩ = some (.int .u8 (q.kind : Int)) ∧ V.cell? ⟨g, 3, none⟩ = some (.int .u64 (q.cid : Int)) ∧ V.cell? ⟨g, 4, none⟩ = some (.int .u8 (q.fld : Int)) ∧ V.cell? ⟨g, 5, none⟩ = some (.string q.txt) ∧ V.cell? ⟨g, 6, none⟩ = some (.slice q.adr q.len q.cap) :=
  ⟨h.cell 0, h.cell 1, h.cell 2, h.cell 3, h.cell 4, h.cell 5, h.cell 6⟩

set_option maxHeartbeats 16000000 in
theorem pread_any (w : World) (h B : Nat) (s : St) (k : RP h B w s) (hB : B ≤ h) (hl : s.1.length ≤ 1048576) :
    Calls Try.prog 57 #[.pointer (some ⟨h, 0, none⟩)] w (EvtGot (RP h B) w h (evtN s) (e6 s)) := by
  have r0 := rp_rdr hB
  have hh : h < w.heap.size := r0.lt k
  have G0 : Hid (GK (RP h B) w h (w.heap.size + 1) zcells s ((w.alloc zbox).alloc zbox)) := Lib.hid
    ⟨r0.new (r0.new k zbox) zbox, grown_new (grown_new (Nu.turn_refl w (some h)) zbox) zbox, (Nu.At.new w 40 zcells).kept (Nu.turn_below (below_new (w.alloc zbox) zbox) none) (by simp), by have h0 := Nu.At.new (w.alloc zbox) 40 zcells; rw [alloc_size] at h0; exact h0⟩
  have hN : evtN s = ⟨(dotR s).1, byteN (e1 s), numN (e2 s), byteN (e3 s), textN 60 (e4 s), (dotsR 256 (e5 s)).1⟩ := rfl
  have hfit := evtN_fits (s := s) (rp_small k)
  have hkil := evtN_kills (s := s) (rp_small k)
  have hl5 : (e5 s).1.length ≤ 1048576 := Nat.le_trans (e5_len s) hl
  have q1 : (dotR s).2 = e1 s := rfl
  have q2 : byteS (e1 s) = e2 s := rfl
  have q3 : numS (e2 s) = e3 s := rfl
  have q4 : byteS (e3 s) = e4 s := rfl
  have q5 : textS 60 (e4 s) = e5 s := rfl
  have q6 : (dotsR 256 (e5 s)).2 = e6 s := rfl
  have C1 := pdot_st ((w.alloc zbox).alloc zbox) h B s G0.out.rr hB
  rw [q1] at C1
  generalize e6 s = s6 at *
  generalize e5 s = s5 at *
  generalize e4 s = s4 at *
  generalize e3 s = s3 at *
  generalize e2 s = s2 at *
  generalize e1 s = s1 at *
  generalize evtN s = x at *
  generalize (dotR s).1 = d at *
  obtain ⟨kd, hkd⟩ : ∃ kd, byteN s1 = kd := ⟨_, rfl⟩
  obtain ⟨ci, hci⟩ : ∃ ci, numN s2 = ci := ⟨_, rfl⟩
  obtain ⟨fl, hfl⟩ : ∃ fl, byteN s3 = fl := ⟨_, rfl⟩
  obtain ⟨tx, htx⟩ : ∃ tx, textN 60 s4 = tx := ⟨_, rfl⟩
  obtain ⟨ks, hks⟩ : ∃ ks, (dotsR 256 s5).1 = ks := ⟨_, rfl⟩
  rw [hkd, hci, hfl, htx, hks] at hN
  have V2 := Lib.hid hkd
  have V3 := Lib.hid hci
  have V4 := Lib.hid hfl
  have V5 := Lib.hid htx
  have V6 := Lib.hid hks
  have hk8 : kd < 256 := by have h1 := hfit.kind; rw [hN] at h1; exact h1
  have hf8 : fl < 256 := by have h1 := hfit.fld; rw [hN] at h1; exact h1
  have HF := Lib.hid hfit
  have HKI := Lib.hid hkil
  have HL5 := Lib.hid hl5
  have P2 := Lib.hid q2
  have P3 := Lib.hid q3
  have P4 := Lib.hid q4
  have P5 := Lib.hid q5
  have P6 := Lib.hid q6
  have HX := Lib.hid hN
  clear hfit hkil hl5 q1 q2 q3 q4 q5 q6 hN k hl hkd hci hfl htx hks
  go_enter Try.func57, Try.ntmps57
  go_upto_region 2 with fail
  generalize (w.alloc zbox).alloc zbox = v0 at *
  have hw1 : w.heap.size < w.heap.size + 1 := Nat.lt_succ_self _
  obtain ⟨g, hg⟩ : ∃ g, w.heap.size + 1 = g := ⟨_, rfl⟩
  rw [hg] at G0 hw1
  try simp only [hg]
  go_wp2_with fail
  refine C1.mono ?_
  rintro r u1 ⟨rfl, k1, g1⟩
  have D1 := Lib.hid (G0.out.read hh hw1 k1 g1)
  have b0 := D1.out.box.cell 0
  have t0 := D1.out.box.frozen 0
  have D1' := Lib.hid (D1.out.put r0 hh hw1 0 (.int .u16 (d.1 : Int)))
  have b1 := D1'.out.box.cell 1
  have t1 := D1'.out.box.frozen 1
  simp at b0 b1
  have E1 : Hid (GK (RP h B) w h g #[.int .u16 (d.1 : Int), .int .u64 (d.2 : Int), .int .u8 0, .int .u64 0, .int .u8 0, .string ⟨#[]⟩, .slice none 0 0] s1 ((u1.setCell ⟨g, 0, none⟩ (.int .u16 (d.1 : Int))).setCell ⟨g, 1, none⟩ (.int .u64 (d.2 : Int)))) := Lib.hid (D1'.out.put r0 hh hw1 1 (.int .u64 (d.2 : Int)))
  clear k1 g1 C1 D1 D1' G0
  have C2 := pbyte_st _ h B s1 E1.out.rr hB
  rw [P2.out, V2.out] at C2
  go_wp2_with fail
  generalize (u1.setCell ⟨g, 0, none⟩ (.int .u16 (d.1 : Int))).setCell ⟨g, 1, none⟩ (.int .u64 (d.2 : Int)) = v1 at *
  refine C2.mono ?_
  rintro r u2 ⟨rfl, k2, g2⟩
  have D2 := Lib.hid (E1.out.read hh hw1 k2 g2)
  have b2 := D2.out.box.cell 2
  have t2 := D2.out.box.frozen 2
  simp at b2
  have E2 : Hid (GK (RP h B) w h g #[.int .u16 (d.1 : Int), .int .u64 (d.2 : Int), .int .u8 (kd : Int), .int .u64 0, .int .u8 0, .string ⟨#[]⟩, .slice none 0 0] s2 (u2.setCell ⟨g, 2, none⟩ (.int .u8 (kd : Int)))) := Lib.hid (D2.out.put r0 hh hw1 2 (.int .u8 (kd : Int)))
  have C3 := pnum_st' _ h B s2 E2.out.rr hB
  rw [P3.out, V3.out] at C3
  clear k2 g2 C2 D2 E1
  go_wp2_with fail
  generalize u2.setCell ⟨g, 2, none⟩ (.int .u8 (kd : Int)) = v2 at *
  refine C3.mono ?_
  rintro r u3 ⟨rfl, k3, g3⟩
  have D3 := Lib.hid (E2.out.read hh hw1 k3 g3)
  have b3 := D3.out.box.cell 3
  have t3 := D3.out.box.frozen 3
  simp at b3
  have E3 : Hid (GK (RP h B) w h g #[.int .u16 (d.1 : Int), .int .u64 (d.2 : Int), .int .u8 (kd : Int), .int .u64 (ci : Int), .int .u8 0, .string ⟨#[]⟩, .slice none 0 0] s3 (u3.setCell ⟨g, 3, none⟩ (.int .u64 (ci : Int)))) := Lib.hid (D3.out.put r0 hh hw1 3 (.int .u64 (ci : Int)))
  have C4 := pbyte_st _ h B s3 E3.out.rr hB
  rw [P4.out, V4.out] at C4
  clear k3 g3 C3 D3 E2
  go_wp2_with fail
  generalize u3.setCell ⟨g, 3, none⟩ (.int .u64 (ci : Int)) = v3 at *
  refine C4.mono ?_
  rintro r u4 ⟨rfl, k4, g4⟩
  have D4 := Lib.hid (E3.out.read hh hw1 k4 g4)
  have b4 := D4.out.box.cell 4
  have t4 := D4.out.box.frozen 4
  simp at b4
  have E4 : Hid (GK (RP h B) w h g #[.int .u16 (d.1 : Int), .int .u64 (d.2 : Int), .int .u8 (kd : Int), .int .u64 (ci : Int), .int .u8 (fl : Int), .string ⟨#[]⟩, .slice none 0 0] s4 (u4.setCell ⟨g, 4, none⟩ (.int .u8 (fl : Int)))) := Lib.hid (D4.out.put r0 hh hw1 4 (.int .u8 (fl : Int)))
  have C5 := ptext_st _ h B s4 E4.out.rr hB
  rw [P5.out, V5.out] at C5
  clear k4 g4 C4 D4 E3
  go_wp2_with fail
  generalize u4.setCell ⟨g, 4, none⟩ (.int .u8 (fl : Int)) = v4 at *
  refine C5.mono ?_
  rintro r u5 ⟨rfl, k5, g5⟩
  have D5 := Lib.hid (E4.out.read hh hw1 k5 g5)
  have b5 := D5.out.box.cell 5
  have t5 := D5.out.box.frozen 5
  simp at b5
  have E5 : Hid (GK (RP h B) w h g #[.int .u16 (d.1 : Int), .int .u64 (d.2 : Int), .int .u8 (kd : Int), .int .u64 (ci : Int), .int .u8 (fl : Int), .string tx, .slice none 0 0] s5 (u5.setCell ⟨g, 5, none⟩ (.string tx))) := Lib.hid (D5.out.put r0 hh hw1 5 (.string tx))
  have C6 := pdots_st _ h B s5 E5.out.rr hB HL5.out
  rw [P6.out, V6.out] at C6
  clear k5 g5 C5 D5 E4
  go_wp2_with fail
  generalize u5.setCell ⟨g, 5, none⟩ (.string tx) = v5 at *
  refine C6.mono ?_
  rintro r u6 ⟨A6, m6, c6, rfl, d6, k6, g6⟩
  have hgv : g < v5.heap.size := E5.out.box.lt
  have D6 := Lib.hid (E5.out.read hh hw1 k6 g6)
  have b6 := D6.out.box.cell 6
  have t6 := D6.out.box.frozen 6
  simp at b6
  have E6 : Hid (GK (RP h B) w h g #[.int .u16 (d.1 : Int), .int .u64 (d.2 : Int), .int .u8 (kd : Int), .int .u64 (ci : Int), .int .u8 (fl : Int), .string tx, .slice A6 m6 c6] s6 (u6.setCell ⟨g, 6, none⟩ (.slice A6 m6 c6))) := Lib.hid (D6.out.put r0 hh hw1 6 (.slice A6 m6 c6))
  have hxx := HX.out
  subst hxx
  have O6 := Lib.hid ((eo_made (w := v5) HF.out d6 HKI.out (Nat.le_refl _)).turn (Nu.turn_set u6 g 6 (.slice A6 m6 c6)) (fun q e => by cases e; exact hgv))
  have hlow : Hid (w.heap.size + 1 ≤ v5.heap.size) := Lib.hid (by omega)
  have e0 := E6.out.box.cell 0
  have e1 := E6.out.box.cell 1
  have e2 := E6.out.box.cell 2
  have e3 := E6.out.box.cell 3
  have e4 := E6.out.box.cell 4
  have e5 := E6.out.box.cell 5
  have e6 := E6.out.box.cell 6
  simp at e0 e1 e2 e3 e4 e5 e6
  clear C6 d6 k6 g6 D6 E5 HF HKI HX
  go_upto_region 8 with fail
  generalize u6.setCell ⟨g, 6, none⟩ (.slice A6 m6 c6) = v6 at *
  have Q1 := E6.out.res.set 0 (.int .u16 (d.1 : Int))
  have Q2 := Q1.set 1 (.int .u64 (d.2 : Int))
  have Q3 := Q2.set 2 (.int .u8 (kd : Int))
  have Q4 := Q3.set 3 (.int .u64 (ci : Int))
  have Q5 := Q4.set 4 (.int .u8 (fl : Int))
  have Q6 := Q5.set 5 (.string tx)
  have Q7 := Q6.set 6 (.slice A6 m6 c6)
  have z0 := E6.out.res.cell 0
  have f0 := E6.out.res.frozen 0
  have z1 := Q1.cell 1
  have f1 := Q1.frozen 1
  have z2 := Q2.cell 2
  have f2 := Q2.frozen 2
  have z3 := Q3.cell 3
  have f3 := Q3.frozen 3
  have z4 := Q4.cell 4
  have f4 := Q4.frozen 4
  have z5 := Q5.cell 5
  have f5 := Q5.frozen 5
  have z6 := Q6.cell 6
  have f6 := Q6.frozen 6
  have y0 := Q7.cell 0
  have y1 := Q7.cell 1
  have y2 := Q7.cell 2
  have y3 := Q7.cell 3
  have y4 := Q7.cell 4
  have y5 := Q7.cell 5
  have y6 := Q7.cell 6
  simp at z0 z1 z2 z3 z4 z5 z6 y0 y1 y2 y3 y4 y5 y6
  clear Q1 Q2 Q3 Q4 Q5 Q6 Q7
  have HG := Lib.hid (E6.out.done r0 hh (O6.out.less hlow.out) (.int .u16 (d.1 : Int)) (.int .u64 (d.2 : Int)) (.int .u8 (kd : Int)) (.int .u64 (ci : Int)) (.int .u8 (fl : Int)) (.string tx) (.slice A6 m6 c6))
  go_wp2
  refine bodyPost_ret (v := Ev.EV.val ⟨d.1, d.2, kd, ci, fl, tx, A6, m6, c6⟩) ?_ rfl ?_
  · simp [results, Try.f57, go_sem, y0, y1, y2, y3, y4, y5, y6]
  · exact HG.out

set_option maxHeartbeats 16000000 in
theorem pget_any (w : World) (h B : Nat) (s : St) (k : RP h B w s) (hB : B ≤ h) (hl : s.1.length ≤ 1048576) :
    Calls Try.prog 38 #[.pointer (some ⟨h, 0, none⟩)] w (EvtGot (RP h B) w h (evtR s).1 (evtR s).2) := by
  have r0 := rp_rdr hB
  have hh : h < w.heap.size := r0.lt k
  have K0 := Lib.hid (r0.new k zbox)
  have G0 := Lib.hid (grown_new (Nu.turn_refl w (some h)) zbox)
  have R0 := Lib.hid (Nu.At.new w 40 zcells)
  have hR : evtR s = if (e6 s).2 = 0 ∧ Ev.goodE (evtN s) = true then (evtN s, e6 s) else (evtZ, failS 4 (e6 s)) := rfl
  have hsnd := e6_sound (s := s) (rp_sound k)
  have C1 := pread_any (w.alloc zbox) h B s K0.out hB hl
  generalize evtR s = D at *
  generalize e6 s = s6 at *
  generalize evtN s = x at *
  have HR := Lib.hid hR
  have HSN := Lib.hid hsnd
  clear hR hsnd k hl
  go_enter Try.func38, Try.ntmps38
  go_wp2_with fail
  refine C1.mono ?_
  rintro r w1 ⟨q, rfl, o1, k1, g1⟩
  have hw1 : w.heap.size < w1.heap.size := by have := g1.size; rw [alloc_size] at this; omega
  have E1 : Hid (GK (RP h B) w h w1.heap.size #[.int .u16 (q.dev : Int), .int .u64 (q.num : Int), .int .u8 (q.kind : Int), .int .u64 (q.cid : Int), .int .u8 (q.fld : Int), .string q.txt, .slice q.adr q.len q.cap] s6 (w1.alloc q.box)) := Lib.hid
    ⟨r0.new k1 _, grown_new (G0.out.trans g1) _, (R0.out.kept g1 (fun e => by cases e; omega)).kept (Nu.turn_below (below_new w1 _) none) (by simp), Nu.At.new w1 _ _⟩
  have O1 : Hid (EO (w.heap.size + 1) (w1.alloc q.box) q x) := Lib.hid ((o1.less (by rw [alloc_size]; exact Nat.le_refl _)).below (below_new w1 q.box))
  have GD := Ev.pgoodE_any _ _ _ O1.out.is
  simp only [Ev.EV.val] at GD
  clear k1 g1 o1 K0 G0 R0 C1
  go_upto_region 2 with fail
  generalize w1.alloc q.box = v1 at *
  generalize w1.heap.size = g at *
  obtain ⟨x0, x1, x2, x3, x4, x5, x6⟩ := qbox_cells E1.out.box
  cases hgd : Ev.goodE x with
  | true =>
    rw [hgd] at GD
    go_wp2_with fail
    refine GD.mono ?_
    rintro r v2 ⟨rfl, hb2⟩
    have E2 := Lib.hid (E1.out.below r0 hb2)
    have O2 := Lib.hid (O1.out.below hb2)
    have CERR := perr_st v2 h B s6 E2.out.rr
    clear hb2 GD x0 x1 x2 x3 x4 x5 x6 E1 O1
    go_wp2_with fail
    refine CERR.mono ?_
    rintro r v2' ⟨rfl, rfl⟩
    obtain ⟨x0, x1, x2, x3, x4, x5, x6⟩ := qbox_cells E2.out.box
    clear CERR
    by_cases he : s6.2 = 0
    · have hb0 : (((s6.2 : Nat) : Int) == 0) = true := by rw [he]; rfl
      have hb1 : (((s6.2 : Nat) : Int) != 0) = false := by rw [he]; rfl
      have HD : Hid (D = (x, s6)) := Lib.hid (by rw [HR.out]; exact if_pos ⟨he, hgd⟩)
      have Q1 := E2.out.res.set 0 (.int .u16 (q.dev : Int))
      have Q2 := Q1.set 1 (.int .u64 (q.num : Int))
      have Q3 := Q2.set 2 (.int .u8 (q.kind : Int))
      have Q4 := Q3.set 3 (.int .u64 (q.cid : Int))
      have Q5 := Q4.set 4 (.int .u8 (q.fld : Int))
      have Q6 := Q5.set 5 (.string q.txt)
      have Q7 := Q6.set 6 (.slice q.adr q.len q.cap)
      have z0 := E2.out.res.cell 0
      have f0 := E2.out.res.frozen 0
      have z1 := Q1.cell 1
      have f1 := Q1.frozen 1
      have z2 := Q2.cell 2
      have f2 := Q2.frozen 2
      have z3 := Q3.cell 3
      have f3 := Q3.frozen 3
      have z4 := Q4.cell 4
      have f4 := Q4.frozen 4
      have z5 := Q5.cell 5
      have f5 := Q5.frozen 5
      have z6 := Q6.cell 6
      have f6 := Q6.frozen 6
      have y0 := Q7.cell 0
      have y1 := Q7.cell 1
      have y2 := Q7.cell 2
      have y3 := Q7.cell 3
      have y4 := Q7.cell 4
      have y5 := Q7.cell 5
      have y6 := Q7.cell 6
      simp at z0 z1 z2 z3 z4 z5 z6 y0 y1 y2 y3 y4 y5 y6
      clear Q1 Q2 Q3 Q4 Q5 Q6 Q7
      have HG := Lib.hid (E2.out.done r0 hh O2.out (.int .u16 (q.dev : Int)) (.int .u64 (q.num : Int)) (.int .u8 (q.kind : Int)) (.int .u64 (q.cid : Int)) (.int .u8 (q.fld : Int)) (.string q.txt) (.slice q.adr q.len q.cap))
      go_wp2
      refine bodyPost_ret (v := q.val) ?_ rfl ?_
      · simp [results, Try.f38, go_sem, y0, y1, y2, y3, y4, y5, y6]
      · rw [HD.out]
        exact HG.out
    · have hb0 : (((s6.2 : Nat) : Int) == 0) = false := by rw [beq_eq_false_iff_ne]; omega
      have hb1 : (((s6.2 : Nat) : Int) != 0) = true := by rw [bne, hb0]; rfl
      have HD : Hid (D = (evtZ, s6)) := Lib.hid (by rw [HR.out, if_neg (fun h2 => he h2.1), fail_self' HSN.out he])
      have Q1 := E2.out.res.set 0 (.int .u16 0)
      have Q2 := Q1.set 1 (.int .u64 0)
      have Q3 := Q2.set 2 (.int .u8 0)
      have Q4 := Q3.set 3 (.int .u64 0)
      have Q5 := Q4.set 4 (.int .u8 0)
      have Q6 := Q5.set 5 (.string ⟨#[]⟩)
      have Q7 := Q6.set 6 (.slice none 0 0)
      have z0 := E2.out.res.cell 0
      have f0 := E2.out.res.frozen 0
      have z1 := Q1.cell 1
      have f1 := Q1.frozen 1
      have z2 := Q2.cell 2
      have f2 := Q2.frozen 2
      have z3 := Q3.cell 3
      have f3 := Q3.frozen 3
      have z4 := Q4.cell 4
      have f4 := Q4.frozen 4
      have z5 := Q5.cell 5
      have f5 := Q5.frozen 5
      have z6 := Q6.cell 6
      have f6 := Q6.frozen 6
      have y0 := Q7.cell 0
      have y1 := Q7.cell 1
      have y2 := Q7.cell 2
      have y3 := Q7.cell 3
      have y4 := Q7.cell 4
      have y5 := Q7.cell 5
      have y6 := Q7.cell 6
      simp at z0 z1 z2 z3 z4 z5 z6 y0 y1 y2 y3 y4 y5 y6
      clear Q1 Q2 Q3 Q4 Q5 Q6 Q7
      have HG := Lib.hid (E2.out.done r0 hh (EO.none_ (w.heap.size + 1) v2) (.int .u16 0) (.int .u64 0) (.int .u8 0) (.int .u64 0) (.int .u8 0) (.string ⟨#[]⟩) (.slice none 0 0))
      go_wp2
      refine bodyPost_ret (v := Ev.EV.val ⟨0, 0, 0, 0, 0, ⟨#[]⟩, none, 0, 0⟩) ?_ rfl ?_
      · simp [results, Try.f38, go_sem, y0, y1, y2, y3, y4, y5, y6]
      · rw [HD.out]
        exact HG.out
  | false =>
    rw [hgd] at GD
    have HD : Hid (D = (evtZ, failS 4 s6)) := Lib.hid (by rw [HR.out]; exact if_neg (fun h2 => by rw [hgd] at h2; cases h2.2))
    go_wp2_with fail
    refine GD.mono ?_
    rintro r v2 ⟨rfl, hb2⟩
    have E2 := Lib.hid (E1.out.below r0 hb2)
    have CF := pfail_st v2 h B s6 4 E2.out.rr hB (by decide)
    have hne := fail_nz s6
    generalize failS 4 s6 = s8 at *
    clear hb2 GD x0 x1 x2 x3 x4 x5 x6 E1 O1
    go_wp2_with fail
    refine CF.mono ?_
    rintro r v3 ⟨rfl, k3, g3⟩
    have E3 := Lib.hid (E2.out.read hh hw1 k3 g3)
    have CERR := perr_st v3 h B s8 E3.out.rr
    have hb0 : (((s8.2 : Nat) : Int) == 0) = false := by rw [beq_eq_false_iff_ne]; omega
    have hb1 : (((s8.2 : Nat) : Int) != 0) = true := by rw [bne, hb0]; rfl
    clear k3 g3 CF E2
    go_wp2_with fail
    refine CERR.mono ?_
    rintro r v3' ⟨rfl, rfl⟩
    have Q1 := E3.out.res.set 0 (.int .u16 0)
    have Q2 := Q1.set 1 (.int .u64 0)
    have Q3 := Q2.set 2 (.int .u8 0)
    have Q4 := Q3.set 3 (.int .u64 0)
    have Q5 := Q4.set 4 (.int .u8 0)
    have Q6 := Q5.set 5 (.string ⟨#[]⟩)
    have Q7 := Q6.set 6 (.slice none 0 0)
    have z0 := E3.out.res.cell 0
    have f0 := E3.out.res.frozen 0
    have z1 := Q1.cell 1
    have f1 := Q1.frozen 1
    have z2 := Q2.cell 2
    have f2 := Q2.frozen 2
    have z3 := Q3.cell 3
    have f3 := Q3.frozen 3
    have z4 := Q4.cell 4
    have f4 := Q4.frozen 4
    have z5 := Q5.cell 5
    have f5 := Q5.frozen 5
    have z6 := Q6.cell 6
    have f6 := Q6.frozen 6
    have y0 := Q7.cell 0
    have y1 := Q7.cell 1
    have y2 := Q7.cell 2
    have y3 := Q7.cell 3
    have y4 := Q7.cell 4
    have y5 := Q7.cell 5
    have y6 := Q7.cell 6
    simp at z0 z1 z2 z3 z4 z5 z6 y0 y1 y2 y3 y4 y5 y6
    clear Q1 Q2 Q3 Q4 Q5 Q6 Q7
    have HG := Lib.hid (E3.out.done r0 hh (EO.none_ (w.heap.size + 1) v3) (.int .u16 0) (.int .u64 0) (.int .u8 0) (.int .u64 0) (.int .u8 0) (.string ⟨#[]⟩) (.slice none 0 0))
    clear CERR
    go_wp2
    refine bodyPost_ret (v := Ev.EV.val ⟨0, 0, 0, 0, 0, ⟨#[]⟩, none, 0, 0⟩) ?_ rfl ?_
    · simp [results, Try.f38, go_sem, y0, y1, y2, y3, y4, y5, y6]
    · rw [HD.out]
      exact HG.out
end Go.Proofs.Ytblgbbpbhcaodaa.Ec

/- The contract of the program's Decode of layer ecode (gen-ldec.py printed it). -/
namespace Go.Proofs.Ytblgbbpbhcaodaa.Ec
open Go.ChangeShapes Go.WideShapes Go.ChangeAt Go.RowKit Go.Proofs.Ytblgbbpbhcaodaa.Dc
set_option linter.unusedVariables false
set_option maxRecDepth 4000

theorem pdec_done {w V : World} {q : Ev.EV} {x : Evt} (hb : Below w.heap.size w V) (o : EO (w.heap.size + 1) V q x) (u0 u1 u2 u3 u4 u5 u6 : Value) :
    EO w.heap.size (((((((V.setCell ⟨w.heap.size, 0, none⟩ u0).setCell ⟨w.heap.size, 1, none⟩ u1).setCell ⟨w.heap.size, 2, none⟩ u2).setCell ⟨w.heap.size, 3, none⟩ u3).setCell ⟨w.heap.size, 4, none⟩ u4).setCell ⟨w.heap.size, 5, none⟩ u5).setCell ⟨w.heap.size, 6, none⟩ u6) q x ∧
      Below w.heap.size w (((((((V.setCell ⟨w.heap.size, 0, none⟩ u0).setCell ⟨w.heap.size, 1, none⟩ u1).setCell ⟨w.heap.size, 2, none⟩ u2).setCell ⟨w.heap.size, 3, none⟩ u3).setCell ⟨w.heap.size, 4, none⟩ u4).setCell ⟨w.heap.size, 5, none⟩ u5).setCell ⟨w.heap.size, 6, none⟩ u6) := by
  have st : ∀ (V : World) (i : Nat) (u : Value), Below w.heap.size w V → EO (w.heap.size + 1) V q x → Below w.heap.size w (V.setCell ⟨w.heap.size, i, none⟩ u) ∧ EO (w.heap.size + 1) (V.setCell ⟨w.heap.size, i, none⟩ u) q x :=
    fun V i u h1 h2 => ⟨h1.setCell (Nat.le_refl _) u, h2.turn (Nu.turn_set V w.heap.size i u) (fun b e => by have e2 := Option.some.inj e; omega)⟩
  obtain ⟨a0, c0⟩ := st _ 0 u0 hb o
  obtain ⟨a1, c1⟩ := st _ 1 u1 a0 c0
  obtain ⟨a2, c2⟩ := st _ 2 u2 a1 c1
  obtain ⟨a3, c3⟩ := st _ 3 u3 a2 c2
  obtain ⟨a4, c4⟩ := st _ 4 u4 a3 c3
  obtain ⟨a5, c5⟩ := st _ 5 u5 a4 c4
  obtain ⟨a6, c6⟩ := st _ 6 u6 a5 c5
  exact ⟨c6.less (Nat.le_succ _), a6⟩
theorem pbox_cells {V : World} {g : Nat} {q : Ev.EV} (h : Nu.At V g 40 #[.int .u16 (q.dev : Int), .int .u64 (q.num : Int), .int .u8 (q.kind : Int), .int .u64 (q.cid : Int), .int .u8 (q.fld : Int), .string q.txt, .slice q.adr q.len q.cap]) :
    V.cell? ⟨g, 0, none⟩ = some (.int .u16 (q.dev : Int)) ∧ V.cell? ⟨g, 1, none⟩ = some (.int .u64 (q.num : Int)) ∧ V.cell? ⟨g, 2, none⟩ = some (.int .u8 (q.kind : Int)) ∧ V.cell? ⟨g, 3, none⟩ = some (.int .u64 (q.cid : Int)) ∧ V.cell? ⟨g, 4, none⟩ = some (.int .u8 (q.fld : Int)) ∧ V.cell? ⟨g, 5, none⟩ = some (.string q.txt) ∧ V.cell? ⟨g, 6, none⟩ = some (.slice q.adr q.len q.cap) :=
  ⟨h.cell 0, h.cell 1, h.cell 2, h.cell 3, h.cell 4, h.cell 5, h.cell 6⟩
set_option maxHeartbeats 8000000 in
theorem pdec_any (w : World) (A : Option Addr) (b : List Nat) (n c : Nat) (h : BL w A b n c) (hn : n ≤ 1048576) :
    Calls Try.prog 15 #[.slice A n c] w (DecOut w b) := by
  have hb0 := below_new w zbox
  have HB0 := Lib.hid hb0
  have Z0 := Lib.hid (Nu.At.new w 40 zcells)
  have CN := Nu.new_any (w.alloc zbox) A b n c h.len h.nil (h.up hb0).at_ (by omega)
  have hlb : b.length ≤ 1048576 := by rw [h.len]; exact hn
  have hs0 := alloc_size w zbox
  obtain ⟨D, hD⟩ : ∃ D, evtR (b, 0) = D := ⟨_, rfl⟩
  have hdec : decE b = if endN D.2 = 0 then (D.1, 0) else (evtZ, endN D.2) := by rw [← hD]; rfl
  have HD := Lib.hid hdec
  have HDD := Lib.hid hD
  clear h hD hdec hb0
  unfold DecOut
  obtain ⟨E, hE⟩ : ∃ E, decE b = E := ⟨_, rfl⟩
  rw [hE] at HD ⊢
  clear hE
  go_enter Try.func15, Try.ntmps15
  go_wp2_with fail
  refine CN.mono ?_
  rintro e w1 ⟨g, rfl, hg, p1, b1⟩
  have hgw : w.heap.size < g := by omega
  have K1 : Hid (RP g g w1 (b, 0)) := Lib.hid p1
  have B1 := Lib.hid (HB0.out.trans (b1.mono HB0.out.size))
  have Z1 := Lib.hid (Z0.out.below b1 Z0.out.lt)
  have CC := pget_any w1 g g (b, 0) K1.out (Nat.le_refl _) hlb
  rw [HDD.out] at CC
  clear CN p1 b1 Z0 hg
  go_wp2_with fail
  refine CC.mono ?_
  rintro e w2 ⟨q, rfl, o2, k2, g2⟩
  have hw1 : g < w1.heap.size := (rp_rdr (Nat.le_refl _)).lt K1.out
  have B2 := Lib.hid (Nu.below_two (rb := none) (two_grown g2) (B := w.heap.size) (by omega) (fun k e => by cases e) B1.out.size)
  have B2' := Lib.hid (B1.out.trans B2.out)
  have Z2 := Lib.hid ((Z1.out.kept g2 (fun e => by have e2 := Option.some.inj e; omega)).below (below_new w2 q.box) (Nu.At.lt (Z1.out.kept g2 (fun e => by have e2 := Option.some.inj e; omega))))
  have O2 := Lib.hid (o2.below (below_new w2 q.box))
  have K2 := Lib.hid ((rp_rdr (Nat.le_refl _)).new k2 q.box)
  have V2 := Lib.hid (Nu.At.new w2 40 #[.int .u16 (q.dev : Int), .int .u64 (q.num : Int), .int .u8 (q.kind : Int), .int .u64 (q.cid : Int), .int .u8 (q.fld : Int), .string q.txt, .slice q.adr q.len q.cap])
  have BX := Lib.hid (bel_alloc q.box B2'.out)
  have hgs : w1.heap.size ≤ w2.heap.size := g2.size
  have CE := Nu.end_any (w2.alloc q.box) g g D.2.1 D.2.2 K2.out (Nat.le_refl _)
  have hen : Nu.endE D.2.1 D.2.2 = endN D.2 := rfl
  rw [hen] at CE
  clear o2 k2 g2 CC Z1 B1 K1 B2 B2' hen
  go_wp2_with fail
  generalize w2.alloc q.box = w3 at *
  refine CE.mono ?_
  rintro e w4 ⟨rfl, k4, g4⟩
  have Z4 := Lib.hid (Z2.out.kept g4 (fun e => by have e2 := Option.some.inj e; omega))
  have O4 := Lib.hid ((O2.out.turn g4 (fun t e => by have e2 := Option.some.inj e; omega)).less (show w.heap.size + 1 ≤ _ by omega))
  have B4 := Lib.hid (BX.out.trans (Nu.below_two (rb := none) (two_grown g4) (B := w.heap.size) (by omega) (fun k e => by cases e) BX.out.size))
  have V4 := Lib.hid (V2.out.kept g4 (fun e => by have e2 := Option.some.inj e; omega))
  obtain ⟨x0, x1, x2, x3, x4, x5, x6⟩ := pbox_cells V4.out
  generalize endN D.2 = en at *
  clear k4 g4 CE K2 Z2 O2 BX V2
  by_cases he : en = 0
  · subst he
    have hd : Hid (E = (D.1, 0)) := Lib.hid (by rw [HD.out]; rfl)
    have Q1 := Z4.out.set 0 (.int .u16 (q.dev : Int))
    have Q2 := Q1.set 1 (.int .u64 (q.num : Int))
    have Q3 := Q2.set 2 (.int .u8 (q.kind : Int))
    have Q4 := Q3.set 3 (.int .u64 (q.cid : Int))
    have Q5 := Q4.set 4 (.int .u8 (q.fld : Int))
    have Q6 := Q5.set 5 (.string q.txt)
    have Q7 := Q6.set 6 (.slice q.adr q.len q.cap)
    have z0 := Z4.out.cell 0
    have f0 := Z4.out.frozen 0
    have z1 := Q1.cell 1
    have f1 := Q1.frozen 1
    have z2 := Q2.cell 2
    have f2 := Q2.frozen 2
    have z3 := Q3.cell 3
    have f3 := Q3.frozen 3
    have z4 := Q4.cell 4
    have f4 := Q4.frozen 4
    have z5 := Q5.cell 5
    have f5 := Q5.frozen 5
    have z6 := Q6.cell 6
    have f6 := Q6.frozen 6
    have y0 := Q7.cell 0
    have y1 := Q7.cell 1
    have y2 := Q7.cell 2
    have y3 := Q7.cell 3
    have y4 := Q7.cell 4
    have y5 := Q7.cell 5
    have y6 := Q7.cell 6
    simp at z0 z1 z2 z3 z4 z5 z6 y0 y1 y2 y3 y4 y5 y6
    clear Q1 Q2 Q3 Q4 Q5 Q6 Q7
    have HG := Lib.hid (pdec_done B4.out O4.out (.int .u16 (q.dev : Int)) (.int .u64 (q.num : Int)) (.int .u8 (q.kind : Int)) (.int .u64 (q.cid : Int)) (.int .u8 (q.fld : Int)) (.string q.txt) (.slice q.adr q.len q.cap))
    go_wp2
    refine bodyPost_ret (v := .tuple #[q.val, .int .i64 0]) ?_ rfl ?_
    · simp [results, Try.f15, go_sem, y0, y1, y2, y3, y4, y5, y6]
    · rw [hd.out]
      exact ⟨q, rfl, HG.out.1, HG.out.2⟩
  · have hd : Hid (E = (evtZ, en)) := Lib.hid (by rw [HD.out, if_neg he])
    have hi : ((en : Int) == 0) = false := by rw [beq_eq_false_iff_ne]; omega
    have hj : ((en : Int) != 0) = true := by rw [bne, hi]; rfl
    have hk : ¬ (en : Int) = 0 := by omega
    have Q1 := Z4.out.set 0 (.int .u16 0)
    have Q2 := Q1.set 1 (.int .u64 0)
    have Q3 := Q2.set 2 (.int .u8 0)
    have Q4 := Q3.set 3 (.int .u64 0)
    have Q5 := Q4.set 4 (.int .u8 0)
    have Q6 := Q5.set 5 (.string ⟨#[]⟩)
    have Q7 := Q6.set 6 (.slice none 0 0)
    have z0 := Z4.out.cell 0
    have f0 := Z4.out.frozen 0
    have z1 := Q1.cell 1
    have f1 := Q1.frozen 1
    have z2 := Q2.cell 2
    have f2 := Q2.frozen 2
    have z3 := Q3.cell 3
    have f3 := Q3.frozen 3
    have z4 := Q4.cell 4
    have f4 := Q4.frozen 4
    have z5 := Q5.cell 5
    have f5 := Q5.frozen 5
    have z6 := Q6.cell 6
    have f6 := Q6.frozen 6
    have y0 := Q7.cell 0
    have y1 := Q7.cell 1
    have y2 := Q7.cell 2
    have y3 := Q7.cell 3
    have y4 := Q7.cell 4
    have y5 := Q7.cell 5
    have y6 := Q7.cell 6
    simp at z0 z1 z2 z3 z4 z5 z6 y0 y1 y2 y3 y4 y5 y6
    clear Q1 Q2 Q3 Q4 Q5 Q6 Q7
    have HG := Lib.hid (pdec_done B4.out (EO.none_ (w.heap.size + 1) w4) (.int .u16 0) (.int .u64 0) (.int .u8 0) (.int .u64 0) (.int .u8 0) (.string ⟨#[]⟩) (.slice none 0 0))
    go_wp2
    refine bodyPost_ret (v := .tuple #[Ev.EV.val ⟨0, 0, 0, 0, 0, ⟨#[]⟩, none, 0, 0⟩, .int .i64 (en : Int)]) ?_ rfl ?_
    · simp [results, Try.f15, go_sem, y0, y1, y2, y3, y4, y5, y6]
    · rw [hd.out]
      exact ⟨_, rfl, HG.out.1, HG.out.2⟩
end Go.Proofs.Ytblgbbpbhcaodaa.Ec

/- The contracts of the program's PutDot, putPart, PutCtx and Encode of layer dcode. -/
namespace Go.Proofs.Ytblgbbpbhcaodaa.Dc
open Go.ChangeShapes Go.WideShapes Go.ChangeAt Go.RowKit
set_option linter.unusedVariables false
set_option maxRecDepth 4000

/-- a number more. -/
theorem ws_num {w V : World} {B g : Nat} {rb : Option Nat} {m : List Nat} (h : WS w V B g rb m) (x : Nat) (hx : x < big) (hm : m.length ≤ 70368744177664) :
    Calls Try.prog 21 #[.pointer (some ⟨g, 0, none⟩), .int .u64 (x : Int)] V fun e U => e = .returned (.tuple #[]) ∧ WS w U B g rb (m ++ Nu.enc x) :=
  h.step fun r hr => Nu.wnum_any V B g r m x hr hx hm
theorem pputdot_any (w : World) (B g : Nat) (rb : Option Nat) (m : List Nat) (d : Dot) (h : Nu.PW w B g rb m) (hd : d.1 < 65536) (hd2 : d.2 < big) (hm : m.length ≤ 35184372088832) :
    Calls Try.prog 24 #[.pointer (some ⟨g, 0, none⟩), dval d] w (Nu.WPost w B g rb (m ++ dotB d)) := by
  have HB := Lib.hid (below_new w (dbox d))
  obtain ⟨r, hr, ht, s0⟩ := side_new (WS.start h) (dbox d)
  have S0 := Lib.hid s0
  have HT := Lib.hid ht
  have HRR := Lib.hid hr
  have hw : (IntKind.u64.wrap (d.1 : Int)) = (d.1 : Int) := by rw [IntKind.wrap_u64]; omega
  obtain ⟨k0, k1⟩ := dbox_new w d (w.alloc (dbox d)) (by rw [← alloc_size w (dbox d)]; exact Below.refl _ _)
  have hb1 : d.1 < big := by show d.1 < 18446744073709551616; omega
  have hl := enc_le d.1
  clear h s0 ht hr
  go_enter Try.func24, Try.ntmps24
  go_wp2_with fail
  obtain ⟨bx, hbx⟩ : ∃ bx, w.heap.size = bx := ⟨_, rfl⟩
  rw [hbx] at S0 k0 k1 ⊢
  generalize w.alloc (dbox d) = w1 at *
  refine (ws_num S0.out.ws d.1 hb1 (by omega)).mono ?_
  rintro e w2 ⟨rfl, q2⟩
  have S1 : Hid (Side w1 w2 B g bx (m ++ Nu.enc d.1) r) := Lib.hid ⟨q2, S0.out.g_ne, S0.out.r_ne, S0.out.lt⟩
  have e1 := (S1.out.cell 1).trans k1
  clear q2 S0 k0 k1
  go_wp2_with fail
  refine (ws_num S1.out.ws d.2 hd2 (by rw [List.length_append]; omega)).mono ?_
  rintro e w3 ⟨rfl, q3⟩
  have W3 := Lib.hid (WS.join HRR.out HT.out q3)
  clear q3 S1 e1
  go_wp2
  go_end0
  unfold dotB
  rw [← List.append_assoc]
  exact W3.out.post
end Go.Proofs.Ytblgbbpbhcaodaa.Dc
