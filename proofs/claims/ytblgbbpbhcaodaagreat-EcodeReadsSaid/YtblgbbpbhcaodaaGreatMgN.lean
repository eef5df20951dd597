/- Words and contracts that the proofs of this seat stand on, part 14 of 14. -/
import Derived.Test.YtblgbbpbhcaodaaGreatMgL
import Derived.Test.YtblgbbpbhcaodaaGreatMgM
import Derived.Test.YtblgbbpbhcaodaaGreatMgC
import Derived.Deep.DeepCutAuto

/- The contract of the program's GetAll of layer ecode, of a program that keeps the last dot in a variable; and all that the walks ask. -/
namespace Go.Proofs.YtblgbbpbhcaodaaGreat.Ec
open Go.ChangeShapes Go.WideShapes Go.ChangeAt Go.RowKit Go.Proofs.YtblgbbpbhcaodaaGreat.Dc
set_option linter.unusedVariables false
set_option maxRecDepth 4000

/-- the dot of the last event that was read; ahead of all the empty one. -/
def lastE (o : List Evt) : Dot := (o.getLast?.map (fun x => x.dot)).getD (0, 0)
theorem lastE_snoc (o : List Evt) (x : Evt) : lastE (o ++ [x]) = x.dot := by
  unfold lastE
  rw [List.getLast?_append]
  rfl
theorem clos_lastE {o : List Evt} {s : St} (hs : Sound s) : (if Dt.aheadD (lastE o) (evtR s).1.dot = true then (evtR s).2 else failS 4 (evtR s).2) = evtsS o s := by
  by_cases h : (evtR s).2.2 = 0
  · obtain ⟨_, h2, h3⟩ := evtR_ok h
    have h4 : stepsE o (evtR s).1 = Dt.aheadD (lastE o) (evtR s).1.dot := by
      unfold stepsE lastE
      cases o.getLast? with
      | none =>
        have h5 := (Dt.may_iff _).1 (good_kills h2).2.2.2
        rw [h3]
        show true = Dt.aheadD (0, 0) (evtN s).dot
        unfold Dt.aheadD
        exact (decide_eq_true (.inl (show 0 < (evtN s).dot.1 by omega))).symm
      | some x => rfl
    cases ha : Dt.aheadD (lastE o) (evtR s).1.dot with
    | true =>
      have e : evtsS o s = (evtR s).2 := if_neg (fun h5 => by rw [h4, ha] at h5; cases h5.2)
      rw [if_pos rfl, e]
    | false =>
      have e : evtsS o s = failS 4 (evtR s).2 := if_pos ⟨h, by rw [h4, ha]⟩
      rw [if_neg (fun h => by cases h), e]
  · have e : evtsS o s = (evtR s).2 := if_neg (fun h2 => h h2.1)
    rw [e, fail_self' (evtR_sound hs) h, ite_self]
theorem dots_two {n c g : Nat} {rb : Option Nat} {V U : World} {A : Option Addr} {l : List Dot} (h : Ev.DotsAt V V.heap.size A l n c) (ht : Nu.Two V U g rb) (hne : ∀ ad, A = some ad → 0 < n → ad.block ≠ g ∧ some ad.block ≠ rb) : Ev.DotsAt U U.heap.size A l n c := by
  refine ⟨h.len, h.nil, h.cap, h.max, h.wide, h.dots.1, fun hl => ?_⟩
  have h0 : 0 < n := by have h1 := h.len; rw [Dt.dv_length] at hl; omega
  obtain ⟨ad, e, hB, hc⟩ := h.dots.2 hl
  obtain ⟨h1, h2⟩ := hne ad e h0
  refine ⟨ad, e, Nat.lt_of_lt_of_le hB ht.size, fun j u hu => ?_⟩
  rw [World.cell?_of_block (w := V) (ht.block _ (by rw [Dt.block_add]; exact hB) (by rw [Dt.block_add]; exact h1) (by rw [Dt.block_add]; exact h2))]
  exact hc j u hu
theorem match_two {V U : World} {g : Nat} {rb : Option Nat} {ps : List Ev.EV} {o : List Evt} (hm : Ev.Match V V.heap.size ps o) (ht : Nu.Two V U g rb) (hne : ∀ p ∈ ps, ∀ ad, p.adr = some ad → 0 < p.len → ad.block ≠ g ∧ some ad.block ≠ rb) : Ev.Match U U.heap.size ps o :=
  ⟨hm.1, fun k p x hp hx => by
    have h := hm.2 k p x hp hx
    exact ⟨h.dev, h.num, h.kind, h.cid, h.fld, h.txt, h.fits, dots_two h.kills ht (hne p (List.mem_of_getElem? hp))⟩⟩
/-- events of one's own, beside a reader and the last dot. -/
structure VQ (w : World) (h B b : Nat) (V : World) (A : Option Addr) (m c : Nat) (ps : List Ev.EV) (o : List Evt) (s : St) (d : Dot) : Prop where
  len : o.length = m
  own : V.ownsRow w.heap.size 42 7 (.slice A m c) m (Ev.ev ps)
  mat : Ev.Match V V.heap.size ps o
  far : ∀ p ∈ ps, ∀ ad, p.adr = some ad → 0 < p.len → w.heap.size ≤ ad.block ∧ ad.block < V.heap.size ∧ some ad.block ≠ (Value.slice A m c).ownBlock
  rr : RP h B V s
  two : Nu.Two w V h (some b)
  last : Nu.At V b 39 #[.int .u16 (d.1 : Int), .int .u64 (d.2 : Int)]
theorem VQ.vl {w V : World} {h B b m c : Nat} {A : Option Addr} {ps : List Ev.EV} {o : List Evt} {s : St} {d : Dot} (k : VQ w h B b V A m c ps o s d) (hm : m ≤ 2199023255552) : VL w.heap.size V A o m c := by
  obtain ⟨h1, h2, h3⟩ := Dt.own_len k.own
  exact ⟨k.len, h3, h1, h2, hm, (fun ad e => by subst e; exact (k.own.lt ad.block rfl).1), ps, Dt.lies_any (by decide) k.own, k.mat, fun p hp ad e h0 => (k.far p hp ad e h0).1⟩
theorem VQ.step {w V U : World} {h B b m c : Nat} {A : Option Addr} {ps : List Ev.EV} {o : List Evt} {s s' : St} {d d' : Dot} (k : VQ w h B b V A m c ps o s d) (hh : h < w.heap.size) (hb : b < w.heap.size) (ht : Nu.Two V U h (some b)) (hr : RP h B U s') (hl : Nu.At U b 39 #[.int .u16 (d'.1 : Int), .int .u64 (d'.2 : Int)]) : VQ w h B b U A m c ps o s' d' :=
  ⟨k.len, own_two k.own ht (fun q hq => by have := (k.own.lt q hq).1; exact ⟨by omega, fun e => by have := Option.some.inj e; omega⟩),
   match_two k.mat ht (fun p hp ad e h0 => by have := (k.far p hp ad e h0).1; exact ⟨by omega, fun e => by have := Option.some.inj e; omega⟩),
   fun p hp ad e h0 => ⟨(k.far p hp ad e h0).1, Nat.lt_of_lt_of_le (k.far p hp ad e h0).2.1 ht.size, (k.far p hp ad e h0).2.2⟩, hr, Nu.two_trans k.two ht (.inl rfl), hl⟩
theorem VQ.below {w V U : World} {h B b m c : Nat} {A : Option Addr} {ps : List Ev.EV} {o : List Evt} {s : St} {d : Dot} (k : VQ w h B b V A m c ps o s d) (hB : B ≤ h) (hh : h < w.heap.size) (hb : b < w.heap.size) (hu : Below V.heap.size V U) : VQ w h B b U A m c ps o s d :=
  k.step hh hb (two_below hu) (pr_below k.rr hB hu) (k.last.below hu k.last.lt)
theorem VQ.read {w V U : World} {h B b m c : Nat} {A : Option Addr} {ps : List Ev.EV} {o : List Evt} {s s' : St} {d : Dot} (k : VQ w h B b V A m c ps o s d) (hhb : h < b) (hh : h < w.heap.size) (hb : b < w.heap.size) (hr : RP h B U s') (hg : V.grownBy U (some h)) : VQ w h B b U A m c ps o s' d :=
  k.step hh hb (two_grown hg) hr (k.last.kept hg (fun e => by have := Option.some.inj e; omega))
theorem VQ.set {w V : World} {h B b m c : Nat} {A : Option Addr} {ps : List Ev.EV} {o : List Evt} {s : St} {d d' : Dot} (k : VQ w h B b V A m c ps o s d) (hB : B ≤ h) (hhb : h < b) (hh : h < w.heap.size) (hb : b < w.heap.size) : VQ w h B b ((V.setCell ⟨b, 0, none⟩ (.int .u16 (d'.1 : Int))).setCell ⟨b, 1, none⟩ (.int .u64 (d'.2 : Int))) A m c ps o s d' :=
  k.step hh hb (two_set (two_set (two_grown (Nu.turn_refl V (some h))) 0 _) 1 _) (pr_set (pr_set k.rr hB hhb 0 _) hB hhb 1 _) ((k.last.set 0 (.int .u16 (d'.1 : Int))).set 1 (.int .u64 (d'.2 : Int)))
/-- an event more. -/
theorem VQ.more {w U X : World} {h B b m c c8 B1 : Nat} {A A8 : Option Addr} {ps : List Ev.EV} {o : List Evt} {q : Ev.EV} {x : Evt} {s : St} {d : Dot} (k : VQ w h B b U A m c ps o s d) (hB : B ≤ h) (hh : h < w.heap.size) (hb : b < w.heap.size) (hO : EO B1 U q x) (hw : w.heap.size ≤ B1) (hB1 : ∀ t, (Value.slice A m c).ownBlock = some t → t < B1)
    (ho : X.ownsRow w.heap.size 42 7 (.slice A8 (m + 1) c8) (m + 1) (Ev.ev (ps ++ [q]))) (hg : (U.alloc q.box).grownBy X (Value.slice A m c).ownBlock)
    (hat : (Value.slice A8 (m + 1) c8).ownBlock = (Value.slice A m c).ownBlock ∨ (Value.slice A8 (m + 1) c8).ownBlock = some (U.alloc q.box).heap.size) :
    VQ w h B b X A8 (m + 1) c8 (ps ++ [q]) (o ++ [x]) s d := by
  have hrow : ∀ t, (Value.slice A m c).ownBlock = some t → w.heap.size ≤ t ∧ t < U.heap.size := fun t ht => k.own.lt t ht
  have hUs := alloc_size U q.box
  have hfarU : ∀ p ∈ ps ++ [q], ∀ ad, p.adr = some ad → 0 < p.len → w.heap.size ≤ ad.block ∧ ad.block < U.heap.size ∧ some ad.block ≠ (Value.slice A m c).ownBlock := by
    intro p hp ad e h0
    rcases List.mem_append.1 hp with hp | hp
    · exact k.far p hp ad e h0
    · rw [List.mem_singleton] at hp
      rw [hp] at e h0
      have h1 := hO.far ad e
      refine ⟨by omega, is_lt hO.is e h0, fun e2 => ?_⟩
      have := hB1 _ e2.symm
      omega
  have hmU : Ev.Match (U.alloc q.box) (U.alloc q.box).heap.size (ps ++ [q]) (o ++ [x]) := (k.mat.snoc hO.is).below (below_new U q.box) |>.more (by rw [hUs]; exact Nat.le_succ _)
  refine ⟨by rw [List.length_append, k.len]; rfl, ho, match_turn hmU hg (fun p hp ad e h0 => (hfarU p hp ad e h0).2.2), fun p hp ad e h0 => ?_, pr_row (pr_new k.rr hB q.box) hB hg (fun t ht => by have := hrow t ht; omega), two_row (two_row k.two (Nu.turn_below (below_new U q.box) none) (fun q e => by cases e)) hg (fun t ht => (hrow t ht).1), (k.last.kept (Nu.turn_below (below_new U q.box) none) (by simp)).kept hg (fun e => by have := hrow b e.symm; omega)⟩
  have hf := hfarU p hp ad e h0
  refine ⟨hf.1, Nat.lt_of_lt_of_le (by rw [hUs]; exact Nat.lt_succ_of_lt hf.2.1) hg.size, fun e2 => ?_⟩
  rcases hat with hat | hat
  · exact hf.2.2 (e2.trans hat)
  · rw [hat] at e2
    have e3 : ad.block = (U.alloc q.box).heap.size := Option.some.inj e2
    omega
/-- what stands between two rounds. -/
def VKeepL (w : World) (h B b L num : Nat) (s0 : St) (k m c : Nat) (A : Option Addr) (ps : List Ev.EV) (o : List Evt) (s : St) (V : World) : Prop :=
  k ≤ num ∧ VQ w h B b V A m c ps o s (lastE o) ∧ evtsL num [] s0 = evtsL (num - k) o s ∧ (s.2 = 0 → m + s.1.length ≤ L) ∧ m ≤ L + 1
theorem got_all {w w3 V : World} {h B m c : Nat} {A : Option Addr} {ps : List Ev.EV} {o : List Evt} {s : St} {d : Dot} {D : List Evt × St} (hg : w.grownBy w3 (some h)) (k : VQ (w3.alloc (dbox (0, 0))) h B w3.heap.size V A m c ps o s d) (hm : m ≤ 2199023255552) (hD : D = (o, s)) : EvtsGot (RP h B) w h D (.returned (.slice A m c)) V := by
  subst hD
  exact ⟨A, m, c, rfl, (k.vl hm).less (by rw [alloc_size]; have := hg.size; omega), k.rr, grown_two (grown_new hg (dbox (0, 0))) k.two hg.size⟩
theorem got_none {w w3 V : World} {h B m c : Nat} {A : Option Addr} {ps : List Ev.EV} {o : List Evt} {s : St} {d : Dot} {D : List Evt × St} (hg : w.grownBy w3 (some h)) (k : VQ (w3.alloc (dbox (0, 0))) h B w3.heap.size V A m c ps o s d) (hD : D = ([], s)) : EvtsGot (RP h B) w h D (.returned (.slice none 0 0)) V :=
  evts_none hD k.rr (grown_two (grown_new hg (dbox (0, 0))) k.two hg.size)

set_option maxHeartbeats 16000000 in
theorem pgetall_any (w : World) (h B : Nat) (s : St) (most : Int) (k : RP h B w s) (hB : B ≤ h) (hl : s.1.length ≤ 1048576) (hm1 : -9223372036854775808 ≤ most) (hm2 : most < 9223372036854775808) :
    Calls Tryz.prog 7 #[.pointer (some ⟨h, 0, none⟩), .int .i64 most] w (EvtsGot (RP h B) w h (evtsR most.toNat s)) := by
  have r0 := rp_rdr hB
  have hh : h < w.heap.size := r0.lt k
  have hsm := rp_small k
  have hS : evtsR most.toNat s = (if (evtsL (numN s) [] (dotsF most.toNat s)).2.2 = 0 then evtsL (numN s) [] (dotsF most.toNat s) else ([], (evtsL (numN s) [] (dotsF most.toNat s)).2)) := rfl
  have hF : dotsF most.toNat s = if most.toNat < numN s then failS 3 (numS s) else numS s := rfl
  have hv : numN s < 18446744073709551616 := Nu.numV_lt hsm
  have hle : (numS s).1.length ≤ 1048576 := Nat.le_trans (numS_len s) hl
  have C1 := pnum_st' w h B s k hB
  obtain ⟨s1, hs1⟩ : ∃ s1, dotsF most.toNat s = s1 := ⟨_, rfl⟩
  obtain ⟨sn, hsn⟩ : ∃ sn, numS s = sn := ⟨_, rfl⟩
  obtain ⟨D, hD⟩ : ∃ D, evtsR most.toNat s = D := ⟨_, rfl⟩
  obtain ⟨num, hnum⟩ : ∃ num, numN s = num := ⟨_, rfl⟩
  rw [hD] at hS ⊢
  rw [hs1] at hF hS
  rw [hnum] at hF hS hv C1
  rw [hsn] at hF C1 hle
  have HS := Lib.hid hS
  have HF := Lib.hid hF
  have HLE := Lib.hid hle
  clear hS hF hs1 hD hnum hle k hsm hl hsn
  obtain ⟨mo, hmo⟩ : ∃ mo, most.toNat = mo := ⟨_, rfl⟩
  rw [hmo] at HF
  have hmax : (if most < 0 then 0 else most) = (mo : Int) := by split <;> omega
  have hmb : mo ≤ 9223372036854775807 := by omega
  have hw64 : IntKind.u64.wrap (mo : Int) = (mo : Int) := by rw [IntKind.wrap_u64]; omega
  clear hmo
  go_enter Tryz.func7, Tryz.ntmps7
  go_wp2_with fail
  refine C1.mono ?_
  rintro r w2 ⟨rfl, k2, g2⟩
  have K2 := Lib.hid k2
  have G2 := Lib.hid g2
  clear k2 g2 C1
  go_upto_if 15 with fail
  go_cut [] (fun wx => RP h B wx s1 ∧ w.grownBy wx (some h))
  case first =>
    by_cases hlt : mo < num
    · have CF := pfail_st w2 h B _ 3 K2.out hB (by decide)
      have hs : Hid (s1 = failS 3 sn) := Lib.hid (by rw [HF.out, if_pos hlt])
      have hd : decide (mo < num) = true := decide_eq_true hlt
      have hd' : decide ((mo : Int) < (num : Int)) = true := decide_eq_true (by omega)
      go_wp2_with fail
      refine CF.mono ?_
      rintro r w3 ⟨rfl, k3, g3⟩
      go_wp2
      go_meet
      rw [hs.out]
      exact ⟨k3, G2.out.trans g3⟩
    · have hs : Hid (s1 = sn) := Lib.hid (by rw [HF.out, if_neg hlt])
      have hd : decide (mo < num) = false := decide_eq_false hlt
      have hd' : decide ((mo : Int) < (num : Int)) = false := decide_eq_false (by omega)
      go_wp2
      go_meet
      rw [hs.out]
      exact ⟨K2.out, G2.out⟩
  case rest =>
    obtain ⟨k3, g3⟩ := hcut
    have K3 := Lib.hid k3
    have G3 := Lib.hid g3
    have hlen : Hid (s1.1.length ≤ 1048576) := Lib.hid (by
      rw [HF.out]
      split
      · show ([] : List Nat).length ≤ _; simp
      · exact HLE.out)
    have hhb : h < wc.heap.size := r0.lt k3
    have hh0 : h < (wc.alloc (dbox (0, 0))).heap.size := by rw [alloc_size]; omega
    have hb0 : wc.heap.size < (wc.alloc (dbox (0, 0))).heap.size := by rw [alloc_size]; omega
    have Q0 : Hid (VQ (wc.alloc (dbox (0, 0))) h B wc.heap.size (wc.alloc (dbox (0, 0))) none 0 0 [] [] s1 (lastE [])) := Lib.hid
      ⟨rfl, World.ownsRow_nil _ _ _ _, Ev.Match.nil_ _ _, (fun p hp => by cases hp), pr_new k3 hB _, two_grown (Nu.turn_refl _ _), Nu.At.new wc _ _⟩
    clear k3 g3 K2 G2 K3 hmax hmb hw64
    go_wp2_with fail
    go_loopw [5, 6] (fun i v wr => ∃ (k m c6 : Nat) (A6 : Option Addr) (ps : List Ev.EV) (o : List Evt) (s : St), i = .int .u64 ((num - k : Nat) : Int) ∧ v = .slice A6 m c6 ∧ VKeepL (wc.alloc (dbox (0, 0))) h B wc.heap.size 1048576 num s1 k m c6 A6 ps o s wr) (fun i _ _ => (intOf i).toNat)
    case atStart => exact ⟨0, 0, 0, none, [], [], s1, rfl, rfl, Nat.zero_le _, Q0.out, rfl, fun _ => by rw [Nat.zero_add]; exact hlen.out, Nat.zero_le _⟩
    case round =>
      clear Q0 hlen
      obtain ⟨k, m, c6, A6, ps, o, ⟨sl, se⟩, rfl, rfl, hk, hvq, hdl, hbl, hml⟩ := hrel
      have HQ := Lib.hid hvq
      have HDL := Lib.hid hdl
      have CE := perr_st wr h B (sl, se) hvq.rr
      have hsw : Hid ((wc.alloc (dbox (0, 0))).heap.size ≤ wr.heap.size) := Lib.hid hvq.two.size
      clear hvq hdl
      by_cases hlt : k < num
      · have d0 : decide ((0 : Int) < ((num - k : Nat) : Int)) = true := decide_eq_true (by omega)
        go_wp2_with fail
        refine CE.mono ?_
        rintro r wr' ⟨rfl, rfl⟩
        by_cases he : se = 0
        · subst he
          have hmm : m + sl.length ≤ 1048576 := hbl rfl
          have CD := pget_any wr h B (sl, 0) HQ.out.rr hB (by show sl.length ≤ _; omega)
          have hSS := clos_lastE (o := o) (rp_sound HQ.out.rr)
          have HNX := Lib.hid (evts_step hlt rfl HDL.out)
          have HBL := Lib.hid (fun h0 => evtsS_len (L := 1048576) o (sl, 0) h0 (by rw [HQ.out.len]; exact hmm))
          rw [HQ.out.len] at HBL
          obtain ⟨x, hx⟩ : ∃ x, (evtR (sl, 0)).1 = x := ⟨_, rfl⟩
          obtain ⟨s', hs'⟩ : ∃ s', (evtR (sl, 0)).2 = s' := ⟨_, rfl⟩
          obtain ⟨sx, hsx⟩ : ∃ sx, evtsS o (sl, 0) = sx := ⟨_, rfl⟩
          rw [hx, hs', hsx] at hSS
          rw [hx, hsx] at HNX
          rw [hsx] at HBL
          rw [hx, hs'] at CD
          have HSS := Lib.hid hSS
          have hw1 : IntKind.u64.wrap (((num - k : Nat) : Int) - 1) = ((num - (k + 1) : Nat) : Int) := by rw [IntKind.wrap_u64]; omega
          clear hx hs' hSS hsx hbl CE d0
          go_wp2_with fail
          refine CD.mono ?_
          rintro r w3 ⟨q, rfl, o3, k3, g3⟩
          have Q4 := Lib.hid ((HQ.out.read (s' := s') hhb hh0 hb0 k3 g3).below hB hh0 hb0 (below_new w3 q.box))
          have O4 := Lib.hid (o3.below (below_new w3 q.box))
          have V4 := Lib.hid (Nu.At.new w3 42 #[.int .u16 (q.dev : Int), .int .u64 (q.num : Int), .int .u8 (q.kind : Int), .int .u64 (q.cid : Int), .int .u8 (q.fld : Int), .string q.txt, .slice q.adr q.len q.cap])
          have hqx : (q.dev, q.num) = x.dot := by rw [o3.is.dev, o3.is.num]
          have HQX := Lib.hid hqx
          have hrow : Hid (∀ t, (Value.slice A6 m c6).ownBlock = some t → t < wr.heap.size) := Lib.hid (fun t ht => (HQ.out.own.lt t ht).2)
          have hh3 : h < w3.heap.size := r0.lt k3
          have hb3 : wc.heap.size < w3.heap.size := by have := hsw.out; have := g3.size; omega
          clear k3 g3 CD HQ o3 hqx
          go_upto_region 9 with fail
          generalize w3.alloc q.box = w4 at *
          generalize w3.heap.size = g at *
          have l0 := Q4.out.last.cell 0
          have l1 := Q4.out.last.cell 1
          simp at l0 l1
          obtain ⟨x0, x1, x2, x3, x4, x5, x6⟩ := pbox_cells V4.out
          have C2 : Calls Tryz.prog 22 #[.agg #[.int .u16 ((lastE o).1 : Int), .int .u64 ((lastE o).2 : Int)], .agg #[.int .u16 (q.dev : Int), .int .u64 (q.num : Int)]] w4 fun e V => e = .returned (.int .i64 (Dt.cmpD (lastE o) (q.dev, q.num))) ∧ Below w4.heap.size w4 V := Dt.pcmp_any w4 (lastE o) (q.dev, q.num)
          have hcg := cmp_ge (lastE o) (q.dev, q.num)
          go_wp2_with fail
          refine C2.mono ?_
          rintro r w5 ⟨rfl, hb5⟩
          have Q5 := Lib.hid (Q4.out.below hB hh0 hb0 hb5)
          have O5 := Lib.hid (O4.out.below hb5)
          have V5 := Lib.hid (V4.out.below hb5 V4.out.lt)
          generalize Dt.cmpD (lastE o) (q.dev, q.num) = z at *
          clear C2 l0 l1 x0 x1 x2 x3 x4 x5 x6 hb5 Q4 O4 V4
          have hsb : wc.heap.size < wr.heap.size := by have := hsw.out; rw [alloc_size] at this; omega
          cases ha : Dt.aheadD (lastE o) (q.dev, q.num) with
          | true =>
            rw [ha] at hcg
            have HS2 : Hid (s' = sx) := Lib.hid (by rw [← HSS.out, ← HQX.out]; exact (if_pos ha).symm)
            have Q6 : Hid (VQ (wc.alloc (dbox (0, 0))) h B wc.heap.size w5 A6 m c6 ps o sx (lastE o)) := Lib.hid (by rw [← HS2.out]; exact Q5.out)
            clear ha
            obtain ⟨y0, y1, _, _, _, _, _⟩ := pbox_cells V5.out
            have f0 := Q6.out.last.frozen 0
            have f1 := (Q6.out.last.set 0 (.int .u16 (q.dev : Int))).frozen 1
            have z0 := Q6.out.last.cell 0
            have z1 := (Q6.out.last.set 0 (.int .u16 (q.dev : Int))).cell 1
            have z2 := (V5.out.kept (Nu.turn_set w5 wc.heap.size 0 (.int .u16 (q.dev : Int))) (fun e => by have := Option.some.inj e; omega)).cell 0
            have z3 := (V5.out.kept (Nu.turn_set w5 wc.heap.size 0 (.int .u16 (q.dev : Int))) (fun e => by have := Option.some.inj e; omega)).cell 1
            simp at z0 z1 z2 z3
            have Q7 := Lib.hid (Q6.out.set (d' := (q.dev, q.num)) hB hhb hh0 hb0)
            have O7 := Lib.hid ((O5.out.turn (Nu.turn_set w5 wc.heap.size 0 (.int .u16 (q.dev : Int))) (fun t e => by have := Option.some.inj e; omega)).turn (Nu.turn_set _ wc.heap.size 1 (.int .u64 (q.num : Int))) (fun t e => by have := Option.some.inj e; omega))
            have V7 := Lib.hid ((V5.out.kept (Nu.turn_set w5 wc.heap.size 0 (.int .u16 (q.dev : Int))) (fun e => by have := Option.some.inj e; omega)).kept (Nu.turn_set _ wc.heap.size 1 (.int .u64 (q.num : Int))) (fun e => by have := Option.some.inj e; omega))
            go_upto_region 12 with fail
            generalize ((w5.setCell ⟨wc.heap.size, 0, none⟩ (.int .u16 (q.dev : Int))).setCell ⟨wc.heap.size, 1, none⟩ (.int .u64 (q.num : Int))) = w7 at *
            clear y0 y1 f0 f1 z0 z1 z2 z3
            obtain ⟨y0, y1, y2, y3, y4, y5, y6⟩ := pbox_cells V7.out
            have hsz : Hid ((wc.alloc (dbox (0, 0))).heap.size ≤ (w7.alloc q.box).heap.size) := Lib.hid (by rw [alloc_size w7]; exact Nat.le_trans Q7.out.two.size (Nat.le_succ _))
            go_wp2_with (at_builtin; refine wpList_evt1 rfl (.tmp 38) (.tmp 40) rfl rfl _ (wc.alloc (dbox (0, 0))).heap.size m (.slice A6 m c6) ps w7.heap.size q rfl rfl (Q7.out.own.alloc _) (Ev.lies_evt w7 q) (by omega) hsz.out ?_; intro A3 c3 V3 ho3 hg3 hat3; have HR := Lib.hid (Q7.out.more hB hh0 hb0 O7.out hsw.out hrow.out ho3 hg3 hat3); clear ho3 hg3 hat3)
            go_roundw
            case rel => exact ⟨k + 1, m + 1, c3, A3, _, _, sx, rfl, rfl, hlt, by rw [lastE_snoc, ← HQX.out]; exact HR.out, HNX.out, HBL.out, by omega⟩
            case measure => simp [intOf]; omega
          | false =>
            rw [ha] at hcg
            have HS2 : Hid (failS 4 s' = sx) := Lib.hid (by rw [← HSS.out, ← HQX.out]; exact (if_neg (fun h => by rw [ha] at h; cases h)).symm)
            have CF := pfail_st w5 h B s' 4 Q5.out.rr hB (by decide)
            rw [HS2.out] at CF
            clear ha
            go_wp2_with fail
            refine CF.mono ?_
            rintro r w6 ⟨rfl, k6, g6⟩
            have Q6 := Lib.hid (Q5.out.read (s' := sx) hhb hh0 hb0 k6 g6)
            have O6 := Lib.hid (O5.out.turn g6 (fun t e => by have := Option.some.inj e; omega))
            have V6 := Lib.hid (V5.out.kept g6 (fun e => by have := Option.some.inj e; omega))
            clear k6 g6 CF Q5 O5 V5
            obtain ⟨y0, y1, _, _, _, _, _⟩ := pbox_cells V6.out
            have f0 := Q6.out.last.frozen 0
            have f1 := (Q6.out.last.set 0 (.int .u16 (q.dev : Int))).frozen 1
            have z0 := Q6.out.last.cell 0
            have z1 := (Q6.out.last.set 0 (.int .u16 (q.dev : Int))).cell 1
            have z2 := (V6.out.kept (Nu.turn_set w6 wc.heap.size 0 (.int .u16 (q.dev : Int))) (fun e => by have := Option.some.inj e; omega)).cell 0
            have z3 := (V6.out.kept (Nu.turn_set w6 wc.heap.size 0 (.int .u16 (q.dev : Int))) (fun e => by have := Option.some.inj e; omega)).cell 1
            simp at z0 z1 z2 z3
            have Q7 := Lib.hid (Q6.out.set (d' := (q.dev, q.num)) hB hhb hh0 hb0)
            have O7 := Lib.hid ((O6.out.turn (Nu.turn_set w6 wc.heap.size 0 (.int .u16 (q.dev : Int))) (fun t e => by have := Option.some.inj e; omega)).turn (Nu.turn_set _ wc.heap.size 1 (.int .u64 (q.num : Int))) (fun t e => by have := Option.some.inj e; omega))
            have V7 := Lib.hid ((V6.out.kept (Nu.turn_set w6 wc.heap.size 0 (.int .u16 (q.dev : Int))) (fun e => by have := Option.some.inj e; omega)).kept (Nu.turn_set _ wc.heap.size 1 (.int .u64 (q.num : Int))) (fun e => by have := Option.some.inj e; omega))
            go_upto_region 12 with fail
            generalize ((w6.setCell ⟨wc.heap.size, 0, none⟩ (.int .u16 (q.dev : Int))).setCell ⟨wc.heap.size, 1, none⟩ (.int .u64 (q.num : Int))) = w7 at *
            clear y0 y1 f0 f1 z0 z1 z2 z3
            obtain ⟨y0, y1, y2, y3, y4, y5, y6⟩ := pbox_cells V7.out
            have hsz : Hid ((wc.alloc (dbox (0, 0))).heap.size ≤ (w7.alloc q.box).heap.size) := Lib.hid (by rw [alloc_size w7]; exact Nat.le_trans Q7.out.two.size (Nat.le_succ _))
            go_wp2_with (at_builtin; refine wpList_evt1 rfl (.tmp 38) (.tmp 40) rfl rfl _ (wc.alloc (dbox (0, 0))).heap.size m (.slice A6 m c6) ps w7.heap.size q rfl rfl (Q7.out.own.alloc _) (Ev.lies_evt w7 q) (by omega) hsz.out ?_; intro A3 c3 V3 ho3 hg3 hat3; have HR := Lib.hid (Q7.out.more hB hh0 hb0 O7.out hsw.out hrow.out ho3 hg3 hat3); clear ho3 hg3 hat3)
            go_roundw
            case rel => exact ⟨k + 1, m + 1, c3, A3, _, _, sx, rfl, rfl, hlt, by rw [lastE_snoc, ← HQX.out]; exact HR.out, HNX.out, HBL.out, by omega⟩
            case measure => simp [intOf]; omega
        · have hi0 : ((se : Int) == 0) = false := by rw [beq_eq_false_iff_ne]; omega
          have hi1 : ((se : Int) != 0) = true := by rw [bne, hi0]; rfl
          have hi2 : ¬ (se : Int) = 0 := by omega
          have HE : Hid (D = ([], (sl, se))) := Lib.hid (by rw [HS.out, HDL.out, evtsL_bad he]; exact if_neg he)
          go_wp2_with fail
          refine CE.mono ?_
          rintro r wr'' ⟨rfl, rfl⟩
          go_wp2
          go_ret
          exact got_none G3.out HQ.out HE.out
      · obtain rfl : k = num := by omega
        have d0 : decide ((0 : Int) < ((k - k : Nat) : Int)) = false := decide_eq_false (by omega)
        have HL0 : Hid (evtsL k [] s1 = (o, (sl, se))) := Lib.hid (by rw [HDL.out, Nat.sub_self]; rfl)
        go_wp2_with fail
        refine CE.mono ?_
        rintro r wr' ⟨rfl, rfl⟩
        by_cases he : se = 0
        · subst he
          have HE : Hid (D = (o, (sl, 0))) := Lib.hid (by rw [HS.out, HL0.out]; rfl)
          go_wp2
          go_ret
          exact got_all G3.out HQ.out (by omega) HE.out
        · have hi0 : ((se : Int) == 0) = false := by rw [beq_eq_false_iff_ne]; omega
          have hi1 : ((se : Int) != 0) = true := by rw [bne, hi0]; rfl
          have hi2 : ¬ (se : Int) = 0 := by omega
          have HE : Hid (D = ([], (sl, se))) := Lib.hid (by rw [HS.out, HL0.out]; exact if_neg he)
          go_wp2
          go_ret
          exact got_none G3.out HQ.out HE.out
end Go.Proofs.YtblgbbpbhcaodaaGreat.Ec

/- All that the walks of layer ecode ask of the program. -/
namespace Go.Proofs.YtblgbbpbhcaodaaGreat.Ec
open Go.ChangeShapes Go.WideShapes Go.ChangeAt Go.RowKit Go.Proofs.YtblgbbpbhcaodaaGreat.Dc
set_option linter.unusedVariables false
set_option maxRecDepth 4000

theorem pec : PEc where
  put := fun w B g rb m p x h hB hp hk ht hm => pput_any w B g rb m p x h hB hp hk ht hm
  encode := fun w p x hp hk ht => pencode_any w p x hp hk ht
  get := fun w h B s k hB hl => pget_any w h B s k hB hl
  getall := fun w h B s most k hB hl h1 h2 => pgetall_any w h B s most k hB hl h1 h2
  decode := fun w A b n c h hn => pdec_any w A b n c h hn
end Go.Proofs.YtblgbbpbhcaodaaGreat.Ec
