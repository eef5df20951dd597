/- Words and contracts that the proofs of this seat stand on, part 12 of 14. -/
import Derived.Test.YtmhghgogehmehaaMgI
import Derived.Test.YtmhghgogehmehaaMgK
import Derived.Test.YtmhghgogehmehaaMgJ
import Derived.Test.YtmhghgogehmehaaMgE
import Derived.Deep.RegionHeld3
import Derived.StillTailTactics

/- The contracts of the program's part, of listOf at parts, and of Ctx, of layer dcode. -/
namespace Go.Proofs.Ytmhghgogehmehaa.Dc
open Go.ChangeShapes Go.WideShapes Go.ChangeAt Go.RowKit
set_option linter.unusedVariables false
set_option maxRecDepth 4000

/-- a part that was read: its runs lie in a block of their own. -/
structure PT (w : World) (h B dev : Nat) (U : World) (A7 : Option Addr) (m7 c7 : Nat) (q : List Run) (s : St) : Prop where
  fit : dev < 65536
  len : q.length = m7
  nil : A7 = none → m7 = 0 ∧ c7 = 0
  cap : m7 ≤ c7
  max : c7 ≤ 9223372036854775807
  runs : Ru.Runs U U.heap.size A7 q
  far : ∀ ad, A7 = some ad → w.heap.size ≤ ad.block ∧ ad.block < U.heap.size
  rr : Nu.PR U h B s.1 s.2
  gr : w.grownBy U (some h)
/-- runs that were read, and a box that is filled. -/
theorem RO.part {w w2 w3 : World} {h B dev m c bx : Nat} {A : Option Addr} {q : List Run} {s : St} (k : RO w2 h B w3 A m c q s) (hg : w.grownBy w2 (some h)) (hb : bx < w2.heap.size) (hb0 : w.heap.size ≤ bx) (hh : h < w.heap.size) (hB : B ≤ h) (hd : dev < 65536) (u1 u2 : Value) :
    PT w h B dev ((w3.setCell ⟨bx, 0, none⟩ u1).setCell ⟨bx, 1, none⟩ u2) A m c q s := by
  have ho := (k.own.kept (Nu.turn_set w3 bx 0 u1) (.inr fun e => by have := (k.own.lt bx e).1; omega)).kept (Nu.turn_set _ bx 1 u2) (.inr fun e => by have := (k.own.lt bx e).1; omega)
  obtain ⟨h1, h2, h3⟩ := Dt.own_len ho
  refine ⟨hd, k.len, h3, h1, h2, ⟨k.fit, Ru.lies_any (by decide) ho⟩, fun ad e => ?_, pr_set (pr_set k.rr hB (by omega) 0 _) hB (by omega) 1 _, grown_set (grown_set (hg.trans k.gr) hb0 0 _) hb0 1 _⟩
  subst e
  have := ho.lt ad.block rfl
  omega
def PartGot (w : World) (h B : Nat) (s : St) (r : Ending) (V : World) : Prop :=
  ∃ (A7 : Option Addr) (m7 c7 : Nat) (q : List Run), r = .returned (.agg #[.int .u16 ((partR s).1.1 : Int), .slice A7 m7 c7]) ∧ PT w h B (partR s).1.1 V A7 m7 c7 q (partR s).2 ∧ ((partR s).2.2 = 0 → q = (partR s).1.2)

set_option maxHeartbeats 4000000 in
theorem ppart_any (w : World) (h B : Nat) (s : St) (k : Nu.PR w h B s.1 s.2) (hB : B ≤ h) (hl : s.1.length ≤ 1048576) :
    Calls Try.prog 16 #[.pointer (some ⟨h, 0, none⟩)] w (PartGot w h B s) := by
  have hh : h < w.heap.size := k.lt
  have K0 := Lib.hid (pr_new k hB (pbox 0 none 0 0))
  have G0 := Lib.hid (grown_new (Nu.turn_refl w (some h)) (pbox 0 none 0 0))
  have R0 := Lib.hid (Nu.At.new w 38 #[.int .u16 0, .slice none 0 0])
  have C1 := pdev_any (w.alloc (pbox 0 none 0 0)) h B s K0.out hB
  have hP : partR s = ((uptoN 65535 s, (runsL (numN (uptoS 65535 s)) [] (numS (uptoS 65535 s))).1), (runsL (numN (uptoS 65535 s)) [] (numS (uptoS 65535 s))).2) := rfl
  have hd := uptoN_le 65535 s
  have hnum : numN (uptoS 65535 s) < big := Nu.numV_lt (upto_small (m := 65535) (Nu.small_of k))
  have hle : (numS (uptoS 65535 s)).1.length ≤ 1048576 := Nat.le_trans (numS_len _) (Nat.le_trans (uptoS_len _ _) hl)
  unfold PartGot
  obtain ⟨P, hPP⟩ : ∃ P, partR s = P := ⟨_, rfl⟩
  rw [hPP] at hP ⊢
  obtain ⟨dev, hdev⟩ : ∃ dev, uptoN 65535 s = dev := ⟨_, rfl⟩
  obtain ⟨s1, hs1⟩ : ∃ s1, uptoS 65535 s = s1 := ⟨_, rfl⟩
  rw [hdev, hs1] at hP C1
  rw [hdev] at hd
  rw [hs1] at hnum hle
  have HP := Lib.hid hP
  have HN := Lib.hid hnum
  have HLE := Lib.hid hle
  clear hP hPP hdev hs1 hnum hle k hl
  go_enter Try.func16, Try.ntmps16
  go_wp2_with fail
  refine C1.mono ?_
  rintro r w1 ⟨rfl, k1, g1⟩
  have C2 := pnum_st w1 h B s1 k1 hB
  have G1 := Lib.hid (G0.out.trans g1)
  have R1 := Lib.hid (R0.out.kept g1 (fun e => by cases e; omega))
  have hs1 : w.heap.size < w1.heap.size := R1.out.lt
  have HS1 := Lib.hid hs1
  clear k1 g1 K0 G0 R0 C1 hs1
  go_wp2_with fail
  refine C2.mono ?_
  rintro r w2 ⟨rfl, k2, g2⟩
  have C3 := plrun_any w2 h B (numN s1) (numS s1) k2 hB HLE.out HN.out
  have G2 := Lib.hid (G1.out.trans g2)
  have R2 := Lib.hid (R1.out.kept g2 (fun e => by cases e; omega))
  have HS2 : Hid (w.heap.size < w2.heap.size) := Lib.hid R2.out.lt
  clear k2 g2 C2 G1 R1 HS1
  generalize numS s1 = s2 at *
  generalize numN s1 = num at *
  go_wp2_with fail
  refine C3.mono ?_
  rintro r w3 ⟨A, m, c, q, rfl, ro, hq⟩
  have R3 := Lib.hid (R2.out.kept ro.gr (fun e => by cases e; omega))
  have HT := Lib.hid (ro.part G2.out HS2.out (Nat.le_refl _) hh hB (show dev < 65536 by omega) (.int .u16 (dev : Int)) (.slice A m c))
  have HQ := Lib.hid hq
  have Q3 := R3.out.set 0 (.int .u16 (dev : Int))
  have Q4 := Q3.set 1 (.slice A m c)
  have z0 := R3.out.cell 0
  have z1 := Q3.cell 1
  have f0 := R3.out.frozen 0
  have f1 := Q3.frozen 1
  have g0 := Q4.cell 0
  have g1 := Q4.cell 1
  simp at z0 z1 g0 g1
  clear Q3 Q4 C3 ro hq R2
  go_wp2
  refine bodyPost_ret (v := .agg #[.int .u16 (dev : Int), .slice A m c]) ?_ rfl ?_
  · simp [results, Try.f16, go_sem, g0, g1]
  · rw [HP.out]
    exact ⟨A, m, c, q, rfl, HT.out, HQ.out⟩

/-- a part more. -/
theorem CQ.more {w V U X : World} {h B m c6 c8 m7 c7 dev : Nat} {A6 A7 A8 : Option Addr} {ps : List Cx.PV} {o : List Part} {q : List Run} {s s' : St} (hV : CQ w h B V A6 m c6 ps o s) (hh : h < w.heap.size) (hB : B ≤ h) (hI : PT V h B dev U A7 m7 c7 q s')
    (ho : X.ownsRow w.heap.size 38 2 (.slice A8 (m + 1) c8) (m + 1) (Cx.cv (ps ++ [⟨dev, A7, m7, c7⟩]))) (hg : (U.alloc (pbox dev A7 m7 c7)).grownBy X (Value.slice A6 m c6).ownBlock)
    (hat : (Value.slice A8 (m + 1) c8).ownBlock = (Value.slice A6 m c6).ownBlock ∨ (Value.slice A8 (m + 1) c8).ownBlock = some (U.alloc (pbox dev A7 m7 c7)).heap.size) :
    CQ w h B X A8 (m + 1) c8 (ps ++ [⟨dev, A7, m7, c7⟩]) (o ++ [(dev, q)]) s' := by
  have hrow : ∀ t, (Value.slice A6 m c6).ownBlock = some t → w.heap.size ≤ t ∧ t < V.heap.size := fun t ht => hV.own.lt t ht
  have hVU := hI.gr
  have hUs := alloc_size U (pbox dev A7 m7 c7)
  have hsz : V.heap.size ≤ U.heap.size := hVU.size
  have hr : Nu.PR X h B s'.1 s'.2 := pr_row (pr_new hI.rr hB (pbox dev A7 m7 c7)) hB hg (fun t ht => by have := hrow t ht; omega)
  have hgX : w.grownBy X (some h) := grown_row (grown_new (hV.gr.trans hVU) (pbox dev A7 m7 c7)) hg (fun t ht => (hrow t ht).1)
  have hVX : V.grownBy (U.alloc (pbox dev A7 m7 c7)) (some h) := grown_new hVU _
  have hmU : Cx.Match (U.alloc (pbox dev A7 m7 c7)) ps o := match_row hV.mat hVX (fun p hp ad e e2 => by cases e2; have := (hV.far p hp ad e).1; omega)
  have hpU : Cx.PartIs (U.alloc (pbox dev A7 m7 c7)) (U.alloc (pbox dev A7 m7 c7)).heap.size ⟨dev, A7, m7, c7⟩ (dev, q) := ⟨rfl, hI.fit, hI.len, hI.nil, hI.cap, hI.max, hI.runs.up (below_new U _)⟩
  have hws := hV.gr.size
  have hfarU : ∀ p ∈ ps ++ [⟨dev, A7, m7, c7⟩], ∀ ad, p.adr = some ad → w.heap.size ≤ ad.block ∧ ad.block < (U.alloc (pbox dev A7 m7 c7)).heap.size ∧ some ad.block ≠ (Value.slice A6 m c6).ownBlock := by
    intro p hp ad e
    rcases List.mem_append.1 hp with hp | hp
    · have := hV.far p hp ad e
      exact ⟨this.1, by omega, this.2.2⟩
    · rw [List.mem_singleton] at hp
      rw [hp] at e
      have := hI.far ad e
      refine ⟨by omega, by omega, fun e2 => ?_⟩
      have := (hrow _ e2.symm).2
      omega
  refine ⟨by rw [List.length_append, hV.len]; rfl, ho, match_row (hmU.snoc hpU) hg (fun p hp ad e => (hfarU p hp ad e).2.2), fun p hp ad e => ?_, hr, hgX⟩
  have := hfarU p hp ad e
  refine ⟨this.1, Nat.lt_of_lt_of_le this.2.1 hg.size, fun e2 => ?_⟩
  rcases hat with hat | hat
  · exact this.2.2 (e2.trans hat)
  · rw [hat] at e2
    have e3 : ad.block = (U.alloc (pbox dev A7 m7 c7)).heap.size := Option.some.inj e2
    omega
theorem runsL_len : ∀ (k : Nat) (o : List Run) (s : St), (runsL k o s).2.2 = 0 → (runsL k o s).1.length + (runsL k o s).2.1.length ≤ o.length + s.1.length
  | 0, o, s, _ => Nat.le_refl _
  | k + 1, o, s, h => by
    by_cases h0 : s.2 = 0
    · have e : runsL (k + 1) o s = runsL k (o ++ [(numN s, numN (numS s))]) (numS (numS s)) := by
        conv => lhs; unfold runsL
        rw [if_pos h0]
      rw [e] at h ⊢
      have ih := runsL_len k _ _ h
      rw [List.length_append, List.length_singleton] at ih
      have h1 : (numS (numS s)).2 = 0 := by
        rcases Nat.eq_zero_or_pos (numS (numS s)).2 with h2 | h2
        · exact h2
        · rw [runsL_bad (by omega)] at h
          exact h
      have g1 := numS_ok h1
      have g2 := numS_ok g1.1
      omega
    · rw [runsL_bad h0] at h
      exact absurd h h0
theorem partR_len {s : St} (h : (partR s).2.2 = 0) : (partR s).1.2.length + (partR s).2.1.length + 2 ≤ s.1.length := by
  have h1 : (runsL (numN (uptoS 65535 s)) [] (numS (uptoS 65535 s))).2.2 = 0 := h
  have h2 := runsL_len _ _ _ h1
  have h3 : (numS (uptoS 65535 s)).2 = 0 := by
    rcases Nat.eq_zero_or_pos (numS (uptoS 65535 s)).2 with h2 | h2
    · exact h2
    · rw [runsL_bad (by omega)] at h1
      exact h1
  have g1 := numS_ok h3
  have g2 := uptoS_ok g1.1
  rw [g2.2.2.1] at g1
  have g3 := numS_ok g1.1
  rw [g2.2.2.1] at h2
  show (runsL (numN (uptoS 65535 s)) [] (numS (uptoS 65535 s))).1.length + (runsL (numN (uptoS 65535 s)) [] (numS (uptoS 65535 s))).2.1.length + 2 ≤ s.1.length
  rw [g2.2.2.1]
  rw [List.length_nil] at h2
  omega
/-- what stands between two rounds. -/
def PKeep (w : World) (h B L num : Nat) (s0 : St) (k m c : Nat) (A : Option Addr) (ps : List Cx.PV) (o : List Part) (s : St) (V : World) : Prop :=
  k ≤ num ∧ CQ w h B V A m c ps o s ∧ (s.2 = 0 → partsL num [] s0 = partsL (num - k) o s) ∧ (s.2 ≠ 0 → (partsL num [] s0).2 = s) ∧ (s.2 = 0 → m + sumC o + s.1.length ≤ L)
theorem parts_step {num k : Nat} {o : List Part} {q : List Run} {s s0 : St} (hk : k < num) (he : s.2 = 0) (hL : partsL num [] s0 = partsL (num - k) o s) (hq : (partR s).2.2 = 0 → q = (partR s).1.2) :
    ((partR s).2.2 = 0 → partsL num [] s0 = partsL (num - (k + 1)) (o ++ [((partR s).1.1, q)]) (partR s).2) ∧ ((partR s).2.2 ≠ 0 → (partsL num [] s0).2 = (partR s).2) := by
  have h1 : partsL num [] s0 = partsL (num - (k + 1)) (o ++ [(partR s).1]) (partR s).2 := by
    rw [hL, show num - k = num - (k + 1) + 1 by omega]
    conv => lhs; unfold partsL
    rw [if_pos he]
  exact ⟨fun h => by rw [hq h]; exact h1, fun h => by rw [h1, partsL_bad h]⟩
theorem pread_len {m L : Nat} {o : List Part} {q : List Run} {s : St} (hl : m + sumC o + s.1.length ≤ L) (hq : (partR s).2.2 = 0 → q = (partR s).1.2) : (partR s).2.2 = 0 → m + 1 + sumC (o ++ [((partR s).1.1, q)]) + (partR s).2.1.length ≤ L := fun h => by
  have h1 := partR_len h
  have h2 := hq h
  rw [sum_snoc]
  show m + 1 + (sumC o + q.length) + _ ≤ L
  rw [h2]
  omega
theorem good_nil : Cx.goodC [] = true := decide_eq_true (Cx.ord_rise (by simp) (by intro x hx; cases hx)).norm.symm
/-- a part more, in a list that is no context yet. -/
theorem wpList_parts {ops : Array Oper} {rest : List Oper} {o : Oper} {a : Act} {Q : Exit → Act → World → Prop} (hgd : o.guard = none) (s x : Operand) (ho : o.op = .call { callee := .builtin .append, args := #[s, x], argTypes := #[24, 24] }) (hty : o.type = 24)
    (w : World) (B k : Nat) (v : Value) (ps : List Cx.PV) (ad : Addr) (p : Cx.PV) (hs : a.eval s = v) (hx : a.eval x = .slice (some ad) 1 1) (hw : w.ownsRow B 38 2 v k (Cx.cv ps)) (hc : ∀ (j : Nat) (u : Value), (Cx.cv [p])[j]? = some u → w.cell? (ad.add j) = some u)
    (hn : k + 1 ≤ 4398046511104) (hB : B ≤ w.heap.size)
    (hK : ∀ A' c' w', w'.ownsRow B 38 2 (.slice A' (k + 1) c') (k + 1) (Cx.cv (ps ++ [p])) → w.grownBy w' v.ownBlock → ((Value.slice A' (k + 1) c').ownBlock = v.ownBlock ∨ (Value.slice A' (k + 1) c').ownBlock = some w.heap.size) → wpList Try.prog ops Q rest (a.put o.dst (.slice A' (k + 1) c')) w') : wpList Try.prog ops Q (o :: rest) a w := by
  refine wpList_plain hgd fun K hQ => ?_
  obtain ⟨i0, hi0, hz0, hz1, hz2⟩ := info_parts Cx.part_info
  obtain ⟨v', w', hr, h2, h3, hat, h5⟩ := run_append_own_at (P := Try.prog) w B 24 24 38 i0 (.agg #[.int .u16 0, .slice none 0 0]) 2 32 Try.underlying24 hi0 hz0 hz1 hz2 rfl (by decide) v k (Cx.cv ps) hw ad 1 1 (Cx.cv [p]) (by rw [Cx.cv_length]; rfl) hc (Cx.cv_one [p]) (by simp only [maxLen]; omega) (by omega) hB
  obtain ⟨A', c', rfl⟩ := Dt.own_form h2
  unfold Oper.wp execOp
  simp only [ho, resolve, invoke, builtin, Sem.run_bind, Sem.run_pure, Result.andThen_ok, List.map_toArray, List.map_cons, List.map_nil, hs, hx]
  rw [hty, hr]
  refine hQ _ _ (hK _ _ _ ?_ h3 h5)
  rw [Cx.cv_append]; exact h2
/-- what listOf answers at parts. -/
def PartsGot (w : World) (h B : Nat) (D : List Part × St) (r : Ending) (V : World) : Prop :=
  ∃ (A : Option Addr) (m c : Nat) (o : List Part), r = .returned (.slice A m c) ∧ CL w.heap.size V A o m c ∧ Nu.PR V h B D.2.1 D.2.2 ∧ w.grownBy V (some h) ∧ (D.2.2 = 0 → o = D.1) ∧ (D.2.2 ≠ 0 → o = [])
theorem parts_none {w V : World} {h B : Nat} {D : List Part × St} {s : St} (hD : D.2 = s) (he : s.2 ≠ 0) (hr : Nu.PR V h B s.1 s.2) (hg : w.grownBy V (some h)) : PartsGot w h B D (.returned (.slice none 0 0)) V := by
  subst hD
  exact ⟨none, 0, 0, [], rfl, CL.none_ _ _, hr, hg, fun h0 => absurd h0 he, fun _ => rfl⟩

set_option maxHeartbeats 8000000 in
theorem plpart_any (w : World) (h B num : Nat) (s0 : St) (k0 : Nu.PR w h B s0.1 s0.2) (hB : B ≤ h) (hl : s0.1.length ≤ 1048576) (hnum : num < big) :
    Calls Try.prog 14 #[.pointer (some ⟨h, 0, none⟩), .int .u64 (num : Int), .func (.func 16) #[] #[]] w (PartsGot w h B (partsL num [] s0)) := by
  have hh : h < w.heap.size := k0.lt
  have K0 := Lib.hid k0
  have HLL := Lib.hid hl
  obtain ⟨D, hD⟩ : ∃ D, partsL num [] s0 = D := ⟨_, rfl⟩
  rw [hD]
  have HD := Lib.hid hD
  have hnumb : num < 18446744073709551616 := hnum
  clear k0 hD hl hnum
  go_enter Try.func14, Try.ntmps14
  go_wp2_with fail
  go_loopw [1, 7] (fun i v wr => ∃ (k m c : Nat) (A : Option Addr) (ps : List Cx.PV) (o : List Part) (s : St), i = .int .u64 ((num - k : Nat) : Int) ∧ v = .slice A m c ∧ PKeep w h B s0.1.length num s0 k m c A ps o s wr) (fun i _ _ => (intOf i).toNat)
  case atStart => exact ⟨0, 0, 0, none, [], [], s0, rfl, rfl, Nat.zero_le _, ⟨rfl, World.ownsRow_nil _ _ _ _, Cx.Match.nil_ _, (fun p hp => by cases hp), K0.out, Nu.turn_refl _ _⟩, fun _ => rfl, fun h0 => by rw [partsL_bad h0], fun _ => by show 0 + 0 + s0.1.length ≤ _; omega⟩
  case round =>
    clear K0
    obtain ⟨k, m, c, A, ps, o, ⟨sl, se⟩, rfl, rfl, hk, hro, hrl, hrb, hbl⟩ := hrel
    have HRO := Lib.hid hro
    have HRL := Lib.hid hrl
    have HRB := Lib.hid hrb
    have CE := Nu.err_any wr h B sl se hro.rr
    clear hro hrl hrb
    by_cases hlt : k < num
    · have d0 : decide ((0 : Int) < ((num - k : Nat) : Int)) = true := decide_eq_true (by omega)
      go_wp2_with fail
      refine CE.mono ?_
      rintro r wr' ⟨rfl, rfl⟩
      by_cases he : se = 0
      · subst he
        have hmm : m + sumC o + sl.length ≤ s0.1.length := hbl rfl
        have CR := ppart_any wr h B (sl, 0) HRO.out.rr hB (by have := HLL.out; show sl.length ≤ _; omega)
        have HNX := Lib.hid (fun (q : List Run) (hq : (partR (sl, 0)).2.2 = 0 → q = (partR (sl, 0)).1.2) => parts_step (s := (sl, 0)) hlt rfl (HRL.out rfl) hq)
        have HBL := Lib.hid (fun (q : List Run) (hq : (partR (sl, 0)).2.2 = 0 → q = (partR (sl, 0)).1.2) => pread_len (s := (sl, 0)) (m := m) (o := o) hmm hq)
        have hw1 : IntKind.u64.wrap (((num - k : Nat) : Int) - 1) = ((num - (k + 1) : Nat) : Int) := by rw [IntKind.wrap_u64]; omega
        unfold PartGot at CR
        generalize partR (sl, 0) = P at *
        clear CE hbl d0
        go_wp2_with fail
        refine CR.mono ?_
        rintro r V ⟨A7, m7, c7, q, rfl, pt, hq⟩
        have HPT := Lib.hid pt
        have HN1 := Lib.hid (HNX.out q hq)
        have HB1 := Lib.hid (HBL.out q hq)
        have HO := Lib.hid ((HRO.out.own.kept pt.gr (own_far HRO.out.own hh)).alloc (pbox P.1.1 A7 m7 c7))
        have hsz : Hid (w.heap.size ≤ (V.alloc (pbox P.1.1 A7 m7 c7)).heap.size) := Lib.hid (by rw [alloc_size]; have := HRO.out.gr.size; have := pt.gr.size; omega)
        have hm9 : m ≤ 1048576 := by have := HLL.out; omega
        clear pt hq CR HNX HBL
        go_wp2_with (at_builtin; refine wpList_parts rfl (.tmp 17) (.tmp 21) rfl rfl _ w.heap.size m (.slice A m c) ps ⟨V.heap.size, 0, none⟩ ⟨P.1.1, A7, m7, c7⟩ rfl rfl HO.out (Cx.part_at V ⟨P.1.1, A7, m7, c7⟩) (by omega) hsz.out ?_; intro A8 c8 X ho hg hat; have RU := Lib.hid (HRO.out.more hh hB HPT.out ho hg hat); clear ho hg hat)
        go_roundw
        case rel => exact ⟨k + 1, m + 1, c8, A8, _, _, P.2, rfl, rfl, hlt, RU.out, HN1.out.1, HN1.out.2, HB1.out⟩
        case measure => simp [intOf]; omega
      · have hi0 : ((se : Int) == 0) = false := by rw [beq_eq_false_iff_ne]; omega
        have hi1 : ((se : Int) != 0) = true := by rw [bne, hi0]; rfl
        have hi2 : ¬ (se : Int) = 0 := by omega
        have HX : Hid (D.2 = (sl, se)) := Lib.hid (by rw [← HD.out]; exact HRB.out he)
        go_wp2_with fail
        refine CE.mono ?_
        rintro r wr'' ⟨rfl, rfl⟩
        go_wp2
        go_ret
        exact parts_none HX.out he HRO.out.rr HRO.out.gr
    · obtain rfl : k = num := by omega
      have d0 : decide ((0 : Int) < ((k - k : Nat) : Int)) = false := decide_eq_false (by omega)
      go_wp2_with fail
      refine CE.mono ?_
      rintro r wr' ⟨rfl, rfl⟩
      by_cases he : se = 0
      · subst he
        have HX : Hid (D = (o, (sl, 0))) := Lib.hid (by rw [← HD.out, HRL.out rfl, Nat.sub_self]; rfl)
        go_wp2
        go_ret
        exact ⟨A, m, c, o, rfl, HRO.out.cl, by rw [HX.out]; exact HRO.out.rr, HRO.out.gr, fun _ => by rw [HX.out], fun h0 => absurd (by rw [HX.out]) h0⟩
      · have hi0 : ((se : Int) == 0) = false := by rw [beq_eq_false_iff_ne]; omega
        have hi1 : ((se : Int) != 0) = true := by rw [bne, hi0]; rfl
        have hi2 : ¬ (se : Int) = 0 := by omega
        have HX : Hid (D.2 = (sl, se)) := Lib.hid (by rw [← HD.out]; exact HRB.out he)
        go_wp2
        go_ret
        exact parts_none HX.out he HRO.out.rr HRO.out.gr

set_option maxHeartbeats 8000000 in
theorem pctxr_any (w : World) (h B : Nat) (l : List Nat) (e : Nat) (k : Nu.PR w h B l e) (hB : B ≤ h) (hl : l.length ≤ 1048576) :
    Calls Try.prog 9 #[.pointer (some ⟨h, 0, none⟩)] w (CtxGot w h B (ctxR (l, e))) := by
  have hh : h < w.heap.size := k.lt
  have hC : ctxR (l, e) = (if (partsL (numN (l, e)) [] (numS (l, e))).2.2 = 0 ∧ Cx.goodC (partsL (numN (l, e)) [] (numS (l, e))).1 = true then partsL (numN (l, e)) [] (numS (l, e)) else ([], failS 4 (partsL (numN (l, e)) [] (numS (l, e))).2)) := rfl
  have hsound := partsL_sound (numN (l, e)) [] _ (num_sound (sound_pr k))
  have hnum : numN (l, e) < big := Nu.numV_lt (Nu.small_of k)
  have hle : (numS (l, e)).1.length ≤ 1048576 := Nat.le_trans (numS_len (l, e)) hl
  have C1 := pnum_st w h B (l, e) k hB
  obtain ⟨D, hD⟩ : ∃ D, ctxR (l, e) = D := ⟨_, rfl⟩
  obtain ⟨num, hn⟩ : ∃ num, numN (l, e) = num := ⟨_, rfl⟩
  obtain ⟨s1, hs1⟩ : ∃ s1, numS (l, e) = s1 := ⟨_, rfl⟩
  rw [hD, hn, hs1] at hC
  rw [hn, hs1] at C1 hsound
  rw [hs1] at hle
  rw [hn] at hnum
  rw [hD]
  have HC := Lib.hid hC
  have HSD := Lib.hid hsound
  have HN := Lib.hid hnum
  have HLE := Lib.hid hle
  clear hC hD hn hs1 hsound hle hnum k hl
  go_enter Try.func9, Try.ntmps9
  go_wp2_with fail
  refine C1.mono ?_
  rintro r w2 ⟨rfl, k2, g2⟩
  have C2 := plpart_any w2 h B num s1 k2 hB HLE.out HN.out
  have G2 := Lib.hid g2
  clear k2 g2 C1
  generalize partsL num [] s1 = E at *
  obtain ⟨E1, El, Ee⟩ := E
  go_wp2_with fail
  refine C2.mono ?_
  rintro r w3 ⟨A, m, c, o, rfl, cl, k3, g3, ho1, ho2⟩
  have CG := Cx.pgood_any w3 A o m c cl.ctx
  have HCL := Lib.hid cl
  have K3 := Lib.hid k3
  have G3 := Lib.hid (G2.out.trans g3)
  have hg2 := G2.out.size
  have HO1 := Lib.hid ho1
  have HO2 := Lib.hid ho2
  have HW := Lib.hid hg2
  clear cl k3 g3 ho1 ho2 C2 hg2
  by_cases he : Ee = 0
  · subst he
    obtain rfl : o = E1 := HO1.out rfl
    cases hg : Cx.goodC o with
    | true =>
      rw [hg] at CG
      have HD : Hid (D = (o, (El, 0))) := Lib.hid (by rw [HC.out]; exact if_pos ⟨rfl, hg⟩)
      clear hg
      go_wp2_with fail
      refine CG.mono ?_
      rintro r V ⟨rfl, hb⟩
      have HB := Lib.hid hb
      clear hb CG
      go_wp2
      go_ret
      rw [HD.out]
      exact ⟨A, m, c, rfl, (HCL.out.below HB.out).less HW.out, pr_below K3.out hB HB.out, grown_below G3.out HB.out⟩
    | false =>
      rw [hg] at CG
      have HD : Hid (D = ([], failS 4 (El, 0))) := Lib.hid (by rw [HC.out]; exact if_neg (fun h2 => by rw [hg] at h2; cases h2.2))
      clear hg
      go_wp2_with fail
      refine CG.mono ?_
      rintro r V ⟨rfl, hb⟩
      have KV := pr_below K3.out hB hb
      have GV := Lib.hid (grown_below G3.out hb)
      have CF := Nu.fail_any V h B _ _ 4 KV hB (by decide)
      clear hb CG KV
      go_wp2_with fail
      refine CF.mono ?_
      rintro r V2 ⟨rfl, k9, g9⟩
      have R9 := Lib.hid k9
      have G9 := Lib.hid (GV.out.trans g9)
      clear k9 g9 CF
      go_wp2
      go_ret
      exact got_none HD.out R9.out G9.out
  · obtain rfl : o = [] := HO2.out he
    have hg := good_nil
    rw [hg] at CG
    have HD : Hid (D = ([], (El, Ee))) := Lib.hid (by rw [HC.out, if_neg (fun h2 => he h2.1), fail_self HSD.out he])
    clear hg
    go_wp2_with fail
    refine CG.mono ?_
    rintro r V ⟨rfl, hb⟩
    have HB := Lib.hid hb
    clear hb CG
    go_wp2
    go_ret
    rw [HD.out]
    exact ⟨A, m, c, rfl, (HCL.out.below HB.out).less HW.out, pr_below K3.out hB HB.out, grown_below G3.out HB.out⟩
end Go.Proofs.Ytmhghgogehmehaa.Dc

/- The contract of the program's Decode of layer dcode. -/
namespace Go.Proofs.Ytmhghgogehmehaa.Dc
open Go.ChangeShapes Go.WideShapes Go.ChangeAt Go.RowKit
set_option linter.unusedVariables false
set_option maxRecDepth 4000

theorem below_some {w V U : World} {g : Nat} (h : Below w.heap.size w V) (hg : V.grownBy U (some g)) (hw : w.heap.size ≤ g) : Below w.heap.size w U := h.grown hg h.size (fun q e => by cases e; exact hw)
set_option maxHeartbeats 4000000 in
theorem pdec_any (w : World) (A : Option Addr) (b : List Nat) (n c : Nat) (h : BL w A b n c) (hn : n ≤ 1048576) :
    Calls Try.prog 5 #[.slice A n c] w (DecPost w b) := by
  have CN := Lib.hid (Nu.new_any w A b n c h.len h.nil h.at_ (by omega))
  have hlb := Lib.hid h.len
  obtain ⟨D, hD⟩ : ∃ D, ctxR (b, 0) = D := ⟨_, rfl⟩
  have hdec : decR b = if endN D.2 = 0 then (D.1, 0) else ([], endN D.2) := by rw [← hD]; rfl
  have HX := Lib.hid hD
  have HDC := Lib.hid hdec
  obtain ⟨E, hE⟩ : ∃ E, decR b = E := ⟨_, rfl⟩
  rw [hE] at HDC
  have HE := Lib.hid hE
  clear h hD hdec hE
  go_enter Try.func5, Try.ntmps5
  go_wp2_with fail
  refine CN.out.mono ?_
  rintro r w1 ⟨g, rfl, hg, p1, b1⟩
  have R1 := Lib.hid p1
  have B1 := Lib.hid b1
  have hg1 : Hid (g < w1.heap.size) := Lib.hid p1.lt
  clear CN p1 b1
  go_wp2_with fail
  have C2 := pctxr_any w1 g g b 0 R1.out (Nat.le_refl _) (by rw [hlb.out]; omega)
  rw [HX.out] at C2
  refine C2.mono ?_
  rintro r w2 ⟨A2, m2, c2, rfl, l2, p2, g2⟩
  have L2 := Lib.hid l2
  have B2 := Lib.hid (below_some B1.out g2 hg)
  have C3 := Nu.end_any w2 g g D.2.1 D.2.2 p2 (Nat.le_refl _)
  clear C2 l2 p2 g2 R1
  go_wp2_with fail
  refine C3.mono ?_
  rintro r w3 ⟨rfl, p3, g3⟩
  have L3 := Lib.hid ((L2.out.kept g3 hg1.out).less B1.out.size)
  have B3 := Lib.hid (below_some B2.out g3 hg)
  have hen : endN D.2 = Nu.endE D.2.1 D.2.2 := rfl
  clear C3 p3 g3 L2 B2 B1
  rw [← hen]
  have HEN := Lib.hid hen
  clear hen
  generalize endN D.2 = en at *
  by_cases he : en = 0
  · subst he
    have hd : Hid (E = (D.1, 0)) := Lib.hid (by rw [HDC.out]; rfl)
    go_wp2
    go_ret2
    unfold DecPost
    rw [HE.out, hd.out]
    exact ⟨A2, m2, c2, rfl, L3.out, B3.out⟩
  · have hd : Hid (E = ([], en)) := Lib.hid (by rw [HDC.out, if_neg he])
    have hi : ((en : Int) == 0) = false := by rw [beq_eq_false_iff_ne]; omega
    have hj : ((en : Int) != 0) = true := by rw [bne, hi]; rfl
    have hk : ¬ (en : Int) = 0 := by omega
    go_wp2
    go_ret2
    unfold DecPost
    rw [HE.out, hd.out]
    exact ⟨none, 0, 0, rfl, CL.none_ _ _, B3.out⟩
end Go.Proofs.Ytmhghgogehmehaa.Dc

/- A range over a map of lists, and what is asked of the sorting of parts. -/
namespace Go.Proofs.Ytmhghgogehmehaa.Cx
open Go.ChangeShapes Go.WideShapes Go.ChangeAt Go.RowKit Go.Maps
set_option linter.unusedVariables false
set_option maxRecDepth 4000

theorem perm_map {α β : Type} {f : α → β} {s t : List β} (h : s.Perm t) : ∀ L : List α, L.map f = t → ∃ L' : List α, L'.Perm L ∧ L'.map f = s := by
  induction h with
  | nil => intro L hL; exact ⟨[], by rw [List.map_eq_nil_iff.1 hL], rfl⟩
  | cons x h ih =>
    intro L hL
    cases L with
    | nil => cases hL
    | cons y L =>
      rw [List.map_cons] at hL
      injection hL with h1 h2
      obtain ⟨L', h3, h4⟩ := ih L h2
      exact ⟨y :: L', h3.cons y, by rw [List.map_cons, h1, h4]⟩
  | swap x y l =>
    intro L hL
    cases L with
    | nil => cases hL
    | cons a L =>
      cases L with
      | nil => simp at hL
      | cons b L =>
        simp only [List.map_cons] at hL
        injection hL with h1 hL
        injection hL with h2 h3
        exact ⟨b :: a :: L, List.Perm.swap a b L, by simp only [List.map_cons, h1, h2, h3]⟩
  | trans _ _ ih1 ih2 =>
    intro L hL
    obtain ⟨L2, h1, h2⟩ := ih2 L hL
    obtain ⟨L1, h3, h4⟩ := ih1 L2 h2
    exact ⟨L1, h3.trans h1, h4⟩
theorem match_perm {w : World} {ps s : List PV} {m : List Part} (h : Match w ps m) (hp : s.Perm ps) : ∃ m', Match w s m' ∧ m'.Perm m := by
  have e1 : (ps.zip m).map Prod.fst = ps := List.map_fst_zip (Nat.le_of_eq h.1)
  have e2 : (ps.zip m).map Prod.snd = m := List.map_snd_zip (Nat.le_of_eq h.1.symm)
  obtain ⟨L, h1, h2⟩ := perm_map hp (ps.zip m) e1
  refine ⟨L.map Prod.snd, ⟨by rw [← h2, List.length_map, List.length_map], fun k p x hk hx => ?_⟩, ?_⟩
  · rw [← h2, List.getElem?_map] at hk
    rw [List.getElem?_map] at hx
    obtain ⟨r, hr, rfl⟩ := Option.map_eq_some_iff.1 hk
    rw [hr] at hx
    cases hx
    obtain ⟨i, hi, e⟩ := List.getElem_of_mem ((h1.mem_iff).1 (List.mem_of_getElem? hr))
    have hi2 := List.getElem?_eq_getElem hi
    rw [e] at hi2
    rw [List.getElem?_zip_eq_some] at hi2
    exact h.2 i r.1 r.2 hi2.1 hi2.2
  · rw [← e2]
    exact h1.map _
/-- the step of a range over such a map. -/
theorem wpList_nextS {ops : Array Oper} {rest : List Oper} {o : Oper} {a : Act} {w : World} {Q : Exit → Act → World → Prop} (hg : o.guard = none) (it : Operand) (hop : o.op = Op.next it false) (b r n : Nat) (D : DataW Value) (left : Lit → Bool) (cnt : Nat)
    (hit : a.eval it = .pointer (some ⟨r, 0, none⟩)) (h : w.ranges Try.prog 32 valS b r n D left cnt)
    (hDone : cnt = 0 → (∀ kl, left kl = false) → wpList Try.prog ops Q rest (a.put o.dst (.tuple #[.bool false])) w)
    (hMore : ∀ (x : Int) (s : Sl) (w' : World) (cnt' : Nat), (Lit.int .u16 x).wf = true → left (.int .u16 x) = true → (∀ zd, D.atKey (.int .u16 x) zd = .held (sv s)) → w'.ranges Try.prog 32 valS b r n D (fun z => left z && !z.sameKey (.int .u16 x)) cnt' → cnt' < cnt →
      w.grownBy w' (some r) → w'.heap.size = w.heap.size → (Instr.entry (.pointer (some ⟨r, 0, none⟩))).run Try.prog w' = .ok (.tuple #[.int .u16 x, .slice s.adr s.len s.cap]) w' → wpList Try.prog ops Q rest (a.put o.dst (.tuple #[.bool true, .int .u16 x, .slice s.adr s.len s.cap])) w') :
    wpList Try.prog ops Q (o :: rest) a w :=
  wpList_next_ranges w hg it hop 32 law16 valS (Value.int .u16) sv (fun key kl hkey => by obtain ⟨x, rfl, _⟩ := Maps.keyOf_int_inv Try.underlying32 hkey; exact ⟨x, rfl⟩) (fun v y hv => by obtain ⟨s, rfl, _⟩ := val_inv hv; exact ⟨s, rfl⟩)
    b r n D left cnt hit h hDone (fun x c kl y w' cnt' hkey hlk hv hat hrg hlt hgr hsz hen => by
      obtain ⟨x', ex, rfl, hwx⟩ := Maps.keyOf_int_inv Try.underlying32 hkey
      cases ex
      obtain ⟨s, es, rfl⟩ := val_inv hv
      have e := sv_inj es
      subst e
      exact hMore x c w' cnt' hwx hlk hat hrg hlt hgr hsz hen)
def SortsP : Prop := ∀ (W : World) (B : Nat) (A : Option Addr) (k c : Nat) (ps : List PV), ps.length = k → k < 4611686018427387904 → W.ownsRow B 38 2 (.slice A k c) k (cv ps) → Calls Try.prog 37 #[.slice A k c, .func (.func 38) #[] #[]] W fun e W' =>
  e = .returned (.tuple #[]) ∧ ∃ s : List PV, s.Perm ps ∧ s.Pairwise (fun p q => p.dev ≤ q.dev) ∧ W'.ownsRow B 38 2 (.slice A k c) k (cv s) ∧ W.grownBy W' (Value.slice A k c).ownBlock
/-- sorted, what was gathered is the context. -/
theorem made_end {w : World} {f : Nat → List Run} {g : Nat → Option Sl} {left : Lit → Bool} {ps s : List PV} {m : List Part} (h : GatherS f g left m) (hf : Tells f) (hl : ∀ kl, left kl = false) (hm : Match w ps m) (hp : s.Perm ps) (hs : s.Pairwise (fun p q => p.dev ≤ q.dev)) : Match w s (listC f) := by
  obtain ⟨m', h1, h2⟩ := match_perm hm hp
  have h3 : m'.Pairwise (fun a b => a.1 ≤ b.1) := by
    rw [List.pairwise_iff_getElem]
    intro i j hi hj hij
    have hi2 : i < s.length := by rw [h1.1]; exact hi
    have hj2 : j < s.length := by rw [h1.1]; exact hj
    have q1 := h1.2 i _ _ (List.getElem?_eq_getElem hi2) (List.getElem?_eq_getElem hi)
    have q2 := h1.2 j _ _ (List.getElem?_eq_getElem hj2) (List.getElem?_eq_getElem hj)
    rw [← q1.dev, ← q2.dev]
    exact (List.pairwise_iff_getElem.1 hs) i j hi2 hj2 hij
  have h4 : m'.Pairwise (fun a b => a.1 ≠ b.1) := (h2.pairwise_iff (fun hab e => hab e.symm)).2 h.once
  have h5 : m'.Pairwise (fun a b => a.1 < b.1) := (h3.and h4).imp (fun ⟨q1, q2⟩ => Nat.lt_of_le_of_ne q1 q2)
  rw [← gatherS_end h hf hl h5 (fun x => h2.mem_iff)]
  exact h1
end Go.Proofs.Ytmhghgogehmehaa.Cx

/- The contract of slices.Collect of the runs that tell something: a new list of them, in their order. Condition: at most 2^42 runs. -/
namespace Go.Proofs.Ytmhghgogehmehaa.Ru
open Go.ChangeShapes Go.WideShapes Go.ChangeAt Go.RowKit Go.Shelf
set_option linter.unusedVariables false

attribute [local go_sem] Oper.semAt_some

theorem rv_pair (r : Run) : rv [r] = [.int .u64 (r.1 : Int), .int .u64 (r.2 : Int)] := rfl
theorem pair_at (W : World) (r : Run) : ∀ (j : Nat) (u : Value), (rv [r])[j]? = some u → (W.alloc (.cells #[.int .u64 (r.1 : Int), .int .u64 (r.2 : Int)] 35)).cell? ((⟨W.heap.size, 0, none⟩ : Addr).add j) = some u := by
  intro j u hu
  rw [zero_add, World.cell?_alloc_new]
  rw [rv_pair] at hu
  simpa using hu
theorem row_own (n₀ B e size B0 : Nat) (f : List Run → List Value) : OwnFrom B0 (fun (pre : List Run) W => ∃ A k c, Boxed W B 36 (.slice A k c) ∧ k = pre.length ∧ W.ownsRow n₀ e size (.slice A k c) k (f pre)) := by
  rintro s X Y row ⟨A, k, c, hv, hk, hr⟩ hg hrow
  refine ⟨A, k, c, hv.kept hg (fun e' => ?_), hk, hr.kept hg ?_⟩
  · obtain ⟨_, o, ho, hc⟩ := hrow B e'.symm
    rw [show X.heap[B]? = _ from hv] at ho; cases ho; cases hc
  · rcases hr.2 with ⟨h, _⟩ | ⟨g, cap, cur, h, _, hgb, _⟩
    · exact .inl (by rw [h]; rfl)
    · refine .inr fun e' => ?_
      rw [h] at e'
      obtain ⟨_, o, ho, hc⟩ := hrow g (by simpa [Value.ownBlock] using e'.symm)
      rw [hgb] at ho; cases ho; cases hc

set_option maxRecDepth 100000 in
set_option maxHeartbeats 4000000 in
theorem seq_any (w : World) (Bs : Nat) (A : Option Addr) (l : List Run) (len c : Nat) (hl : l.length = len) (hB : Bs < w.heap.size) (hc : w.cell? ⟨Bs, 0, none⟩ = some (.slice A len c)) (hb : Runs w w.heap.size A l) (h41 : len ≤ 4398046511104) :
    Calls Try.prog 56 #[.slice none 0 0, .func (.func 57) #[] #[.pointer (some ⟨Bs, 0, none⟩)]] w (RunPost w (tells l)) := by
  obtain ⟨i0, hi0, hz0, hz1, hz2⟩ := info_parts run_info
  have HB := Lib.hid hb
  have HL := Lib.hid hl
  have HT : Hid ((tells l).length ≤ 4398046511104) := Nat.le_trans (List.length_filter_le _ _) (by rw [hl]; exact h41)
  clear hb hl
  refine (callsIn_wide (n := 6)).1 ?_
  refine callsIn_of_wp_marks Try.func56 rfl trivial ?_ rfl
  simp only [Try.ntmps56, List.size_toArray, List.length_cons, List.length_nil, Nat.reduceAdd, Nat.reduceSub, Array.replicate_succ, Array.replicate_zero, List.push_toArray, List.append_toArray, List.nil_append, List.cons_append]
  gi_wp2
  have b0 := Boxed.new w 36 (.slice none 0 0)
  have hB0 : Below w.heap.size w (w.alloc (.cells #[.slice none 0 0] 36)) := below_new w _
  have hsz : (w.alloc (.cells #[.slice none 0 0] 36)).heap.size = w.heap.size + 1 := by simp
  obtain ⟨W0, hW0⟩ : ∃ W0, w.alloc (.cells #[.slice none 0 0] 36) = W0 := ⟨_, rfl⟩
  rw [hW0] at b0 hB0 hsz ⊢
  clear hW0
  refine wpIn_rangeFunc_ownH rfl (by omega) (gf := 57) (lb := #[.pointer (some ⟨Bs, 0, none⟩)]) rfl trivial (enters_of Try.func57 (by kernel_rfl) rfl)
    (telling_stops (6 - 1) (by omega) Bs w.heap.size A len c l HL.out (by omega) W0 (by omega) (by omega) ((hB0.cell (p := ⟨Bs, 0, none⟩) hB).trans hc) (HB.out.below hB0)) belowK_t (belowK_b (by omega)) (Below.refl _ _) (fun _ => rfl)
    (fun pre W => (∃ A k c, Boxed W w.heap.size 36 (.slice A k c) ∧ k = pre.length ∧ W.ownsRow w.heap.size 35 2 (.slice A k c) k (rv pre)) ∧ Below w.heap.size w W)
    (fun _ _ _ => False)
    (OwnFrom.and (row_own _ _ _ _ _ rv) (ownFrom_below (Nat.le_refl _) (by omega)))
    (fun _ _ _ _ _ hs _ _ => hs)
    ⟨⟨none, 0, 0, b0, rfl, World.ownsRow_nil _ _ _ _⟩, hB0⟩
    (fun x a' W => ∃ Bx, w.heap.size < Bx ∧ Pair W Bx x ∧ a' = { tmps := #[.slice none 0 0, .func (.func 57) #[] #[.pointer (some ⟨Bs, 0, none⟩)], .pointer (some ⟨w.heap.size, 0, none⟩), undef, .slice none 0 0, .pointer (some ⟨Bx, 0, none⟩), .func (.func 57) #[] #[.pointer (some ⟨Bs, 0, none⟩)], .agg #[.int .u64 (x.1 : Int), .int .u64 (x.2 : Int)], undef, undef, undef, undef, undef], defers := [] })
    (fun x a' _ X Y row hs hg hr => by obtain ⟨Bx, h1, h2, h3⟩ := hs; exact ⟨Bx, h1, pair_own x Bx _ () X Y row h2 hg hr, h3⟩)
    ?assign ?body ?done ?stop
  case assign =>
    rintro l2 pre x W K ⟨⟨A1, k1, cp, bS, hk1, hrow⟩, hB1⟩ hK
    simp only [encR]
    gi_wp2
    exact hK _ _ ((KeepsOthers.alloc _ _).from _) ((Below.refl _ W).alloc hB1.size _) ⟨⟨A1, k1, cp, bS.alloc _, hk1, hrow.alloc _⟩, hB1.alloc hB1.size _⟩ ⟨W.heap.size, bS.lt, Pair.new W x, rfl⟩
  case body =>
    rintro l2 pre x a' W hl2 ⟨r, hr⟩ ⟨⟨A1, k1, cp, bS, rfl, hrow⟩, hB1⟩ ⟨Bx, hBx, bX, rfl⟩ hlt
    have hlen : pre.length < 4398046511104 := Nat.lt_of_lt_of_le hlt HT.out
    have cS := bS.cell
    have e1 := bX.cell1
    have e2 := bX.cell2
    have HR := Lib.hid hrow
    have HW := Lib.hid hB1
    have BS := Lib.hid bS
    clear hrow hB1 bS hlt
    gi_wp2_with (gi_at_builtin; refine wpListIn_append_own _ rfl _ _ 36 rfl w.heap.size 35 i0 (.agg #[.int .u64 0, .int .u64 0]) 2 16 Try.underlying36 hi0 hz0 hz1 hz2 rfl (by decide) _ _ _ rfl (HR.out.alloc _) ⟨W.heap.size, 0, none⟩ 1 1 (rv [x]) rfl rfl (pair_at W x) (rv_one _) (by simp only [maxLen]; omega) (by omega) (by have := HW.out.size; simp; omega) ?_; intro v' w1 hown' hgrow hat; obtain ⟨g', cap', rfl⟩ := ownsRow_succ hown'; obtain ⟨hv1, hv2, hr2, hk2, hb2⟩ := BS.out.appended (by decide) HR.out HW.out.size (Nat.le_refl _) hown' hgrow; have hc1 := hv1.cell; have hf1 := hv1.frozen)
    exact ⟨hk2.from _, hb2, ⟨_, _, _, hv2, by simp, by rw [rv_append]; exact hr2⟩, HW.out.trans hb2⟩
  case done =>
    rintro D ys W hD rfl ⟨⟨A1, k1, cp, bS, rfl, hrow⟩, hB1⟩ hK
    have cS := bS.cell
    gi_wp2
    refine ⟨by simp, .inl ⟨_, _, rfl, run_takeDeferred hK, ?_⟩⟩
    exact ⟨_, results_tmp rfl _ _ _, A1, _, cp, rfl, rfl, ownsRow_putObj hrow _ hK rfl, hB1.trans (belowK_b (w := w) (Nat.le_refl _) W D _ _ (by omega) hK rfl rfl)⟩
  case stop =>
    rintro D k pre W _ _ h _
    exact h.elim

theorem collect_any (w : World) (Bs : Nat) (A : Option Addr) (l : List Run) (len c : Nat) (hl : l.length = len) (hB : Bs < w.heap.size) (hc : w.cell? ⟨Bs, 0, none⟩ = some (.slice A len c)) (hb : Runs w w.heap.size A l) (h41 : len ≤ 4398046511104) :
    Calls Try.prog 45 #[.func (.func 57) #[] #[.pointer (some ⟨Bs, 0, none⟩)]] w (RunPost w (tells l)) := by
  have H := Lib.hid (seq_any w Bs A l len c hl hB hc hb h41)
  clear hl hc hb
  go_enter Try.func45, Try.ntmps45
  go_wp2_with fail
  refine H.out.mono ?_
  rintro e w' ⟨A1, n1, c1, rfl, h⟩
  have HH := Lib.hid h
  clear h
  go_wp2
  go_ret
  exact ⟨A1, n1, c1, rfl, HH.out⟩
end Go.Proofs.Ytmhghgogehmehaa.Ru

/- The contract of the program's 'joined': runs that rise, in a list of one's own, are joined where they lie. Condition: at most 2^42 runs. -/
namespace Go.Proofs.Ytmhghgogehmehaa.Ru
open Go.ChangeShapes Go.WideShapes Go.ChangeAt Go.RowKit Go.Shelf
set_option linter.unusedVariables false
set_option maxRecDepth 4000

/-- block g: the runs done so far, and the runs yet to come, each in its place. -/
def JRow (W : World) (g cap : Nat) (o : List Run) (k n : Nat) (l : List Run) : Prop :=
  ∃ cur, W.heap[g]? = some (.cells cur 35 (0, 0)) ∧ cur.size = cap * 2 ∧ cur.toList.take (o.length * 2) = rv o ∧ ∀ j, k * 2 ≤ j → j < n * 2 → cur[j]? = (rv l)[j]?
theorem JRow.below {W W' : World} {g cap k n : Nat} {o l : List Run} (h : JRow W g cap o k n l) (hb : Below W.heap.size W W') : JRow W' g cap o k n l := by
  obtain ⟨cur, h1, h2⟩ := h
  exact ⟨cur, (hb.block g (Array.getElem?_eq_some_iff.1 h1).1).trans h1, h2⟩
theorem JRow.lt {W : World} {g cap k n : Nat} {o l : List Run} (h : JRow W g cap o k n l) : g < W.heap.size := by
  obtain ⟨cur, h1, _⟩ := h
  exact (Array.getElem?_eq_some_iff.1 h1).1
theorem JRow.start {W : World} {B g cap n : Nat} {l : List Run} (h : W.ownsRow B 35 2 (.slice (some ⟨g, 0, none⟩) n cap) n (rv l)) (hl : l.length = n) : JRow W g cap [] 0 n l := by
  obtain ⟨hlen, ⟨hz, _⟩ | ⟨g', cap', cur, e, hB, hheap, hle, hmx, hsz, htk⟩⟩ := h
  · cases hz
  · cases e
    refine ⟨cur, hheap, hsz, by simp [rv], fun j _ hj => ?_⟩
    rw [← htk, List.getElem?_take, if_pos hj]
    simp
/-- the run that comes next. -/
theorem JRow.next {W : World} {g cap k n : Nat} {o l : List Run} (h : JRow W g cap o k n l) (hk : k < n) {r : Run} (hr : l[k]? = some r) :
    W.cell? ⟨g, k * 2, none⟩ = some (.int .u64 (r.1 : Int)) ∧ W.cell? ⟨g, k * 2 + 1, none⟩ = some (.int .u64 (r.2 : Int)) := by
  obtain ⟨cur, h1, h2, h3, h4⟩ := h
  obtain ⟨g1, g2⟩ := rv_get hr
  have c1 := h4 (k * 2) (by omega) (by omega)
  have c2 := h4 (k * 2 + 1) (by omega) (by omega)
  rw [g1] at c1
  rw [g2] at c2
  exact ⟨by simp [World.cell?, h1, c1], by simp [World.cell?, h1, c2]⟩
theorem rv_snoc_get (o : List Run) (s : Run) : (rv (o ++ [s]))[o.length * 2]? = some (.int .u64 (s.1 : Int)) ∧ (rv (o ++ [s]))[o.length * 2 + 1]? = some (.int .u64 (s.2 : Int)) := rv_get (by simp)
/-- the run that was done last. -/
theorem JRow.last {W : World} {g cap k n : Nat} {o l : List Run} {s : Run} (h : JRow W g cap (o ++ [s]) k n l) :
    W.cell? ⟨g, o.length * 2, none⟩ = some (.int .u64 (s.1 : Int)) ∧ W.cell? ⟨g, o.length * 2 + 1, none⟩ = some (.int .u64 (s.2 : Int)) ∧ W.frozen? ⟨g, o.length * 2 + 1, none⟩ = false := by
  obtain ⟨cur, h1, h2, h3, h4⟩ := h
  obtain ⟨g1, g2⟩ := rv_snoc_get o s
  rw [← h3, List.getElem?_take, if_pos (by rw [List.length_append, List.length_singleton]; omega)] at g1
  rw [← h3, List.getElem?_take, if_pos (by rw [List.length_append, List.length_singleton]; omega)] at g2
  rw [Array.getElem?_toList] at g1 g2
  exact ⟨by simp [World.cell?, h1, g1], by simp [World.cell?, h1, g2], by simp [World.frozen?, h1]⟩
/-- another run behind those that are done. -/
theorem JRow.app {W : World} {g cap k n : Nat} {o l : List Run} {r : Run} (h : JRow W g cap o k n l) (hk : k < n) (ho : o.length ≤ k) (hn : n ≤ cap) (a : Addr) (c : Nat) (ha : ∀ (j : Nat) (u : Value), (rv [r])[j]? = some u → W.cell? (a.add j) = some u) :
    ∃ W', (Builtin.append_ #[36, 36] 36 #[.slice (some ⟨g, 0, none⟩) o.length cap, .slice (some a) 1 c]).run Try.prog W = .ok (.slice (some ⟨g, 0, none⟩) (o.length + 1) cap) W' ∧ JRow W' g cap (o ++ [r]) (k + 1) n l ∧ W.grownBy W' (some g) := by
  obtain ⟨i0, hi0, hz0, hz1, hz2⟩ := info_parts run_info
  obtain ⟨cur, h1, h2, h3, h4⟩ := h
  have hr := run_append_room (P := Try.prog) W 36 36 35 i0 Try.underlying36 hi0 g o.length cap cur h1 a 1 c (rv [r]) (by rw [hz1]; rfl) ha (rv_one _) (by omega) (by rw [hz1, h2]; show o.length * 2 + 2 ≤ cap * 2; omega)
  rw [hz1] at hr
  refine ⟨_, hr, ⟨_, setRow_heap W g cur _ 35 _ h1, ?_, ?_, ?_⟩, ⟨rfl, rfl, rfl, by simp, fun k _ hk => setRow_other W g k _ (fun e => hk (by simp [e]))⟩⟩
  · simp only [List.size_toArray, List.length_append, List.length_take, List.length_drop, Array.length_toList, rv_length, List.length_singleton]
    omega
  · rw [h3, List.length_append, List.length_singleton, rv_append]
    rw [show (o.length + 1) * 2 = (rv o ++ rv [r]).length by rw [List.length_append, rv_length, rv_length]; simp; omega]
    exact List.take_left
  · intro j hj1 hj2
    rw [← h4 j (by omega) hj2, h3]
    have e : (rv o ++ rv [r]).length = o.length * 2 + 2 := by rw [List.length_append, rv_length, rv_length]; rfl
    rw [List.getElem?_toArray, List.getElem?_append_right (by omega), e, List.getElem?_drop, Array.getElem?_toList]
    congr 1
    rw [rv_length, List.length_singleton]
    omega
/-- the run that was done last reaches farther. -/
theorem JRow.set {W : World} {g cap k n : Nat} {o l : List Run} {s : Run} (h : JRow W g cap (o ++ [s]) k n l) (hk : o.length + 1 ≤ k + 1) (x : Nat) :
    JRow (W.setCell ⟨g, o.length * 2 + 1, none⟩ (.int .u64 (x : Int))) g cap (o ++ [(s.1, x)]) (k + 1) n l := by
  obtain ⟨cur, h1, h2, h3, h4⟩ := h
  have hlt := (Array.getElem?_eq_some_iff.1 h1).1
  refine ⟨cur.setIfInBounds (o.length * 2 + 1) (.int .u64 (x : Int)), ?_, by rw [Array.size_setIfInBounds]; exact h2, ?_, ?_⟩
  · show (W.heap.modify g _)[g]? = _
    rw [Array.getElem?_modify, if_pos rfl, h1]
    rfl
  · rw [Array.toList_setIfInBounds, List.take_set, List.length_append, List.length_singleton]
    rw [List.length_append, List.length_singleton] at h3
    rw [h3, rv_append, rv_append, List.set_append_right _ _ (by rw [rv_length]; omega), rv_length]
    rw [show o.length * 2 + 1 - o.length * 2 = 1 by omega]
    rfl
  · intro j hj1 hj2
    rw [← h4 j (by omega) hj2, Array.getElem?_setIfInBounds_ne (by omega)]
theorem JRow.stop {W : World} {B g cap n : Nat} {o l : List Run} (h : JRow W g cap o n n l) (hB : B ≤ g) (ho : o.length ≤ n) (hn : n ≤ cap) (hmx : cap ≤ maxLen) : W.ownsRow B 35 2 (.slice (some ⟨g, 0, none⟩) o.length cap) o.length (rv o) := by
  obtain ⟨cur, h1, h2, h3, h4⟩ := h
  exact ⟨rv_length o, .inr ⟨g, cap, cur, rfl, hB, h1, by omega, hmx, h2, h3⟩⟩

theorem wpList_join {ops : Array Oper} {rest : List Oper} {o : Oper} {a : Act} {Q : Exit → Act → World → Prop} (hgd : o.guard = none) (s x : Operand) (ho : o.op = .call { callee := .builtin .append, args := #[s, x], argTypes := #[36, 36] }) (hty : o.type = 36)
    (W : World) (g cap k n : Nat) (d l : List Run) (m : Nat) (r : Run) (ad : Addr) (c : Nat) (hs : a.eval s = .slice (some ⟨g, 0, none⟩) m cap) (hx : a.eval x = .slice (some ad) 1 c) (hm : d.length = m) (h : JRow W g cap d k n l) (hk : k < n) (hd : m ≤ k) (hn : n ≤ cap)
    (ha : ∀ (j : Nat) (u : Value), (rv [r])[j]? = some u → W.cell? (ad.add j) = some u)
    (hK : ∀ W', JRow W' g cap (d ++ [r]) (k + 1) n l → W.grownBy W' (some g) → wpList Try.prog ops Q rest (a.put o.dst (.slice (some ⟨g, 0, none⟩) (m + 1) cap)) W') : wpList Try.prog ops Q (o :: rest) a W := by
  refine wpList_plain hgd fun K hQ => ?_
  subst hm
  obtain ⟨W', hr, h2, h3⟩ := h.app hk hd hn ad c ha
  rw [← hty] at hr
  unfold Oper.wp execOp
  simp only [ho, resolve, invoke, builtin, Sem.run_bind, Sem.run_pure, Result.andThen_ok, List.map_toArray, List.map_cons, List.map_nil, hs, hx]
  rw [hty] at hr ⊢
  rw [hr]
  exact hQ _ _ (hK _ h2 h3)

theorem turn_set (w : World) (g i : Nat) (u : Value) : w.grownBy (w.setCell ⟨g, i, none⟩ u) (some g) :=
  ⟨rfl, rfl, rfl, by simp [World.setCell], fun k _ hne => Below.heap_setCell w ⟨g, i, none⟩ u k (fun e => hne (by rw [e]))⟩
theorem apart_later (w W : World) (s r : Run) (h : s.2 ≤ 281474976710656) (bel : Below w.heap.size w W) :
    Calls Try.prog 35 #[.agg #[.int .u64 (s.1 : Int), .int .u64 (s.2 : Int)], .agg #[.int .u64 (r.1 : Int), .int .u64 (r.2 : Int)]] W fun e w' => e = .returned (.bool (decide (s.2 + 1 < r.1))) ∧ Below w.heap.size w w' :=
  (apart_any W s.1 s.2 r.1 r.2 h).mono fun _ _ ⟨h1, h2⟩ => ⟨h1, bel.trans (h2.mono bel.size)⟩

def JRel (w : World) (g cap n : Nat) (l : List Run) (v i : Value) (wr : World) : Prop :=
  ∃ k m : Nat, k ≤ n ∧ i = .int .i64 (k : Int) ∧ (joinL (l.take k)).length = m ∧ v = .slice (some ⟨g, 0, none⟩) m cap ∧ JRow wr g cap (joinL (l.take k)) k n l ∧ w.grownBy wr (some g)
theorem j_rel {w wr : World} {g cap n k m : Nat} {l o : List Run} (hk : k < n) (hs : joinL (l.take (k + 1)) = o) (hm : o.length = m) (h : JRow wr g cap o (k + 1) n l) (hg : w.grownBy wr (some g)) : JRel w g cap n l (.slice (some ⟨g, 0, none⟩) m cap) (.int .i64 ((k : Int) + 1)) wr :=
  ⟨k + 1, m, hk, by go_num, by rw [hs]; exact hm, rfl, by rw [hs]; exact h, hg⟩
theorem grown_trans {A B C : World} {row : Option Nat} (h : A.grownBy B row) (k : B.grownBy C row) : A.grownBy C row :=
  ⟨k.os.trans h.os, k.tape.trans h.tape, k.output.trans h.output, Nat.le_trans h.size k.size, fun i hi hne => (k.block i (Nat.lt_of_lt_of_le hi h.size) hne).trans (h.block i hi hne)⟩

set_option maxHeartbeats 2000000 in
theorem joined_any (w : World) (B g cap n : Nat) (l : List Run) (hl : l.length = n) (h : w.ownsRow B 35 2 (.slice (some ⟨g, 0, none⟩) n cap) n (rv l)) (hm : ∀ r ∈ l, mayR r = true) (hr : Rise l) (h42 : n ≤ 4398046511104) :
    Calls Try.prog 50 #[.slice (some ⟨g, 0, none⟩) n cap] w fun e w' => ∃ m, e = .returned (.slice (some ⟨g, 0, none⟩) m cap) ∧ (joinL l).length = m ∧ w'.ownsRow B 35 2 (.slice (some ⟨g, 0, none⟩) m cap) m (rv (joinL l)) ∧ w.grownBy w' (some g) := by
  have hlt := h.lt g rfl
  have hBg := hlt.1
  obtain ⟨hcap, hmx, _⟩ := own_len h
  have JS := Lib.hid (JRow.start h hl)
  have HL := Lib.hid hl
  have HM := Lib.hid hm
  have HR := Lib.hid hr
  have HU : Hid (∀ k, InOrder (joinL (l.take k)) ∧ (joinL (l.take k)).length ≤ k) := fun k => joinL_upto hm hr k
  clear h hl hm hr
  go_enter Try.func50, Try.ntmps50
  go_wp2
  go_loopw [3, 11] (fun v i wr => JRel w g cap n l v i wr) (fun _ i _ => n - (intOf i).toNat)
  case atStart => exact ⟨0, 0, Nat.zero_le _, rfl, rfl, rfl, JS.out, turn_refl _ _⟩
  case round =>
    obtain ⟨k, m, hk, rfl, hm, rfl, hj, hg⟩ := hrel
    have HJ := Lib.hid hj
    have HG := Lib.hid hg
    have HE := Lib.hid hm
    have hmk : m ≤ k := by rw [← hm]; exact (HU.out k).2
    clear hj hg hm
    by_cases hlt2 : k < n
    · obtain ⟨r, hrk⟩ : ∃ r, l[k]? = some r := ⟨_, List.getElem?_eq_getElem (by rw [HL.out]; exact hlt2)⟩
      have RK := Lib.hid hrk
      obtain ⟨q1, q2⟩ := HJ.out.next hlt2 hrk
      have TK := Lib.hid (joinL_take hrk)
      have MR : Hid (mayR r = true) := HM.out r (List.mem_of_getElem? hrk)
      have HIo := Lib.hid (HU.out k).1
      clear hrk
      generalize joinL (l.take k) = o at HJ HE TK HIo
      have L0 : Hid (Below wr.heap.size wr (wr.alloc (.cells #[.int .u64 (r.1 : Int), .int .u64 (r.2 : Int)] 35))) := below_new _ _
      have P0 := Lib.hid (Pair.new wr r)
      rcases snoc_cases o with rfl | ⟨o', s, rfl⟩
      · obtain rfl : m = 0 := HE.out.symm
        go_wp2_with fail
        go_quiet (fail)
        have P1 : Pair ((wr.alloc (.cells #[.int .u64 (r.1 : Int), .int .u64 (r.2 : Int)] 35)).drewN nq) wr.heap.size r := P0.out
        have L1 : Hid (Below wr.heap.size wr ((wr.alloc (.cells #[.int .u64 (r.1 : Int), .int .u64 (r.2 : Int)] 35)).drewN nq)) := L0.out.trans ⟨rfl, rfl, rfl, Nat.le_refl _, fun _ _ => rfl⟩
        generalize (wr.alloc (.cells #[.int .u64 (r.1 : Int), .int .u64 (r.2 : Int)] 35)).drewN nq = V at P1 L1 ⊢
        have J1 := Lib.hid ((HJ.out.below L1.out).below (below_new V (.cells #[.int .u64 (r.1 : Int), .int .u64 (r.2 : Int)] 35)))
        have G1 : Hid (w.grownBy (V.alloc (.cells #[.int .u64 (r.1 : Int), .int .u64 (r.2 : Int)] 35)) (some g)) := grown_trans HG.out (turn_below (L1.out.trans ((below_new V _).mono L1.out.size)) _)
        have p1 := P1.cell1
        have p2 := P1.cell2
        clear P1 q1 q2 hlt
        go_wp2_with (at_builtin; refine wpList_join rfl (.tmp 28) (.tmp 30) rfl rfl _ g cap k n [] l 0 r ⟨V.heap.size, 0, none⟩ 1 rfl rfl rfl J1.out hlt2 (by omega) hcap (pair_at V r) ?_; intro W' hj' hg'; have HR := Lib.hid (j_rel hlt2 TK.out rfl hj' (grown_trans G1.out hg')); clear hj' hg')
        go_roundw
        case rel => exact HR.out
        case measure => simp [intOf]; omega
      · obtain ⟨z, hz⟩ : ∃ z, o'.length = z := ⟨_, rfl⟩
        obtain rfl : m = z + 1 := by rw [← HE.out, List.length_append, hz]; rfl
        have HZ := Lib.hid hz
        have hs2 : s.2 ≤ 281474976710656 := by have := (may_iff s).1 (HIo.out.1 s (by simp)); omega
        have hr2 : r.2 ≤ 281474976710656 := by have := (may_iff r).1 MR.out; omega
        have J0 := Lib.hid (HJ.out.below L0.out)
        have HCR : Hid (∀ V, Below (wr.alloc (.cells #[.int .u64 (r.1 : Int), .int .u64 (r.2 : Int)] 35)).heap.size (wr.alloc (.cells #[.int .u64 (r.1 : Int), .int .u64 (r.2 : Int)] 35)) V → (V.cell? ⟨g, z * 2, none⟩ = some (.int .u64 (s.1 : Int)) ∧ V.cell? ⟨g, z * 2 + 1, none⟩ = some (.int .u64 (s.2 : Int))) ∧ V.cell? ⟨wr.heap.size, 0, none⟩ = some (.int .u64 (r.1 : Int)) ∧ V.cell? ⟨wr.heap.size, 1, none⟩ = some (.int .u64 (r.2 : Int))) := fun V hV => by
          obtain ⟨c1, c2, _⟩ := (J0.out.below hV).last
          rw [HZ.out] at c1 c2
          exact ⟨⟨c1, c2⟩, (P0.out.below hV).cell1, (P0.out.below hV).cell2⟩
        have HV0 : Hid (∀ V, Below (wr.alloc (.cells #[.int .u64 (r.1 : Int), .int .u64 (r.2 : Int)] 35)).heap.size (wr.alloc (.cells #[.int .u64 (r.1 : Int), .int .u64 (r.2 : Int)] 35)) V → (JRow V g cap (o' ++ [s]) k n l ∧ Pair V wr.heap.size r) ∧ w.grownBy V (some g)) := fun V hV => ⟨⟨J0.out.below hV, P0.out.below hV⟩, grown_trans HG.out (turn_below (L0.out.trans (hV.mono L0.out.size)) _)⟩
        have hzk : z < n := by omega
        have hzz : z < z + 1 := Nat.lt_succ_self z
        have hz0 : decide ((z : Int) < 0) = false := decide_eq_false (by omega)
        have hz1 : (0 : Int) ≤ (z : Int) := by omega
        have hz2 : (z : Int) < (z : Int) + 1 := by omega
        have hz3 : ¬ ((z : Int) + 1 ≤ (z : Int)) := by omega
        have hz4 : ¬ ((z : Int) < 0) := by omega
        clear hz q1 q2 hlt
        obtain ⟨q1, q2⟩ := HJ.out.next hlt2 RK.out
        go_wp2_with fail
        clear q1 q2
        obtain ⟨⟨d1, d2⟩, d3, d4⟩ := HCR.out _ (Below.refl _ _)
        generalize wr.alloc (.cells #[.int .u64 (r.1 : Int), .int .u64 (r.2 : Int)] 35) = V0 at HCR HV0 d1 d2 d3 d4 ⊢
        go_region_held3 (fun V => (V.cell? ⟨g, z * 2, none⟩ = some (.int .u64 (s.1 : Int)) ∧ V.cell? ⟨g, z * 2 + 1, none⟩ = some (.int .u64 (s.2 : Int))) ∧ V.cell? ⟨wr.heap.size, 0, none⟩ = some (.int .u64 (r.1 : Int)) ∧ V.cell? ⟨wr.heap.size, 1, none⟩ = some (.int .u64 (r.2 : Int))) (first | exact ⟨⟨d1, d2⟩, d3, d4⟩ | exact HCR.out _ (by (repeat (first | exact Below.refl _ _ | assumption | apply bel_drew)))) (first | (go_at_call 35; (with_reducible refine (apart_later V0 _ s r hs2 ?_).mono ?_); (repeat (first | exact Below.refl _ _ | assumption | apply bel_drew)); rintro e V ⟨rfl, bv⟩; have hcV := HCR.out V bv))
        obtain ⟨⟨JV0, PV0⟩, GV0⟩ := HV0.out V bv
        have JV := Lib.hid JV0
        have PV := Lib.hid PV0
        have GV := Lib.hid GV0
        clear JV0 PV0 GV0 bv hcV d1 d2 d3 d4 HCR HV0 J0 L0 P0
        have p1 := PV.out.cell1
        have p2 := PV.out.cell2
        by_cases hf : s.2 + 1 < r.1
        · have hfd : decide (s.2 + 1 < r.1) = true := decide_eq_true hf
          rw [joinS_far hf] at TK
          rw [hfd]
          clear hf hfd hz1 hz2 hz3 hz4 hz0
          have J1 := Lib.hid (JV.out.below (below_new V (.cells #[.int .u64 (r.1 : Int), .int .u64 (r.2 : Int)] 35)))
          have G1 : Hid (w.grownBy (V.alloc (.cells #[.int .u64 (r.1 : Int), .int .u64 (r.2 : Int)] 35)) (some g)) := grown_trans GV.out (turn_below (below_new V _) _)
          go_wp2_with (at_builtin; refine wpList_join rfl (.tmp 28) (.tmp 30) rfl rfl _ g cap k n (o' ++ [s]) l (z + 1) r ⟨V.heap.size, 0, none⟩ 1 rfl rfl HE.out J1.out hlt2 (by omega) hcap (pair_at V r) ?_; intro W' hj' hg'; have HR := Lib.hid (j_rel hlt2 TK.out (by rw [List.length_append, HE.out]) hj' (grown_trans G1.out hg')); clear hj' hg')
          go_roundw
          case rel => exact HR.out
          case measure => simp [intOf]; omega
        · have hfd : decide (s.2 + 1 < r.1) = false := decide_eq_false hf
          rw [joinS_near hf] at TK
          rw [hfd]
          obtain ⟨_, c2, c3⟩ := JV.out.last
          rw [HZ.out] at c2 c3
          by_cases hc : s.2 < r.2
          · clear hf hfd hz0
            go_wp2_with fail
            go_still_tail 12, (by kernel_rfl)
            have J2 : Hid (JRow (V.drew.setCell ⟨g, z * 2 + 1, none⟩ (.int .u64 (r.2 : Int))) g cap (o' ++ [(s.1, max s.2 r.2)]) (k + 1) n l) := by
              have h1 : JRow V.drew g cap (o' ++ [s]) k n l := JV.out
              have h2 := h1.set (by rw [HZ.out]; omega) r.2
              rw [HZ.out] at h2
              rw [show max s.2 r.2 = r.2 by omega]
              exact h2
            have G2 : Hid (w.grownBy (V.drew.setCell ⟨g, z * 2 + 1, none⟩ (.int .u64 (r.2 : Int))) (some g)) := by
              have h1 : w.grownBy V.drew (some g) := ⟨GV.out.os, GV.out.tape, GV.out.output, GV.out.size, GV.out.block⟩
              exact grown_trans h1 (turn_set _ _ _ _)
            have HR := Lib.hid (j_rel hlt2 TK.out (by rw [List.length_append, HZ.out]) J2.out G2.out)
            have c4 : V.drew.cell? ⟨g, z * 2 + 1, none⟩ = some (.int .u64 (s.2 : Int)) := c2
            have c5 : V.drew.frozen? ⟨g, z * 2 + 1, none⟩ = false := c3
            clear c2 c3 p1 p2 J2 G2 JV GV PV
            change wpList _ _ _ _ _ V.drew
            generalize V.drew = V2 at *
            go_wp2
            go_roundw
            case rel => exact HR.out
            case measure => simp [intOf]; omega
          · clear hf hfd hz0
            go_wp2_with fail
            go_still_tail 12, (by kernel_rfl)
            have J2 : Hid (JRow (V.drew.setCell ⟨g, z * 2 + 1, none⟩ (.int .u64 (s.2 : Int))) g cap (o' ++ [(s.1, max s.2 r.2)]) (k + 1) n l) := by
              have h1 : JRow V.drew g cap (o' ++ [s]) k n l := JV.out
              have h2 := h1.set (by rw [HZ.out]; omega) s.2
              rw [HZ.out] at h2
              rw [show max s.2 r.2 = s.2 by omega]
              exact h2
            have G2 : Hid (w.grownBy (V.drew.setCell ⟨g, z * 2 + 1, none⟩ (.int .u64 (s.2 : Int))) (some g)) := by
              have h1 : w.grownBy V.drew (some g) := ⟨GV.out.os, GV.out.tape, GV.out.output, GV.out.size, GV.out.block⟩
              exact grown_trans h1 (turn_set _ _ _ _)
            have HR := Lib.hid (j_rel hlt2 TK.out (by rw [List.length_append, HZ.out]) J2.out G2.out)
            have c4 : V.drew.cell? ⟨g, z * 2 + 1, none⟩ = some (.int .u64 (s.2 : Int)) := c2
            have c5 : V.drew.frozen? ⟨g, z * 2 + 1, none⟩ = false := c3
            clear c2 c3 p1 p2 J2 G2 JV GV PV
            change wpList _ _ _ _ _ V.drew
            generalize V.drew = V2 at *
            go_wp2
            go_roundw
            case rel => exact HR.out
            case measure => simp [intOf]; omega
    · obtain rfl : k = n := by omega
      have e : Hid (l.take k = l) := List.take_of_length_le (by rw [HL.out]; exact Nat.le_refl _)
      rw [e.out] at HJ HE
      go_wp2
      go_ret
      exact ⟨m, rfl, HE.out, by rw [← HE.out]; exact HJ.out.stop hBg (by rw [HE.out]; exact hmk) hcap hmx, HG.out⟩
end Go.Proofs.Ytmhghgogehmehaa.Ru
