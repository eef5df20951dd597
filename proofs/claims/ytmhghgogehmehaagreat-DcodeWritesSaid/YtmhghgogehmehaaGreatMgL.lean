/- Words and contracts that the proofs of this seat stand on, part 12 of 20. -/
import Derived.Test.YtmhghgogehmehaaGreatMgH
import Derived.Test.YtmhghgogehmehaaGreatMgK
import Derived.Test.YtmhghgogehmehaaGreatMgG
import Derived.Test.YtmhghgogehmehaaGreatMgJ

/- The contracts of the document's Ctx and Decode of layer dcode. -/
namespace Go.Proofs.YtmhghgogehmehaaGreat.Dc
open Go.ChangeShapes Go.WideShapes Go.ChangeAt Go.RowKit
set_option linter.unusedVariables false
set_option maxRecDepth 4000

theorem run_app (w : World) (B k : Nat) (v : Value) (xs : List Run) (A : Option Addr) (m : List Run) (n c : Nat) (ho : w.ownsRow B 73 2 v k (Ru.rv xs)) (hA : A = none → n = 0 ∧ c = 0) (hb : Ru.Lies w w.heap.size A (Ru.rv m)) (hl : m.length = n)
    (hn : k + n ≤ 4398046511104) (hB : B ≤ w.heap.size) :
    ∃ A' c' w', (Builtin.append_ #[69, 69] 69 #[v, .slice A n c]).run Tryz.prog w = .ok (.slice A' (k + n) c') w' ∧
      w'.ownsRow B 73 2 (.slice A' (k + n) c') (k + n) (Ru.rv (xs ++ m)) ∧ w.grownBy w' v.ownBlock ∧ ((Value.slice A' (k + n) c').ownBlock = v.ownBlock ∨ (Value.slice A' (k + n) c').ownBlock = some w.heap.size) := by
  obtain ⟨i0, hi0, hz0, hz1, hz2⟩ := info_parts Ru.run_info
  cases A with
  | none =>
    obtain ⟨rfl, rfl⟩ := hA rfl
    obtain rfl := List.eq_nil_of_length_eq_zero hl
    obtain ⟨A', c', rfl⟩ := Dt.own_form ho
    exact ⟨A', c', w, run_append_owned_none (P := Tryz.prog) (w := w) B 69 69 73 i0 2 Tryz.underlying69 hi0 _ k (Ru.rv xs) ho, by rw [List.append_nil]; exact ho, Ru.turn_refl _ _, .inl rfl⟩
  | some ad =>
    have hc : ∀ j u, (Ru.rv m)[j]? = some u → w.cell? (ad.add j) = some u := by
      intro j u hu
      have hjl : j < (Ru.rv m).length := (List.getElem?_eq_some_iff.1 hu).1
      obtain ⟨ad', e, hadb, hc⟩ := hb (by omega)
      obtain rfl := Option.some.inj e
      exact hc j u hu
    obtain ⟨v', w', hr, h2, h3, hat, h5⟩ := run_append_own_at (P := Tryz.prog) w B 69 69 73 i0 (.agg #[.int .u64 0, .int .u64 0]) 2 16 Tryz.underlying69 hi0 hz0 hz1 hz2 rfl (by decide) v k (Ru.rv xs) ho ad n c (Ru.rv m) (by rw [Ru.rv_length, hl]) hc (Ru.rv_one m) (by simp only [maxLen]; omega) (by omega) hB
    obtain ⟨A', c', rfl⟩ := Dt.own_form h2
    exact ⟨A', c', w', hr, by rw [Ru.rv_append]; exact h2, h3, h5⟩

theorem wpList_app {ops : Array Oper} {rest : List Oper} {o : Oper} {a : Act} {Q : Exit → Act → World → Prop} (hgd : o.guard = none) (s x : Operand) (ho : o.op = .call { callee := .builtin .append, args := #[s, x], argTypes := #[69, 69] }) (hty : o.type = 69)
    (w : World) (B k : Nat) (v : Value) (xs : List Run) (A : Option Addr) (m : List Run) (n c : Nat) (hs : a.eval s = v) (hx : a.eval x = .slice A n c) (hw : w.ownsRow B 73 2 v k (Ru.rv xs)) (hA : A = none → n = 0 ∧ c = 0) (hb : Ru.Lies w w.heap.size A (Ru.rv m)) (hl : m.length = n)
    (hn : k + n ≤ 4398046511104) (hB : B ≤ w.heap.size)
    (hK : ∀ A' c' w', w'.ownsRow B 73 2 (.slice A' (k + n) c') (k + n) (Ru.rv (xs ++ m)) → w.grownBy w' v.ownBlock → ((Value.slice A' (k + n) c').ownBlock = v.ownBlock ∨ (Value.slice A' (k + n) c').ownBlock = some w.heap.size) → wpList Tryz.prog ops Q rest (a.put o.dst (.slice A' (k + n) c')) w') : wpList Tryz.prog ops Q (o :: rest) a w := by
  refine wpList_plain hgd fun K hQ => ?_
  obtain ⟨A', c', w', hr, h2, h3, h5⟩ := run_app w B k v xs A m n c hw hA hb hl hn hB
  unfold Oper.wp execOp
  simp only [ho, resolve, invoke, builtin, Sem.run_bind, Sem.run_pure, Result.andThen_ok, List.map_toArray, List.map_cons, List.map_nil, hs, hx]
  rw [hty, hr]
  exact hQ _ _ (hK _ _ _ h2 h3 h5)


/-- a part's box. -/
abbrev pbox (d : Nat) (A : Option Addr) (n c : Nat) : Obj := .cells #[.int .u16 (d : Int), .slice A n c] 71
theorem rr_row {w V : World} {h B n c e : Nat} {A : Option Addr} {b l : List Nat} {row : Option Nat} (k : Nu.RR w h B A n c b l e) (hB : B ≤ h) (hg : w.grownBy V row) (hr : ∀ q, row = some q → h < q) : Nu.RR V h B A n c b l e :=
  k.kept hg (Nat.le_of_lt (Nat.lt_of_le_of_lt hB k.lt)) (fun e => by have := hr h e.symm; omega) (fun q hq => by have := hr q hq; omega)
/-- what is turned from block B on alone, in blocks that are new. -/
theorem grown_row {w V U : World} {row row2 : Option Nat} (h : w.grownBy V row) (hg : V.grownBy U row2) (hr : ∀ q, row2 = some q → w.heap.size ≤ q) : w.grownBy U row :=
  ⟨hg.os.trans h.os, hg.tape.trans h.tape, hg.output.trans h.output, Nat.le_trans h.size hg.size, fun q hq hne => (hg.block q (Nat.lt_of_lt_of_le hq h.size) (fun e => by have := hr q e.symm; omega)).trans (h.block q hq hne)⟩
/-- a part that is read, beside a reader. -/
structure IK (w : World) (h B : Nat) (A : Option Addr) (n c : Nat) (b : List Nat) (bx dev : Nat) (U : World) (A7 : Option Addr) (m7 c7 : Nat) (q : List Run) (s : St) : Prop where
  box : Nu.At U bx 71 #[.int .u16 (dev : Int), .slice A7 m7 c7]
  len : q.length = m7
  nil : A7 = none → m7 = 0 ∧ c7 = 0
  cap : m7 ≤ c7
  max : c7 ≤ 9223372036854775807
  runs : Ru.Runs U U.heap.size A7 q
  far : ∀ ad, A7 = some ad → bx < ad.block ∧ ad.block < U.heap.size
  rr : Nu.RR U h B A n c b s.1 s.2
  gr : w.grownBy U (some h)
  new : w.heap.size ≤ bx
theorem IK.read {w U V : World} {h B n c bx dev m7 c7 : Nat} {A A7 : Option Addr} {b : List Nat} {q : List Run} {s s' : St} (k : IK w h B A n c b bx dev U A7 m7 c7 q s) (hh : h < w.heap.size) (hr : Nu.RR V h B A n c b s'.1 s'.2) (hg : U.grownBy V (some h)) : IK w h B A n c b bx dev V A7 m7 c7 q s' := by
  have hb := k.new
  refine ⟨k.box.kept hg (fun e => by cases e; omega), k.len, k.nil, k.cap, k.max, Cx.runs_grown hg k.runs (fun ad e => ?_), fun ad e => ⟨(k.far ad e).1, Nat.lt_of_lt_of_le (k.far ad e).2 hg.size⟩, hr, k.gr.trans hg, hb⟩
  intro e2
  cases e2
  have := (k.far ad e).1
  omega
/-- what stands between two rounds of the loop over runs. -/
def IRel (w : World) (h B : Nat) (A : Option Addr) (n c : Nat) (b : List Nat) (bx dev L mm : Nat) (s2 : St) (i : Value) (U : World) : Prop :=
  ∃ (j m7 c7 : Nat) (A7 : Option Addr) (q : List Run) (s : St), j ≤ mm ∧ i = .int .u64 (j : Int) ∧ IK w h B A n c b bx dev U A7 m7 c7 q s ∧ runsL mm [] s2 = runsL (mm - j) q s ∧ m7 ≤ L + 1 ∧ (s.2 = 0 → m7 + s.1.length ≤ L)
/-- a run more. -/
theorem i_next {w U X : World} {h B n c bx dev L mm j m7 c7 c8 : Nat} {A A7 A8 : Option Addr} {b : List Nat} {q : List Run} {s s2 : St} (hh : h < w.heap.size) (hB : B ≤ h) (hj : j < mm) (he : s.2 = 0) (k : IK w h B A n c b bx dev U A7 m7 c7 q s)
    (hr : Nu.RR X h B A n c b (numS (numS s)).1 (numS (numS s)).2) (hL : runsL mm [] s2 = runsL (mm - j) q s) (hl : m7 + s.1.length ≤ L) (ho : X.ownsRow U.heap.size 73 2 (.slice A8 (m7 + 1) c8) (m7 + 1) (Ru.rv (q ++ [(numN s, numN (numS s))])))
    (hg : U.grownBy X (some h)) : IRel w h B A n c b bx dev L mm s2 (.int .u64 ((j : Int) + 1)) (X.setCell ⟨bx, 1, none⟩ (.slice A8 (m7 + 1) c8)) := by
  have hb := k.new
  have hbx := k.box.lt
  have hs := k.rr.small
  obtain ⟨h1, h2, h3⟩ := Dt.own_len ho
  have hfar : ∀ ad, A8 = some ad → U.heap.size ≤ ad.block ∧ ad.block < X.heap.size := fun ad e => by subst e; exact ho.lt ad.block rfl
  have hsz : (X.setCell ⟨bx, 1, none⟩ (.slice A8 (m7 + 1) c8)).heap.size = X.heap.size := by simp [World.setCell]
  have hbox := (k.box.kept hg (fun e => by cases e; omega)).set 1 (.slice A8 (m7 + 1) c8)
  have hfit : Ru.Fit (q ++ [(numN s, numN (numS s))]) := fun r hr => by
    rcases List.mem_append.1 hr with hr | hr
    · exact k.runs.1 r hr
    · rw [List.mem_singleton] at hr
      rw [hr]
      exact ⟨Nu.numV_lt hs, Nu.numV_lt (small_numL hs)⟩
  refine ⟨j + 1, m7 + 1, c8, A8, q ++ [(numN s, numN (numS s))], numS (numS s), hj, by go_num, ⟨hbox, by rw [List.length_append, k.len]; rfl, h3, h1, h2, ⟨hfit, fun hl2 => ?_⟩, fun ad e => ⟨by have := (hfar ad e).1; omega, by rw [hsz]; exact (hfar ad e).2⟩, rr_set hr hB (by omega) 1 _, grown_set (k.gr.trans hg) hb 1 _, hb⟩, ?_, by omega, fun h0 => ?_⟩
  · obtain ⟨ad, e, hB2, hc⟩ := Ru.lies_any (by decide) ho hl2
    refine ⟨ad, e, by rw [hsz]; exact hB2, fun t u hu => ?_⟩
    rw [World.cell?_setCell_far _ _ _ _ (by rw [Ru.block_add]; have := (hfar ad e).1; show bx ≠ ad.block; omega)]
    exact hc t u hu
  · rw [hL, show mm - j = mm - (j + 1) + 1 by omega]
    conv => lhs; unfold runsL
    rw [if_pos he]
  · have g1 := numS_ok h0
    have g2 := numS_ok g1.1
    omega

/-- parts of one's own, beside a reader. -/
structure CK (w : World) (h B : Nat) (A : Option Addr) (n c : Nat) (b : List Nat) (V : World) (A6 : Option Addr) (m c6 : Nat) (ps : List Cx.PV) (o : List Part) (s : St) : Prop where
  len : o.length = m
  own : V.ownsRow w.heap.size 71 2 (.slice A6 m c6) m (Cx.cv ps)
  mat : Cx.Match V ps o
  far : ∀ p ∈ ps, ∀ ad, p.adr = some ad → w.heap.size ≤ ad.block ∧ ad.block < V.heap.size ∧ some ad.block ≠ (Value.slice A6 m c6).ownBlock
  rr : Nu.RR V h B A n c b s.1 s.2
  gr : w.grownBy V (some h)
theorem CK.read {w V U : World} {h B n c m c6 : Nat} {A A6 : Option Addr} {b : List Nat} {ps : List Cx.PV} {o : List Part} {s s' : St} (k : CK w h B A n c b V A6 m c6 ps o s) (hh : h < w.heap.size) (hr : Nu.RR U h B A n c b s'.1 s'.2) (hg : V.grownBy U (some h)) : CK w h B A n c b U A6 m c6 ps o s' :=
  ⟨k.len, k.own.kept hg (own_far k.own hh), match_row k.mat hg (fun p hp ad e e2 => by cases e2; have := (k.far p hp ad e).1; omega), fun p hp ad e => ⟨(k.far p hp ad e).1, Nat.lt_of_lt_of_le (k.far p hp ad e).2.1 hg.size, (k.far p hp ad e).2.2⟩, hr, k.gr.trans hg⟩
theorem CK.below {w V U : World} {h B n c m c6 : Nat} {A A6 : Option Addr} {b : List Nat} {ps : List Cx.PV} {o : List Part} {s : St} (k : CK w h B A n c b V A6 m c6 ps o s) (hh : h < w.heap.size) (hB : B ≤ h) (hb : Below V.heap.size V U) : CK w h B A n c b U A6 m c6 ps o s :=
  k.read hh (rr_below k.rr hB hb) (Nu.turn_below hb _)
theorem CK.none_ {w V : World} {h B n c m c6 : Nat} {A A6 : Option Addr} {b : List Nat} {ps : List Cx.PV} {o : List Part} {s : St} (k : CK w h B A n c b V A6 m c6 ps o s) : CK w h B A n c b V none 0 0 [] [] s :=
  ⟨rfl, World.ownsRow_nil _ _ _ _, Cx.Match.nil_ _, (fun p hp => by cases hp), k.rr, k.gr⟩
theorem CK.ctx {w V : World} {h B n c m c6 : Nat} {A A6 : Option Addr} {b : List Nat} {ps : List Cx.PV} {o : List Part} {s : St} (k : CK w h B A n c b V A6 m c6 ps o s) : Cx.CtxAt V A6 o m c6 := by
  obtain ⟨h1, h2, h3⟩ := Dt.own_len k.own
  exact ⟨k.len, h3, h1, h2, ps, Dt.lies_any (by decide) k.own, k.mat⟩
/-- how many runs there are in all. -/
def sumC (o : List Part) : Nat := (o.map (fun x => x.2.length)).sum
theorem sum_snoc (o : List Part) (p : Part) : sumC (o ++ [p]) = sumC o + p.2.length := by
  unfold sumC
  rw [List.map_append, List.sum_append]
  simp
/-- what stands between two rounds of the loop over parts. -/
def CRel (w : World) (h B : Nat) (A : Option Addr) (n c : Nat) (b : List Nat) (L num : Nat) (s1 : St) (v i : Value) (V : World) : Prop :=
  ∃ (k m c6 : Nat) (A6 : Option Addr) (ps : List Cx.PV) (o : List Part) (s : St), k ≤ num ∧ i = .int .u64 (k : Int) ∧ v = .slice A6 m c6 ∧ CK w h B A n c b V A6 m c6 ps o s ∧ partsL num [] s1 = partsL (num - k) o s ∧ m ≤ L + 1 ∧ (s.2 = 0 → m + sumC o + s.1.length ≤ L)
/-- a part more. -/
theorem c_next {w V U X : World} {h B n c bx L num k m c6 c8 m7 c7 dev : Nat} {A A6 A7 A8 : Option Addr} {b : List Nat} {ps : List Cx.PV} {o : List Part} {q : List Run} {s s' s1 : St} (hh : h < w.heap.size) (hB : B ≤ h) (hk : k < num) (he : s.2 = 0) (hd : dev < 65536)
    (hV : CK w h B A n c b V A6 m c6 ps o s) (hI : IK V h B A n c b bx dev U A7 m7 c7 q s') (hP : partR s = ((dev, q), s')) (hL : partsL num [] s1 = partsL (num - k) o s) (hl : m + sumC o + s.1.length ≤ L) (hl2 : s'.2 = 0 → m7 + s'.1.length + 2 ≤ s.1.length)
    (ho : X.ownsRow w.heap.size 71 2 (.slice A8 (m + 1) c8) (m + 1) (Cx.cv (ps ++ [⟨dev, A7, m7, c7⟩]))) (hg : (U.alloc (pbox dev A7 m7 c7)).grownBy X (Value.slice A6 m c6).ownBlock)
    (hat : (Value.slice A8 (m + 1) c8).ownBlock = (Value.slice A6 m c6).ownBlock ∨ (Value.slice A8 (m + 1) c8).ownBlock = some (U.alloc (pbox dev A7 m7 c7)).heap.size) :
    CRel w h B A n c b L num s1 (.slice A8 (m + 1) c8) (.int .u64 ((k : Int) + 1)) X := by
  have hrow : ∀ t, (Value.slice A6 m c6).ownBlock = some t → w.heap.size ≤ t ∧ t < V.heap.size := fun t ht => hV.own.lt t ht
  have hVU := hI.gr
  have hbx := hI.new
  have hUs := alloc_size U (pbox dev A7 m7 c7)
  have hsz : V.heap.size ≤ U.heap.size := hVU.size
  have hr : Nu.RR X h B A n c b s'.1 s'.2 := rr_row (rr_new hI.rr hB (pbox dev A7 m7 c7)) hB hg (fun t ht => by have := hrow t ht; omega)
  have hgX : w.grownBy X (some h) := grown_row (grown_new (hV.gr.trans hVU) (pbox dev A7 m7 c7)) hg (fun t ht => (hrow t ht).1)
  have hVX : V.grownBy (U.alloc (pbox dev A7 m7 c7)) (some h) := grown_new hVU _
  have hmU : Cx.Match (U.alloc (pbox dev A7 m7 c7)) ps o := match_row hV.mat hVX (fun p hp ad e e2 => by cases e2; have := (hV.far p hp ad e).1; omega)
  have hpU : Cx.PartIs (U.alloc (pbox dev A7 m7 c7)) (U.alloc (pbox dev A7 m7 c7)).heap.size ⟨dev, A7, m7, c7⟩ (dev, q) := ⟨rfl, hd, hI.len, hI.nil, hI.cap, hI.max, hI.runs.up (below_new U _)⟩
  have hws := hV.gr.size
  have hfarU : ∀ p ∈ ps ++ [⟨dev, A7, m7, c7⟩], ∀ ad, p.adr = some ad → w.heap.size ≤ ad.block ∧ ad.block < (U.alloc (pbox dev A7 m7 c7)).heap.size ∧ some ad.block ≠ (Value.slice A6 m c6).ownBlock := by
    intro p hp ad e
    rcases List.mem_append.1 hp with hp | hp
    · have := hV.far p hp ad e
      exact ⟨this.1, by omega, this.2.2⟩
    · rw [List.mem_singleton] at hp
      rw [hp] at e
      have := hI.far ad e
      refine ⟨by omega, by omega, fun e2 => ?_⟩
      have := (hrow _ e2.symm).2
      omega
  refine ⟨k + 1, m + 1, c8, A8, ps ++ [⟨dev, A7, m7, c7⟩], o ++ [(dev, q)], s', hk, by go_num, rfl, ⟨by rw [List.length_append, hV.len]; rfl, ho, match_row (hmU.snoc hpU) hg (fun p hp ad e => (hfarU p hp ad e).2.2), fun p hp ad e => ?_, hr, hgX⟩, ?_, by omega, fun h0 => ?_⟩
  · have := hfarU p hp ad e
    refine ⟨this.1, Nat.lt_of_lt_of_le this.2.1 hg.size, fun e2 => ?_⟩
    rcases hat with hat | hat
    · exact this.2.2 (e2.trans hat)
    · rw [hat] at e2
      have e3 : ad.block = (U.alloc (pbox dev A7 m7 c7)).heap.size := Option.some.inj e2
      omega
  · rw [hL, show num - k = num - (k + 1) + 1 by omega]
    conv => lhs; unfold partsL
    rw [if_pos he, hP]
  · have := hl2 h0
    have hq := hI.len
    rw [sum_snoc]
    show m + 1 + (sumC o + q.length) + s'.1.length ≤ L
    omega
/-- a context comes out, and a reader's call it was. -/
def CGot (w : World) (h B : Nat) (A : Option Addr) (n c : Nat) (b : List Nat) (D : List Part × St) (e : Ending) (w' : World) : Prop := ∃ A' m c' ps, e = .returned (.slice A' m c') ∧ CK w h B A n c b w' A' m c' ps D.1 D.2

set_option maxHeartbeats 16000000 in
theorem rctx_any (w : World) (h B : Nat) (A : Option Addr) (n c : Nat) (b l : List Nat) (e : Nat) (k : Nu.RR w h B A n c b l e) (hB : B ≤ h) (hl : l.length ≤ 900) :
    Calls Tryz.prog 25 #[.pointer (some ⟨h, 0, none⟩)] w (CGot w h B A n c b (ctxR (l, e))) := by
  have hh : h < w.heap.size := k.lt
  have hsm := k.small
  have hC : ctxR (l, e) = (if (ctxL (l, e)).2.2 = 0 ∧ Cx.goodC (ctxL (l, e)).1 = true then ctxL (l, e) else ([], failS 4 (ctxL (l, e)).2)) := rfl
  have hCL : ctxL (l, e) = partsL (Nu.numV l) [] (Nu.numL l, Nu.stopE e (Nu.numE l)) := rfl
  have hsound := ctxL_sound (s := (l, e)) (sound_rr k)
  have hv := Nu.numV_lt hsm
  have hle := numS_len (l, e)
  have C1 := Nu.rnum_any w h B A n c b l e k hB
  obtain ⟨D, hD⟩ : ∃ D, ctxR (l, e) = D := ⟨_, rfl⟩
  obtain ⟨num, hnum⟩ : ∃ num, Nu.numV l = num := ⟨_, rfl⟩
  rw [hCL] at hC hsound
  rw [hD] at hC ⊢
  rw [hnum] at hC hv C1 hsound
  obtain ⟨s1, hs1⟩ : ∃ s1 : St, (Nu.numL l, Nu.stopE e (Nu.numE l)) = s1 := ⟨_, rfl⟩
  have hC1 : Calls Tryz.prog 46 #[.pointer (some ⟨h, 0, none⟩)] w (Nu.RPost w h B A n c b (.int .u64 (num : Int)) s1.1 s1.2) := by rw [← hs1]; exact C1
  rw [hs1] at hC hsound
  have HC := Lib.hid hC
  have HSD := Lib.hid hsound
  have HLE : Hid (s1.1.length ≤ l.length) := Lib.hid (by rw [← hs1]; exact hle)
  have HLL := Lib.hid hl
  clear hC hCL hD hnum hs1 hle k hsm hl C1 hsound
  go_enter Tryz.func25, Tryz.ntmps25
  go_wp2_with fail
  refine hC1.mono ?_
  rintro r w2 ⟨rfl, k2, g2⟩
  have K2 := Lib.hid k2
  have G2 := Lib.hid g2
  clear k2 g2 hC1
  go_wp2_with fail
  go_loopw [3, 5] (fun v i wr => CRel w h B A n c b l.length num s1 v i wr) (fun _ i _ => num - (intOf i).toNat)
  case atStart => exact ⟨0, 0, 0, none, [], [], s1, Nat.zero_le _, rfl, rfl, ⟨rfl, World.ownsRow_nil _ _ _ _, Cx.Match.nil_ _, (fun p hp => by cases hp), K2.out, G2.out⟩, rfl, Nat.zero_le _, fun _ => by show 0 + 0 + s1.1.length ≤ _; have := HLE.out; omega⟩
  case round =>
    clear K2 G2
    obtain ⟨k, m, c6, A6, ps, o, s, hk, rfl, rfl, hck, hpl, hml, hbl⟩ := hrel
    have HCK := Lib.hid hck
    have HPL := Lib.hid hpl
    have c2 := hck.rr.bad
    clear hck hpl
    obtain ⟨sl, se⟩ := s
    simp only at c2 hbl
    by_cases hlt : k < num
    · by_cases he : se = 0
      · subst he
        have hmm : m + sumC o + sl.length ≤ l.length := hbl rfl
        have hP : partR (sl, 0) = ((Nu.uptoV 65535 sl, (runsL (Nu.numV (Nu.uptoL 65535 sl)) [] (numS (uptoS 65535 (sl, 0)))).1), (runsL (Nu.numV (Nu.uptoL 65535 sl)) [] (numS (uptoS 65535 (sl, 0)))).2) := rfl
        have hd : Nu.uptoV 65535 sl ≤ 65535 := uptoN_le 65535 (sl, 0)
        have hmmb := Nu.numV_lt (upto_small (m := 65535) (s := (sl, 0)) HCK.out.rr.small)
        have CU := Nu.rupto_any wr h B A n c b sl 0 65535 HCK.out.rr hB
        obtain ⟨dev, hdev⟩ : ∃ dev, Nu.uptoV 65535 sl = dev := ⟨_, rfl⟩
        obtain ⟨mm, hmmv⟩ : ∃ mm, Nu.numV (Nu.uptoL 65535 sl) = mm := ⟨_, rfl⟩
        have hmmb2 : mm < 18446744073709551616 := by rw [← hmmv]; exact hmmb
        have HMM := Lib.hid hmmv
        rw [hdev] at hP hd CU
        rw [hmmv] at hP
        have HP := Lib.hid hP
        have hw16 : IntKind.u16.wrap (dev : Int) = (dev : Int) := by rw [IntKind.wrap_u16]; omega
        clear hP hdev hmmv hmmb
        go_wp2_with fail
        refine CU.mono ?_
        rintro r w3 ⟨rfl, k3, g3⟩
        have I4 : Hid (IK wr h B A n c b w3.heap.size dev (w3.alloc (pbox dev none 0 0)) none 0 0 [] (uptoS 65535 (sl, 0))) := Lib.hid
          ⟨Nu.At.new w3 _ _, rfl, fun _ => ⟨rfl, rfl⟩, Nat.le_refl _, by decide, Ru.Runs.none_ _ _ _, (fun ad e => by cases e), rr_new k3 hB _, grown_new g3 _, g3.size⟩
        clear k3 g3 CU c2
        go_upto_region 7 with fail
        have hnew : Hid (wr.heap.size ≤ w3.heap.size) := Lib.hid I4.out.new
        generalize w3.alloc (pbox dev none 0 0) = w4 at *
        generalize w3.heap.size = bx at *
        have C3 := Nu.rnum_any w4 h B A n c b _ _ I4.out.rr hB
        have C3' : Calls Tryz.prog 46 #[.pointer (some ⟨h, 0, none⟩)] w4 (Nu.RPost w4 h B A n c b (.int .u64 (mm : Int)) (numS (uptoS 65535 (sl, 0))).1 (numS (uptoS 65535 (sl, 0))).2) := by rw [← HMM.out]; exact C3
        have hok : Hid ((numS (uptoS 65535 (sl, 0))).2 = 0 → (numS (uptoS 65535 (sl, 0))).1.length + 2 ≤ sl.length) := Lib.hid (fun h0 => by
          have g1 := numS_ok h0
          have g2 := uptoS_ok g1.1
          rw [g2.2.2.1] at g1 ⊢
          have g3 := numS_ok g1.1
          have : (numS (numS (sl, 0))).1.length < (numS (sl, 0)).1.length := g1.2.2
          have h3 : (numS (sl, 0)).1.length < sl.length := g3.2.2
          omega)
        have hlen2 : Hid ((numS (uptoS 65535 (sl, 0))).1.length ≤ sl.length) := Lib.hid (Nat.le_trans (numS_len _) (uptoS_len _ _))
        obtain ⟨s2, hs2⟩ : ∃ s2, numS (uptoS 65535 (sl, 0)) = s2 := ⟨_, rfl⟩
        rw [hs2] at C3' HP hok hlen2
        clear C3 hs2
        go_wp2_with fail
        refine C3'.mono ?_
        rintro r w5 ⟨rfl, k5, g5⟩
        have I5 := Lib.hid (I4.out.read (s' := s2) (Nat.lt_of_lt_of_le hh HCK.out.gr.size) k5 g5)
        have hhr : Hid (h < wr.heap.size) := Lib.hid (Nat.lt_of_lt_of_le hh HCK.out.gr.size)
        clear k5 g5 C3' I4
        go_wp2_with fail
        go_loopw [8] (fun i U => IRel wr h B A n c b bx dev s2.1.length mm s2 i U) (fun i _ => mm - (intOf i).toNat)
        case atStart => exact ⟨0, 0, 0, none, [], s2, Nat.zero_le _, rfl, I5.out, rfl, Nat.zero_le _, fun _ => by rw [Nat.zero_add]; exact Nat.le_refl _⟩
        case round =>
          clear I5
          obtain ⟨j, m7, c7, A7, q, s3, hj, rfl, hik, hrl, hql, hqb⟩ := hrel
          have HIK := Lib.hid hik
          have HRL := Lib.hid hrl
          have c3 := hik.rr.bad
          have hbox0 := hik.box.cell 0
          have hbox1 := hik.box.cell 1
          simp at hbox0 hbox1
          clear hik hrl
          obtain ⟨ul, ue⟩ := s3
          simp only at c3 hqb
          by_cases hlt2 : j < mm
          · by_cases he2 : ue = 0
            · subst he2
              have hqq : m7 + ul.length ≤ s2.1.length := hqb rfl
              have C4 := Nu.rnum_any wr h B A n c b ul 0 HIK.out.rr hB
              have HHI := Lib.hid (show numN (numS (ul, 0)) = Nu.numV (Nu.numL ul) from rfl)
              have HLO := Lib.hid (show numN (ul, 0) = Nu.numV ul from rfl)
              obtain ⟨lo, hlo⟩ : ∃ lo, Nu.numV ul = lo := ⟨_, rfl⟩
              obtain ⟨hi, hhi⟩ : ∃ hi, Nu.numV (Nu.numL ul) = hi := ⟨_, rfl⟩
              rw [hlo] at C4 HLO
              rw [hhi] at HHI
              have HHV := Lib.hid hhi
              clear hlo hhi
              have hml2 : m7 ≤ 1099511627776 := by have := hlen2.out; have := HLL.out; omega
              have hml3 : Hid (m7 ≤ 1099511627776) := Lib.hid hml2
              go_wp2_with fail
              refine C4.mono ?_
              rintro r u1 ⟨rfl, k4, g4⟩
              have HI1 := Lib.hid (HIK.out.read (s' := numS (ul, 0)) hhr.out k4 g4)
              have G1 := Lib.hid (grown_new g4 (.cells #[] 73))
              have hs1 : Hid (wr.heap.size ≤ u1.heap.size) := Lib.hid g4.size
              have O1 : Hid ((u1.alloc (.cells #[] 73)).ownsRow wr.heap.size 73 2 (.slice (some ⟨u1.heap.size, 0, none⟩) 0 0) 0 (Ru.rv [])) := Lib.hid (World.ownsRow_lit u1 #[] 0 g4.size (by simp [maxLen]) rfl)
              have L1 : Hid (Ru.Lies (u1.alloc (.cells #[] 73)) (u1.alloc (.cells #[] 73)).heap.size A7 (Ru.rv q)) := Lib.hid (HI1.out.runs.up (below_new u1 _)).2
              have b1 := (HI1.out.box.kept (Nu.turn_below (below_new u1 (.cells #[] 73)) none) (by simp)).cell 1
              have R1 := Lib.hid (rr_new k4 hB (.cells #[] 73))
              have hz1 : Hid (wr.heap.size ≤ (u1.alloc (.cells #[] 73)).heap.size) := Lib.hid (by rw [alloc_size]; have := hs1.out; omega)
              have hhu : Hid (h < u1.heap.size) := Lib.hid (by have := hs1.out; have := HIK.out.rr.lt; omega)
              simp at b1
              clear k4 g4 C4 c3 hbox0 hbox1
              go_wp2_with (at_builtin; refine wpList_app rfl (.tmp 44) (.tmp 46) rfl rfl _ wr.heap.size 0 (.slice (some ⟨u1.heap.size, 0, none⟩) 0 0) [] A7 q m7 c7 rfl rfl O1.out HI1.out.nil L1.out HI1.out.len (by omega) hz1.out ?_; intro A8 c8 u2 ho2 hg2 hat2)
              simp only [Nat.zero_add, List.nil_append] at ho2
              have G2 := Lib.hid (grown_row G1.out hg2 (fun t ht => by cases ht; exact hs1.out))
              have R2 := Lib.hid (rr_row R1.out hB hg2 (fun t ht => by cases ht; exact hhu.out))
              have O2 := Lib.hid ho2
              have C5 := Nu.rnum_any u2 h B A n c b _ _ R2.out hB
              have C5' : Calls Tryz.prog 46 #[.pointer (some ⟨h, 0, none⟩)] u2 (Nu.RPost u2 h B A n c b (.int .u64 (hi : Int)) (numS (numS (ul, 0))).1 (numS (numS (ul, 0))).2) := by rw [← HHV.out]; exact C5
              clear ho2 hg2 hat2 C5 b1 O1 L1 R1
              refine C5'.mono ?_
              rintro r u3 ⟨rfl, k5, g5⟩
              have G3 := Lib.hid (G2.out.trans g5)
              have O3 := Lib.hid ((O2.out.kept g5 (own_far O2.out HIK.out.rr.lt)).alloc (.cells #[.int .u64 (lo : Int), .int .u64 (hi : Int)] 73))
              have R3 := Lib.hid (rr_new k5 hB (.cells #[.int .u64 (lo : Int), .int .u64 (hi : Int)] 73))
              have L3 : Hid (Ru.Lies (u3.alloc (.cells #[.int .u64 (lo : Int), .int .u64 (hi : Int)] 73)) (u3.alloc (.cells #[.int .u64 (lo : Int), .int .u64 (hi : Int)] 73)).heap.size (some ⟨u3.heap.size, 0, none⟩) (Ru.rv [(lo, hi)])) := Lib.hid (lies_run u3 lo hi)
              have G3a := Lib.hid (grown_new G3.out (.cells #[.int .u64 (lo : Int), .int .u64 (hi : Int)] 73))
              have hz3 : Hid (wr.heap.size ≤ (u3.alloc (.cells #[.int .u64 (lo : Int), .int .u64 (hi : Int)] 73)).heap.size) := Lib.hid G3a.out.size
              have hrow : Hid (∀ t, (Value.slice A8 m7 c8).ownBlock = some t → wr.heap.size ≤ t) := Lib.hid (fun t ht => (O3.out.lt t ht).1)
              have hw1 : IntKind.u64.wrap ((j : Int) + 1) = (j : Int) + 1 := by rw [IntKind.wrap_u64]; omega
              clear k5 g5 C5' G2 R2 O2 G1
              go_wp2_with (at_builtin; refine wpList_app rfl (.tmp 47) (.tmp 52) rfl rfl _ wr.heap.size m7 (.slice A8 m7 c8) q (some ⟨u3.heap.size, 0, none⟩) [(lo, hi)] 1 1 rfl rfl O3.out (fun h => by cases h) L3.out rfl (by omega) hz3.out ?_; intro A9 c9 u4 ho4 hg4 hat4; have G4 := Lib.hid (grown_row G3a.out hg4 hrow.out); have R4 := Lib.hid (rr_row R3.out hB hg4 (fun t ht => Nat.lt_of_lt_of_le HIK.out.rr.lt (hrow.out t ht))); have B4 := HIK.out.box.kept G4.out (fun e => by cases e; have := HIK.out.new; have := hhr.out; omega); have b4 := B4.cell 1; have f4 := B4.frozen 1; simp at b4; have HR := Lib.hid (i_next hhr.out hB hlt2 rfl HIK.out R4.out HRL.out hqq (by rw [HLO.out, HHI.out]; exact ho4) G4.out); clear ho4 hg4 hat4 B4)
              go_roundw
              case rel => exact HR.out
              case measure => simp [intOf]; omega
            · have hi2 : ((ue : Int) == 0) = false := by rw [beq_eq_false_iff_ne]; omega
              have hE : runsL mm [] s2 = (q, (ul, ue)) := by rw [HRL.out, runsL_bad he2]
              have hue : ue = 0 → s2.2 = 0 := fun h0 => by
                rcases Nat.eq_zero_or_pos s2.2 with h2 | h2
                · exact h2
                · rw [runsL_bad (by omega)] at hE
                  have : s2.2 = ue := by rw [show s2 = (ul, ue) from congrArg Prod.snd hE]
                  omega
              have hl2 : Hid (ue = 0 → m7 + ul.length + 2 ≤ sl.length) := Lib.hid (fun h0 => by
                have h1 := hqb h0
                have h2 := hok.out (hue h0)
                omega)
              have hP2 : Hid (partR (sl, 0) = ((dev, q), (ul, ue))) := Lib.hid (by rw [HP.out, hE])
              have HO := Lib.hid ((HCK.out.own.kept HIK.out.gr (own_far HCK.out.own hh)).alloc (pbox dev A7 m7 c7))
              have hsz : Hid (w.heap.size ≤ (wr.alloc (pbox dev A7 m7 c7)).heap.size) := Lib.hid (by rw [alloc_size]; have := HCK.out.gr.size; have := HIK.out.gr.size; omega)
              have hwk : IntKind.u64.wrap ((k : Int) + 1) = (k : Int) + 1 := by rw [IntKind.wrap_u64]; omega
              have hm9 : m ≤ 900 := by have := HLL.out; omega
              clear hue hE hqb
              go_wp2_with (at_builtin; refine Cx.wpList_part rfl (.tmp 55) (.tmp 57) rfl rfl _ w.heap.size m (.slice A6 m c6) ps ⟨wr.heap.size, 0, none⟩ ⟨dev, A7, m7, c7⟩ rfl rfl HO.out (Cx.part_at wr ⟨dev, A7, m7, c7⟩) (by omega) hsz.out ?_; intro A8 c8 X ho hg hat; have HR := Lib.hid (c_next hh hB hlt rfl (by omega) HCK.out HIK.out hP2.out HPL.out hmm hl2.out ho hg hat); clear ho hg hat)
              go_roundw
              case rel => exact HR.out
              case measure => simp [intOf]; omega
          · obtain rfl : j = mm := by omega
            have hE : runsL j [] s2 = (q, (ul, ue)) := by rw [HRL.out, Nat.sub_self]; rfl
            have hue : ue = 0 → s2.2 = 0 := fun h0 => by
              rcases Nat.eq_zero_or_pos s2.2 with h2 | h2
              · exact h2
              · rw [runsL_bad (by omega)] at hE
                have : s2.2 = ue := by rw [show s2 = (ul, ue) from congrArg Prod.snd hE]
                omega
            have hl2 : Hid (ue = 0 → m7 + ul.length + 2 ≤ sl.length) := Lib.hid (fun h0 => by
              have h1 := hqb h0
              have h2 := hok.out (hue h0)
              omega)
            have hP2 : Hid (partR (sl, 0) = ((dev, q), (ul, ue))) := Lib.hid (by rw [HP.out, hE])
            have HO := Lib.hid ((HCK.out.own.kept HIK.out.gr (own_far HCK.out.own hh)).alloc (pbox dev A7 m7 c7))
            have hsz : Hid (w.heap.size ≤ (wr.alloc (pbox dev A7 m7 c7)).heap.size) := Lib.hid (by rw [alloc_size]; have := HCK.out.gr.size; have := HIK.out.gr.size; omega)
            have hwk : IntKind.u64.wrap ((k : Int) + 1) = (k : Int) + 1 := by rw [IntKind.wrap_u64]; omega
            have hm9 : m ≤ 900 := by have := HLL.out; omega
            clear hue hE hqb
            go_wp2_with (at_builtin; refine Cx.wpList_part rfl (.tmp 55) (.tmp 57) rfl rfl _ w.heap.size m (.slice A6 m c6) ps ⟨wr.heap.size, 0, none⟩ ⟨dev, A7, m7, c7⟩ rfl rfl HO.out (Cx.part_at wr ⟨dev, A7, m7, c7⟩) (by omega) hsz.out ?_; intro A8 c8 X ho hg hat; have HR := Lib.hid (c_next hh hB hlt rfl (by omega) HCK.out HIK.out hP2.out HPL.out hmm hl2.out ho hg hat); clear ho hg hat)
            go_roundw
            case rel => exact HR.out
            case measure => simp [intOf]; omega
      · have hE : partsL num [] s1 = (o, (sl, se)) := by rw [HPL.out, partsL_bad he]
        have hi : ((se : Int) == 0) = false := by rw [beq_eq_false_iff_ne]; omega
        have hnil : Hid (failS 4 (sl, se) = (sl, se)) := Lib.hid (by
          have h1 := HSD.out
          rw [hE] at h1
          show ([], Nu.stopE se 4) = (sl, se)
          rw [show sl = [] from h1 he, stop_nz he])
        have HD : Hid (D = ([], (sl, se))) := Lib.hid (by rw [HC.out, hE, if_neg (fun hh => he hh.1), hnil.out])
        have HN := Lib.hid HCK.out.none_
        clear hE HCK
        go_wp2
        go_ret
        rw [HD.out]
        exact ⟨none, 0, 0, [], rfl, HN.out⟩
    · obtain rfl : k = num := by omega
      have hE : partsL k [] s1 = (o, (sl, se)) := by rw [HPL.out, Nat.sub_self]; rfl
      by_cases he : se = 0
      · subst he
        have hmm : m + sumC o + sl.length ≤ l.length := hbl rfl
        have CG := Cx.rgood_any wr A6 o m c6 HCK.out.ctx ⟨by rw [HCK.out.len]; have := HLL.out; omega, by have := HLL.out; show sumC o ≤ 10000; omega⟩
        cases hg : Cx.goodC o with
        | true =>
          rw [hg] at CG
          have HD : Hid (D = (o, (sl, 0))) := Lib.hid (by rw [HC.out, hE]; exact if_pos ⟨rfl, hg⟩)
          clear hE hg
          go_wp2_with fail
          refine CG.mono ?_
          rintro r V ⟨rfl, hb⟩
          have HV := Lib.hid (HCK.out.below hh hB hb)
          have c4 := HV.out.rr.bad
          clear hb CG c2
          go_wp2
          go_ret
          rw [HD.out]
          exact ⟨A6, m, c6, ps, rfl, HV.out⟩
        | false =>
          rw [hg] at CG
          have HD : Hid (D = ([], failS 4 (sl, 0))) := Lib.hid (by rw [HC.out, hE]; exact if_neg (fun h2 => by rw [hg] at h2; cases h2.2))
          clear hE hg
          go_wp2_with fail
          refine CG.mono ?_
          rintro r V ⟨rfl, hb⟩
          have HV := Lib.hid (HCK.out.below hh hB hb)
          have CF := Nu.rfail_any V h B A n c b _ _ 4 HV.out.rr hB (by decide)
          clear hb CG c2
          go_wp2_with fail
          refine CF.mono ?_
          rintro r X ⟨rfl, k5, g5⟩
          have HX := Lib.hid (HV.out.read (s' := failS 4 (sl, 0)) hh k5 g5).none_
          have c5 := k5.bad
          have he4 : Nu.stopE 0 4 = 4 := rfl
          rw [he4] at c5
          clear k5 g5 CF
          go_wp2
          go_ret
          rw [HD.out]
          exact ⟨none, 0, 0, [], rfl, HX.out⟩
      · have hi : ((se : Int) == 0) = false := by rw [beq_eq_false_iff_ne]; omega
        have hnil : Hid (failS 4 (sl, se) = (sl, se)) := Lib.hid (by
          have h1 := HSD.out
          rw [hE] at h1
          show ([], Nu.stopE se 4) = (sl, se)
          rw [show sl = [] from h1 he, stop_nz he])
        have HD : Hid (D = ([], (sl, se))) := Lib.hid (by rw [HC.out, hE, if_neg (fun hh => he hh.1), hnil.out])
        have HN := Lib.hid HCK.out.none_
        clear hE HCK
        go_wp2
        go_ret
        rw [HD.out]
        exact ⟨none, 0, 0, [], rfl, HN.out⟩
end Go.Proofs.YtmhghgogehmehaaGreat.Dc

/- The document's Decode. -/
namespace Go.Proofs.YtmhghgogehmehaaGreat.Dc
open Go.ChangeShapes Go.WideShapes Go.ChangeAt Go.RowKit
set_option linter.unusedVariables false
set_option maxRecDepth 4000

theorem DK.dl {w V : World} {h B n c m c6 : Nat} {A A6 : Option Addr} {b : List Nat} {o : List Dot} {s : St} (k : DK w h B A n c b V A6 m c6 o s) : DL w.heap.size V A6 o m c6 := by
  obtain ⟨h1, h2, h3⟩ := Dt.own_len k.own
  exact ⟨k.len, h3, h1, h2, Dt.dots_own k.own k.fit, fun ad e => by subst e; exact (k.own.lt ad.block rfl).1⟩
theorem CK.cl {w V : World} {h B n c m c6 : Nat} {A A6 : Option Addr} {b : List Nat} {ps : List Cx.PV} {o : List Part} {s : St} (k : CK w h B A n c b V A6 m c6 ps o s) : CL w.heap.size V A6 o m c6 := by
  obtain ⟨h1, h2, h3⟩ := Dt.own_len k.own
  exact ⟨k.len, h3, h1, h2, (fun ad e => by subst e; exact (k.own.lt ad.block rfl).1), ps, Dt.lies_any (by decide) k.own, k.mat, fun p hp ad e => (k.far p hp ad e).1⟩

/-- a reader of the document's in a new block. -/
abbrev rbox (A : Option Addr) (n c : Nat) : Obj := .cells #[.slice A n c, .int .i64 0, .int .i64 0] 49
theorem rr_start {w : World} {A : Option Addr} {b : List Nat} {n c : Nat} (h : BL w A b n c) (hn : n ≤ 9223372036854775807) : Nu.RR (w.alloc (rbox A n c)) w.heap.size w.heap.size A n c b b 0 :=
  ⟨0, Nu.At.new w _ _, h.at_.below (below_new w _), h.len, hn, h.cap, (fun e => (h.nil e).2), Nat.zero_le _, (fun _ => rfl), fun e => absurd rfl e⟩
set_option maxHeartbeats 4000000 in
theorem rdec_any (w : World) (A : Option Addr) (b : List Nat) (n c : Nat) (h : BL w A b n c) (hn : n ≤ 900) :
    Calls Tryz.prog 29 #[.slice A n c] w (DecPost w b) := by
  have HB := Lib.hid (below_new w (rbox A n c))
  have HR := Lib.hid (rr_start h (by omega))
  have CC := rctx_any (w.alloc (rbox A n c)) w.heap.size w.heap.size A n c b b 0 HR.out (Nat.le_refl _) (by rw [h.len]; omega)
  obtain ⟨D, hD⟩ : ∃ D, ctxR (b, 0) = D := ⟨_, rfl⟩
  have hdec : decR b = if endN D.2 = 0 then (D.1, 0) else ([], endN D.2) := by rw [← hD]; rfl
  rw [hD] at CC
  have HD := Lib.hid hdec
  clear h hD hdec
  obtain ⟨E, hE⟩ : ∃ E, decR b = E := ⟨_, rfl⟩
  rw [hE] at HD
  have HE := Lib.hid hE
  clear hE
  go_enter Tryz.func29, Tryz.ntmps29
  go_wp2_with fail
  refine CC.mono ?_
  rintro e w2 ⟨A2, m2, c2, ps, rfl, hk⟩
  have HK := Lib.hid hk
  have CE := Nu.rend_any w2 w.heap.size w.heap.size A n c b _ _ hk.rr (Nat.le_refl _)
  clear hk CC
  go_wp2_with fail
  refine CE.mono ?_
  rintro e w3 ⟨rfl, k3, g3⟩
  have hlt : w.heap.size < (w.alloc (rbox A n c)).heap.size := by rw [alloc_size]; omega
  have HC := Lib.hid ((HK.out.cl.kept g3 hlt).less (Nat.le_of_lt hlt))
  have HG := Lib.hid (bel_grown (grown_row (w := w) (V := w.alloc (rbox A n c)) (row := some w.heap.size) (Nu.turn_below HB.out _) (HK.out.gr.trans g3) (fun t ht => by cases ht; exact Nat.le_refl _)))
  have hen : endN D.2 = Nu.endE D.2.1 D.2.2 := rfl
  clear k3 g3 CE hlt
  rw [← hen]
  have HEN := Lib.hid hen
  clear hen
  generalize endN D.2 = en at *
  by_cases he : en = 0
  · subst he
    have hd : Hid (E = (D.1, 0)) := Lib.hid (by rw [HD.out]; rfl)
    go_wp2
    go_ret2
    unfold DecPost
    rw [HE.out, hd.out]
    exact ⟨A2, m2, c2, rfl, HC.out, HG.out⟩
  · have hd : Hid (E = ([], en)) := Lib.hid (by rw [HD.out, if_neg he])
    have hi : ((en : Int) == 0) = false := by rw [beq_eq_false_iff_ne]; omega
    go_wp2
    go_ret2
    unfold DecPost
    rw [HE.out, hd.out]
    exact ⟨none, 0, 0, rfl, CL.none_ _ _, HG.out⟩
end Go.Proofs.YtmhghgogehmehaaGreat.Dc

/- DcodeWrites: the law's walk (gen-writes.py printed it). -/
namespace Go.Proofs.YtmhghgogehmehaaGreat.Dc
open Go.ChangeShapes Go.WideShapes Go.ChangeAt Go.RowKit
set_option linter.unusedVariables false
set_option maxRecDepth 4000

/-- what lives in the last region. -/
structure Sit (w : World) (B g0 g1 g2 : Nat) (m0 m1 m2 : List Nat) (bx : Nat) (d : Dot) (A1 : Option Addr) (l : List Dot) (A2 : Option Addr) (C : List Part) (n2 c2 : Nat) (V : World) : Prop where
  p0 : ∃ r, Nu.PW V B g0 r m0
  p1 : ∃ r, Nu.PW V B g1 r m1
  p2 : ∃ r, Nu.PW V B g2 r m2
  dots : Dt.Dots V V.heap.size A1 l
  ctx : Cx.CtxAt V A2 C n2 c2
  box : V.cell? ⟨bx, 0, none⟩ = some (.int .u16 (d.1 : Int)) ∧ V.cell? ⟨bx, 1, none⟩ = some (.int .u64 (d.2 : Int))
  lt : bx < V.heap.size
  gr : Below w.heap.size w V
theorem Sit.up {w V U : World} {B g0 g1 g2 bx n2 c2 : Nat} {m0 m1 m2 : List Nat} {d : Dot} {A1 A2 : Option Addr} {l : List Dot} {C : List Part} (h : Sit w B g0 g1 g2 m0 m1 m2 bx d A1 l A2 C n2 c2 V) (hb : Below V.heap.size V U) : Sit w B g0 g1 g2 m0 m1 m2 bx d A1 l A2 C n2 c2 U := by
  obtain ⟨r0, h0⟩ := h.p0
  obtain ⟨r1, h1⟩ := h.p1
  obtain ⟨r2, h2⟩ := h.p2
  exact ⟨⟨r0, pw_up h0 hb⟩, ⟨r1, pw_up h1 hb⟩, ⟨r2, pw_up h2 hb⟩, h.dots.up hb, h.ctx.up hb, ⟨(hb.cell (p := ⟨bx, 0, none⟩) h.lt).trans h.box.1, (hb.cell (p := ⟨bx, 1, none⟩) h.lt).trans h.box.2⟩, Nat.lt_of_lt_of_le h.lt hb.size, h.gr.trans (hb.mono h.gr.size)⟩
theorem post_from {V W : World} {m : List Nat} {e : Ending} {U : World} (hW : Below V.heap.size V W) (h : BPost W m e U) : BPost V m e U := by
  obtain ⟨A, n, c, rfl, h1, h2⟩ := h
  exact ⟨A, n, c, rfl, h1, hW.trans (h2.mono hW.size)⟩
theorem bytes_later {V W : World} {B g : Nat} {m : List Nat} (h : ∃ r, Nu.PW V B g r m) (hm : m.length ≤ 140737488355328) (hW : Below V.heap.size V W) : Calls Tryz.prog 12 #[.pointer (some ⟨g, 0, none⟩)] W (BPost V m) := by
  obtain ⟨r, h⟩ := h
  exact (Nu.wbytes_any W B g r m (pw_up h hW) hm).mono fun e U k => post_from hW (post_clone k)
theorem putdot_later {V W : World} {d : Dot} (hd : d.1 < 65536) (hd2 : d.2 < big) (hW : Below V.heap.size V W) : Calls Tryz.prog 13 #[.slice none 0 0, dval d] W (BPost V (dotB d)) :=
  (rputdot_any W none [] 0 0 d (BL.none_ W) (by decide) hd hd2).mono fun e U k => post_from hW k
theorem putdots_later {V W : World} {A : Option Addr} {l : List Dot} {n c : Nat} (h : Dt.Dots V V.heap.size A l) (hl : l.length = n) (hn : n ≤ 100) (hW : Below V.heap.size V W) : Calls Tryz.prog 14 #[.slice none 0 0, .slice A n c] W (BPost V (dotsB (someD l))) :=
  (rputdots_any W none [] 0 0 A l n c (BL.none_ W) (by decide) hl (h.up hW) (by omega)).mono fun e U k => post_from hW k
theorem putctx_later {V W : World} {A : Option Addr} {C : List Part} {n c : Nat} (h : Cx.CtxAt V A C n c) (hs : Cx.Small C) (hW : Below V.heap.size V W) : Calls Tryz.prog 15 #[.slice none 0 0, .slice A n c] W (BPost V (ctxB (Cx.normC C))) :=
  (rputctx_any W none [] 0 0 A C n c (BL.none_ W) (by decide) (h.up hW) hs).mono fun e U k => post_from hW k
theorem encode_later (P : PDc) {V W : World} {A : Option Addr} {C : List Part} {n c : Nat} (h : Cx.CtxAt V A C n c) (hs : Cx.Small C) (hW : Below V.heap.size V W) : Calls Tryz.prog 16 #[.slice A n c] W (BPost V (ctxB (Cx.normC C))) :=
  (P.encode W A C n c (h.up hW) hs).mono fun e U k => post_from hW k
theorem eq_later {V W : World} {m : List Nat} {A1 A2 : Option Addr} {n1 n2 c1 c2 : Nat} (h1 : BL V A1 m n1 c1) (h2 : BL V A2 m n2 c2) (hW : Below V.heap.size V W) : Calls Tryz.prog 11 #[.slice A1 n1 c1, .slice A2 n2 c2] W fun e U => e = .returned (.bool true) ∧ Below V.heap.size V U :=
  (Nu.equal_any W W.heap.size W.heap.size A1 A2 m m n1 n2 c1 c2 h1.len h2.len (h1.up hW).at_ (h2.up hW).at_).mono fun e U k => ⟨by rw [k.1, decide_eq_true rfl], by rw [← k.2]; exact hW⟩
theorem works_later (P : PDc) {V W : World} (hW : Below V.heap.size V W) : Calls Tryz.prog 7 #[] W fun e U => e = .returned (.bool true) ∧ Below V.heap.size V U :=
  (works_any P W).mono fun e U k => ⟨k.1, hW.trans (k.2.mono hW.size)⟩

theorem new3 {w : World} {B : Nat} (hB : B ≤ w.heap.size) :
    Nu.PW (((w.alloc (.cells #[.slice none 0 0] 33)).alloc (.cells #[.slice none 0 0] 33)).alloc (.cells #[.slice none 0 0] 33)) B w.heap.size none [] ∧ Nu.PW (((w.alloc (.cells #[.slice none 0 0] 33)).alloc (.cells #[.slice none 0 0] 33)).alloc (.cells #[.slice none 0 0] 33)) B (w.heap.size + 1) none [] ∧ Nu.PW (((w.alloc (.cells #[.slice none 0 0] 33)).alloc (.cells #[.slice none 0 0] 33)).alloc (.cells #[.slice none 0 0] 33)) B (w.heap.size + 1 + 1) none [] ∧ Below w.heap.size w (((w.alloc (.cells #[.slice none 0 0] 33)).alloc (.cells #[.slice none 0 0] 33)).alloc (.cells #[.slice none 0 0] 33)) := by
  have s1 := alloc_size w (.cells #[.slice none 0 0] 33)
  have s2 := alloc_size (w.alloc (.cells #[.slice none 0 0] 33)) (.cells #[.slice none 0 0] 33)
  have h0 := pw_new hB
  have h1 := pw_new (w := w.alloc (.cells #[.slice none 0 0] 33)) (B := B) (by omega)
  have h2 := pw_new (w := (w.alloc (.cells #[.slice none 0 0] 33)).alloc (.cells #[.slice none 0 0] 33)) (B := B) (by omega)
  rw [s2, s1] at h2
  rw [s1] at h1
  exact ⟨pw_up (pw_up h0 (below_new _ _)) (below_new _ _), pw_up h1 (below_new _ _), h2, bel_alloc _ (bel_alloc _ (below_new _ _))⟩

theorem writes_end (P : PDc) (w : World) (d : Dot) (A1 A2 : Option Addr) (l : List Dot) (C : List Part) (n1 n2 c1 c2 : Nat) (hc : Cx.CtxAt w A2 C n2 c2) (h : ¬ (n1 ≤ 100 ∧ Cx.fewC C = true)) :
    Calls Tryz.prog 3 #[dval d, .slice A1 n1 c1, .slice A2 n2 c2] w fun e w' => e = .returned (.bool true) ∧ Below w.heap.size w w' := by
  have HB := Lib.hid (below_new w (dbox d))
  by_cases hn : 100 < n1
  · have d1 : decide ((100 : Int) < (n1 : Int)) = true := decide_eq_true (by omega)
    clear h hc
    go_enter Tryz.func3, Tryz.ntmps3
    go_wp2_with fail
    refine (works_any P _).mono ?_
    rintro e w1 ⟨rfl, b1⟩
    have HE := Lib.hid (HB.out.trans (b1.mono HB.out.size))
    clear b1
    go_wp2
    go_ret
    exact ⟨rfl, HE.out⟩
  · have d1 : decide ((100 : Int) < (n1 : Int)) = false := decide_eq_false (by omega)
    have hf : Cx.fewC C = false := by
      cases hf : Cx.fewC C with
      | false => rfl
      | true => exact absurd ⟨by omega, hf⟩ h
    have C1 := Lib.hid (Cx.rfew_any _ A2 C n2 c2 (hc.up HB.out))
    rw [hf] at C1
    clear h hc
    go_enter Tryz.func3, Tryz.ntmps3
    go_wp2_with fail
    refine C1.out.mono ?_
    rintro e w1 ⟨rfl, b1⟩
    have HE := Lib.hid (HB.out.trans (b1.mono HB.out.size))
    clear b1 C1
    go_wp2_with fail
    refine (works_any P _).mono ?_
    rintro e w2 ⟨rfl, b2⟩
    have HF := Lib.hid (HE.out.trans (b2.mono HE.out.size))
    clear b2
    go_wp2
    go_ret
    exact ⟨rfl, HF.out⟩

set_option maxHeartbeats 16000000 in
theorem writes_few (P : PDc) (w : World) (d : Dot) (A1 A2 : Option Addr) (l : List Dot) (C : List Part) (n1 n2 c1 c2 : Nat) (hd : d.1 < 65536) (hd2 : d.2 < big) (hl : l.length = n1) (nl : A1 = none → n1 = 0 ∧ c1 = 0) (cl : n1 ≤ c1) (ml : c1 ≤ 9223372036854775807) (hdl : Dt.Dots w w.heap.size A1 l) (hc : Cx.CtxAt w A2 C n2 c2) (hn : n1 ≤ 100) (hf : Cx.fewC C = true) :
    Calls Tryz.prog 3 #[dval d, .slice A1 n1 c1, .slice A2 n2 c2] w fun e w' => e = .returned (.bool true) ∧ Below w.heap.size w w' := by
  have HB := Lib.hid (below_new w (dbox d))
  have HK : Hid (∀ V, Below (w.alloc (dbox d)).heap.size (w.alloc (dbox d)) V → V.cell? ⟨w.heap.size, 0, none⟩ = some (.int .u16 (d.1 : Int)) ∧ V.cell? ⟨w.heap.size, 1, none⟩ = some (.int .u64 (d.2 : Int))) := Lib.hid (fun V hV => dbox_new w d V (by rw [alloc_size] at hV; exact hV))
  have hbx : w.heap.size < (w.alloc (dbox d)).heap.size := by rw [alloc_size]; omega
  have d1 : decide ((100 : Int) < (n1 : Int)) = false := decide_eq_false (by omega)
  have hs := Lib.hid (Cx.few_is hf)
  have hl0 := Lib.hid (dotB_le d)
  have hl1 := Lib.hid (dots_bytes (l := l) (by omega))
  have hl2 := Lib.hid (few_bytes (fit_at hc) hf)
  have HD := Lib.hid (hdl.up HB.out)
  have HC := Lib.hid (hc.up HB.out)
  have C1 := Lib.hid (Cx.rfew_any _ A2 C n2 c2 HC.out)
  rw [hf] at C1
  have HL := Lib.hid hl
  have HN := Lib.hid nl
  clear hf hc hdl hl nl
  go_enter Tryz.func3, Tryz.ntmps3
  go_wp2_with fail
  refine C1.out.mono ?_
  rintro e w2 ⟨rfl, b2⟩
  generalize w.alloc (dbox d) = w1 at *
  have hB2 := b2.size
  obtain ⟨t0, t1, t2, b3⟩ := new3 hB2
  have T0 := Lib.hid t0
  have T1 := Lib.hid t1
  have T2 := Lib.hid t2
  have B5 := Lib.hid (b2.trans (b3.mono hB2))
  obtain ⟨k0, k1⟩ := HK.out _ B5.out
  clear t0 t1 t2 b3 C1 b2
  go_wp2_with fail
  have C2 := P.putdot _ _ _ _ _ d T0.out hd hd2 (by decide)
  generalize ((w2.alloc (.cells #[.slice none 0 0] 33)).alloc (.cells #[.slice none 0 0] 33)).alloc (.cells #[.slice none 0 0] 33) = w5 at *
  refine C2.mono ?_
  rintro e w6 ⟨rfl, r0, p0, _, y0⟩
  have U0 := Lib.hid p0
  have U1 := Lib.hid (pw_two T1.out T0.out (by omega) y0)
  have U2 := Lib.hid (pw_two T2.out T0.out (by omega) y0)
  have B6 := Lib.hid (B5.out.trans (Nu.below_two y0 hB2 (fun q e => by cases e) B5.out.size))
  clear C2 T0 T1 T2 B5 p0 y0 k0 k1
  go_wp2_with fail
  have C3 := P.putdots _ _ _ _ _ A1 l n1 c1 U1.out B6.out.size HL.out HN.out cl ml (HD.out.below B6.out) (by omega) (by decide)
  refine C3.mono ?_
  rintro e w7 ⟨rfl, r1, p1, _, y1⟩
  have X1 := Lib.hid p1
  have X0 := Lib.hid (pw_two U0.out U1.out (by omega) y1)
  have X2 := Lib.hid (pw_two U2.out U1.out (by omega) y1)
  have B7 := Lib.hid (B6.out.trans (Nu.below_two y1 (by omega) (fun q e => by cases e) B6.out.size))
  clear C3 U0 U1 U2 B6 p1 y1
  go_wp2_with fail
  have C4 := P.putctx w1 w7 _ _ _ A2 C n2 c2 X2.out B7.out HC.out hs.out (by decide)
  refine C4.mono ?_
  rintro e w8 ⟨rfl, r2, p2, _, y2⟩
  have B8 := Lib.hid (B7.out.trans (Nu.below_two y2 (by omega) (fun q e => by cases e) B7.out.size))
  have S0 : Hid (Sit w w1.heap.size w2.heap.size (w2.heap.size + 1) (w2.heap.size + 1 + 1) (dotB d) (dotsB (someD l)) (ctxB (Cx.normC C)) w.heap.size d A1 l A2 C n2 c2 w8) := Lib.hid ⟨⟨r0, pw_two X0.out X2.out (by omega) y2⟩, ⟨r1, pw_two X1.out X2.out (by omega) y2⟩, ⟨r2, p2⟩, (HD.out.up B8.out), HC.out.up B8.out, HK.out _ B8.out, Nat.lt_of_lt_of_le hbx B8.out.size, HB.out.trans (B8.out.mono HB.out.size)⟩
  clear C4 X0 X1 X2 B7 p2 y2 B8 HB HK HD HC
  obtain ⟨g0, hg0⟩ : ∃ g, w2.heap.size = g := ⟨_, rfl⟩
  rw [hg0] at S0 ⊢
  obtain ⟨g1, hg1⟩ : ∃ g, g0 + 1 = g := ⟨_, rfl⟩
  rw [hg1] at S0 ⊢
  obtain ⟨g2, hg2⟩ : ∃ g, g1 + 1 = g := ⟨_, rfl⟩
  rw [hg2] at S0 ⊢
  clear hg2 hg1 hg0
  generalize w.heap.size = bx at S0 hbx ⊢
  generalize w1.heap.size = B at S0 hbx hB2 ⊢
  clear hbx hB2
  obtain ⟨k0, k1⟩ := S0.out.box
  go_wp2_with fail
  go_region_held3 (fun V => V.cell? ⟨bx, 0, none⟩ = some (.int .u16 (d.1 : Int)) ∧ V.cell? ⟨bx, 1, none⟩ = some (.int .u64 (d.2 : Int))) (first | go_keep | assumption) (first
    | (go_at_call 7; (with_reducible refine (works_later P (V := V12) ?_).mono ?_); (repeat (first | exact Below.refl _ _ | assumption | apply bel_drew)); rintro e V13 ⟨rfl, b13⟩; have S13 := Lib.hid (S12.out.up b13); have K13 := S13.out.box; clear b13)
    | (go_at_call 11; (with_reducible refine (eq_later R11.out Q11.out ?_).mono ?_); (repeat (first | exact Below.refl _ _ | assumption | apply bel_drew)); rintro e V12 ⟨rfl, b12⟩; have S12 := Lib.hid (S11.out.up b12); have K12 := S12.out.box; clear b12)
    | (go_at_call 15; (with_reducible refine (putctx_later (V := V10) S10.out.ctx hs.out ?_).mono ?_); (repeat (first | exact Below.refl _ _ | assumption | apply bel_drew)); rintro e V11 ⟨a11, q11, s11, rfl, h11, b11⟩; have S11 := Lib.hid (S10.out.up b11); have K11 := S11.out.box; have R11 := Lib.hid (Q10.out.up b11); have Q11 := Lib.hid h11; clear h11 b11)
    | (go_at_call 16; (with_reducible refine (encode_later P S9.out.ctx hs.out ?_).mono ?_); (repeat (first | exact Below.refl _ _ | assumption | apply bel_drew)); rintro e V10 ⟨a10, q10, s10, rfl, h10, b10⟩; have S10 := Lib.hid (S9.out.up b10); have K10 := S10.out.box; have Q10 := Lib.hid h10; clear h10 b10)
    | (go_at_call 11; (with_reducible refine (eq_later R8.out Q8.out ?_).mono ?_); (repeat (first | exact Below.refl _ _ | assumption | apply bel_drew)); rintro e V9 ⟨rfl, b9⟩; have S9 := Lib.hid (S8.out.up b9); have K9 := S9.out.box; clear b9)
    | (go_at_call 15; (with_reducible refine (putctx_later (V := V7) S7.out.ctx hs.out ?_).mono ?_); (repeat (first | exact Below.refl _ _ | assumption | apply bel_drew)); rintro e V8 ⟨a8, q8, s8, rfl, h8, b8⟩; have S8 := Lib.hid (S7.out.up b8); have K8 := S8.out.box; have R8 := Lib.hid (Q7.out.up b8); have Q8 := Lib.hid h8; clear h8 b8)
    | (go_at_call 12; (with_reducible refine (bytes_later S6.out.p2 (Nat.le_trans hl2.out (by decide)) ?_).mono ?_); (repeat (first | exact Below.refl _ _ | assumption | apply bel_drew)); rintro e V7 ⟨a7, q7, s7, rfl, h7, b7⟩; have S7 := Lib.hid (S6.out.up b7); have K7 := S7.out.box; have Q7 := Lib.hid h7; clear h7 b7)
    | (go_at_call 11; (with_reducible refine (eq_later R5.out Q5.out ?_).mono ?_); (repeat (first | exact Below.refl _ _ | assumption | apply bel_drew)); rintro e V6 ⟨rfl, b6⟩; have S6 := Lib.hid (S5.out.up b6); have K6 := S6.out.box; clear b6)
    | (go_at_call 14; (with_reducible refine (putdots_later (V := V4) S4.out.dots HL.out hn ?_).mono ?_); (repeat (first | exact Below.refl _ _ | assumption | apply bel_drew)); rintro e V5 ⟨a5, q5, s5, rfl, h5, b5⟩; have S5 := Lib.hid (S4.out.up b5); have K5 := S5.out.box; have R5 := Lib.hid (Q4.out.up b5); have Q5 := Lib.hid h5; clear h5 b5)
    | (go_at_call 12; (with_reducible refine (bytes_later S3.out.p1 (Nat.le_trans hl1.out (by decide)) ?_).mono ?_); (repeat (first | exact Below.refl _ _ | assumption | apply bel_drew)); rintro e V4 ⟨a4, q4, s4, rfl, h4, b4⟩; have S4 := Lib.hid (S3.out.up b4); have K4 := S4.out.box; have Q4 := Lib.hid h4; clear h4 b4)
    | (go_at_call 11; (with_reducible refine (eq_later R2.out Q2.out ?_).mono ?_); (repeat (first | exact Below.refl _ _ | assumption | apply bel_drew)); rintro e V3 ⟨rfl, b3⟩; have S3 := Lib.hid (S2.out.up b3); have K3 := S3.out.box; clear b3)
    | (go_at_call 13; (with_reducible refine (putdot_later (V := V1) hd hd2 ?_).mono ?_); (repeat (first | exact Below.refl _ _ | assumption | apply bel_drew)); rintro e V2 ⟨a2, q2, s2, rfl, h2, b2⟩; have S2 := Lib.hid (S1.out.up b2); have K2 := S2.out.box; have R2 := Lib.hid (Q1.out.up b2); have Q2 := Lib.hid h2; clear h2 b2)
    | (go_at_call 12; (with_reducible refine (bytes_later S0.out.p0 (Nat.le_trans hl0.out (by decide)) ?_).mono ?_); (repeat (first | exact Below.refl _ _ | assumption | apply bel_drew)); rintro e V1 ⟨a1, q1, s1, rfl, h1, b1⟩; have S1 := Lib.hid (S0.out.up b1); have K1 := S1.out.box; have Q1 := Lib.hid h1; clear h1 b1))
  all_goals
    go_wp2
    go_ret
    exact ⟨rfl, S13.out.gr⟩
theorem writes_walk (P : PDc) (w : World) (d : Dot) (A1 A2 : Option Addr) (l : List Dot) (C : List Part) (n1 n2 c1 c2 : Nat) (hd : d.1 < 65536) (hd2 : d.2 < big) (hl : l.length = n1) (nl : A1 = none → n1 = 0 ∧ c1 = 0) (cl : n1 ≤ c1) (ml : c1 ≤ 9223372036854775807) (hdl : Dt.Dots w w.heap.size A1 l) (hc : Cx.CtxAt w A2 C n2 c2) :
    Calls Tryz.prog 3 #[dval d, .slice A1 n1 c1, .slice A2 n2 c2] w fun e w' => e = .returned (.bool true) ∧ Below w.heap.size w w' := by
  by_cases h : n1 ≤ 100 ∧ Cx.fewC C = true
  · exact writes_few P w d A1 A2 l C n1 n2 c1 c2 hd hd2 hl nl cl ml hdl hc h.1 h.2
  · exact writes_end P w d A1 A2 l C n1 n2 c1 c2 hc h
end Go.Proofs.YtmhghgogehmehaaGreat.Dc
