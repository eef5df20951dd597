/- Words and contracts that the proofs of this seat stand on, part 9 of 14. -/
import Derived.Test.YtmhghgogehmehaaMgE
import Derived.Test.YtmhghgogehmehaaMgG
import Derived.Test.YtmhghgogehmehaaMgH
import Derived.Deep.AppendLies

/- The contract of the document's PutCtx of layer dcode. -/
namespace Go.Proofs.Ytmhghgogehmehaa.Dc
open Go.ChangeShapes Go.WideShapes Go.ChangeAt Go.RowKit
set_option linter.unusedVariables false
set_option maxRecDepth 4000

/-- a context of which no list is long. -/
def Room (c : List Part) : Prop := c.length ≤ 65536 ∧ ∀ x ∈ c, x.1 < 65536 ∧ Ru.Fit x.2 ∧ x.2.length ≤ 10000
theorem room_norm {c : List Part} (hf : Cx.FitC c) (hs : Cx.Small c) : Room (Cx.normC c) := by
  refine ⟨Cx.list_length _, fun x hx => ?_⟩
  have h1 := Cx.fit_norm hf x hx
  refine ⟨h1.1, h1.2, ?_⟩
  have h2 := ((Cx.list_mem (Cx.tells_runs hf) x).1 hx).1
  rw [h2]
  exact Cx.small_runs hs x.1
theorem Room.fit {c : List Part} (h : Room c) : FitB c := ⟨Nat.lt_of_le_of_lt h.1 (by decide), fun x hx => ⟨(h.2 x hx).1, (h.2 x hx).2.1, Nat.lt_of_le_of_lt (h.2 x hx).2.2 (by decide)⟩⟩
theorem part_len {x : Part} (h : x.2.length ≤ 10000) : (partB x).length ≤ 180018 := by
  have h1 := enc_le x.1
  have h2 := enc_le x.2.length
  have h3 := flat_le (f := runB) (k := 18) runB_le x.2
  have e : (partB x).length = (Nu.enc x.1).length + ((Nu.enc x.2.length).length + (x.2.flatMap runB).length) := by unfold partB; rw [List.length_append, List.length_append]
  omega
theorem parts_len {c : List Part} (h : ∀ x ∈ c, x.2.length ≤ 10000) : (c.flatMap partB).length ≤ c.length * 180018 := by
  induction c with
  | nil => simp
  | cons x c ih =>
    have h1 := part_len (h x (List.mem_cons_self ..))
    have h2 := ih (fun y hy => h y (List.mem_cons_of_mem _ hy))
    rw [List.flatMap_cons, List.length_append, List.length_cons, Nat.add_mul]
    omega
/-- what was written ahead of part k. -/
def upTo (l : List Nat) (c : List Part) (k : Nat) : List Nat := l ++ Nu.enc c.length ++ (c.take k).flatMap partB
theorem upTo_zero (l : List Nat) (c : List Part) : upTo l c 0 = l ++ Nu.enc c.length := by unfold upTo; rw [List.take_zero, List.flatMap_nil, List.append_nil]
theorem upTo_next {l : List Nat} {c : List Part} {k : Nat} {x : Part} (h : c[k]? = some x) : upTo l c (k + 1) = upTo l c k ++ Nu.enc x.1 ++ Nu.enc x.2.length ++ x.2.flatMap runB := by
  unfold upTo
  rw [flat_snoc h]
  unfold partB
  simp only [List.append_assoc]
theorem upTo_all {l : List Nat} {c : List Part} {n : Nat} (h : c.length = n) : upTo l c n = l ++ ctxB c := by
  unfold upTo ctxB
  rw [List.take_of_length_le (by omega), List.append_assoc]
theorem upTo_len {l : List Nat} {c : List Part} {k n : Nat} (hl : l.length = n) (hn : n ≤ 1099511627776) (hr : Room c) : (upTo l c k).length ≤ 1200000000000 := by
  have h1 := enc_le c.length
  have h2 := parts_len (c := c.take k) (fun x hx => (hr.2 x (List.mem_of_mem_take hx)).2.2)
  have h3 : (c.take k).length ≤ c.length := by rw [List.length_take]; omega
  have h4 := hr.1
  unfold upTo
  rw [List.length_append, List.length_append]
  omega
theorem runs_next {b : List Nat} {q : List Run} {j : Nat} {r : Run} (h : q[j]? = some r) : b ++ (q.take (j + 1)).flatMap runB = b ++ (q.take j).flatMap runB ++ Nu.enc r.1 ++ Nu.enc r.2 := by
  rw [flat_snoc h]
  unfold runB
  simp only [List.append_assoc]

end Go.Proofs.Ytmhghgogehmehaa.Dc

/- The contracts of the document's Ctx and Decode of layer dcode. -/
namespace Go.Proofs.Ytmhghgogehmehaa.Dc
open Go.ChangeShapes Go.WideShapes Go.ChangeAt Go.RowKit
set_option linter.unusedVariables false
set_option maxRecDepth 4000

theorem run_app (w : World) (B k : Nat) (v : Value) (xs : List Run) (A : Option Addr) (m : List Run) (n c : Nat) (ho : w.ownsRow B 35 2 v k (Ru.rv xs)) (hA : A = none → n = 0 ∧ c = 0) (hb : Ru.Lies w w.heap.size A (Ru.rv m)) (hl : m.length = n)
    (hn : k + n ≤ 4398046511104) (hB : B ≤ w.heap.size) :
    ∃ A' c' w', (Builtin.append_ #[36, 36] 36 #[v, .slice A n c]).run Try.prog w = .ok (.slice A' (k + n) c') w' ∧
      w'.ownsRow B 35 2 (.slice A' (k + n) c') (k + n) (Ru.rv (xs ++ m)) ∧ w.grownBy w' v.ownBlock ∧ ((Value.slice A' (k + n) c').ownBlock = v.ownBlock ∨ (Value.slice A' (k + n) c').ownBlock = some w.heap.size) := by
  obtain ⟨i0, hi0, hz0, hz1, hz2⟩ := info_parts Ru.run_info
  cases A with
  | none =>
    obtain ⟨rfl, rfl⟩ := hA rfl
    obtain rfl := List.eq_nil_of_length_eq_zero hl
    obtain ⟨A', c', rfl⟩ := Dt.own_form ho
    exact ⟨A', c', w, run_append_owned_none (P := Try.prog) (w := w) B 36 36 35 i0 2 Try.underlying36 hi0 _ k (Ru.rv xs) ho, by rw [List.append_nil]; exact ho, Ru.turn_refl _ _, .inl rfl⟩
  | some ad =>
    have hc : ∀ j u, (Ru.rv m)[j]? = some u → w.cell? (ad.add j) = some u := by
      intro j u hu
      have hjl : j < (Ru.rv m).length := (List.getElem?_eq_some_iff.1 hu).1
      obtain ⟨ad', e, hadb, hc⟩ := hb (by omega)
      obtain rfl := Option.some.inj e
      exact hc j u hu
    obtain ⟨v', w', hr, h2, h3, hat, h5⟩ := run_append_own_at (P := Try.prog) w B 36 36 35 i0 (.agg #[.int .u64 0, .int .u64 0]) 2 16 Try.underlying36 hi0 hz0 hz1 hz2 rfl (by decide) v k (Ru.rv xs) ho ad n c (Ru.rv m) (by rw [Ru.rv_length, hl]) hc (Ru.rv_one m) (by simp only [maxLen]; omega) (by omega) hB
    obtain ⟨A', c', rfl⟩ := Dt.own_form h2
    exact ⟨A', c', w', hr, by rw [Ru.rv_append]; exact h2, h3, h5⟩

theorem wpList_app {ops : Array Oper} {rest : List Oper} {o : Oper} {a : Act} {Q : Exit → Act → World → Prop} (hgd : o.guard = none) (s x : Operand) (ho : o.op = .call { callee := .builtin .append, args := #[s, x], argTypes := #[36, 36] }) (hty : o.type = 36)
    (w : World) (B k : Nat) (v : Value) (xs : List Run) (A : Option Addr) (m : List Run) (n c : Nat) (hs : a.eval s = v) (hx : a.eval x = .slice A n c) (hw : w.ownsRow B 35 2 v k (Ru.rv xs)) (hA : A = none → n = 0 ∧ c = 0) (hb : Ru.Lies w w.heap.size A (Ru.rv m)) (hl : m.length = n)
    (hn : k + n ≤ 4398046511104) (hB : B ≤ w.heap.size)
    (hK : ∀ A' c' w', w'.ownsRow B 35 2 (.slice A' (k + n) c') (k + n) (Ru.rv (xs ++ m)) → w.grownBy w' v.ownBlock → ((Value.slice A' (k + n) c').ownBlock = v.ownBlock ∨ (Value.slice A' (k + n) c').ownBlock = some w.heap.size) → wpList Try.prog ops Q rest (a.put o.dst (.slice A' (k + n) c')) w') : wpList Try.prog ops Q (o :: rest) a w := by
  refine wpList_plain hgd fun K hQ => ?_
  obtain ⟨A', c', w', hr, h2, h3, h5⟩ := run_app w B k v xs A m n c hw hA hb hl hn hB
  unfold Oper.wp execOp
  simp only [ho, resolve, invoke, builtin, Sem.run_bind, Sem.run_pure, Result.andThen_ok, List.map_toArray, List.map_cons, List.map_nil, hs, hx]
  rw [hty, hr]
  exact hQ _ _ (hK _ _ _ h2 h3 h5)


/-- a part's box. -/
abbrev pbox (d : Nat) (A : Option Addr) (n c : Nat) : Obj := .cells #[.int .u16 (d : Int), .slice A n c] 38
/-- what is turned from block B on alone, in blocks that are new. -/
theorem grown_row {w V U : World} {row row2 : Option Nat} (h : w.grownBy V row) (hg : V.grownBy U row2) (hr : ∀ q, row2 = some q → w.heap.size ≤ q) : w.grownBy U row :=
  ⟨hg.os.trans h.os, hg.tape.trans h.tape, hg.output.trans h.output, Nat.le_trans h.size hg.size, fun q hq hne => (hg.block q (Nat.lt_of_lt_of_le hq h.size) (fun e => by have := hr q e.symm; omega)).trans (h.block q hq hne)⟩
/-- how many runs there are in all. -/
def sumC (o : List Part) : Nat := (o.map (fun x => x.2.length)).sum
theorem sum_snoc (o : List Part) (p : Part) : sumC (o ++ [p]) = sumC o + p.2.length := by
  unfold sumC
  rw [List.map_append, List.sum_append]
  simp
end Go.Proofs.Ytmhghgogehmehaa.Dc

/- Reading a context, step by step, with the program's reader (gen-read.py printed it). -/
namespace Go.Proofs.Ytmhghgogehmehaa.Dc
open Go.ChangeShapes Go.WideShapes Go.ChangeAt Go.RowKit
set_option linter.unusedVariables false
set_option maxRecDepth 4000

/-- a part that is read, beside a reader. -/
structure IP (w : World) (h B : Nat) (bx dev : Nat) (U : World) (A7 : Option Addr) (m7 c7 : Nat) (q : List Run) (s : St) : Prop where
  box : Nu.At U bx 38 #[.int .u16 (dev : Int), .slice A7 m7 c7]
  len : q.length = m7
  nil : A7 = none → m7 = 0 ∧ c7 = 0
  cap : m7 ≤ c7
  max : c7 ≤ 9223372036854775807
  runs : Ru.Runs U U.heap.size A7 q
  far : ∀ ad, A7 = some ad → bx < ad.block ∧ ad.block < U.heap.size
  rr : Nu.PR U h B s.1 s.2
  gr : w.grownBy U (some h)
  new : w.heap.size ≤ bx
theorem IP.read {w U V : World} {h B bx dev m7 c7 : Nat} {A7 : Option Addr} {q : List Run} {s s' : St} (k : IP w h B bx dev U A7 m7 c7 q s) (hh : h < w.heap.size) (hr : Nu.PR V h B s'.1 s'.2) (hg : U.grownBy V (some h)) : IP w h B bx dev V A7 m7 c7 q s' := by
  have hb := k.new
  refine ⟨k.box.kept hg (fun e => by cases e; omega), k.len, k.nil, k.cap, k.max, Cx.runs_grown hg k.runs (fun ad e => ?_), fun ad e => ⟨(k.far ad e).1, Nat.lt_of_lt_of_le (k.far ad e).2 hg.size⟩, hr, k.gr.trans hg, hb⟩
  intro e2
  cases e2
  have := (k.far ad e).1
  omega
/-- what stands between two rounds of the loop over runs. -/
def IRelP (w : World) (h B : Nat) (bx dev L mm : Nat) (s2 : St) (i : Value) (U : World) : Prop :=
  ∃ (j m7 c7 : Nat) (A7 : Option Addr) (q : List Run) (s : St), j ≤ mm ∧ i = .int .u64 (j : Int) ∧ IP w h B bx dev U A7 m7 c7 q s ∧ runsL mm [] s2 = runsL (mm - j) q s ∧ m7 ≤ L + 1 ∧ (s.2 = 0 → m7 + s.1.length ≤ L)
/-- a run more. -/
theorem ip_next {w U X : World} {h B bx dev L mm j m7 c7 c8 : Nat} {A7 A8 : Option Addr} {q : List Run} {s s2 : St} (hh : h < w.heap.size) (hB : B ≤ h) (hj : j < mm) (he : s.2 = 0) (k : IP w h B bx dev U A7 m7 c7 q s)
    (hr : Nu.PR X h B (numS (numS s)).1 (numS (numS s)).2) (hL : runsL mm [] s2 = runsL (mm - j) q s) (hl : m7 + s.1.length ≤ L) (ho : X.ownsRow U.heap.size 35 2 (.slice A8 (m7 + 1) c8) (m7 + 1) (Ru.rv (q ++ [(numN s, numN (numS s))])))
    (hg : U.grownBy X (some h)) : IRelP w h B bx dev L mm s2 (.int .u64 ((j : Int) + 1)) (X.setCell ⟨bx, 1, none⟩ (.slice A8 (m7 + 1) c8)) := by
  have hb := k.new
  have hbx := k.box.lt
  have hs := (Nu.small_of k.rr)
  obtain ⟨h1, h2, h3⟩ := Dt.own_len ho
  have hfar : ∀ ad, A8 = some ad → U.heap.size ≤ ad.block ∧ ad.block < X.heap.size := fun ad e => by subst e; exact ho.lt ad.block rfl
  have hsz : (X.setCell ⟨bx, 1, none⟩ (.slice A8 (m7 + 1) c8)).heap.size = X.heap.size := by simp [World.setCell]
  have hbox := (k.box.kept hg (fun e => by cases e; omega)).set 1 (.slice A8 (m7 + 1) c8)
  have hfit : Ru.Fit (q ++ [(numN s, numN (numS s))]) := fun r hr => by
    rcases List.mem_append.1 hr with hr | hr
    · exact k.runs.1 r hr
    · rw [List.mem_singleton] at hr
      rw [hr]
      exact ⟨Nu.numV_lt hs, Nu.numV_lt (small_numL hs)⟩
  refine ⟨j + 1, m7 + 1, c8, A8, q ++ [(numN s, numN (numS s))], numS (numS s), hj, by go_num, ⟨hbox, by rw [List.length_append, k.len]; rfl, h3, h1, h2, ⟨hfit, fun hl2 => ?_⟩, fun ad e => ⟨by have := (hfar ad e).1; omega, by rw [hsz]; exact (hfar ad e).2⟩, pr_set hr hB (by omega) 1 _, grown_set (k.gr.trans hg) hb 1 _, hb⟩, ?_, by omega, fun h0 => ?_⟩
  · obtain ⟨ad, e, hB2, hc⟩ := Ru.lies_any (by decide) ho hl2
    refine ⟨ad, e, by rw [hsz]; exact hB2, fun t u hu => ?_⟩
    rw [World.cell?_setCell_far _ _ _ _ (by rw [Ru.block_add]; have := (hfar ad e).1; show bx ≠ ad.block; omega)]
    exact hc t u hu
  · rw [hL, show mm - j = mm - (j + 1) + 1 by omega]
    conv => lhs; unfold runsL
    rw [if_pos he]
  · have g1 := numS_ok h0
    have g2 := numS_ok g1.1
    omega

/-- parts of one's own, beside a reader. -/
structure CQ (w : World) (h B : Nat) (V : World) (A6 : Option Addr) (m c6 : Nat) (ps : List Cx.PV) (o : List Part) (s : St) : Prop where
  len : o.length = m
  own : V.ownsRow w.heap.size 38 2 (.slice A6 m c6) m (Cx.cv ps)
  mat : Cx.Match V ps o
  far : ∀ p ∈ ps, ∀ ad, p.adr = some ad → w.heap.size ≤ ad.block ∧ ad.block < V.heap.size ∧ some ad.block ≠ (Value.slice A6 m c6).ownBlock
  rr : Nu.PR V h B s.1 s.2
  gr : w.grownBy V (some h)
theorem CQ.read {w V U : World} {h B m c6 : Nat} {A6 : Option Addr} {ps : List Cx.PV} {o : List Part} {s s' : St} (k : CQ w h B V A6 m c6 ps o s) (hh : h < w.heap.size) (hr : Nu.PR U h B s'.1 s'.2) (hg : V.grownBy U (some h)) : CQ w h B U A6 m c6 ps o s' :=
  ⟨k.len, k.own.kept hg (own_far k.own hh), match_row k.mat hg (fun p hp ad e e2 => by cases e2; have := (k.far p hp ad e).1; omega), fun p hp ad e => ⟨(k.far p hp ad e).1, Nat.lt_of_lt_of_le (k.far p hp ad e).2.1 hg.size, (k.far p hp ad e).2.2⟩, hr, k.gr.trans hg⟩
theorem CQ.below {w V U : World} {h B m c6 : Nat} {A6 : Option Addr} {ps : List Cx.PV} {o : List Part} {s : St} (k : CQ w h B V A6 m c6 ps o s) (hh : h < w.heap.size) (hB : B ≤ h) (hb : Below V.heap.size V U) : CQ w h B U A6 m c6 ps o s :=
  k.read hh (pr_below k.rr hB hb) (Nu.turn_below hb _)
theorem CQ.none_ {w V : World} {h B m c6 : Nat} {A6 : Option Addr} {ps : List Cx.PV} {o : List Part} {s : St} (k : CQ w h B V A6 m c6 ps o s) : CQ w h B V none 0 0 [] [] s :=
  ⟨rfl, World.ownsRow_nil _ _ _ _, Cx.Match.nil_ _, (fun p hp => by cases hp), k.rr, k.gr⟩
theorem CQ.ctx {w V : World} {h B m c6 : Nat} {A6 : Option Addr} {ps : List Cx.PV} {o : List Part} {s : St} (k : CQ w h B V A6 m c6 ps o s) : Cx.CtxAt V A6 o m c6 := by
  obtain ⟨h1, h2, h3⟩ := Dt.own_len k.own
  exact ⟨k.len, h3, h1, h2, ps, Dt.lies_any (by decide) k.own, k.mat⟩
/-- what stands between two rounds of the loop over parts. -/
def CRelP (w : World) (h B : Nat) (L num : Nat) (s1 : St) (v i : Value) (V : World) : Prop :=
  ∃ (k m c6 : Nat) (A6 : Option Addr) (ps : List Cx.PV) (o : List Part) (s : St), k ≤ num ∧ i = .int .u64 (k : Int) ∧ v = .slice A6 m c6 ∧ CQ w h B V A6 m c6 ps o s ∧ partsL num [] s1 = partsL (num - k) o s ∧ m ≤ L + 1 ∧ (s.2 = 0 → m + sumC o + s.1.length ≤ L)
/-- a part more. -/
theorem cp_next {w V U X : World} {h B bx L num k m c6 c8 m7 c7 dev : Nat} {A6 A7 A8 : Option Addr} {ps : List Cx.PV} {o : List Part} {q : List Run} {s s' s1 : St} (hh : h < w.heap.size) (hB : B ≤ h) (hk : k < num) (he : s.2 = 0) (hd : dev < 65536)
    (hV : CQ w h B V A6 m c6 ps o s) (hI : IP V h B bx dev U A7 m7 c7 q s') (hP : partR s = ((dev, q), s')) (hL : partsL num [] s1 = partsL (num - k) o s) (hl : m + sumC o + s.1.length ≤ L) (hl2 : s'.2 = 0 → m7 + s'.1.length + 2 ≤ s.1.length)
    (ho : X.ownsRow w.heap.size 38 2 (.slice A8 (m + 1) c8) (m + 1) (Cx.cv (ps ++ [⟨dev, A7, m7, c7⟩]))) (hg : (U.alloc (pbox dev A7 m7 c7)).grownBy X (Value.slice A6 m c6).ownBlock)
    (hat : (Value.slice A8 (m + 1) c8).ownBlock = (Value.slice A6 m c6).ownBlock ∨ (Value.slice A8 (m + 1) c8).ownBlock = some (U.alloc (pbox dev A7 m7 c7)).heap.size) :
    CRelP w h B L num s1 (.slice A8 (m + 1) c8) (.int .u64 ((k : Int) + 1)) X := by
  have hrow : ∀ t, (Value.slice A6 m c6).ownBlock = some t → w.heap.size ≤ t ∧ t < V.heap.size := fun t ht => hV.own.lt t ht
  have hVU := hI.gr
  have hbx := hI.new
  have hUs := alloc_size U (pbox dev A7 m7 c7)
  have hsz : V.heap.size ≤ U.heap.size := hVU.size
  have hr : Nu.PR X h B s'.1 s'.2 := pr_row (pr_new hI.rr hB (pbox dev A7 m7 c7)) hB hg (fun t ht => by have := hrow t ht; omega)
  have hgX : w.grownBy X (some h) := grown_row (grown_new (hV.gr.trans hVU) (pbox dev A7 m7 c7)) hg (fun t ht => (hrow t ht).1)
  have hVX : V.grownBy (U.alloc (pbox dev A7 m7 c7)) (some h) := grown_new hVU _
  have hmU : Cx.Match (U.alloc (pbox dev A7 m7 c7)) ps o := match_row hV.mat hVX (fun p hp ad e e2 => by cases e2; have := (hV.far p hp ad e).1; omega)
  have hpU : Cx.PartIs (U.alloc (pbox dev A7 m7 c7)) (U.alloc (pbox dev A7 m7 c7)).heap.size ⟨dev, A7, m7, c7⟩ (dev, q) := ⟨rfl, hd, hI.len, hI.nil, hI.cap, hI.max, hI.runs.up (below_new U _)⟩
  have hws := hV.gr.size
  have hfarU : ∀ p ∈ ps ++ [⟨dev, A7, m7, c7⟩], ∀ ad, p.adr = some ad → w.heap.size ≤ ad.block ∧ ad.block < (U.alloc (pbox dev A7 m7 c7)).heap.size ∧ some ad.block ≠ (Value.slice A6 m c6).ownBlock := by
    intro p hp ad e
    rcases List.mem_append.1 hp with hp | hp
    · have := hV.far p hp ad e
      exact ⟨this.1, by omega, this.2.2⟩
    · rw [List.mem_singleton] at hp
      rw [hp] at e
      have := hI.far ad e
      refine ⟨by omega, by omega, fun e2 => ?_⟩
      have := (hrow _ e2.symm).2
      omega
  refine ⟨k + 1, m + 1, c8, A8, ps ++ [⟨dev, A7, m7, c7⟩], o ++ [(dev, q)], s', hk, by go_num, rfl, ⟨by rw [List.length_append, hV.len]; rfl, ho, match_row (hmU.snoc hpU) hg (fun p hp ad e => (hfarU p hp ad e).2.2), fun p hp ad e => ?_, hr, hgX⟩, ?_, by omega, fun h0 => ?_⟩
  · have := hfarU p hp ad e
    refine ⟨this.1, Nat.lt_of_lt_of_le this.2.1 hg.size, fun e2 => ?_⟩
    rcases hat with hat | hat
    · exact this.2.2 (e2.trans hat)
    · rw [hat] at e2
      have e3 : ad.block = (U.alloc (pbox dev A7 m7 c7)).heap.size := Option.some.inj e2
      omega
  · rw [hL, show num - k = num - (k + 1) + 1 by omega]
    conv => lhs; unfold partsL
    rw [if_pos he, hP]
  · have := hl2 h0
    have hq := hI.len
    rw [sum_snoc]
    show m + 1 + (sumC o + q.length) + s'.1.length ≤ L
    omega
/-- what stands between two rounds, each of it by name. -/
def CKeep (w : World) (h B : Nat) (L num : Nat) (s1 : St) (k m c6 : Nat) (A6 : Option Addr) (ps : List Cx.PV) (o : List Part) (s : St) (V : World) : Prop :=
  k ≤ num ∧ CQ w h B V A6 m c6 ps o s ∧ partsL num [] s1 = partsL (num - k) o s ∧ m ≤ L + 1 ∧ (s.2 = 0 → m + sumC o + s.1.length ≤ L)
/-- a part more. -/
theorem cp_more {w V U X : World} {h B bx L num k m c6 c8 m7 c7 dev : Nat} {A6 A7 A8 : Option Addr} {ps : List Cx.PV} {o : List Part} {q : List Run} {s s' s1 : St} (hh : h < w.heap.size) (hB : B ≤ h) (hk : k < num) (he : s.2 = 0) (hd : dev < 65536)
    (hV : CQ w h B V A6 m c6 ps o s) (hI : IP V h B bx dev U A7 m7 c7 q s') (hP : partR s = ((dev, q), s')) (hL : partsL num [] s1 = partsL (num - k) o s) (hl : m + sumC o + s.1.length ≤ L) (hl2 : s'.2 = 0 → m7 + s'.1.length + 2 ≤ s.1.length)
    (ho : X.ownsRow w.heap.size 38 2 (.slice A8 (m + 1) c8) (m + 1) (Cx.cv (ps ++ [⟨dev, A7, m7, c7⟩]))) (hg : (U.alloc (pbox dev A7 m7 c7)).grownBy X (Value.slice A6 m c6).ownBlock)
    (hat : (Value.slice A8 (m + 1) c8).ownBlock = (Value.slice A6 m c6).ownBlock ∨ (Value.slice A8 (m + 1) c8).ownBlock = some (U.alloc (pbox dev A7 m7 c7)).heap.size) :
    CKeep w h B L num s1 (k + 1) (m + 1) c8 A8 (ps ++ [⟨dev, A7, m7, c7⟩]) (o ++ [(dev, q)]) s' X := by
  have hrow : ∀ t, (Value.slice A6 m c6).ownBlock = some t → w.heap.size ≤ t ∧ t < V.heap.size := fun t ht => hV.own.lt t ht
  have hVU := hI.gr
  have hbx := hI.new
  have hUs := alloc_size U (pbox dev A7 m7 c7)
  have hsz : V.heap.size ≤ U.heap.size := hVU.size
  have hr : Nu.PR X h B s'.1 s'.2 := pr_row (pr_new hI.rr hB (pbox dev A7 m7 c7)) hB hg (fun t ht => by have := hrow t ht; omega)
  have hgX : w.grownBy X (some h) := grown_row (grown_new (hV.gr.trans hVU) (pbox dev A7 m7 c7)) hg (fun t ht => (hrow t ht).1)
  have hVX : V.grownBy (U.alloc (pbox dev A7 m7 c7)) (some h) := grown_new hVU _
  have hmU : Cx.Match (U.alloc (pbox dev A7 m7 c7)) ps o := match_row hV.mat hVX (fun p hp ad e e2 => by cases e2; have := (hV.far p hp ad e).1; omega)
  have hpU : Cx.PartIs (U.alloc (pbox dev A7 m7 c7)) (U.alloc (pbox dev A7 m7 c7)).heap.size ⟨dev, A7, m7, c7⟩ (dev, q) := ⟨rfl, hd, hI.len, hI.nil, hI.cap, hI.max, hI.runs.up (below_new U _)⟩
  have hws := hV.gr.size
  have hfarU : ∀ p ∈ ps ++ [⟨dev, A7, m7, c7⟩], ∀ ad, p.adr = some ad → w.heap.size ≤ ad.block ∧ ad.block < (U.alloc (pbox dev A7 m7 c7)).heap.size ∧ some ad.block ≠ (Value.slice A6 m c6).ownBlock := by
    intro p hp ad e
    rcases List.mem_append.1 hp with hp | hp
    · have := hV.far p hp ad e
      exact ⟨this.1, by omega, this.2.2⟩
    · rw [List.mem_singleton] at hp
      rw [hp] at e
      have := hI.far ad e
      refine ⟨by omega, by omega, fun e2 => ?_⟩
      have := (hrow _ e2.symm).2
      omega
  refine ⟨hk, ⟨by rw [List.length_append, hV.len]; rfl, ho, match_row (hmU.snoc hpU) hg (fun p hp ad e => (hfarU p hp ad e).2.2), fun p hp ad e => ?_, hr, hgX⟩, ?_, by omega, fun h0 => ?_⟩
  · have := hfarU p hp ad e
    refine ⟨this.1, Nat.lt_of_lt_of_le this.2.1 hg.size, fun e2 => ?_⟩
    rcases hat with hat | hat
    · exact this.2.2 (e2.trans hat)
    · rw [hat] at e2
      have e3 : ad.block = (U.alloc (pbox dev A7 m7 c7)).heap.size := Option.some.inj e2
      omega
  · rw [hL, show num - k = num - (k + 1) + 1 by omega]
    conv => lhs; unfold partsL
    rw [if_pos he, hP]
  · have := hl2 h0
    have hq := hI.len
    rw [sum_snoc]
    show m + 1 + (sumC o + q.length) + s'.1.length ≤ L
    omega
end Go.Proofs.Ytmhghgogehmehaa.Dc

/- Words for the program's reading, and the contract of its device. -/
namespace Go.Proofs.Ytmhghgogehmehaa.Dc
open Go.ChangeShapes Go.WideShapes Go.ChangeAt Go.RowKit
set_option linter.unusedVariables false
set_option maxRecDepth 4000

/-- a number there is only where no error is. -/
theorem num_zero {s : St} (hs : Sound s) (h : (numS s).2 ≠ 0) : numN s = 0 := by
  by_cases he : s.2 = 0
  · have h1 : Nu.numE s.1 ≠ 0 := fun e => h (stop_iff.2 ⟨he, e⟩)
    unfold numN
    cases hl : s.1 with
    | nil => rfl
    | cons x r =>
      rw [hl] at h1
      rw [Nu.numV_cons]
      split
      · rename_i hc
        exfalso
        apply h1
        show (if Nu.form x r = true then (if x ≤ r.length then 0 else 2) else 4) = 0
        rw [if_pos hc.1, if_pos hc.2]
      · rfl
  · unfold numN
    rw [hs he]
    rfl
theorem sound_pr {w : World} {h B e : Nat} {l : List Nat} (k : Nu.PR w h B l e) : Sound (l, e) := fun he => by
  obtain ⟨A, n, c, _, _, _, _, _, _, q7⟩ := k
  exact q7 he
theorem fail_self {s : St} (hs : Sound s) (h : s.2 ≠ 0) : failS 4 s = s := by
  obtain ⟨a, e⟩ := s
  show ([], Nu.stopE e 4) = (a, e)
  rw [show a = [] from hs h, stop_nz h]
theorem CQ.cl {w V : World} {h B m c6 : Nat} {A6 : Option Addr} {ps : List Cx.PV} {o : List Part} {s : St} (k : CQ w h B V A6 m c6 ps o s) : CL w.heap.size V A6 o m c6 := by
  obtain ⟨h1, h2, h3⟩ := Dt.own_len k.own
  exact ⟨k.len, h3, h1, h2, (fun ad e => by subst e; exact (k.own.lt ad.block rfl).1), ps, Dt.lies_any (by decide) k.own, k.mat, fun p hp ad e => (k.far p hp ad e).1⟩
/-- what Ctx answers. -/
def CtxGot (w : World) (h B : Nat) (D : List Part × St) (r : Ending) (V : World) : Prop := ∃ A' m c', r = .returned (.slice A' m c') ∧ CL w.heap.size V A' D.1 m c' ∧ Nu.PR V h B D.2.1 D.2.2 ∧ w.grownBy V (some h)
theorem got_none {w V : World} {h B : Nat} {D : List Part × St} {s : St} (hD : D = ([], s)) (hr : Nu.PR V h B s.1 s.2) (hg : w.grownBy V (some h)) : CtxGot w h B D (.returned (.slice none 0 0)) V := by
  subst hD
  exact ⟨none, 0, 0, rfl, CL.none_ _ _, hr, hg⟩

theorem pdev_any (w : World) (h B : Nat) (s : St) (k : Nu.PR w h B s.1 s.2) (hB : B ≤ h) :
    Calls Try.prog 25 #[.pointer (some ⟨h, 0, none⟩)] w (Nu.PPost w h B (.int .u16 ((uptoN 65535 s : Nat) : Int)) (uptoS 65535 s).1 (uptoS 65535 s).2) := by
  have C1 : Calls Try.prog 33 #[.pointer (some ⟨h, 0, none⟩), .int .u64 (65535 : Int)] w (Nu.PPost w h B (.int .u64 ((uptoN 65535 s : Nat) : Int)) (uptoS 65535 s).1 (uptoS 65535 s).2) := Nu.upto_any w h B s.1 s.2 65535 k hB
  have hd := uptoN_le 65535 s
  generalize uptoN 65535 s = dev at *
  generalize uptoS 65535 s = s1 at *
  have hw16 : IntKind.u16.wrap (dev : Int) = (dev : Int) := by rw [IntKind.wrap_u16]; omega
  clear k hd
  go_enter Try.func25, Try.ntmps25
  go_wp2_with fail
  refine C1.mono ?_
  rintro r w1 ⟨rfl, k1, g1⟩
  have K1 := Lib.hid k1
  have G1 := Lib.hid g1
  clear k1 g1 C1
  go_wp2
  go_ret
  exact ⟨rfl, K1.out, G1.out⟩
/-- a number is read. -/
theorem pnum_st (w : World) (h B : Nat) (s : St) (k : Nu.PR w h B s.1 s.2) (hB : B ≤ h) :
    Calls Try.prog 15 #[.pointer (some ⟨h, 0, none⟩)] w (Nu.PPost w h B (.int .u64 ((numN s : Nat) : Int)) (numS s).1 (numS s).2) := Nu.num_any w h B s.1 s.2 k hB
end Go.Proofs.Ytmhghgogehmehaa.Dc

/- The contracts of the program's run, and of listOf at runs, of layer dcode. -/
namespace Go.Proofs.Ytmhghgogehmehaa.Dc
open Go.ChangeShapes Go.WideShapes Go.ChangeAt Go.RowKit
set_option linter.unusedVariables false
set_option maxRecDepth 4000

abbrev ubox (x : Run) : Obj := .cells #[.int .u64 (x.1 : Int), .int .u64 (x.2 : Int)] 35
abbrev uval (x : Run) : Value := .agg #[.int .u64 (x.1 : Int), .int .u64 (x.2 : Int)]

set_option maxHeartbeats 2000000 in
theorem prun_any (w : World) (h B : Nat) (s : St) (k : Nu.PR w h B s.1 s.2) (hB : B ≤ h) :
    Calls Try.prog 27 #[.pointer (some ⟨h, 0, none⟩)] w (Nu.PPost w h B (uval (numN s, numN (numS s))) (numS (numS s)).1 (numS (numS s)).2) := by
  have hh : h < w.heap.size := k.lt
  have K0 := Lib.hid (pr_new k hB (ubox (0, 0)))
  have G0 := Lib.hid (grown_new (Nu.turn_refl w (some h)) (ubox (0, 0)))
  have R0 := Lib.hid (Nu.At.new w 35 #[.int .u64 0, .int .u64 0])
  have C1 := pnum_st (w.alloc (ubox (0, 0))) h B s K0.out hB
  obtain ⟨lo, hlo⟩ : ∃ lo, numN s = lo := ⟨_, rfl⟩
  obtain ⟨hi, hhi⟩ : ∃ hi, numN (numS s) = hi := ⟨_, rfl⟩
  rw [hlo] at C1 ⊢
  rw [hhi]
  have HHI := Lib.hid hhi
  clear k hlo hhi
  go_enter Try.func27, Try.ntmps27
  go_wp2_with fail
  refine C1.mono ?_
  rintro r w1 ⟨rfl, k1, g1⟩
  have C2 := pnum_st w1 h B (numS s) k1 hB
  rw [HHI.out] at C2
  have G1 := Lib.hid (G0.out.trans g1)
  have R1 := Lib.hid (R0.out.kept g1 (fun e => by cases e; omega))
  clear k1 g1 K0 G0 R0 C1
  go_wp2_with fail
  refine C2.mono ?_
  rintro r w2 ⟨rfl, k2, g2⟩
  have G2 := Lib.hid (G1.out.trans g2)
  have R2 := Lib.hid (R1.out.kept g2 (fun e => by cases e; omega))
  have Q3 := R2.out.set 0 (.int .u64 (lo : Int))
  have Q4 := Q3.set 1 (.int .u64 (hi : Int))
  have z0 := R2.out.cell 0
  have z1 := Q3.cell 1
  have f0 := R2.out.frozen 0
  have f1 := Q3.frozen 1
  have g0 := Q4.cell 0
  have g1 := Q4.cell 1
  simp at z0 z1 g0 g1
  have KF := Lib.hid (pr_set (pr_set k2 hB hh 0 (.int .u64 (lo : Int))) hB hh 1 (.int .u64 (hi : Int)))
  have GF := Lib.hid (grown_set (grown_set G2.out (Nat.le_refl _) 0 (.int .u64 (lo : Int))) (Nat.le_refl _) 1 (.int .u64 (hi : Int)))
  clear Q3 Q4 k2 g2 C2 G1 R1
  go_wp2
  refine bodyPost_ret (v := uval (lo, hi)) ?_ rfl ?_
  · simp [results, Try.f27, go_sem, g0, g1]
  · exact ⟨rfl, KF.out, GF.out⟩

/-- runs of one's own, beside a reader. -/
structure RO (w : World) (h B : Nat) (V : World) (A : Option Addr) (m c : Nat) (q : List Run) (s : St) : Prop where
  len : q.length = m
  fit : Ru.Fit q
  own : V.ownsRow w.heap.size 35 2 (.slice A m c) m (Ru.rv q)
  rr : Nu.PR V h B s.1 s.2
  gr : w.grownBy V (some h)
theorem RO.read {w V U : World} {h B m c : Nat} {A : Option Addr} {q : List Run} {s s' : St} (k : RO w h B V A m c q s) (hh : h < w.heap.size) (hr : Nu.PR U h B s'.1 s'.2) (hg : V.grownBy U (some h)) : RO w h B U A m c q s' :=
  ⟨k.len, k.fit, k.own.kept hg (own_far k.own hh), hr, k.gr.trans hg⟩
/-- a run more. -/
theorem RO.more {w V U : World} {h B m c c8 lo hi : Nat} {A A8 : Option Addr} {q : List Run} {s : St} (k : RO w h B V A m c q s) (hh : h < w.heap.size) (hB : B ≤ h) (hlo : lo < big) (hhi : hi < big) (o : Obj)
    (ho : U.ownsRow w.heap.size 35 2 (.slice A8 (m + 1) c8) (m + 1) (Ru.rv (q ++ [(lo, hi)]))) (hg : (V.alloc o).grownBy U (Value.slice A m c).ownBlock) : RO w h B U A8 (m + 1) c8 (q ++ [(lo, hi)]) s := by
  have hrow : ∀ t, (Value.slice A m c).ownBlock = some t → w.heap.size ≤ t := fun t ht => (k.own.lt t ht).1
  refine ⟨by rw [List.length_append, k.len]; rfl, fun r hr => ?_, ho, pr_row (pr_new k.rr hB o) hB hg (fun t ht => by have := hrow t ht; omega), grown_row (grown_new k.gr o) hg hrow⟩
  rcases List.mem_append.1 hr with hr | hr
  · exact k.fit r hr
  · rw [List.mem_singleton] at hr
    rw [hr]
    exact ⟨hlo, hhi⟩
theorem RO.none_ {w V : World} {h B m c : Nat} {A : Option Addr} {q : List Run} {s : St} (k : RO w h B V A m c q s) : RO w h B V none 0 0 [] s :=
  ⟨rfl, (fun r hr => by cases hr), World.ownsRow_nil _ _ _ _, k.rr, k.gr⟩
/-- what listOf answers at runs. -/
def RunsGot (w : World) (h B : Nat) (D : List Run × St) (r : Ending) (V : World) : Prop := ∃ (A : Option Addr) (m c : Nat) (q : List Run), r = .returned (.slice A m c) ∧ RO w h B V A m c q D.2 ∧ (D.2.2 = 0 → q = D.1)
/-- what stands between two rounds. -/
def RKeep (w : World) (h B L num : Nat) (s0 : St) (k m c : Nat) (A : Option Addr) (q : List Run) (s : St) (V : World) : Prop :=
  k ≤ num ∧ RO w h B V A m c q s ∧ runsL num [] s0 = runsL (num - k) q s ∧ (s.2 = 0 → m + s.1.length ≤ L)
theorem runs_step {num k : Nat} {q : List Run} {s s0 : St} (hk : k < num) (he : s.2 = 0) (hL : runsL num [] s0 = runsL (num - k) q s) : runsL num [] s0 = runsL (num - (k + 1)) (q ++ [(numN s, numN (numS s))]) (numS (numS s)) := by
  rw [hL, show num - k = num - (k + 1) + 1 by omega]
  conv => lhs; unfold runsL
  rw [if_pos he]
theorem num2_len {s : St} {m L : Nat} (hl : m + s.1.length ≤ L) (h : (numS (numS s)).2 = 0) : m + 1 + (numS (numS s)).1.length ≤ L := by
  have g1 := numS_ok h
  have g2 := numS_ok g1.1
  omega

set_option maxHeartbeats 8000000 in
theorem plrun_any (w : World) (h B num : Nat) (s0 : St) (k0 : Nu.PR w h B s0.1 s0.2) (hB : B ≤ h) (hl : s0.1.length ≤ 1048576) (hnum : num < big) :
    Calls Try.prog 26 #[.pointer (some ⟨h, 0, none⟩), .int .u64 (num : Int), .func (.func 27) #[] #[]] w (RunsGot w h B (runsL num [] s0)) := by
  have hh : h < w.heap.size := k0.lt
  have K0 := Lib.hid k0
  have HLL := Lib.hid hl
  obtain ⟨D, hD⟩ : ∃ D, runsL num [] s0 = D := ⟨_, rfl⟩
  rw [hD]
  have HD := Lib.hid hD
  have hnumb : num < 18446744073709551616 := hnum
  clear k0 hD hl hnum
  go_enter Try.func26, Try.ntmps26
  go_wp2_with fail
  go_loopw [1, 7] (fun i v wr => ∃ (k m c : Nat) (A : Option Addr) (q : List Run) (s : St), i = .int .u64 ((num - k : Nat) : Int) ∧ v = .slice A m c ∧ RKeep w h B s0.1.length num s0 k m c A q s wr) (fun i _ _ => (intOf i).toNat)
  case atStart => exact ⟨0, 0, 0, none, [], s0, rfl, rfl, Nat.zero_le _, ⟨rfl, (fun r hr => by cases hr), World.ownsRow_nil _ _ _ _, K0.out, Nu.turn_refl _ _⟩, rfl, fun _ => by rw [Nat.zero_add]; exact Nat.le_refl _⟩
  case round =>
    clear K0
    obtain ⟨k, m, c, A, q, ⟨sl, se⟩, rfl, rfl, hk, hro, hrl, hbl⟩ := hrel
    have HRO := Lib.hid hro
    have HRL := Lib.hid hrl
    have CE := Nu.err_any wr h B sl se hro.rr
    clear hro hrl
    by_cases hlt : k < num
    · have d0 : decide ((0 : Int) < ((num - k : Nat) : Int)) = true := decide_eq_true (by omega)
      go_wp2_with fail
      refine CE.mono ?_
      rintro r wr' ⟨rfl, rfl⟩
      by_cases he : se = 0
      · subst he
        have hmm : m + sl.length ≤ s0.1.length := hbl rfl
        have CR := prun_any wr h B (sl, 0) HRO.out.rr hB
        have hfs := Nu.small_of HRO.out.rr
        have HLO : Hid (numN (sl, 0) < big) := Lib.hid (Nu.numV_lt hfs)
        have HHI : Hid (numN (numS (sl, 0)) < big) := Lib.hid (Nu.numV_lt (small_numL hfs))
        have HNX := Lib.hid (runs_step hlt rfl HRL.out)
        have HBL := Lib.hid (num2_len (s := (sl, 0)) (m := m) hmm)
        have hw1 : IntKind.u64.wrap (((num - k : Nat) : Int) - 1) = ((num - (k + 1) : Nat) : Int) := by rw [IntKind.wrap_u64]; omega
        generalize numN (numS (sl, 0)) = hi at *
        generalize numN (sl, 0) = lo at *
        generalize numS (numS (sl, 0)) = s4 at *
        clear CE hfs hbl d0
        go_wp2_with fail
        refine CR.mono ?_
        rintro r V ⟨rfl, k4, g4⟩
        have R4 := Lib.hid (HRO.out.read (s' := s4) hh k4 g4)
        have O4 := Lib.hid (R4.out.own.alloc (ubox (lo, hi)))
        have L4 := Lib.hid (lies_run V lo hi)
        have hsz : Hid (w.heap.size ≤ (V.alloc (ubox (lo, hi))).heap.size) := Lib.hid (by rw [alloc_size]; have := R4.out.gr.size; omega)
        have hm7 : Hid (m + 1 ≤ 4398046511104) := Lib.hid (by have := HLL.out; omega)
        clear k4 g4 CR
        go_wp2_with (at_builtin; refine wpList_app rfl (.tmp 17) (.tmp 21) rfl rfl _ w.heap.size m (.slice A m c) q (some ⟨V.heap.size, 0, none⟩) [(lo, hi)] 1 1 rfl rfl O4.out (fun h => by cases h) L4.out rfl hm7.out hsz.out ?_; intro A8 c8 U ho hg hat; have RU := Lib.hid (R4.out.more hh hB HLO.out HHI.out _ ho hg); clear ho hg hat)
        go_roundw
        case rel => exact ⟨k + 1, m + 1, c8, A8, _, s4, rfl, rfl, hlt, RU.out, HNX.out, HBL.out⟩
        case measure => simp [intOf]; omega
      · have hi0 : ((se : Int) == 0) = false := by rw [beq_eq_false_iff_ne]; omega
        have hi1 : ((se : Int) != 0) = true := by rw [bne, hi0]; rfl
        have hi2 : ¬ (se : Int) = 0 := by omega
        have HX : Hid (D.2 = (sl, se)) := Lib.hid (by rw [← HD.out, HRL.out, runsL_bad he])
        go_wp2_with fail
        refine CE.mono ?_
        rintro r wr'' ⟨rfl, rfl⟩
        go_wp2
        go_ret
        exact ⟨none, 0, 0, [], rfl, by rw [HX.out]; exact HRO.out.none_, fun h0 => absurd (by rw [HX.out] at h0; exact h0) he⟩
    · obtain rfl : k = num := by omega
      have d0 : decide ((0 : Int) < ((k - k : Nat) : Int)) = false := decide_eq_false (by omega)
      have HX : Hid (D = (q, (sl, se))) := Lib.hid (by rw [← HD.out, HRL.out, Nat.sub_self]; rfl)
      go_wp2_with fail
      refine CE.mono ?_
      rintro r wr' ⟨rfl, rfl⟩
      by_cases he : se = 0
      · subst he
        go_wp2
        go_ret
        exact ⟨A, m, c, q, rfl, by rw [HX.out]; exact HRO.out, fun _ => by rw [HX.out]⟩
      · have hi0 : ((se : Int) == 0) = false := by rw [beq_eq_false_iff_ne]; omega
        have hi1 : ((se : Int) != 0) = true := by rw [bne, hi0]; rfl
        have hi2 : ¬ (se : Int) = 0 := by omega
        go_wp2
        go_ret
        exact ⟨none, 0, 0, [], rfl, by rw [HX.out]; exact HRO.out.none_, fun h0 => absurd (by rw [HX.out] at h0; exact h0) he⟩
end Go.Proofs.Ytmhghgogehmehaa.Dc

/- The contract of the document's Plain of layer ctx. -/
namespace Go.Proofs.Ytmhghgogehmehaa.Cx
open Go.ChangeShapes Go.WideShapes Go.ChangeAt Go.RowKit
set_option linter.unusedVariables false

/-- a new slice of one run. -/
theorem run_lit (V : World) (b lo hi : Nat) (hb : b = V.heap.size) (h1 : lo < 18446744073709551616) (h2 : hi < 18446744073709551616) :
    RunsAt (V.alloc (.cells #[.int .u64 (lo : Int), .int .u64 (hi : Int)] 35)) (some ⟨b, 0, none⟩) [(lo, hi)] 1 1 := by
  subst hb
  refine ⟨rfl, (fun h => by cases h), Nat.le_refl _, by decide, ⟨fun r hr => by obtain rfl := List.mem_singleton.1 hr; exact ⟨h1, h2⟩, fun _ => ⟨_, rfl, by simp, fun j u hu => ?_⟩⟩⟩
  have e3 : Ru.rv [(lo, hi)] = [.int .u64 (lo : Int), .int .u64 (hi : Int)] := rfl
  rw [e3] at hu
  rw [Dt.zero_add, World.cell?_alloc_new]
  simpa using hu
/-- a part in memory whose runs lie apart. -/
theorem step_part {ops : Array Oper} {o : Oper} {a : Act} {K : Act → World → Prop} {Q : Exit → Act → World → Prop} {E : Prop} {w : World} (hgd : o.guard = none) (s x : Operand)
    (ho : o.op = .call { callee := .builtin .append, args := #[s, x], argTypes := #[25, 25] }) (hty : o.type = 25)
    (B k : Nat) (v : Value) (ps : List PV) (ad : Addr) (p : PV) (hs : a.eval s = v) (hx : a.eval x = .slice (some ad) 1 1) (hw : w.ownsRow B 38 2 v k (cv ps)) (hc : ∀ (j : Nat) (u : Value), (cv [p])[j]? = some u → w.cell? (ad.add j) = some u)
    (hn : k + 1 ≤ 4398046511104) (hB : B ≤ w.heap.size)
    (hK : ∀ A' c' w', w'.ownsRow B 38 2 (.slice A' (k + 1) c') (k + 1) (cv (ps ++ [p])) → w.grownBy w' v.ownBlock → ((Value.slice A' (k + 1) c').ownBlock = v.ownBlock ∨ (Value.slice A' (k + 1) c').ownBlock = some w.heap.size) → K (a.put o.dst (.slice A' (k + 1) c')) w') :
    if Region.wanted o (yielded ops a.tmps) = true then Oper.wp Try.prog o a w K Q else E := by
  have hwd : Region.wanted o (yielded ops a.tmps) = true := by simp [Region.wanted, hgd]
  rw [if_pos hwd]
  obtain ⟨i0, hi0, hz0, hz1, hz2⟩ := info_parts part_info
  obtain ⟨v', w', hr, h2, h3, hat, h5⟩ := run_append_own_at (P := Try.prog) w B 25 25 38 i0 (.agg #[.int .u16 0, .slice none 0 0]) 2 32 Try.underlying25 hi0 hz0 hz1 hz2 rfl (by decide) v k (cv ps) hw ad 1 1 (cv [p]) (by rw [cv_length]; rfl) hc (cv_one [p]) (by simp only [maxLen]; omega) (by omega) hB
  obtain ⟨A', c', rfl⟩ := Dt.own_form h2
  unfold Oper.wp execOp
  simp only [ho, resolve, invoke, builtin, Sem.run_bind, Sem.run_pure, Result.andThen_ok, List.map_toArray, List.map_cons, List.map_nil, hs, hx]
  rw [hty, hr]
  refine hK _ _ _ ?_ h3 h5
  rw [cv_append]; exact h2
theorem plain_next {N : List Dot} {k : Nat} {x : Dot} (h : N[k]? = some x) : ((N.take (k + 1)).map (fun x => ((x.1, [(1, x.2)]) : Part))) = (N.take k).map (fun x => ((x.1, [(1, x.2)]) : Part)) ++ [(x.1, [(1, x.2)])] := by
  rw [List.take_add_one, h, List.map_append]; rfl
end Go.Proofs.Ytmhghgogehmehaa.Cx

/- What the walks of layer ctx's laws ask of the program's own functions, and the chapter's example. -/
namespace Go.Proofs.Ytmhghgogehmehaa.Cx
open Go.ChangeShapes Go.WideShapes Go.ChangeAt Go.RowKit
set_option linter.unusedVariables false

/-- a slice of dots, that lies in this world. -/
structure DotsAt (w : World) (A : Option Addr) (l : List Dot) (n c : Nat) : Prop where
  len : l.length = n
  nil : A = none → n = 0 ∧ c = 0
  cap : n ≤ c
  max : c ≤ 9223372036854775807
  dots : Dt.Dots w w.heap.size A l
theorem DotsAt.up {w W : World} {A : Option Addr} {l : List Dot} {n c : Nat} (h : DotsAt w A l n c) (hW : Below w.heap.size w W) : DotsAt W A l n c := ⟨h.len, h.nil, h.cap, h.max, h.dots.up hW⟩
theorem DotsAt.fit {w : World} {A : Option Addr} {l : List Dot} {n c : Nat} (h : DotsAt w A l n c) : Dt.Fit l := h.dots.1
def DotsHas (w : World) (m : List Dot) (e : Ending) (w' : World) : Prop := ∃ A n c, e = .returned (.slice A n c) ∧ DotsAt w' A m n c ∧ Below w.heap.size w w'
def RunsHas (w : World) (m : List Run) (e : Ending) (w' : World) : Prop := ∃ A n c, e = .returned (.slice A n c) ∧ RunsAt w' A m n c ∧ Below w.heap.size w w'
theorem runs_has' {w w' : World} {m : List Run} {e : Ending} (hm : Ru.InOrder m) (h : Ru.RunPost w m e w') : RunsHas w m e w' := by
  obtain ⟨A, n, c, rfl, hR, hb, _⟩ := runs_post h hm
  exact ⟨A, n, c, rfl, hR, hb⟩
theorem ctx_has {w w' : World} {m : List Part} {e : Ending} (h : CtxPost w m e w') : CtxHas w m e w' := post_ctx h

/-- how many runs the parts have together. -/
def wC (c : List Part) : Nat := (c.map (fun x => x.2.length)).sum
/-- at most k parts, of at most k runs together. -/
def Wide (k : Nat) (c : List Part) : Prop := c.length ≤ k ∧ wC c ≤ k
theorem Wide.more {k m : Nat} {c : List Part} (h : Wide k c) (hk : k ≤ m) : Wide m c := ⟨Nat.le_trans h.1 hk, Nat.le_trans h.2 hk⟩
theorem small_wide {c : List Part} (h : Small c) : Wide 10000 c := ⟨Nat.le_trans h.1 (by decide), h.2⟩
theorem sum_le (l : List Nat) {f g : Nat → Nat} (h : ∀ d ∈ l, f d ≤ g d) : (l.map f).sum ≤ (l.map g).sum := by
  induction l with
  | nil => exact Nat.le_refl _
  | cons d l ih =>
    have h1 := h d (List.mem_cons_self ..)
    have h2 := ih (fun e he => h e (List.mem_cons_of_mem _ he))
    simp only [List.map_cons, List.sum_cons]
    omega
theorem sum_spot (l : List Nat) (hn : l.Nodup) (f : Nat → Nat) (d0 k : Nat) : (l.map (fun d => if d0 = d then f d + k else f d)).sum ≤ (l.map f).sum + k := by
  induction l with
  | nil => simp
  | cons d l ih =>
    obtain ⟨h1, h2⟩ := List.nodup_cons.1 hn
    simp only [List.map_cons, List.sum_cons]
    by_cases hd : d0 = d
    · subst hd
      have e : l.map (fun d => if d0 = d then f d + k else f d) = l.map f := List.map_congr_left fun x hx => if_neg (fun e => h1 (by rw [e]; exact hx))
      rw [e, if_pos rfl]
      omega
    · rw [if_neg hd]
      have := ih h2
      omega
theorem runs_total (c : List Part) : ((List.range Dt.topV).map (fun d => (runsC c d).length)).sum ≤ wC c := by
  suffices h : ∀ k, ((List.range Dt.topV).map (fun d => (runsC (c.take k) d).length)).sum ≤ wC (c.take k) by
    have := h c.length
    rwa [List.take_length] at this
  intro k
  induction k with
  | zero => exact Nat.le_trans (Nat.le_of_eq ((Dt.sum_zero _ _).2 fun d _ => rfl)) (Nat.zero_le _)
  | succ k ih =>
    by_cases hk : k < c.length
    · have hg := List.getElem?_eq_getElem hk
      have e : wC (c.take (k + 1)) = wC (c.take k) + c[k].2.length := by
        unfold wC
        rw [List.take_add_one, hg, List.map_append, List.sum_append]; simp
      rw [e]
      refine Nat.le_trans (sum_le _ fun d _ => ?_) (Nat.le_trans (sum_spot (List.range Dt.topV) List.nodup_range (fun d => (runsC (c.take k) d).length) c[k].1 c[k].2.length) (by omega))
      rw [runs_next d hg]
      unfold stepC
      by_cases h1 : c[k].1 = d
      · rw [if_pos h1]
        split
        · have := Ru.set_length0 (runsC (c.take k) d) c[k].2; omega
        · omega
      · rw [if_neg h1, if_neg (fun h => h1 h.1)]
        exact Nat.le_refl _
    · have e : c.take (k + 1) = c.take k := by rw [List.take_of_length_le (by omega), List.take_of_length_le (by omega)]
      rw [e]; exact ih
theorem list_weight {f : Nat → List Run} {g : Nat → Nat} (h : ∀ d, f d ≠ [] → (f d).length ≤ g d + 1) (l : List Nat) : ((l.filterMap (oneC f)).map (fun x => x.2.length)).sum ≤ (l.map g).sum + (l.filterMap (oneC f)).length := by
  induction l with
  | nil => simp
  | cons d l ih =>
    rw [List.filterMap_cons]
    by_cases h0 : (f d).length = 0
    · rw [show oneC f d = none from if_pos h0, List.map_cons, List.sum_cons]
      simp only
      omega
    · rw [show oneC f d = some (d, f d) from if_neg h0]
      have := h d (fun e => h0 (by rw [e]; rfl))
      simp only [List.map_cons, List.sum_cons, List.length_cons]
      omega
theorem weight_set {a b : List Part} (ha : FitC a) (hb : FitC b) (how : Int) (h3 : how = 0 ∨ how = 1 ∨ how = 2) : wC (setC a b how) ≤ wC a + wC b + (a.length + b.length) := by
  have h1 := list_weight (f := fun d => Ru.setL (runsC a d) (runsC b d) how) (g := fun d => (runsC a d).length + (runsC b d).length) (fun d _ => by
    rcases h3 with rfl | rfl | rfl
    · have := Ru.set_length0 (runsC a d) (runsC b d); omega
    · have := Ru.set_length1 (runsC a d) (runsC b d); omega
    · have := Ru.set_length2 (runsC a d) (runsC b d); omega) (List.range Dt.topV)
  rw [← sum_two] at h1
  have h4 := runs_total a
  have h5 := runs_total b
  have h6 := set_len ha hb how
  unfold setC listC at *
  unfold wC at *
  omega
theorem wide_set {k : Nat} {a b : List Part} (ha : FitC a) (hb : FitC b) (wa : Wide k a) (wb : Wide k b) (how : Int) (h3 : how = 0 ∨ how = 1 ∨ how = 2) : Wide (4 * k) (setC a b how) := by
  have h1 := weight_set ha hb how h3
  have h2 := set_len ha hb how
  obtain ⟨h4, h5⟩ := wa
  obtain ⟨h6, h7⟩ := wb
  exact ⟨by omega, by omega⟩

/-- the answers of the program's functions. -/
structure PCtx : Prop where
  norm : ∀ (w : World) (A : Option Addr) (a : List Part) (n c : Nat), CtxAt w A a n c → Wide 67108864 a → Calls Try.prog 20 #[.slice A n c] w (CtxHas w (normC a))
  good : ∀ (w : World) (A : Option Addr) (a : List Part) (n c : Nat), CtxAt w A a n c → Wide 67108864 a → Calls Try.prog 17 #[.slice A n c] w fun e w' => e = .returned (.bool (goodC a)) ∧ Below w.heap.size w w'

/-! The document's Same and Eq, of what came out. -/
/-! The chapter's example. -/
def exC : List Part := [(1, [(1, 2), (4, 4)]), (2, [(2, 2)])]
def exL : List Dot := [(1, 1), (1, 2), (1, 4), (2, 2)]
theorem ex_fit : Dt.Fit exL := by unfold exL Dt.Fit; decide
theorem ex_ord : OrdC exC := by
  refine ord_rise (by unfold exC; simp) fun x hx => ?_
  unfold exC at hx
  simp only [List.mem_cons, List.not_mem_nil, or_false] at hx
  rcases hx with rfl | rfl
  · exact ⟨⟨by decide, by simp⟩, by simp, by decide, by decide⟩
  · exact ⟨⟨by decide, by simp⟩, by simp, by decide, by decide⟩
theorem ex_has (d n : Nat) : Ru.has (runsC exC d) n = (decide (d = 1) && (decide (n = 1) || decide (n = 2) || decide (n = 4)) || decide (d = 2) && decide (n = 2)) := by
  rw [runs_has]
  have h1 : Ru.mayR (1, 2) = true := by decide
  have h2 : Ru.mayR (4, 4) = true := by decide
  have h3 : Ru.mayR (2, 2) = true := by decide
  simp only [exC, List.any_cons, List.any_nil, Ru.has_cons, Ru.has_nil, Ru.tst, h1, h2, h3]
  rw [Bool.eq_iff_iff]
  simp only [Bool.and_eq_true, Bool.or_eq_true, decide_eq_true_eq, Bool.or_false, Bool.true_and]
  omega
theorem ex_of : ofC exL = exC := ord_eq (ord_of ex_fit) ex_ord fun d n => by
  rw [has_of ex_fit, ex_has]
  have h1 : Dt.mayD (1, 1) = true := by decide
  have h2 : Dt.mayD (1, 2) = true := by decide
  have h3 : Dt.mayD (1, 4) = true := by decide
  have h4 : Dt.mayD (2, 2) = true := by decide
  simp only [exL, List.any_cons, List.any_nil, isDot, h1, h2, h3, h4]
  rw [Bool.eq_iff_iff]
  simp only [Bool.and_eq_true, Bool.or_eq_true, decide_eq_true_eq, Bool.or_false, Bool.true_and]
  omega
theorem ex_base : baseC exC = [(1, 2)] := by
  rw [base_fold, ex_ord.norm]
  rfl
theorem ex_one : Dt.Fit [(1, 3)] := by unfold Dt.Fit; decide
theorem ex_more : runsC (setC exC (ofC [(1, 3)]) 0) 1 = [(1, 4)] := by
  refine Ru.uniq (runs_order _ _) ⟨by decide, by simp⟩ fun n => ?_
  rw [has_set0 ex_ord.fit (ord_of ex_one).fit, ex_has, has_of ex_one]
  have h1 : Dt.mayD (1, 3) = true := by decide
  have h2 : Ru.mayR (1, 4) = true := by decide
  simp only [List.any_cons, List.any_nil, isDot, h1, Ru.has_cons, Ru.has_nil, Ru.tst, h2]
  rw [Bool.eq_iff_iff]
  simp only [Bool.and_eq_true, Bool.or_eq_true, decide_eq_true_eq, Bool.or_false, Bool.true_and, true_and]
  omega
theorem ex_wide : Wide 67108864 exC := by unfold Wide wC exC; simp
theorem ex_wide2 : Wide 67108864 (setC exC (ofC [(1, 3)]) 0) := by
  have h1 : Wide 10000 exC := by unfold Wide wC exC; simp
  have h2 := (of_whole _ ex_one).small (k := 1) (by omega)
  exact (wide_set ex_ord.fit (ord_of ex_one).fit h1 (small_wide h2) 0 (.inl rfl)).more (by decide)
end Go.Proofs.Ytmhghgogehmehaa.Cx
