/- Words and contracts that the proofs of this seat stand on, part 9 of 14. -/
import Derived.Test.YtblgbbpbhcaodaaMgH
import Derived.Test.YtblgbbpbhcaodaaMgD
import Derived.Test.YtblgbbpbhcaodaaMgF
import Derived.Deep.DeepCutAuto

/- Words for lists of events that are read: a list of one's own beside a reader; a list that came out. -/
namespace Go.Proofs.Ytblgbbpbhcaodaa.Ec
open Go.ChangeShapes Go.WideShapes Go.ChangeAt Go.RowKit Go.Proofs.Ytblgbbpbhcaodaa.Dc
set_option linter.unusedVariables false
set_option maxRecDepth 4000

/-- an event more, told where the list lies then. -/
theorem wpList_evt1 {ops : Array Oper} {rest : List Oper} {o : Oper} {a : Act} {Q : Exit → Act → World → Prop} (hgd : o.guard = none) (s x : Operand) (ho : o.op = .call { callee := .builtin .append, args := #[s, x], argTypes := #[22, 22] }) (hty : o.type = 22)
    (w : World) (B k : Nat) (v : Value) (xs : List Ev.EV) (b : Nat) (q : Ev.EV) (hs : a.eval s = v) (hx : a.eval x = .slice (some ⟨b, 0, none⟩) 1 1) (hw : w.ownsRow B 40 7 v k (Ev.ev xs)) (hb : Dt.Lies w w.heap.size (some ⟨b, 0, none⟩) (Ev.ev [q]))
    (hn : k + 1 ≤ 1649267441664) (hB : B ≤ w.heap.size)
    (hK : ∀ A' c' w', w'.ownsRow B 40 7 (.slice A' (k + 1) c') (k + 1) (Ev.ev (xs ++ [q])) → w.grownBy w' v.ownBlock → ((Value.slice A' (k + 1) c').ownBlock = v.ownBlock ∨ (Value.slice A' (k + 1) c').ownBlock = some w.heap.size) → wpList Try.prog ops Q rest (a.put o.dst (.slice A' (k + 1) c')) w') : wpList Try.prog ops Q (o :: rest) a w := by
  refine wpList_plain hgd fun K hQ => ?_
  obtain ⟨i0, hi0, hz0, hz1, hz2⟩ := info_parts Ev.evt_info
  have hc : ∀ j u, (Ev.ev [q])[j]? = some u → w.cell? ((⟨b, 0, none⟩ : Addr).add j) = some u := by
    intro j u hu
    have hjl : j < (Ev.ev [q]).length := (List.getElem?_eq_some_iff.1 hu).1
    obtain ⟨ad', e, hadb, hc⟩ := hb (by omega)
    obtain rfl := Option.some.inj e
    exact hc j u hu
  obtain ⟨v', w', hr, h2, h3, hat, h5⟩ := run_append_own_at (P := Try.prog) w B 22 22 40 i0 (.agg #[.int .u16 0, .int .u64 0, .int .u8 0, .int .u64 0, .int .u8 0, .string ⟨#[]⟩, .slice none 0 0]) 7 80 Try.underlying22 hi0 hz0 hz1 hz2 rfl (by decide) v k (Ev.ev xs) hw ⟨b, 0, none⟩ 1 1 (Ev.ev [q]) (by rw [Ev.ev_length]; rfl) hc (Ev.ev_one [q]) (by simp only [maxLen]; omega) (by omega) hB
  obtain ⟨A', c', rfl⟩ := Dt.own_form h2
  unfold Oper.wp execOp
  simp only [ho, resolve, invoke, builtin, Sem.run_bind, Sem.run_pure, Result.andThen_ok, List.map_toArray, List.map_cons, List.map_nil, hs, hx]
  rw [hty, hr]
  refine hQ _ _ (hK _ _ _ ?_ h3 h5)
  rw [Ev.ev_append]; exact h2
theorem dots_turn' {n c : Nat} {V U : World} {A : Option Addr} {l : List Dot} {row : Option Nat} (h : Ev.DotsAt V V.heap.size A l n c) (hg : V.grownBy U row) (hne : ∀ ad, A = some ad → 0 < n → some ad.block ≠ row) : Ev.DotsAt U U.heap.size A l n c := by
  refine ⟨h.len, h.nil, h.cap, h.max, h.wide, h.dots.1, fun hl => ?_⟩
  have h0 : 0 < n := by have h1 := h.len; rw [Dt.dv_length] at hl; omega
  obtain ⟨ad, e, hB, hc⟩ := h.dots.2 hl
  refine ⟨ad, e, Nat.lt_of_lt_of_le hB hg.size, fun j u hu => ?_⟩
  rw [World.cell?_of_block (w := V) (hg.block _ (by rw [Dt.block_add]; exact hB) (by rw [Dt.block_add]; exact hne ad e h0))]
  exact hc j u hu
theorem is_turn {V U : World} {q : Ev.EV} {x : Evt} {row : Option Nat} (h : Ev.EventIs V V.heap.size q x) (hg : V.grownBy U row) (hne : ∀ ad, q.adr = some ad → 0 < q.len → some ad.block ≠ row) : Ev.EventIs U U.heap.size q x :=
  ⟨h.dev, h.num, h.kind, h.cid, h.fld, h.txt, h.fits, dots_turn' h.kills hg hne⟩
theorem match_turn {V U : World} {ps : List Ev.EV} {o : List Evt} {row : Option Nat} (hm : Ev.Match V V.heap.size ps o) (hg : V.grownBy U row) (hne : ∀ p ∈ ps, ∀ ad, p.adr = some ad → 0 < p.len → some ad.block ≠ row) : Ev.Match U U.heap.size ps o :=
  ⟨hm.1, fun k p x hp hx => is_turn (hm.2 k p x hp hx) hg (hne p (List.mem_of_getElem? hp))⟩
/-- dots that stand in memory lie below its end. -/
theorem is_lt {V : World} {q : Ev.EV} {x : Evt} (h : Ev.EventIs V V.heap.size q x) {ad : Addr} (e : q.adr = some ad) (h0 : 0 < q.len) : ad.block < V.heap.size := by
  have hl : 0 < (Dt.dv x.kills).length := by rw [Dt.dv_length, h.kills.len]; omega
  obtain ⟨ad', e', hB, _⟩ := h.kills.dots.2 hl
  rw [e] at e'
  cases e'
  exact hB
/-- events of one's own, beside a reader. -/
structure VK (R : World → St → Prop) (w : World) (h : Nat) (V : World) (A : Option Addr) (m c : Nat) (ps : List Ev.EV) (o : List Evt) (s : St) : Prop where
  len : o.length = m
  own : V.ownsRow w.heap.size 40 7 (.slice A m c) m (Ev.ev ps)
  mat : Ev.Match V V.heap.size ps o
  far : ∀ p ∈ ps, ∀ ad, p.adr = some ad → 0 < p.len → w.heap.size ≤ ad.block ∧ ad.block < V.heap.size ∧ some ad.block ≠ (Value.slice A m c).ownBlock
  rr : R V s
  gr : w.grownBy V (some h)
theorem VK.start {R : World → St → Prop} {w V : World} {h : Nat} {s : St} (k : R V s) (g : w.grownBy V (some h)) : VK R w h V none 0 0 [] [] s :=
  ⟨rfl, World.ownsRow_nil _ _ _ _, Ev.Match.nil_ _ _, (fun p hp => by cases hp), k, g⟩
theorem VK.read {R : World → St → Prop} {w V U : World} {h m c : Nat} {A : Option Addr} {ps : List Ev.EV} {o : List Evt} {s s' : St} (k : VK R w h V A m c ps o s) (hh : h < w.heap.size) (hr : R U s') (hg : V.grownBy U (some h)) : VK R w h U A m c ps o s' :=
  ⟨k.len, k.own.kept hg (own_far k.own hh), match_turn k.mat hg (fun p hp ad e h0 e2 => by cases e2; have := (k.far p hp ad e h0).1; omega), fun p hp ad e h0 => ⟨(k.far p hp ad e h0).1, Nat.lt_of_lt_of_le (k.far p hp ad e h0).2.1 hg.size, (k.far p hp ad e h0).2.2⟩, hr, k.gr.trans hg⟩
theorem VK.below {R : World → St → Prop} {w V U : World} {h B m c : Nat} {A : Option Addr} {ps : List Ev.EV} {o : List Evt} {s : St} (k : VK R w h V A m c ps o s) (r : Rdr R h B) (hh : h < w.heap.size) (hb : Below V.heap.size V U) : VK R w h U A m c ps o s :=
  k.read hh (r.below k.rr hb) (Nu.turn_below hb _)
/-- an event more. -/
theorem VK.more {R : World → St → Prop} {w U X : World} {h B m c c8 B1 : Nat} {A A8 : Option Addr} {ps : List Ev.EV} {o : List Evt} {q : Ev.EV} {x : Evt} {s : St} (k : VK R w h U A m c ps o s) (r : Rdr R h B) (hh : h < w.heap.size) (hO : EO B1 U q x) (hw : w.heap.size ≤ B1) (hB1 : ∀ t, (Value.slice A m c).ownBlock = some t → t < B1)
    (ho : X.ownsRow w.heap.size 40 7 (.slice A8 (m + 1) c8) (m + 1) (Ev.ev (ps ++ [q]))) (hg : (U.alloc q.box).grownBy X (Value.slice A m c).ownBlock)
    (hat : (Value.slice A8 (m + 1) c8).ownBlock = (Value.slice A m c).ownBlock ∨ (Value.slice A8 (m + 1) c8).ownBlock = some (U.alloc q.box).heap.size) :
    VK R w h X A8 (m + 1) c8 (ps ++ [q]) (o ++ [x]) s := by
  have hrow : ∀ t, (Value.slice A m c).ownBlock = some t → w.heap.size ≤ t ∧ t < U.heap.size := fun t ht => k.own.lt t ht
  have hUs := alloc_size U q.box
  have hfarU : ∀ p ∈ ps ++ [q], ∀ ad, p.adr = some ad → 0 < p.len → w.heap.size ≤ ad.block ∧ ad.block < U.heap.size ∧ some ad.block ≠ (Value.slice A m c).ownBlock := by
    intro p hp ad e h0
    rcases List.mem_append.1 hp with hp | hp
    · exact k.far p hp ad e h0
    · rw [List.mem_singleton] at hp
      rw [hp] at e h0
      have h1 := hO.far ad e
      refine ⟨by omega, is_lt hO.is e h0, fun e2 => ?_⟩
      have := hB1 _ e2.symm
      omega
  have hmU : Ev.Match (U.alloc q.box) (U.alloc q.box).heap.size (ps ++ [q]) (o ++ [x]) := (k.mat.snoc hO.is).below (below_new U q.box) |>.more (by rw [hUs]; exact Nat.le_succ _)
  refine ⟨by rw [List.length_append, k.len]; rfl, ho, match_turn hmU hg (fun p hp ad e h0 => (hfarU p hp ad e h0).2.2), fun p hp ad e h0 => ?_, r.row (r.new k.rr q.box) hg (fun t ht => by have := hrow t ht; omega), grown_row2 (grown_new k.gr q.box) hg (fun t ht => (hrow t ht).1)⟩
  have hf := hfarU p hp ad e h0
  refine ⟨hf.1, Nat.lt_of_lt_of_le (by rw [hUs]; exact Nat.lt_succ_of_lt hf.2.1) hg.size, fun e2 => ?_⟩
  rcases hat with hat | hat
  · exact hf.2.2 (e2.trans hat)
  · rw [hat] at e2
    have e3 : ad.block = (U.alloc q.box).heap.size := Option.some.inj e2
    omega
/-- events that came out, in blocks from B0 on. -/
structure VL (B0 : Nat) (V : World) (A : Option Addr) (l : List Evt) (n c : Nat) : Prop where
  len : l.length = n
  nil : A = none → n = 0 ∧ c = 0
  cap : n ≤ c
  max : c ≤ 9223372036854775807
  wide : n ≤ 2199023255552
  far : ∀ ad, A = some ad → B0 ≤ ad.block
  evts : ∃ ps, Dt.Lies V V.heap.size A (Ev.ev ps) ∧ Ev.Match V V.heap.size ps l ∧ ∀ p ∈ ps, ∀ ad, p.adr = some ad → 0 < p.len → B0 ≤ ad.block
theorem VL.at_ {B0 n c : Nat} {V : World} {A : Option Addr} {l : List Evt} (k : VL B0 V A l n c) : Ev.EventsAt V V.heap.size A l n c := by
  obtain ⟨ps, h1, h2, _⟩ := k.evts
  exact ⟨k.len, k.nil, k.cap, k.max, k.wide, ps, h1, h2⟩
theorem VL.none_ (B0 : Nat) (V : World) : VL B0 V none [] 0 0 := ⟨rfl, fun _ => ⟨rfl, rfl⟩, Nat.le_refl _, by decide, by decide, (fun ad e => by cases e), [], Dt.Lies.none_ _ _ _, Ev.Match.nil_ _ _, fun p hp => by cases hp⟩
theorem VL.turn {B0 n c : Nat} {V U : World} {A : Option Addr} {l : List Evt} {row : Option Nat} (k : VL B0 V A l n c) (hg : V.grownBy U row) (hr : ∀ b, row = some b → b < B0) : VL B0 U A l n c := by
  obtain ⟨ps, h1, h2, h3⟩ := k.evts
  refine ⟨k.len, k.nil, k.cap, k.max, k.wide, k.far, ps, fun hl => ?_, match_turn h2 hg (fun p hp ad e h0 e2 => by have h4 := h3 p hp ad e h0; have := hr _ e2.symm; omega), h3⟩
  obtain ⟨ad, e, hB, hc⟩ := h1 hl
  refine ⟨ad, e, Nat.lt_of_lt_of_le hB hg.size, fun j u hu => ?_⟩
  rw [World.cell?_of_block (w := V) (hg.block _ (by rw [Dt.block_add]; exact hB) (by rw [Dt.block_add]; intro e2; have h4 := k.far ad e; have := hr _ e2.symm; omega))]
  exact hc j u hu
theorem VL.below {B0 n c : Nat} {V U : World} {A : Option Addr} {l : List Evt} (k : VL B0 V A l n c) (hb : Below V.heap.size V U) : VL B0 U A l n c := k.turn (Nu.turn_below hb none) (fun b e => by cases e)
theorem VL.less {B0 B1 n c : Nat} {V : World} {A : Option Addr} {l : List Evt} (k : VL B0 V A l n c) (h : B1 ≤ B0) : VL B1 V A l n c := by
  obtain ⟨ps, h1, h2, h3⟩ := k.evts
  exact ⟨k.len, k.nil, k.cap, k.max, k.wide, (fun ad e => Nat.le_trans h (k.far ad e)), ps, h1, h2, fun p hp ad e h0 => Nat.le_trans h (h3 p hp ad e h0)⟩
theorem VK.vl {R : World → St → Prop} {w V : World} {h m c : Nat} {A : Option Addr} {ps : List Ev.EV} {o : List Evt} {s : St} (k : VK R w h V A m c ps o s) (hm : m ≤ 2199023255552) : VL w.heap.size V A o m c := by
  obtain ⟨h1, h2, h3⟩ := Dt.own_len k.own
  exact ⟨k.len, h3, h1, h2, hm, (fun ad e => by subst e; exact (k.own.lt ad.block rfl).1), ps, Dt.lies_any (by decide) k.own, k.mat, fun p hp ad e h0 => (k.far p hp ad e h0).1⟩
/-- what GetAll answers. -/
def EvtsGot (R : World → St → Prop) (w : World) (h : Nat) (D : List Evt × St) (r : Ending) (V : World) : Prop :=
  ∃ A m c, r = .returned (.slice A m c) ∧ VL w.heap.size V A D.1 m c ∧ R V D.2 ∧ w.grownBy V (some h)
theorem evts_none {R : World → St → Prop} {w V : World} {h : Nat} {D : List Evt × St} {s : St} (hD : D = ([], s)) (hr : R V s) (hg : w.grownBy V (some h)) : EvtsGot R w h D (.returned (.slice none 0 0)) V := by
  subst hD
  exact ⟨none, 0, 0, rfl, VL.none_ _ _, hr, hg⟩
/-- what stands between two rounds. -/
def VKeep (R : World → St → Prop) (w : World) (h L num : Nat) (s0 : St) (k m c : Nat) (A : Option Addr) (ps : List Ev.EV) (o : List Evt) (s : St) (V : World) : Prop :=
  k ≤ num ∧ VK R w h V A m c ps o s ∧ evtsL num [] s0 = evtsL (num - k) o s ∧ (s.2 = 0 → m + s.1.length ≤ L) ∧ m ≤ L + 1
end Go.Proofs.Ytblgbbpbhcaodaa.Ec

/- What the walks of layer ecode ask of the program; the chapter's example. -/
namespace Go.Proofs.Ytblgbbpbhcaodaa.Ec
open Go.ChangeShapes Go.WideShapes Go.ChangeAt Go.RowKit Go.Proofs.Ytblgbbpbhcaodaa.Dc
set_option linter.unusedVariables false
set_option maxRecDepth 4000

/-- the program's reader, at a state. -/
def RP (h B : Nat) (V : World) (s : St) : Prop := Nu.PR V h B s.1 s.2
theorem rp_rdr {h B : Nat} (hB : B ≤ h) : Rdr (RP h B) h B :=
  ⟨hB, fun k => Nu.PR.lt k, fun k hg hne hr => Nu.PR.kept k hg (Nat.le_of_lt (Nat.lt_of_le_of_lt hB (Nu.PR.lt k))) hne hr⟩
/-- what Encode answers. -/
def EncPost (w : World) (x : Evt) (r : Ending) (V : World) : Prop :=
  ∃ A n c, r = .returned (.tuple #[.slice A n c, .int .i64 (if Ev.goodE x = true then 0 else 1)]) ∧ BL V A (if Ev.goodE x = true then evtB x else []) n c ∧ Below w.heap.size w V
/-- what Decode answers. -/
def DecOut (w : World) (b : List Nat) (r : Ending) (V : World) : Prop := ∃ q : Ev.EV, r = .returned (.tuple #[q.val, .int .i64 ((decE b).2 : Int)]) ∧ EO w.heap.size V q (decE b).1 ∧ Below w.heap.size w V
/-- what the program's functions answer. -/
structure PEc : Prop where
  put : ∀ (w : World) (B g : Nat) (rb : Option Nat) (m : List Nat) (p : Ev.EV) (x : Evt), Nu.PW w B g rb m → B ≤ w.heap.size → Ev.EventIs w B p x → x.kills.length ≤ 1048576 → x.txt.size ≤ 1048576 → m.length ≤ 17179869184 → Calls Try.prog 11 #[.pointer (some ⟨g, 0, none⟩), p.val] w (Nu.WPost w B g rb (m ++ evtB x))
  putall : ∀ (w : World) (B g : Nat) (rb : Option Nat) (m : List Nat) (A : Option Addr) (X : List Evt) (n c : Nat), Nu.PW w B g rb m → B ≤ w.heap.size → Ev.EventsAt w B A X n c → n ≤ 1048576 → (∀ x ∈ X, Slim x) → m.length ≤ 1048576 → Calls Try.prog 7 #[.pointer (some ⟨g, 0, none⟩), .slice A n c] w (Nu.WPost w B g rb (m ++ evtsB X))
  encode : ∀ (w : World) (p : Ev.EV) (x : Evt), Ev.EventIs w w.heap.size p x → x.kills.length ≤ 1048576 → x.txt.size ≤ 1048576 → Calls Try.prog 13 #[p.val] w (EncPost w x)
  get : ∀ (w : World) (h B : Nat) (s : St), RP h B w s → B ≤ h → s.1.length ≤ 1048576 → Calls Try.prog 38 #[.pointer (some ⟨h, 0, none⟩)] w (EvtGot (RP h B) w h (evtR s).1 (evtR s).2)
  getall : ∀ (w : World) (h B : Nat) (s : St) (most : Int), RP h B w s → B ≤ h → s.1.length ≤ 1048576 → -9223372036854775808 ≤ most → most < 9223372036854775808 → Calls Try.prog 18 #[.pointer (some ⟨h, 0, none⟩), .int .i64 most] w (EvtsGot (RP h B) w h (evtsR most.toNat s))
  decode : ∀ (w : World) (A : Option Addr) (b : List Nat) (n c : Nat), BL w A b n c → n ≤ 1048576 → Calls Try.prog 15 #[.slice A n c] w (DecOut w b)

/-- the example's event. -/
abbrev exE : Evt := ⟨(1, 2), 2, 281474976710657, 0, ⟨#[]⟩, [(1, 1)]⟩
theorem ex_good : Ev.goodE exE = true := by
  unfold Ev.goodE Ev.headB
  decide
theorem ex_bytes : evtB exE = [1, 1, 1, 2, 2, 7, 1, 0, 0, 0, 0, 0, 1, 0, 0, 1, 1, 1, 1, 1, 1] := by decide
theorem ex_fits : Ev.Fits exE := ⟨⟨by decide, by decide⟩, by decide, by decide, by decide, show (0 : Nat) ≤ 140737488355328 by decide⟩
abbrev exV (g : Nat) : Ev.EV := ⟨1, 2, 2, 281474976710657, 0, ⟨#[]⟩, some ⟨g, 0, none⟩, 1, 1⟩
theorem ex_at (w : World) (W : World) (hW : Below (w.heap.size + 1) (w.alloc (dbox (1, 1))) W) : Ev.EventIs W W.heap.size (exV w.heap.size) exE := by
  refine ⟨rfl, rfl, rfl, rfl, rfl, rfl, ex_fits, rfl, (fun e => by cases e), Nat.le_refl _, (show (1 : Nat) ≤ 9223372036854775807 by decide), (show (1 : Nat) ≤ 8796093022208 by decide), ?_, fun _ => ⟨_, rfl, ?_, fun j u hu => ?_⟩⟩
  · intro d hd
    obtain rfl := List.mem_singleton.1 hd
    exact ⟨by decide, by decide⟩
  · have := hW.size
    rw [alloc_size] at this
    exact this
  · rw [Dt.zero_add]
    obtain ⟨h0, h1⟩ := dbox_new w (1, 1) W hW
    match j, hu with
    | 0, hu => exact h0.trans hu
    | 1, hu => exact h1.trans hu
    | j + 2, hu => simp [Dt.dv] at hu
set_option maxHeartbeats 1000000 in
theorem works_any (P : PEc) (w : World) : Calls Try.prog 6 #[] w fun r w' => r = .returned (.bool true) ∧ Below w.heap.size w w' := by
  have hx := ex_at (w.alloc (dbox (1, 1))) ((w.alloc (dbox (1, 1))).alloc (dbox (1, 1))) (Below.refl _ _)
  rw [alloc_size w] at hx
  have HX := Lib.hid hx
  have HB : Hid (Below w.heap.size w ((w.alloc (dbox (1, 1))).alloc (dbox (1, 1)))) := Lib.hid (bel_alloc _ (below_new w _))
  have CE := Lib.hid (P.encode _ _ _ HX.out (by decide) (by decide))
  clear HX hx
  go_enter Try.func6, Try.ntmps6
  go_wp2_with fail
  refine CE.out.mono ?_
  rintro e w3 ⟨A, n, c, rfl, hl, hb⟩
  rw [if_pos ex_good, ex_bytes] at hl
  rw [if_pos ex_good]
  have HL := Lib.hid hl
  have HB3 := Lib.hid (HB.out.trans (hb.mono HB.out.size))
  clear hl hb CE HB
  go_wp2_with fail
  refine (Nu.equal_any _ w3.heap.size (w3.heap.size + 1) A (some ⟨w3.heap.size, 0, none⟩) [1, 1, 1, 2, 2, 7, 1, 0, 0, 0, 0, 0, 1, 0, 0, 1, 1, 1, 1, 1, 1] [1, 1, 1, 2, 2, 7, 1, 0, 0, 0, 0, 0, 1, 0, 0, 1, 1, 1, 1, 1, 1] n 21 c 21 HL.out.len rfl (HL.out.at_.below (below_new w3 _)) (Nu.bytes_new w3 _ _ rfl (by unfold Nu.Small; decide) 5)).mono ?_
  rintro r w4 ⟨rfl, rfl⟩
  go_wp2
  go_ret
  exact ⟨rfl, HB3.out.alloc HB3.out.size _⟩
end Go.Proofs.Ytblgbbpbhcaodaa.Ec

/- What the frames of layer ecode's laws share: bytes that came in, as the walks take them. No condition. -/
namespace Go.Proofs.Ytblgbbpbhcaodaa.Ec
open Go.ChangeShapes Go.WideShapes Go.ChangeAt Go.RowKit Go.Deep Go.Joins Go.Proofs.Ytblgbbpbhcaodaa.Dc
set_option linter.unusedVariables false
set_option maxRecDepth 4000

theorem wf_i64 {n : Int} (h : (Lit.int .i64 n).wf = true) : -9223372036854775808 ≤ n ∧ n < 9223372036854775808 := by
  simp [Lit.wf, IntKind.min, IntKind.max, IntKind.bits, IntKind.signed] at h
  omega
theorem cells5 : Try.prog.cellsOf 5 = 1 := by kernel_rfl
/-- numbers of a row of bytes, as the walks take them. -/
theorem bytes_row {W : World} {x : Addr} {len : Nat} {zs : List Int} (hl : len ≤ zs.length) (hcell : ∀ i, i < len → W.cell? (x.add i) = some (.int .u8 (zs.getD i 0))) (hwz : ∀ n ∈ zs, (Lit.int .u8 n).wf = true) :
    ∃ l : List Nat, l.length = len ∧ Nu.Bytes W W.heap.size (some x) l := by
  refine ⟨(zs.take len).map Int.toNat, by simp; omega, fun y hy => ?_, fun h0 => ⟨x, rfl, ?_, fun j y hj => ?_⟩⟩
  · obtain ⟨n, hn, rfl⟩ := List.mem_map.1 hy
    obtain ⟨s, rfl, hs⟩ := Ev.wf_u8 (hwz n (List.mem_of_mem_take hn))
    omega
  · have h1 : 0 < len := by simp at h0; omega
    have h2 := World.block_lt_of_cell? W _ (hcell 0 h1)
    rwa [Nu.block_add] at h2
  · have hjl : j < len := by
      have := (List.getElem?_eq_some_iff.1 hj).1
      simp at this
      omega
    rw [hcell j hjl]
    have hz : j < zs.length := by omega
    rw [List.getElem?_map, List.getElem?_take_of_lt hjl, List.getElem?_eq_getElem hz] at hj
    simp only [Option.map_some, Option.some.injEq] at hj
    obtain ⟨s, hs, _⟩ := Ev.wf_u8 (hwz zs[j] (List.getElem_mem hz))
    have e : zs.getD j 0 = (y : Int) := by
      rw [List.getD_eq_getElem?_getD, List.getElem?_eq_getElem hz, Option.getD_some]
      omega
    rw [e]
/-- a slice of bytes that came in. -/
theorem bytes_of {H : Type} {enc : TypeId × Value → H} {W : World} {a : Option Addr} {len cap : Nat} {d : DataW H} {p : List MemPlace} (h : DataW.Trod enc Try.prog W 0 (fun _ => true) true 25 (.slice a len cap) d p) :
    ∃ l : List Nat, BL W a l len cap := by
  obtain ⟨fuel, hf⟩ := h
  rcases open_ints Try.underlying25 Try.underlying5 cells5 hf with ⟨hcs, _⟩ | ⟨x, l, c, zs, hcs, _, hl, hm, hz, _, hcell, hwz⟩
  · simp [Value.cells] at hcs
    obtain ⟨rfl, rfl, rfl⟩ := hcs
    exact ⟨[], BL.none_ W⟩
  · simp [Value.cells] at hcs
    obtain ⟨rfl, rfl, rfl⟩ := hcs
    have hz' : zs.length = cap := by simpa using hz
    obtain ⟨l, hl1, hl2⟩ := bytes_row (len := len) (by omega) (fun i hi => hcell i (by omega)) hwz
    unfold maxLen at hm
    exact ⟨l, hl1, (fun h => by cases h), by omega, by omega, hl2⟩
end Go.Proofs.Ytblgbbpbhcaodaa.Ec

/- EcodeBack: the law's walk. -/
namespace Go.Proofs.Ytblgbbpbhcaodaa.Ec
open Go.ChangeShapes Go.WideShapes Go.ChangeAt Go.RowKit Go.Proofs.Ytblgbbpbhcaodaa.Dc
set_option linter.unusedVariables false
set_option maxRecDepth 4000

/-! ### Plain: of a list, what may be, put -/
noncomputable def keptE (l : List Evt) (k : Nat) : List Evt := Ev.sortE ((l.take k).filter Ev.goodE)
theorem kept_good {l : List Evt} {k : Nat} {x : Evt} (h : l[k]? = some x) (hg : Ev.goodE x = true) : keptE l (k + 1) = Ev.putE (keptE l k) x := by
  unfold keptE Ev.sortE
  rw [Ev.take_one h, List.filter_append, List.foldl_append, List.filter_cons_of_pos hg, List.filter_nil]
  rfl
theorem kept_bad {l : List Evt} {k : Nat} {x : Evt} (h : l[k]? = some x) (hg : Ev.goodE x = false) : keptE l (k + 1) = keptE l k := by
  unfold keptE
  rw [Ev.take_one h, List.filter_append, List.filter_cons_of_neg (by rw [hg]; decide), List.filter_nil, List.append_nil]
theorem kept_len (l : List Evt) (k : Nat) : (keptE l k).length ≤ k := by
  have h1 := Ev.sort_long ((l.take k).filter Ev.goodE) ((l.take k).filter Ev.goodE).length
  rw [List.take_length] at h1
  have h2 := List.length_filter_le Ev.goodE (l.take k)
  have h3 : (l.take k).length ≤ k := by rw [List.length_take]; omega
  unfold keptE
  omega
theorem kept_mem {l : List Evt} {k : Nat} {x : Evt} (h : x ∈ keptE l k) : x ∈ l ∧ Ev.goodE x = true := by
  obtain ⟨j, hj, _⟩ := (Ev.sort_mem _ _).1 h
  obtain ⟨h1, h2⟩ := List.mem_filter.1 (List.mem_of_getElem? hj)
  exact ⟨List.mem_of_mem_take h1, h2⟩
theorem few_slim {l : List Evt} {m : Nat} (h : Ev.fewB l m = true) : l.length ≤ m ∧ ∀ x ∈ l, Slim x := by
  unfold Ev.fewB at h
  simp only [Bool.and_eq_true, decide_eq_true_eq, List.all_eq_true] at h
  refine ⟨h.1, fun x hx => ?_⟩
  have h2 := h.2 x hx
  unfold Ev.fewE at h2
  simp only [Bool.and_eq_true, decide_eq_true_eq] at h2
  exact h2
theorem at_fits {w : World} {B : Nat} {A : Option Addr} {l : List Evt} {n c : Nat} (h : Ev.EventsAt w B A l n c) : ∀ x ∈ l, Ev.Fits x ∧ Dt.Fit x.kills := by
  intro x hx
  obtain ⟨k, hk, e⟩ := List.getElem_of_mem hx
  obtain ⟨ad, p, y, _, _, hy, hp, _⟩ := h.at_ (k := k) (by have := h.len; omega)
  rw [List.getElem?_eq_getElem hk, e] at hy
  obtain rfl := Option.some.inj hy
  exact ⟨hp.fits, hp.kills.dots.1⟩
theorem evtsB_le {l : List Evt} {k : Nat} (h : ∀ x ∈ l, Slim x) (hk : l.length ≤ k) : (evtsB l).length ≤ 9 + k * 6000 := by
  have h1 := enc_le l.length
  have h2 := evtsB_len h
  have h3 : l.length * 6000 ≤ k * 6000 := Nat.mul_le_mul_right _ hk
  unfold evtsB
  rw [List.length_append]
  omega
theorem post_clone {w w' : World} {m : List Nat} {e : Ending} (h : Nu.ClonePost w m e w') : BPost w m e w' := by
  obtain ⟨A, n, c, rfl, h1, h2, h3, h4, h5, h6, _⟩ := h
  exact ⟨A, n, c, rfl, ⟨h1, (fun e => by subst e; have := h5 rfl; omega), h3, h4, h2⟩, h6⟩
set_option maxHeartbeats 16000000 in
theorem back_walk (P : PEc) (w : World) (A1 A2 : Option Addr) (l : List Evt) (b : List Nat) (n1 n2 c1 c2 : Nat) (hl : Ev.EventsAt w w.heap.size A1 l n1 c1) (hb : BL w A2 b n2 c2) :
    Calls Try.prog 4 #[.slice A1 n1 c1, .slice A2 n2 c2] w fun e w' => e = .returned (.bool true) ∧ Below w.heap.size w w' := by
  have C1 := Ev.rfew_any w A1 l n1 c1 12 (by decide) hl
  by_cases hg : Ev.fewB l 12 = true ∧ n2 ≤ 1000
  · obtain ⟨hf, hn⟩ := hg
    rw [hf] at C1
    have d1 : decide ((1000 : Int) < (n2 : Int)) = false := decide_eq_false (by omega)
    have HL := Lib.hid hl
    have HB := Lib.hid hb
    have HF := Lib.hid (few_slim hf)
    have hn1 : n1 ≤ 12 := by have := HF.out.1; have := hl.len; omega
    obtain ⟨⟨x, en⟩, hD⟩ : ∃ D, decE b = D := ⟨_, rfl⟩
    have HDI : Hid (en = 0 → b = evtB x ∧ Ev.goodE x = true) := Lib.hid (fun h => by
      have h2 := dec_in hb.at_.1 (by rw [hD]; exact h)
      rw [hD] at h2
      exact h2)
    have X := Lib.hid hD
    clear hl hb hf hD
    go_enter Try.func4, Try.ntmps4
    go_wp2_with fail
    refine C1.mono ?_
    rintro e w1 ⟨rfl, rfl⟩
    go_wp2_with fail
    have C2 := P.decode w1 A2 b n2 c2 HB.out (by omega)
    refine C2.mono ?_
    rintro e w2 ⟨q, rfl, o2, b2⟩
    rw [X.out] at o2 ⊢
    have O2 := Lib.hid (o2.below (below_new w2 q.box))
    have B2 := Lib.hid (bel_alloc q.box b2)
    have HC : Hid (∀ V, Below (w2.alloc q.box).heap.size (w2.alloc q.box) V → Ev.CellsAt V ⟨w2.heap.size, 0, none⟩ q) := Lib.hid (fun V hV => Ev.box_new w2 q V (by rw [alloc_size] at hV; exact hV))
    clear C1 C2 o2 b2
    go_upto_if 29 with fail
    generalize w2.alloc q.box = w3 at *
    generalize w2.heap.size = g at *
    go_cut [] (fun wx => Below w1.heap.size w1 wx)
    case first =>
      by_cases he : en = 0
      · have f0 : (((en : Nat) : Int) == 0) = true := by rw [he]; rfl
        obtain ⟨e1, e2⟩ := HDI.out he
        have hk := (good_kills e2).2.2.1
        have ht := good_text e2
        obtain ⟨k0, k1, k2, k3, k4, k5, k6⟩ := (HC.out w3 (Below.refl _ _)).all
        have C3 := P.encode w3 q x O2.out.is (by omega) (by omega)
        simp only [Ev.EV.val] at C3
        have E1 := Lib.hid e1
        have E2 := Lib.hid e2
        clear e1 e2 hk ht he
        go_wp2_with fail
        refine C3.mono ?_
        rintro e w4 ⟨A4, n4, c4, rfl, l4, b4⟩
        rw [if_pos E2.out] at l4 ⊢
        have L4 := Lib.hid l4
        have B4 := Lib.hid (B2.out.trans (b4.mono B2.out.size))
        clear C3 l4 b4 k0 k1 k2 k3 k4 k5 k6
        go_wp2_with fail
        have C4 := Nu.equal_any w4 w4.heap.size w4.heap.size A2 A4 b (evtB x) n2 n4 c2 c4 HB.out.len L4.out.len (HB.out.up B4.out).at_ L4.out.at_
        rw [decide_eq_true E1.out] at C4
        refine C4.mono ?_
        rintro e w5 ⟨rfl, rfl⟩
        clear C4
        go_wp2
        go_meet
        exact B4.out
      · have f0 : (((en : Nat) : Int) == 0) = false := by rw [beq_eq_false_iff_ne]; omega
        go_wp2
        go_meet
        exact B2.out
    case rest =>
      have HW0 := Lib.hid hcut
      clear hcut HC O2 B2 HDI X
      go_wp2_with fail
      go_loopw [9, 10] (fun v i wr => ∃ (k m : Nat) (A : Option Addr) (c : Nat), k ≤ n1 ∧ i = .int .i64 (k : Int) ∧ v = .slice A m c ∧ Ev.EventsAt wr wr.heap.size A (keptE l k) m c ∧ Below w1.heap.size w1 wr) (fun _ i _ => n1 - (intOf i).toNat)
      case atStart => exact ⟨0, 0, none, 0, Nat.zero_le _, rfl, rfl, Ev.EventsAt.none_ _ _, HW0.out⟩
      case round =>
        obtain ⟨k, m, A, c, hk, rfl, rfl, ho, hw⟩ := hrel
        have HO := Lib.hid ho
        have HW := Lib.hid hw
        have hmk := kept_len l k
        rw [ho.len] at hmk
        clear ho hw
        by_cases hlt : k < n1
        · obtain ⟨ad, p, x, rfl, hB, hlx, hp, cp⟩ := (HL.out.up HW.out).at_ hlt
          have HLX := Lib.hid hlx
          have HP := Lib.hid hp
          have HCP := Lib.hid cp
          obtain ⟨x0, x1, x2, x3, x4, x5, x6⟩ := cp
          have C3 := Ev.rgood_any wr p x HP.out
          simp only [Ev.EV.val] at C3
          clear hlx hp
          cases hgd : Ev.goodE x with
          | false =>
            rw [hgd] at C3
            have HN := Lib.hid (kept_bad HLX.out hgd)
            clear hgd HCP HP
            go_wp2_with fail
            refine C3.mono ?_
            rintro e w4 ⟨rfl, b4⟩
            have HO4 := Lib.hid (HO.out.up b4)
            have HW4 := Lib.hid (HW.out.trans (b4.mono HW.out.size))
            clear C3 b4 HO HW x0 x1 x2 x3 x4 x5 x6
            go_wp2
            go_roundw
            case rel => exact ⟨k + 1, m, A, c, by omega, by go_num, rfl, by rw [HN.out]; exact HO4.out, HW4.out⟩
            case measure => simp [intOf]; omega
          | true =>
            rw [hgd] at C3
            have HN := Lib.hid (kept_good HLX.out hgd)
            clear hgd
            go_wp2_with fail
            refine C3.mono ?_
            rintro e w4 ⟨rfl, b4⟩
            have HO4 := Lib.hid (HO.out.up b4)
            have HW4 := Lib.hid (HW.out.trans (b4.mono HW.out.size))
            have C4 := Ev.rput_any w4 A (keptE l k) m c p x HO4.out (HP.out.up b4) (by omega)
            simp only [Ev.EV.val] at C4
            obtain ⟨y0, y1, y2, y3, y4, y5, y6⟩ := HCP.out.kept b4
            clear C3 b4 HO HW x0 x1 x2 x3 x4 x5 x6
            go_wp2_with fail
            refine C4.mono ?_
            rintro e w5 ⟨A5, m5, c5, rfl, o5, b5⟩
            rw [← HN.out] at o5
            have HO5 := Lib.hid o5
            have HW5 := Lib.hid (HW4.out.trans (b5.mono HW4.out.size))
            clear C4 b5 o5 y0 y1 y2 y3 y4 y5 y6 HO4 HW4
            go_wp2
            go_roundw
            case rel => exact ⟨k + 1, m5, A5, c5, by omega, by go_num, rfl, HO5.out, HW5.out⟩
            case measure => simp [intOf]; omega
        · obtain rfl : k = n1 := by omega
          have HG : Hid (∀ x ∈ keptE l k, Ev.goodE x = true ∧ Ev.Fits x ∧ Dt.Fit x.kills) := Lib.hid (fun x hx => ⟨(kept_mem hx).2, at_fits HL.out x (kept_mem hx).1⟩)
          have HS : Hid (∀ x ∈ keptE l k, Slim x) := Lib.hid (fun x hx => HF.out.2 x (kept_mem hx).1)
          have hlen := evtsB_le HS.out (kept_len l k)
          have HEB : Hid (evtsR m (evtsB (keptE l k), 0) = (keptE l k, ([], 0))) := Lib.hid (by
            have h := evts_back HG.out (Ev.sort_ord _) (most := m) (by rw [HO.out.len]; exact Nat.le_refl _) (by rw [HO.out.len]; show m < 18446744073709551616; omega) []
            rwa [List.append_nil] at h)
          have W0 := Lib.hid (Nu.PW.new wr)
          have O0 := Lib.hid (HO.out.below (below_new wr (.cells #[.slice none 0 0] 27)))
          have Y0 := Lib.hid (below_new wr (.cells #[.slice none 0 0] 27))
          have OA := Lib.hid (HO.out.up (below_new wr (.cells #[.slice none 0 0] 27)))
          have HOr := Lib.hid HO.out
          clear HO
          go_wp2_with fail
          have C6 := P.putall _ _ _ _ _ A (keptE l k) m c W0.out Y0.out.size O0.out (by omega) HS.out (by decide)
          generalize wr.alloc (.cells #[.slice none 0 0] 27) = v1 at *
          refine C6.mono ?_
          rintro e v2 ⟨rfl, r2, p2, _, y2⟩
          rw [List.nil_append] at p2
          have W1 := Lib.hid p2
          have Y1 := Lib.hid (Y0.out.trans (Nu.below_two y2 (Nat.le_refl _) (fun q e => by cases e) Y0.out.size))
          clear C6 W0 O0 OA Y0 p2 y2
          go_wp2_with fail
          have C9 := Nu.wbytes_any v2 _ _ _ _ W1.out (by omega)
          refine C9.mono ?_
          rintro e v3 q5
          obtain ⟨A5, n5, c5, rfl, l5, b5⟩ := post_clone q5
          have L5 := Lib.hid l5
          have Y2 := Lib.hid (Y1.out.trans (b5.mono Y1.out.size))
          have hn5 : n5 ≤ 72009 := by have := l5.len; omega
          clear C9 W1 Y1 q5 l5 b5
          go_wp2_with fail
          have C10 := Nu.new_any v3 A5 _ n5 c5 L5.out.len L5.out.nil L5.out.at_ (by omega)
          refine C10.mono ?_
          rintro e v4 ⟨g2, rfl, hg2, p6, b6⟩
          have R6 := Lib.hid p6
          have Y3 := Lib.hid (Y2.out.trans (b6.mono Y2.out.size))
          have hwg : wr.heap.size ≤ g2 := Nat.le_trans Y2.out.size hg2
          clear C10 L5 Y2 p6 b6 hg2
          go_wp2_with fail
          have C11 := P.getall v4 g2 g2 (evtsB (keptE l k), 0) (m : Int) R6.out (Nat.le_refl _) (by show (evtsB (keptE l k)).length ≤ _; omega) (by omega) (by omega)
          rw [Int.toNat_natCast, HEB.out] at C11
          refine C11.mono ?_
          rintro e v5 ⟨A7, n7, c7, rfl, l7, p7, g7⟩
          have R7 := Lib.hid p7
          have X7 := Lib.hid l7
          have Y4 := Lib.hid (Y3.out.grown g7 Y3.out.size (fun q e => by cases e; exact hwg))
          have O7 := Lib.hid (HOr.out.up Y4.out)
          clear C11 R6 p7 l7 g7 Y3
          go_wp2_with fail
          have C12 := Ev.rall_any v5 A7 A (keptE l k) (keptE l k) n7 m c7 c X7.out.at_ O7.out
          rw [decide_eq_true rfl] at C12
          refine C12.mono ?_
          rintro e v6 ⟨rfl, b8⟩
          have R8 : Hid (RP g2 g2 v6 ([], 0)) := Lib.hid ((rp_rdr (Nat.le_refl _)).below R7.out b8)
          have Y5 := Lib.hid (Y4.out.trans (b8.mono Y4.out.size))
          clear C12 R7 X7 Y4 O7 b8
          go_wp2_with fail
          have C13 := Nu.end_any v6 g2 g2 [] 0 R8.out (Nat.le_refl _)
          have e0 : Nu.endE [] 0 = 0 := rfl
          rw [e0] at C13
          refine C13.mono ?_
          rintro e v7 ⟨rfl, p9, g9⟩
          have Y6 := Lib.hid (Y5.out.grown g9 Y5.out.size (fun q e => by cases e; exact hwg))
          clear C13 R8 Y5 p9 g9 e0
          go_wp2_with fail
          refine (works_any P _).mono ?_
          rintro e v8 ⟨rfl, b10⟩
          have Y7 := Lib.hid (Y6.out.trans (b10.mono Y6.out.size))
          clear b10 Y6
          go_wp2
          go_ret
          exact ⟨rfl, HW.out.trans (Y7.out.mono HW.out.size)⟩
  · by_cases hf : Ev.fewB l 12 = true
    · have d1 : decide ((1000 : Int) < (n2 : Int)) = true := decide_eq_true (by have : ¬ n2 ≤ 1000 := fun h => hg ⟨hf, h⟩
                                                                                omega)
      rw [hf] at C1
      clear hg hf hb hl
      go_enter Try.func4, Try.ntmps4
      go_wp2_with fail
      refine C1.mono ?_
      rintro e w1 ⟨rfl, rfl⟩
      go_wp2_with fail
      refine (works_any P _).mono ?_
      rintro e w2 ⟨rfl, b2⟩
      have HE := Lib.hid b2
      clear b2 C1
      go_wp2
      go_ret
      exact ⟨rfl, HE.out⟩
    · rw [Bool.not_eq_true] at hf
      rw [hf] at C1
      clear hg hf hb hl
      go_enter Try.func4, Try.ntmps4
      go_wp2_with fail
      refine C1.mono ?_
      rintro e w1 ⟨rfl, rfl⟩
      go_wp2_with fail
      refine (works_any P _).mono ?_
      rintro e w2 ⟨rfl, b2⟩
      have HE := Lib.hid b2
      clear b2 C1
      go_wp2
      go_ret
      exact ⟨rfl, HE.out⟩
end Go.Proofs.Ytblgbbpbhcaodaa.Ec

/- The contracts of the document's Flag and Text: a new list of the bytes that came in and the thing's bytes behind them; nothing that was there has changed. Condition: at most 2^46 bytes come out. -/
namespace Go.Proofs.Ytblgbbpbhcaodaa.Nu
open Go.ChangeShapes Go.WideShapes Go.ChangeAt Go.RowKit
set_option linter.unusedVariables false
set_option maxRecDepth 4000

/-- append of any bytes to a new list without one. -/
theorem run_out (w : World) (B h : Nat) (A : Option Addr) (m : List Nat) (n c : Nat) (ho : w.ownsRow B 5 1 (.slice (some ⟨h, 0, none⟩) 0 0) 0 []) (hA : A = none → n = 0 ∧ c = 0) (hb : Bytes w w.heap.size A m) (hl : m.length = n)
    (hn : n ≤ 140737488355328) (hB : B ≤ w.heap.size) :
    ∃ g2 cap2 w', (Builtin.append_ #[25, 25] 25 #[.slice (some ⟨h, 0, none⟩) 0 0, .slice A n c]).run Try.prog w = .ok (.slice (some ⟨g2, 0, none⟩) n cap2) w' ∧
      w'.ownsRow B 5 1 (.slice (some ⟨g2, 0, none⟩) n cap2) n (vals m) ∧ w.grownBy w' (some h) ∧ B ≤ g2 := by
  obtain ⟨i0, hi0, hz0, hz1, hz2⟩ := info_parts byte_info
  cases A with
  | none =>
    obtain ⟨rfl, rfl⟩ := hA rfl
    obtain rfl := List.eq_nil_of_length_eq_zero hl
    exact ⟨h, 0, w, run_append_owned_none (P := Try.prog) (w := w) B 25 25 5 i0 1 Try.underlying25 hi0 _ 0 [] ho, ho, turn_refl _ _, (ho.lt h rfl).1⟩
  | some ad =>
    have hc : ∀ j u, (vals m)[j]? = some u → w.cell? (ad.add j) = some u := by
      intro j u hu
      rw [vals_get] at hu
      obtain ⟨x, hx, rfl⟩ := Option.map_eq_some_iff.1 hu
      have hjl : j < m.length := (List.getElem?_eq_some_iff.1 hx).1
      obtain ⟨ad', e, hadb, hc⟩ := hb.2 (by omega)
      obtain rfl := Option.some.inj e
      exact hc j x hx
    obtain ⟨v', w', hr, h2, h3, hat, h5⟩ := run_append_own_at (P := Try.prog) w B 25 25 5 i0 (.int .u8 0) 1 1 Try.underlying25 hi0 hz0 hz1 hz2 rfl (by decide) _ 0 [] ho ad n c (vals m) (by rw [vals_length, hl, Nat.mul_one]) hc (vals_one m) (by simp only [maxLen]; omega) (by omega) hB
    simp only [Nat.zero_add, List.nil_append] at h2
    obtain ⟨g2, cap2, rfl, hg2⟩ := own_shape (w := w) h2 (.inr (fun h => by simp at hat; exact hat h))
    exact ⟨g2, cap2, w', hr, h2, h3, hg2⟩
theorem wp_out {o : Oper} {a : Act} {K : Act → World → Prop} {Q : Exit → Act → World → Prop} (s x : Operand) (ho : o.op = .call { callee := .builtin .append, args := #[s, x], argTypes := #[25, 25] }) (hty : o.type = 25)
    (w : World) (B h : Nat) (A : Option Addr) (m : List Nat) (n c : Nat) (hs : a.eval s = .slice (some ⟨h, 0, none⟩) 0 0) (hx : a.eval x = .slice A n c) (hw : w.ownsRow B 5 1 (.slice (some ⟨h, 0, none⟩) 0 0) 0 []) (hA : A = none → n = 0 ∧ c = 0) (hb : Bytes w w.heap.size A m) (hl : m.length = n)
    (hn : n ≤ 140737488355328) (hB : B ≤ w.heap.size)
    (hK : ∀ g2 cap2 w', w'.ownsRow B 5 1 (.slice (some ⟨g2, 0, none⟩) n cap2) n (vals m) → w.grownBy w' (some h) → B ≤ g2 → K (a.put o.dst (.slice (some ⟨g2, 0, none⟩) n cap2)) w') : o.wp Try.prog a w K Q := by
  obtain ⟨g2, cap2, w', hr, h2, h3, h4⟩ := run_out w B h A m n c hw hA hb hl hn hB
  rw [← hty] at hr
  unfold Oper.wp execOp
  simp only [ho, resolve, invoke, builtin, Sem.run_bind, Sem.run_pure, Result.andThen_ok, List.map_toArray, List.map_cons, List.map_nil, hs, hx]
  rw [hty] at hr ⊢
  rw [hr]
  exact hK _ _ _ h2 h3 h4
theorem wpList_out {ops : Array Oper} {rest : List Oper} {o : Oper} {a : Act} {Q : Exit → Act → World → Prop} (hgd : o.guard = none) (s x : Operand) (ho : o.op = .call { callee := .builtin .append, args := #[s, x], argTypes := #[25, 25] }) (hty : o.type = 25)
    (w : World) (B h : Nat) (A : Option Addr) (m : List Nat) (n c : Nat) (hs : a.eval s = .slice (some ⟨h, 0, none⟩) 0 0) (hx : a.eval x = .slice A n c) (hw : w.ownsRow B 5 1 (.slice (some ⟨h, 0, none⟩) 0 0) 0 []) (hA : A = none → n = 0 ∧ c = 0) (hb : Bytes w w.heap.size A m) (hl : m.length = n)
    (hn : n ≤ 140737488355328) (hB : B ≤ w.heap.size)
    (hK : ∀ g2 cap2 w', w'.ownsRow B 5 1 (.slice (some ⟨g2, 0, none⟩) n cap2) n (vals m) → w.grownBy w' (some h) → B ≤ g2 → wpList Try.prog ops Q rest (a.put o.dst (.slice (some ⟨g2, 0, none⟩) n cap2)) w') : wpList Try.prog ops Q (o :: rest) a w :=
  wpList_plain hgd fun _ hQ => wp_out s x ho hty w B h A m n c hs hx hw hA hb hl hn hB fun g2 cap2 w' h2 h3 h4 => hQ _ _ (hK g2 cap2 w' h2 h3 h4)
theorem step_out {ops : Array Oper} {o : Oper} {a : Act} {K : Act → World → Prop} {Q : Exit → Act → World → Prop} {E : Prop} (hgd : o.guard = none) (s x : Operand) (ho : o.op = .call { callee := .builtin .append, args := #[s, x], argTypes := #[25, 25] }) (hty : o.type = 25)
    (w : World) (B h : Nat) (A : Option Addr) (m : List Nat) (n c : Nat) (hs : a.eval s = .slice (some ⟨h, 0, none⟩) 0 0) (hx : a.eval x = .slice A n c) (hw : w.ownsRow B 5 1 (.slice (some ⟨h, 0, none⟩) 0 0) 0 []) (hA : A = none → n = 0 ∧ c = 0) (hb : Bytes w w.heap.size A m) (hl : m.length = n)
    (hn : n ≤ 140737488355328) (hB : B ≤ w.heap.size)
    (hK : ∀ g2 cap2 w', w'.ownsRow B 5 1 (.slice (some ⟨g2, 0, none⟩) n cap2) n (vals m) → w.grownBy w' (some h) → B ≤ g2 → K (a.put o.dst (.slice (some ⟨g2, 0, none⟩) n cap2)) w') :
    if Region.wanted o (yielded ops a.tmps) = true then Oper.wp Try.prog o a w K Q else E := by
  have hw' : Region.wanted o (yielded ops a.tmps) = true := by simp [Region.wanted, hgd]
  rw [if_pos hw']
  exact wp_out s x ho hty w B h A m n c hs hx hw hA hb hl hn hB hK

/-- a new list without a byte. -/
theorem out_new (w : World) : (w.alloc (.cells #[] 5)).ownsRow w.heap.size 5 1 (.slice (some ⟨w.heap.size, 0, none⟩) 0 0) 0 [] := World.ownsRow_lit w #[] 0 (Nat.le_refl _) (by simp [maxLen]) rfl
theorem app_done {w w2 : World} {l m : List Nat} {g cap n : Nat} (ho : w2.ownsRow w.heap.size 5 1 (.slice (some ⟨g, 0, none⟩) n cap) n (vals l ++ vals m)) (hl : (l ++ m).length = n) (hb : Below w.heap.size w w2) : AppPost w (l ++ m) (.returned (.slice (some ⟨g, 0, none⟩) n cap)) w2 :=
  ⟨g, cap, n, rfl, hl, (ho.lt g rfl).1, by rw [vals_append]; exact ho, hb⟩

/-- what holds at each round's head: so many of the text's bytes stand behind. -/
def TextRel (w : World) (l : List Nat) (s : ByteArray) (o i : Value) (wr : World) : Prop :=
  ∃ (k g cap n : Nat), k ≤ s.size ∧ i = .int .i64 (k : Int) ∧ o = .slice (some ⟨g, 0, none⟩) n cap ∧ (l ++ (sb s).take k).length = n ∧ wr.ownsRow w.heap.size 5 1 (.slice (some ⟨g, 0, none⟩) n cap) n (vals (l ++ (sb s).take k)) ∧ Below w.heap.size w wr
theorem sb_get {s : ByteArray} {k : Nat} (h : k < s.size) : (sb s)[k]? = some (s[k]'h).toNat := by
  unfold sb
  rw [List.getElem?_map]
  simp [h]
  rfl
theorem text_rel {w wr : World} {l : List Nat} {s : ByteArray} {k g cap n x : Nat} (hk : k < s.size) (hx : x = (s[k]'hk).toNat) (hn : (l ++ (sb s).take k).length = n) (ho : wr.ownsRow w.heap.size 5 1 (.slice (some ⟨g, 0, none⟩) (n + 1) cap) (n + 1) (vals (l ++ (sb s).take k) ++ vals [x])) (hb : Below w.heap.size w wr) :
    TextRel w l s (.slice (some ⟨g, 0, none⟩) (n + 1) cap) (.int .i64 ((k : Int) + 1)) wr := by
  have e : (sb s).take (k + 1) = (sb s).take k ++ [x] := by rw [hx]; exact take_snoc (sb_get hk)
  refine ⟨k + 1, g, cap, n + 1, hk, rfl, rfl, ?_, ?_, hb⟩
  · rw [e, ← List.append_assoc, List.length_append, hn]; rfl
  · rw [e, ← List.append_assoc, vals_append]; exact ho

set_option maxHeartbeats 1000000 in
theorem ptext_any (w : World) (A : Option Addr) (l : List Nat) (n c : Nat) (s : ByteArray) (hn : l.length = n) (hA : A = none → n = 0 ∧ c = 0) (hb : Bytes w w.heap.size A l) (hl : n + s.size ≤ 70368744177000) :
    Calls Try.prog 29 #[.slice A n c, .string s] w (AppPost w (l ++ (enc s.size ++ sb s))) := by
  obtain ⟨i0, hi0, hz0, hz1, hz2⟩ := info_parts byte_info
  have hB := Lib.hid hb
  have HN := Lib.hid hn
  have HA := Lib.hid hA
  clear hb hn hA
  go_enter Try.func29, Try.ntmps29
  go_wp2_with fail
  refine (rappend_any w A l n c s.size HN.out HA.out hB.out (by omega) (by omega)).mono ?_
  rintro r w1 ⟨g1, cap1, n1, rfl, hn1, hg1, ho1, hb1⟩
  have hn9 : n1 ≤ n + 9 := by have := blen_le s.size; rw [← hn1, List.length_append, enc_length, HN.out]; omega
  have HS : Hid (TextRel w (l ++ enc s.size) s (.slice (some ⟨g1, 0, none⟩) n1 cap1) (.int .i64 0) w1) := ⟨0, g1, cap1, n1, Nat.zero_le _, rfl, rfl, by rw [List.take_zero, List.append_nil]; exact hn1, by rw [List.take_zero, List.append_nil]; exact ho1, hb1⟩
  clear hn1 hg1 ho1 hb1
  go_wp2_with fail
  go_loopw [5, 6] (fun o i wr => TextRel w (l ++ enc s.size) s o i wr) (fun _ i _ => s.size - (intOf i).toNat)
  case atStart => exact HS.out
  case round =>
    clear HS
    obtain ⟨k, g, cap, m, hk, rfl, rfl, hm, ho, hb⟩ := hrel
    have hm2 : m ≤ n + 9 + k := by have := blen_le s.size; rw [← hm, List.length_append, List.length_append, enc_length, HN.out, List.length_take]; omega
    have HO := Lib.hid ho
    have HB := Lib.hid hb
    have HM := Lib.hid hm
    clear ho hb hm
    by_cases hlt : k < s.size
    · obtain ⟨x, hx⟩ : ∃ x, x = (s[k]'hlt).toNat := ⟨_, rfl⟩
      have HX := Lib.hid hx
      clear hx
      go_wp2_with (
        (at_builtin
         refine wpList_append_own _ rfl (.tmp 18) (.tmp 22) 25 rfl w.heap.size 5 i0 (.int .u8 0) 1 1 Try.underlying25 hi0 hz0 hz1 hz2 rfl (by decide) (.slice (some ⟨g, 0, none⟩) m cap) m (vals (l ++ enc s.size ++ List.take k (sb s))) rfl (HO.out.alloc _) ⟨wr.heap.size, 0, none⟩ 1 1 (vals [x]) rfl rfl (by rw [HX.out]; exact cell_one wr _ 5) (vals_one _) (by simp only [maxLen]; omega) (by omega) (Nat.le_trans HB.out.size (by simp)) ?_
         intro v2 w2 ho2 hg2 hat2
         obtain ⟨g2, cap2, rfl, hgw2⟩ := own_shape (w := w) ho2 (.inl (by omega))
         have hgg := (HO.out.lt g rfl).1
         have HW2 : Hid (Below w.heap.size w w2) := (HB.out.alloc HB.out.size _).grown hg2 (Nat.le_trans HB.out.size (by simp)) (fun k hk => by simp [Value.ownBlock] at hk; omega)
         have HR : Hid (TextRel w (l ++ enc s.size) s (.slice (some ⟨g2, 0, none⟩) (m + 1) cap2) (.int .i64 ((k : Int) + 1)) w2) := text_rel hlt HX.out HM.out ho2 HW2.out
         clear ho2 hg2 hat2))
      go_roundw
      case rel => exact HR.out
      case measure => simp [intOf]; omega
    · obtain rfl : k = s.size := by omega
      go_wp2
      go_ret
      have e : (sb s).take s.size = sb s := List.take_of_length_le (by rw [sb_length]; exact Nat.le_refl _)
      have HO1 := HO.out
      have HM1 := HM.out
      rw [e, List.append_assoc] at HO1 HM1
      exact ⟨g, cap, m, rfl, HM1, (HO1.lt g rfl).1, HO1, HB.out⟩
end Go.Proofs.Ytblgbbpbhcaodaa.Nu
