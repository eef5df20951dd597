/- Words and contracts that the proofs of this seat stand on, part 14 of 39. -/
import Derived.Test.YtgaegfddobpomaaGreatOrM
import Derived.Test.YtgaegfddobpomaaGreatOrI
import Derived.Deep.RegionHeld3
import Derived.Deep.RegionLaw
import Derived.Test.YtgaegfddobpomaaGreatOrE
import Derived.Test.YtgaegfddobpomaaGreatOrC
import Derived.Test.YtgaegfddobpomaaGreatOrD

namespace Go.Proofs.YtgaegfddobpomaaGreat.Cx
open Go.ChangeShapes Go.WideShapes Go.ChangeAt Go.RowKit
set_option linter.unusedVariables false
theorem box_at (w : World) (d : Dot) : ∀ V, Below (w.alloc (.cells #[.int .u16 (d.1 : Int), .int .u64 (d.2 : Int)] 35)).heap.size (w.alloc (.cells #[.int .u16 (d.1 : Int), .int .u64 (d.2 : Int)] 35)) V → V.cell? ⟨w.heap.size, 0, none⟩ = some (.int .u16 (d.1 : Int)) ∧ V.cell? ⟨w.heap.size, 1, none⟩ = some (.int .u64 (d.2 : Int)) := by
 intro V hV
 have h1 : (w.alloc (.cells #[.int .u16 (d.1 : Int), .int .u64 (d.2 : Int)] 35)).cell? ⟨w.heap.size, 0, none⟩ = some (.int .u16 (d.1 : Int)) := by simp [go_sem]
 have h2 : (w.alloc (.cells #[.int .u16 (d.1 : Int), .int .u64 (d.2 : Int)] 35)).cell? ⟨w.heap.size, 1, none⟩ = some (.int .u64 (d.2 : Int)) := by simp [go_sem]
 exact ⟨(hV.cell (World.block_lt_of_cell? _ _ h1)).trans h1, (hV.cell (World.block_lt_of_cell? _ _ h2)).trans h2⟩
theorem below_grow (V : World) (n : Nat) (os : Array Obj) : Below V.heap.size V (Sort.grow (V.drewN n) os) :=
 ⟨rfl, rfl, rfl, by show V.heap.size ≤ (V.heap ++ os).size; simp, fun i hi => by show (V.heap ++ os)[i]? = V.heap[i]?; exact Array.getElem?_append_left hi⟩
theorem rgood_g (W : World) (d : Dot) (b : Bool) (hb : Dt.mayD d = b) :
   Calls Tryz.prog 75 #[.agg #[.int .u16 (d.1 : Int), .int .u64 (d.2 : Int)]] W fun e w' => e = .returned (.bool b) ∧ ∃ q os', w' = Sort.grow (W.drewN q) os' :=
 (Dt.rgood_any W d.1 d.2).mono fun _ _ ⟨h1, h2⟩ => ⟨by rw [h1, ← hb], 0, _, h2.trans (Sort.alloc_eq_grow _ _)⟩
set_option maxHeartbeats 8000000 in
theorem rhas_any (w : World) (A1 : Option Addr) (a : List Part) (n1 c1 : Nat) (d : Dot) (h1 : CtxAt w A1 a n1 c1) (s1 : Small a) (hd : d.1 < 65536 ∧ d.2 < 18446744073709551616) :
   Calls Tryz.prog 31 #[.slice A1 n1 c1, .agg #[.int .u16 (d.1 : Int), .int .u64 (d.2 : Int)]] w fun e w' => e = .returned (.bool (hasC a d)) ∧ Below w.heap.size w w' := by
 have HB : Hid (Below w.heap.size w (w.alloc (.cells #[.int .u16 (d.1 : Int), .int .u64 (d.2 : Int)] 35))) := Dt.below_new _ _
 have HX := Lib.hid (box_at w d)
 have H1 := Lib.hid (h1.up HB.out)
 have S1 := Lib.hid s1
 have HD := Lib.hid hd
 clear h1 s1 hd
 cases hm : Dt.mayD d with
 | false =>
   have hh : hasC a d = false := by unfold hasC; rw [hm]; rfl
   rw [hh]
   go_enter Tryz.func31, Tryz.ntmps31
   go_wp2_with fail
   generalize w.alloc (.cells #[.int .u16 (d.1 : Int), .int .u64 (d.2 : Int)] 35) = w0 at HB HX H1 ⊢
   have hmx : Tryz.prog.follows .mixedOrders = true := by kernel_rfl
   have g1 : ∀ n os, (Sort.grow (w0.drewN n) os).cell? ⟨w.heap.size, 0, none⟩ = some (.int .u16 (d.1 : Int)) := fun n os => (HX.out _ (below_grow w0 n os)).1
   have g2 : ∀ n os, (Sort.grow (w0.drewN n) os).cell? ⟨w.heap.size, 1, none⟩ = some (.int .u64 (d.2 : Int)) := fun n os => (HX.out _ (below_grow w0 n os)).2
   have ct := fun W => rgood_g W d false hm
   clear hm hh H1
   refine wp_region_quiet_grown hmx (by kernel_rfl) ?_
   repeat (
     (with_reducible refine wpQuiet_step (fun K hK => ?_))
     go_simp
     first
       | ((with_reducible refine hK _ ?_); clear hK K)
       | ((rw [if_neg (fun h => by cases h)]); (with_reducible refine hK _ ?_); clear hK K)
       | (apply Exists.intro; refine ⟨fun _ => ?_, hK _ ?_⟩; (go_at_call 75; refine Calls.grown_of (ct _)); clear hK K))
   with_reducible refine wpQuiet_nil ?_
   intro _ hw'
   obtain ⟨⟨nq, osq⟩, hw''⟩ := hw'
   subst hw''
   have HE : Hid (Below w.heap.size w (Sort.grow (w0.drewN nq) osq)) := Lib.hid (HB.out.trans ((below_grow w0 nq osq).mono HB.out.size))
   generalize Sort.grow (w0.drewN nq) osq = V at HE ⊢
   clear g1 g2 ct
   go_wp2
   go_ret
   exact ⟨rfl, HE.out⟩
 | true =>
   have hh : hasC a d = Ru.has (runsC a d.1) d.2 := by unfold hasC; rw [hm, Bool.true_and]
   rw [hh]
   clear hh
   obtain ⟨r, hr⟩ : ∃ r, Ru.has (runsC a d.1) d.2 = r := ⟨_, rfl⟩
   rw [hr]
   have HR := Lib.hid hr
   clear hr
   go_enter Tryz.func31, Tryz.ntmps31
   go_wp2_with fail
   generalize w.alloc (.cells #[.int .u16 (d.1 : Int), .int .u64 (d.2 : Int)] 35) = w0 at HB HX H1 ⊢
   have A42 := fun W (hW : Below w0.heap.size w0 W) => rgood_later d hW
   rw [hm] at A42
   have A18 := fun W (hW : Below w0.heap.size w0 W) => made_runs hW (runs_order a d.1) (rruns_any W A1 a n1 c1 d.1 (H1.out.up hW) S1.out)
   have A44 := fun W A n c (hW : Below w0.heap.size w0 W) (h : RunsAt W A (runsC a d.1) n c) => (Ru.has_any W W.heap.size A (runsC a d.1) n c d.2 h.len h.runs (Nat.le_refl _) (Nat.le_trans h.cap h.max) HD.out.2).mono (R' := fun e V => e = .returned (.bool (Ru.has (runsC a d.1) d.2)) ∧ Below w0.heap.size w0 V) (fun _ _ ⟨h1, h2⟩ => ⟨h1, hW.trans (h2.mono hW.size)⟩)
   clear hm
   rw [HR.out] at A44
   clear HR
   obtain ⟨x1, x2⟩ := HX.out _ (Below.refl _ _)
   go_region_held3 (fun V => V.cell? ⟨w.heap.size, 0, none⟩ = some (.int .u16 (d.1 : Int)) ∧ V.cell? ⟨w.heap.size, 1, none⟩ = some (.int .u64 (d.2 : Int))) (first | exact ⟨x1, x2⟩ | assumption | exact HX.out _ (by (repeat (first | exact Below.refl _ _ | assumption | apply bel_drew | apply bel_alloc)))) (first
     | (go_at_call 75; (with_reducible refine (A42 _ ?_).mono ?_); (focus (repeat (first | exact Below.refl _ _ | assumption | apply bel_drew | apply bel_alloc))); rintro e V ⟨rfl, bv⟩; have hcV := HX.out V bv)
     | (go_at_call 77; (with_reducible refine (A18 _ ?_).mono ?_); (focus (repeat (first | exact Below.refl _ _ | assumption | apply bel_drew | apply bel_alloc))); rintro e V ⟨A, n, c, rfl, hA, bv, cv'⟩; have hcV := HX.out V bv)
     | (go_at_call 76; (with_reducible refine (A44 _ _ _ _ ?_ ?_).mono ?_); (focus (repeat (first | exact Below.refl _ _ | assumption | apply bel_drew | apply bel_alloc))); (focus exact hA); rintro e V ⟨rfl, bv⟩; have hcV := HX.out V bv))
   all_goals
     go_wp2
     go_ret
     exact ⟨rfl, HB.out.trans (bv.mono HB.out.size)⟩
def fewC (c : List Part) : Bool := decide (c.length ≤ 30 ∧ ∀ x ∈ c, x.2.length ≤ 30)
theorem few_is {c : List Part} (h : fewC c = true) : Small c := by
 obtain ⟨h1, h2⟩ := of_decide_eq_true h
 exact small_each (by omega) (fun x hx => by have := h2 x hx; omega)
end Go.Proofs.YtgaegfddobpomaaGreat.Cx

namespace Go.Proofs.YtgaegfddobpomaaGreat.Kl
open Go.ChangeShapes Go.WideShapes Go.ChangeAt Go.RowKit
set_option linter.unusedVariables false
set_option maxRecDepth 4000
def stripE (c : List Cx.Part) (x : Ev.Evt) : Ev.Evt := if Cx.hasC c x.dot = true then ⟨x.dot, x.kind, x.cid, x.fld, x.txt, []⟩ else x
def OnePost (w : World) (x : Ev.Evt) (e : Ending) (w' : World) : Prop := ∃ q : Ev.EV, e = .returned q.val ∧ Ev.EventIs w' w'.heap.size q x ∧ Below w.heap.size w w'
structure PKl : Prop where
 editF : ∀ (w : World) (A : Option Addr) (l : List Ev.Evt) (n c cid f : Nat), Ev.EventsAt w w.heap.size A l n c → n ≤ 1024 → (∀ x ∈ l, x.kills.length ≤ 1024) → cid < 18446744073709551616 → f < 256 → Calls Tryz.prog 96 #[.slice A n c, .int .u64 (cid : Int), .int .u8 (f : Int)] w (DotsFar w (Ev.dotsE (l.filter (editB cid f))))
 delF : ∀ (w : World) (A : Option Addr) (l : List Ev.Evt) (n c cid : Nat), Ev.EventsAt w w.heap.size A l n c → n ≤ 1024 → (∀ x ∈ l, x.kills.length ≤ 1024) → cid < 18446744073709551616 → Calls Tryz.prog 95 #[.slice A n c, .int .u64 (cid : Int)] w (DotsFar w (Ev.dotsE (l.filter (delB cid))))
 liveF : ∀ (w : World) (A : Option Addr) (l : List Ev.Evt) (n c : Nat), Ev.EventsAt w w.heap.size A l n c → n ≤ 1024 → (∀ x ∈ l, x.kills.length ≤ 65536) → Calls Tryz.prog 112 #[.slice A n c] w (EvFar w (liveE l))
 keep : ∀ (w : World) (A A2 : Option Addr) (l : List Dt.Dot) (x : List Cx.Part) (n c n2 c2 : Nat), Ev.DotsAt w w.heap.size A l n c → Cx.CtxAt w A2 x n2 c2 → n ≤ 1024 → Cx.fewC x = true → Calls Tryz.prog 99 #[.slice A n c, .slice A2 n2 c2] w (Ev.DPost w (Dt.sortD (l.filter (Cx.hasC x))))
def worksA : Ev.Evt := ⟨(1, 1), 1, 5, 1, ⟨#[]⟩, []⟩
def worksB : Ev.Evt := ⟨(1, 2), 1, 5, 1, ⟨#[]⟩, [(1, 1)]⟩
structure Row2 (W : World) (g : Nat) : Prop where
 c0 : W.cell? ⟨g, 0, none⟩ = some (.int .u16 1)
 c1 : W.cell? ⟨g, 1, none⟩ = some (.int .u64 1)
 c2 : W.cell? ⟨g, 2, none⟩ = some (.int .u16 1)
 c3 : W.cell? ⟨g, 3, none⟩ = some (.int .u64 2)
def At (w : World) (g : Nat) (t : TypeId) (cs : Array Value) : Prop := w.heap[g]? = some (.cells cs t (0, 0))
theorem At.lt {w : World} {g : Nat} {t : TypeId} {cs : Array Value} (h : At w g t cs) : g < w.heap.size := by
 rcases Nat.lt_or_ge g w.heap.size with hl | hl
 · exact hl
 · unfold At at h; rw [Array.getElem?_eq_none hl] at h; cases h
theorem At.cell {w : World} {g : Nat} {t : TypeId} {cs : Array Value} (h : At w g t cs) (i : Nat) : w.cell? ⟨g, i, none⟩ = cs[i]? := cell_of_row w g i cs t (0, 0) h
theorem At.frozen {w : World} {g : Nat} {t : TypeId} {cs : Array Value} (h : At w g t cs) (i : Nat) : w.frozen? ⟨g, i, none⟩ = false := by
 unfold At at h
 simp [World.frozen?, h]
theorem At.new (w : World) (t : TypeId) (cs : Array Value) : At (w.alloc (.cells cs t)) w.heap.size t cs := heap_alloc_new w _
theorem At.below {w w' : World} {g B : Nat} {t : TypeId} {cs : Array Value} (h : At w g t cs) (hb : Below B w w') (hg : g < B) : At w' g t cs := (hb.block g hg).trans h
theorem At.set {w : World} {g : Nat} {t : TypeId} {cs : Array Value} (h : At w g t cs) (i : Nat) (u : Value) : At (w.setCell ⟨g, i, none⟩ u) g t (cs.setIfInBounds i u) := by
 unfold At at h ⊢
 simp [World.setCell, Array.getElem?_modify, h]
theorem At.other {w : World} {g h i : Nat} {t : TypeId} {cs : Array Value} (k : At w g t cs) (hne : g ≠ h) (u : Value) : At (w.setCell ⟨h, i, none⟩ u) g t cs := (Below.heap_setCell w ⟨h, i, none⟩ u g (fun e => hne e)).trans k
theorem bel_set {w V : World} {g i : Nat} (h : Below w.heap.size w V) (hg : w.heap.size ≤ g) (u : Value) : Below w.heap.size w (V.setCell ⟨g, i, none⟩ u) := h.setCell hg u
abbrev ebox (q : Ev.EV) : Array Value := #[.int .u16 (q.dev : Int), .int .u64 (q.num : Int), .int .u8 (q.kind : Int), .int .u64 (q.cid : Int), .int .u8 (q.fld : Int), .string q.txt, .slice q.adr q.len q.cap]
abbrev zcells : Array Value := #[.int .u16 0, .int .u64 0, .int .u8 0, .int .u64 0, .int .u8 0, .string ⟨#[]⟩, .slice none 0 0]
theorem ev_cells {V : World} {g : Nat} {q : Ev.EV} (h : At V g 38 (ebox q)) : V.cell? ⟨g, 0, none⟩ = some (.int .u16 (q.dev : Int)) ∧ V.cell? ⟨g, 1, none⟩ = some (.int .u64 (q.num : Int)) ∧ V.cell? ⟨g, 2, none⟩ = some (.int .u8 (q.kind : Int)) ∧ V.cell? ⟨g, 3, none⟩ = some (.int .u64 (q.cid : Int)) ∧ V.cell? ⟨g, 4, none⟩ = some (.int .u8 (q.fld : Int)) ∧ V.cell? ⟨g, 5, none⟩ = some (.string q.txt) ∧ V.cell? ⟨g, 6, none⟩ = some (.slice q.adr q.len q.cap) :=
 ⟨h.cell 0, h.cell 1, h.cell 2, h.cell 3, h.cell 4, h.cell 5, h.cell 6⟩
theorem ev_bare {w : World} {B : Nat} {q : Ev.EV} {e : Ev.Evt} (h : Ev.EventIs w B q e) : Ev.EventIs w B ⟨q.dev, q.num, q.kind, q.cid, q.fld, q.txt, none, 0, 0⟩ ⟨e.dot, e.kind, e.cid, e.fld, e.txt, []⟩ :=
 ⟨h.dev, h.num, h.kind, h.cid, h.fld, h.txt, ⟨h.fits.dot, h.fits.kind, h.fits.cid, h.fits.fld, h.fits.txt⟩, Ev.DotsAt.none_ _ _⟩
end Go.Proofs.YtgaegfddobpomaaGreat.Kl

namespace Go.Proofs.YtgaegfddobpomaaGreat.Bk
open Go.ChangeShapes Go.WideShapes Go.ChangeAt Go.RowKit Go.Proofs.YtgaegfddobpomaaGreat.Kl
set_option linter.unusedVariables false
set_option maxRecDepth 4000
def BkPost (w : World) (c : List Cx.Part) (l : List Ev.Evt) (e : Ending) (w' : World) : Prop := ∃ A1 n1 c1 A2 n2 c2, e = .returned (.agg #[.slice A1 n1 c1, .slice A2 n2 c2]) ∧ Cx.CtxAt w' A1 c n1 c1 ∧ Ev.EventsAt w' w'.heap.size A2 l n2 c2 ∧ Below w.heap.size w w'
theorem at_nonum {w : World} {g : Nat} {T : TypeId} {cs : Array Value} (h : At w g T cs) (hcs : ∀ v ∈ cs, isNum v = false) : NoNum w (· = g) := fun k hk i u hu => by
 subst hk
 rw [h.cell i] at hu
 exact hcs u (Array.mem_of_getElem? hu)
abbrev Bt : Type := List Cx.Part × List Ev.Evt
noncomputable def putB (b : Bt) (x : Ev.Evt) : Bt × Nat :=
 if Ev.goodE x = false then (b, 1) else if Cx.hasC b.1 x.dot = true then (b, 7) else ((Cx.setC b.1 (Cx.ofC (Ev.dotsE [x])) 0, Ev.putE (b.2.filter (leftB x)) x), 0)
def BnPost (w : World) (r : Bt × Nat) (e : Ending) (w' : World) : Prop := ∃ A1 n1 c1 A2 n2 c2, e = .returned (.tuple #[.agg #[.slice A1 n1 c1, .slice A2 n2 c2], .int .i64 (r.2 : Int)]) ∧ Cx.CtxAt w' A1 r.1.1 n1 c1 ∧ Ev.EventsAt w' w'.heap.size A2 r.1.2 n2 c2 ∧ Below w.heap.size w w'
theorem evts_one (W : World) (q : Ev.EV) (x : Ev.Evt) (h : Ev.EventIs W W.heap.size q x) : Ev.EventsAt (W.alloc q.box) (W.alloc q.box).heap.size (some ⟨W.heap.size, 0, none⟩) [x] 1 1 := by
 refine ⟨rfl, (fun e => by cases e), Nat.le_refl _, by decide, by decide, [q], Ev.lies_evt W q, rfl, fun k p y hp hy => ?_⟩
 have hk : k = 0 := by have := (List.getElem?_eq_some_iff.1 hp).1; simp at this; omega
 subst hk
 cases hp; cases hy
 exact h.up (Ev.below_new W _)
theorem good_kills {x : Ev.Evt} (h : Ev.goodE x = true) : x.kills.length ≤ 256 := by
 unfold Ev.goodE at h
 simp only [Bool.and_eq_true, decide_eq_true_eq] at h
 omega
theorem dots_one (x : Ev.Evt) : (Ev.dotsE [x]).length ≤ x.kills.length + 1 := by
 have h1 := Ev.kills_long [] x x.kills.length
 rw [Ev.kills_all rfl] at h1
 have e : Ev.dotsE [x] = Ev.dotsOne [] x := rfl
 rw [e]
 simp only [List.length_nil] at h1
 omega
theorem of_later {w W : World} {A : Option Addr} {l : List Dt.Dot} {n c : Nat} (h : Ev.DotsAt W W.heap.size A l n c) (hn : l.length ≤ 281) (hW : Below w.heap.size w W) :
   Calls Tryz.prog 41 #[.slice A n c] W fun e V => ∃ A5 n5 c5, e = .returned (.slice A5 n5 c5) ∧ Cx.CtxAt V A5 (Cx.ofC l) n5 c5 ∧ Below w.heap.size w V ∧ Below W.heap.size W V :=
 (Cx.rof_any W A l n c h.len h.dots (by rw [← h.len]; exact hn)).mono fun e V ⟨A5, n5, c5, h1, h2, h3⟩ => ⟨A5, n5, c5, h1, h2, hW.trans (h3.mono hW.size), h3⟩
def bareE (x : Ev.Evt) : Ev.Evt := ⟨x.dot, x.kind, x.cid, x.fld, x.txt, []⟩
def zeroX : Ev.Evt := ⟨(0, 0), 0, 0, 0, ⟨#[]⟩, []⟩
noncomputable def newK (l : List Ev.Evt) (x : Ev.Evt) : List Dt.Dot := if x.kind = 1 then Ev.dotsE ((l.filter (kindB 1)).filter (editB x.cid x.fld)) else Ev.dotsE ((l.filter (kindB 1)).filter (delB x.cid))
noncomputable def makeB (b : Bt) (x : Ev.Evt) : Ev.Evt × Nat :=
 if Ev.goodE (bareE x) = false then (zeroX, 1) else if Cx.hasC b.1 x.dot = true then (zeroX, 7) else if 256 < (newK b.2 x).length then (zeroX, 3) else (⟨x.dot, x.kind, x.cid, x.fld, x.txt, newK b.2 x⟩, 0)
def MkPost (w : World) (r : Ev.Evt × Nat) (e : Ending) (w' : World) : Prop := ∃ q : Ev.EV, e = .returned (.tuple #[q.val, .int .i64 (r.2 : Int)]) ∧ Ev.EventIs w' w'.heap.size q r.1 ∧ Below w.heap.size w w'
theorem zero_is (w : World) (B : Nat) : Ev.EventIs w B ⟨0, 0, 0, 0, 0, ⟨#[]⟩, none, 0, 0⟩ zeroX :=
 ⟨rfl, rfl, rfl, rfl, rfl, rfl, ⟨⟨by decide, by decide⟩, by decide, by decide, by decide, by unfold Ev.Short zeroX; decide⟩, Ev.DotsAt.none_ _ _⟩
theorem at_sub {w : World} {g : Nat} {T : TypeId} {cs ds : Array Value} (h : At w g T cs) (e : cs = ds) : At w g T ds := e ▸ h
theorem fill7 {V : World} {g : Nat} {T : TypeId} {a0 a1 a2 a3 a4 a5 a6 : Value} (h : At V g T #[a0, a1, a2, a3, a4, a5, a6]) (u0 u1 u2 u3 u4 u5 u6 : Value) :
   (V.cell? ⟨g, 0, none⟩ = some a0 ∧ V.frozen? ⟨g, 0, none⟩ = false) ∧
   ((V.setCell ⟨g, 0, none⟩ u0).cell? ⟨g, 1, none⟩ = some a1 ∧ (V.setCell ⟨g, 0, none⟩ u0).frozen? ⟨g, 1, none⟩ = false) ∧
   (((V.setCell ⟨g, 0, none⟩ u0).setCell ⟨g, 1, none⟩ u1).cell? ⟨g, 2, none⟩ = some a2 ∧ ((V.setCell ⟨g, 0, none⟩ u0).setCell ⟨g, 1, none⟩ u1).frozen? ⟨g, 2, none⟩ = false) ∧
   ((((V.setCell ⟨g, 0, none⟩ u0).setCell ⟨g, 1, none⟩ u1).setCell ⟨g, 2, none⟩ u2).cell? ⟨g, 3, none⟩ = some a3 ∧ (((V.setCell ⟨g, 0, none⟩ u0).setCell ⟨g, 1, none⟩ u1).setCell ⟨g, 2, none⟩ u2).frozen? ⟨g, 3, none⟩ = false) ∧
   (((((V.setCell ⟨g, 0, none⟩ u0).setCell ⟨g, 1, none⟩ u1).setCell ⟨g, 2, none⟩ u2).setCell ⟨g, 3, none⟩ u3).cell? ⟨g, 4, none⟩ = some a4 ∧ ((((V.setCell ⟨g, 0, none⟩ u0).setCell ⟨g, 1, none⟩ u1).setCell ⟨g, 2, none⟩ u2).setCell ⟨g, 3, none⟩ u3).frozen? ⟨g, 4, none⟩ = false) ∧
   ((((((V.setCell ⟨g, 0, none⟩ u0).setCell ⟨g, 1, none⟩ u1).setCell ⟨g, 2, none⟩ u2).setCell ⟨g, 3, none⟩ u3).setCell ⟨g, 4, none⟩ u4).cell? ⟨g, 5, none⟩ = some a5 ∧ (((((V.setCell ⟨g, 0, none⟩ u0).setCell ⟨g, 1, none⟩ u1).setCell ⟨g, 2, none⟩ u2).setCell ⟨g, 3, none⟩ u3).setCell ⟨g, 4, none⟩ u4).frozen? ⟨g, 5, none⟩ = false) ∧
   (((((((V.setCell ⟨g, 0, none⟩ u0).setCell ⟨g, 1, none⟩ u1).setCell ⟨g, 2, none⟩ u2).setCell ⟨g, 3, none⟩ u3).setCell ⟨g, 4, none⟩ u4).setCell ⟨g, 5, none⟩ u5).cell? ⟨g, 6, none⟩ = some a6 ∧ ((((((V.setCell ⟨g, 0, none⟩ u0).setCell ⟨g, 1, none⟩ u1).setCell ⟨g, 2, none⟩ u2).setCell ⟨g, 3, none⟩ u3).setCell ⟨g, 4, none⟩ u4).setCell ⟨g, 5, none⟩ u5).frozen? ⟨g, 6, none⟩ = false) ∧
   At (((((((V.setCell ⟨g, 0, none⟩ u0).setCell ⟨g, 1, none⟩ u1).setCell ⟨g, 2, none⟩ u2).setCell ⟨g, 3, none⟩ u3).setCell ⟨g, 4, none⟩ u4).setCell ⟨g, 5, none⟩ u5).setCell ⟨g, 6, none⟩ u6) g T #[u0, u1, u2, u3, u4, u5, u6] := by
 have h0 := at_sub (h.set 0 u0) (ds := #[u0, a1, a2, a3, a4, a5, a6]) (by simp)
 have h1 := at_sub (h0.set 1 u1) (ds := #[u0, u1, a2, a3, a4, a5, a6]) (by simp)
 have h2 := at_sub (h1.set 2 u2) (ds := #[u0, u1, u2, a3, a4, a5, a6]) (by simp)
 have h3 := at_sub (h2.set 3 u3) (ds := #[u0, u1, u2, u3, a4, a5, a6]) (by simp)
 have h4 := at_sub (h3.set 4 u4) (ds := #[u0, u1, u2, u3, u4, a5, a6]) (by simp)
 have h5 := at_sub (h4.set 5 u5) (ds := #[u0, u1, u2, u3, u4, u5, a6]) (by simp)
 have h6 := at_sub (h5.set 6 u6) (ds := #[u0, u1, u2, u3, u4, u5, u6]) (by simp)
 exact ⟨⟨h.cell 0, h.frozen 0⟩, ⟨h0.cell 1, h0.frozen 1⟩, ⟨h1.cell 2, h1.frozen 2⟩, ⟨h2.cell 3, h2.frozen 3⟩, ⟨h3.cell 4, h3.frozen 4⟩, ⟨h4.cell 5, h4.frozen 5⟩, ⟨h5.cell 6, h5.frozen 6⟩, h6⟩
theorem fill7_bel {w V : World} {g : Nat} (hb : Below w.heap.size w V) (hg : w.heap.size ≤ g) (u0 u1 u2 u3 u4 u5 u6 : Value) : Below w.heap.size w (((((((V.setCell ⟨g, 0, none⟩ u0).setCell ⟨g, 1, none⟩ u1).setCell ⟨g, 2, none⟩ u2).setCell ⟨g, 3, none⟩ u3).setCell ⟨g, 4, none⟩ u4).setCell ⟨g, 5, none⟩ u5).setCell ⟨g, 6, none⟩ u6) :=
 bel_set (bel_set (bel_set (bel_set (bel_set (bel_set (bel_set hb hg u0) hg u1) hg u2) hg u3) hg u4) hg u5) hg u6
theorem fill7_dots {V : World} {g : Nat} {A : Option Addr} {l : List Dt.Dot} {n c : Nat} (h : Ev.DotsAt V V.heap.size A l n c) (hf : 0 < n → ∀ ad : Addr, A = some ad → ad.block ≠ g) (u0 u1 u2 u3 u4 u5 u6 : Value) :
   Ev.DotsAt (((((((V.setCell ⟨g, 0, none⟩ u0).setCell ⟨g, 1, none⟩ u1).setCell ⟨g, 2, none⟩ u2).setCell ⟨g, 3, none⟩ u3).setCell ⟨g, 4, none⟩ u4).setCell ⟨g, 5, none⟩ u5).setCell ⟨g, 6, none⟩ u6) (((((((V.setCell ⟨g, 0, none⟩ u0).setCell ⟨g, 1, none⟩ u1).setCell ⟨g, 2, none⟩ u2).setCell ⟨g, 3, none⟩ u3).setCell ⟨g, 4, none⟩ u4).setCell ⟨g, 5, none⟩ u5).setCell ⟨g, 6, none⟩ u6).heap.size A l n c :=
 dots_set (dots_set (dots_set (dots_set (dots_set (dots_set (dots_set h hf 0 u0) hf 1 u1) hf 2 u2) hf 3 u3) hf 4 u4) hf 5 u5) hf 6 u6
end Go.Proofs.YtgaegfddobpomaaGreat.Bk

namespace Go.Proofs.YtgaegfddobpomaaGreat.Kl
open Go.ChangeShapes Go.WideShapes Go.ChangeAt Go.RowKit
set_option linter.unusedVariables false
set_option maxRecDepth 4000
def StPost (w : World) (q : Ev.EV) (y x : Ev.Evt) (e : Ending) (w' : World) : Prop := ∃ q2 : Ev.EV, e = .returned q2.val ∧ (∀ (W : World) (B : Nat), Ev.EventIs W B q y → Ev.EventIs W B q2 x) ∧ Below w.heap.size w w'
end Go.Proofs.YtgaegfddobpomaaGreat.Kl
namespace Go.Proofs.YtgaegfddobpomaaGreat.Bk
open Go.ChangeShapes Go.WideShapes Go.ChangeAt Go.RowKit Go.Proofs.YtgaegfddobpomaaGreat.Kl
def stayB (c : List Cx.Part) (x : Ev.Evt) : Bool := decide (x.kind = 1) || !Cx.hasC c x.dot
noncomputable def pruneB (b : Bt) (c : List Cx.Part) : Bt × Nat := ((b.1, (b.2.filter (stayB c)).map (stripE c)), b.2.length - (b.2.filter (stayB c)).length)
def PrRel (w : World) (n : Nat) (l : List Ev.Evt) (c : List Cx.Part) (v i : Value) (wr : World) : Prop :=
 ∃ k m A cc ps, k ≤ n ∧ i = .int .i64 ((k : Nat) : Int) ∧ v = .slice A m cc ∧ ps.length = m ∧ Ev.Match w w.heap.size ps (((l.take k).filter (stayB c)).map (stripE c)) ∧ wr.ownsRow w.heap.size 38 7 (.slice A m cc) m (Ev.ev ps) ∧ Below w.heap.size w wr
end Go.Proofs.YtgaegfddobpomaaGreat.Bk

namespace Go.Proofs.YtgaegfddobpomaaGreat.Cx
open Go.ChangeShapes Go.WideShapes Go.ChangeAt Go.RowKit
set_option linter.unusedVariables false
def sizeUpto (c : List Part) (k : Nat) : Nat := ((c.take k).map (fun x => Ru.sizeR x.2)).sum
def lastB (x : Part) : Option Dot := if 1 < Ru.firstR x.2 then some (x.1, Ru.firstR x.2 - 1) else none
theorem base_fold (c : List Part) : baseC c = (normC c).filterMap lastB := rfl
end Go.Proofs.YtgaegfddobpomaaGreat.Cx

namespace Go.Proofs.YtgaegfddobpomaaGreat.Cx
set_option linter.unusedVariables false
def OrdC (c : List Part) : Prop := ∃ f, Tells f ∧ c = listC f
theorem OrdC.fit {c : List Part} (h : OrdC c) : FitC c := by
 obtain ⟨f, h1, rfl⟩ := h
 exact list_fit h1
theorem OrdC.norm {c : List Part} (h : OrdC c) : normC c = c := by
 obtain ⟨f, h1, rfl⟩ := h
 unfold normC
 rw [runs_list h1]
theorem tells_uniq {f g : Nat → List Run} (hf : Tells f) (hg : Tells g) (h : ∀ d n, Ru.has (f d) n = Ru.has (g d) n) : f = g := funext fun d => Ru.uniq (hf.order d) (hg.order d) (h d)
theorem norm_eq {a b : List Part} (ha : FitC a) (hb : FitC b) (h : ∀ d n, Ru.has (runsC a d) n = Ru.has (runsC b d) n) : normC a = normC b := by
 unfold normC
 rw [tells_uniq (tells_runs ha) (tells_runs hb) h]
theorem ord_set {a b : List Part} (ha : FitC a) (hb : FitC b) (how : Int) : OrdC (setC a b how) := ⟨_, tells_both ha hb how, rfl⟩
theorem ord_nil : OrdC [] := ⟨fun _ => [], ⟨rfl, fun _ _ => rfl, fun _ => Ru.order_nil⟩, by
 unfold listC
 induction List.range Dt.topV with
 | nil => rfl
 | cons d l ih => rw [List.filterMap_cons]; exact ih⟩
theorem list_none {f : Nat → List Run} (h : ∀ d, f d = []) : listC f = [] := by
 unfold listC
 induction List.range Dt.topV with
 | nil => rfl
 | cons d l ih => rw [List.filterMap_cons, show oneC f d = none from if_pos (by rw [h]; rfl)]; exact ih
theorem has_set0 {a b : List Part} (ha : FitC a) (hb : FitC b) (d n : Nat) : Ru.has (runsC (setC a b 0) d) n = (Ru.has (runsC a d) n || Ru.has (runsC b d) n) := by rw [runs_set ha hb]; exact Ru.has0 _ _ _
theorem has_set1 {a b : List Part} (ha : FitC a) (hb : FitC b) (d n : Nat) : Ru.has (runsC (setC a b 1) d) n = (Ru.has (runsC a d) n && Ru.has (runsC b d) n) := by rw [runs_set ha hb]; exact Ru.has1 _ _ _
theorem has_set2 {a b : List Part} (ha : FitC a) (hb : FitC b) (d n : Nat) : Ru.has (runsC (setC a b 2) d) n = (Ru.has (runsC a d) n && !Ru.has (runsC b d) n) := by rw [runs_set ha hb]; exact Ru.has2 _ _ _
theorem join_turn (a b : List Part) : setC b a 0 = setC a b 0 := by
 unfold setC
 congr 1
 funext d
 exact Ru.join_turn _ _
theorem within_iff {a b : List Part} (ha : FitC a) (hb : FitC b) (h : ∀ d n, Ru.has (runsC a d) n = true → Ru.has (runsC b d) n = true) : withinC a b = true := by
 refine decide_eq_true (list_none fun d => Ru.empty_of (Ru.set_spec _ _ _).1 fun n => ?_)
 rw [Ru.has2]
 cases h1 : Ru.has (runsC a d) n with
 | false => rfl
 | true => rw [h d n h1]; rfl
/-! Lists of dots as contexts. -/
theorem ord_of {l : List Dot} (hl : Dt.Fit l) : OrdC (ofC l) := by
 obtain ⟨f, h1, h2, _⟩ := (of_whole l hl).form
 exact ⟨f, h1, h2⟩
theorem dot_may {x : Dot} (h : Dt.mayD x = true) : Ru.mayR (x.2, x.2) = true := by
 have := (Dt.may_iff x).1 h
 exact (Ru.may_iff _).2 ⟨by show 1 ≤ x.2; omega, Nat.le_refl _, by show x.2 ≤ _; omega⟩
theorem has_dot {x : Dot} (h : Dt.mayD x = true) (d n : Nat) : Ru.has (runsC (dotC x) d) n = (decide (x.1 = d) && decide (x.2 = n)) := by
 have hx := (Dt.may_iff x).1 h
 rw [runs_has, show dotC x = [(x.1, [(x.2, x.2)])] from rfl, List.any_cons, List.any_nil, Bool.or_false, Ru.has_one, dot_may h, Bool.true_and]
 by_cases h1 : x.1 = d
 · subst h1
   have h2 : x.1 ≠ 0 := by omega
   by_cases h3 : x.2 = n
   · subst h3; simp [h2]
   · have h4 : ¬ n = x.2 := fun e => h3 e.symm
     simp [h3, h4]
 · simp [h1]
def isDot (d n : Nat) (x : Dot) : Bool := Dt.mayD x && (decide (x.1 = d) && decide (x.2 = n))
theorem has_stepO {o : List Part} (ho : FitC o) {x : Dot} (hx : x.1 < 65536 ∧ x.2 < 18446744073709551616) (d n : Nat) : Ru.has (runsC (stepO o x) d) n = (Ru.has (runsC o d) n || isDot d n x) := by
 unfold stepO isDot
 cases h : Dt.mayD x with
 | false => simp
 | true => rw [if_pos rfl, has_set0 ho (fit_dot hx.1 hx.2), has_dot h, Bool.true_and]
theorem has_of_upto {l : List Dot} (hl : Dt.Fit l) (d n k : Nat) : Ru.has (runsC (ofC (l.take k)) d) n = (l.take k).any (isDot d n) := by
 induction k with
 | zero => show Ru.has (runsC [] d) n = false; rw [runs_nil]; rfl
 | succ k ih =>
   by_cases hk : k < l.length
   · have hg := List.getElem?_eq_getElem hk
     rw [of_next hg, has_stepO (of_most l hl k).fit (hl _ (List.getElem_mem hk)), ih, List.take_add_one, hg, List.any_append]
     simp
   · have e : l.take (k + 1) = l.take k := by rw [List.take_of_length_le (by omega), List.take_of_length_le (by omega)]
     rw [e]; exact ih
theorem has_of {l : List Dot} (hl : Dt.Fit l) (d n : Nat) : Ru.has (runsC (ofC l) d) n = l.any (isDot d n) := by
 have := has_of_upto hl d n l.length
 rwa [List.take_length] at this
/-! Bases. -/
def gapV (c : List Part) (d : Nat) : Nat := Ru.firstR (runsC c d) - 1
theorem first_nil : Ru.firstR [] = 1 := rfl
end Go.Proofs.YtgaegfddobpomaaGreat.Cx

namespace Go.Proofs.YtgaegfddobpomaaGreat.Bk
open Go.ChangeShapes Go.WideShapes Go.ChangeAt Go.RowKit Go.Proofs.YtgaegfddobpomaaGreat.Kl
set_option linter.unusedVariables false
set_option maxRecDepth 4000
structure Lim (S : Bt) : Prop where
 ctx : Cx.Small S.1
 few : S.2.length ≤ 64
 kills : ∀ y ∈ S.2, y.kills.length ≤ 1024
abbrev Lay : Type := World → Nat → (Nat → Prop) → Bt → Prop
def Went (R : Lay) (w : World) (p : Nat) (T : Nat → Prop) (S : Bt) (w' : World) : Prop :=
 ∃ (T' F : Nat → Prop), R w' p T' S ∧ (∀ k, T' k → T k ∨ w.heap.size ≤ k) ∧ (∀ k, F k → T k) ∧ NoNum w F ∧ Off F w w'
def Fresh (R : Lay) (w : World) (S : Bt) (p : Nat) (w' : World) : Prop := ∃ T, R w' p T S ∧ (∀ k, T k → w.heap.size ≤ k) ∧ Below w.heap.size w w'
def CxOut (w : World) (c : List Cx.Part) (e : Ending) (w' : World) : Prop := ∃ A n k, e = .returned (.slice A n k) ∧ Cx.CtxAt w' A c n k ∧ Below w.heap.size w w'
structure PBk (R : Lay) : Prop where
 ord : ∀ w p T S, R w p T S → Cx.OrdC S.1 ∧ Ev.OrdE S.2
 dom : ∀ w p T S, R w p T S → T p ∧ ∀ k, T k → k < w.heap.size
 off : ∀ w W p T S G, R w p T S → Off G w W → NoNum w G → (∀ k, T k → ¬ G k) → R W p T S
 new : ∀ w, Calls Tryz.prog 9 #[] w fun e w' => ∃ p, e = .returned (.pointer (some ⟨p, 0, none⟩)) ∧ Fresh R w ([], []) p w'
 put : ∀ w p T S q x, R w p T S → Lim S → Ev.EventIs w w.heap.size q x → Calls Tryz.prog 11 #[.pointer (some ⟨p, 0, none⟩), q.val] w fun e w' => e = .returned (.int .i64 ((putB S x).2 : Int)) ∧ Went R w p T (putB S x).1 w'
 make : ∀ w p T S q x, R w p T S → Lim S → Ev.EventIs w w.heap.size q x → Calls Tryz.prog 12 #[.pointer (some ⟨p, 0, none⟩), q.val] w (MkPost w (makeB S x))
 see : ∀ w p T S A c n k, R w p T S → Lim S → Cx.CtxAt w A c n k → Cx.fewC c = true → Calls Tryz.prog 15 #[.pointer (some ⟨p, 0, none⟩), .slice A n k] w fun e w' => e = .returned (.tuple #[]) ∧ Went R w p T (Cx.setC S.1 c 0, S.2) w'
 prune : ∀ w p T S A c n k, R w p T S → Lim S → Cx.CtxAt w A c n k → Cx.fewC c = true → Calls Tryz.prog 18 #[.pointer (some ⟨p, 0, none⟩), .slice A n k] w fun e w' => e = .returned (.int .i64 ((pruneB S c).2 : Int)) ∧ Went R w p T (pruneB S c).1 w'
 ctx : ∀ w p T S, R w p T S → Lim S → Calls Tryz.prog 29 #[.pointer (some ⟨p, 0, none⟩)] w (CxOut w S.1)
 all : ∀ w p T S, R w p T S → Lim S → Calls Tryz.prog 30 #[.pointer (some ⟨p, 0, none⟩)] w (EvFar w S.2)
 live : ∀ w p T S, R w p T S → Lim S → Calls Tryz.prog 38 #[.pointer (some ⟨p, 0, none⟩)] w (Ev.EvPost w (S.2.filter (kindB 1)))
 tombs : ∀ w p T S, R w p T S → Lim S → Calls Tryz.prog 40 #[.pointer (some ⟨p, 0, none⟩)] w (Ev.EvPost w (S.2.filter (kindB 2)))
 of : ∀ w p T S cid, R w p T S → Lim S → cid < 18446744073709551616 → Calls Tryz.prog 23 #[.pointer (some ⟨p, 0, none⟩), .int .u64 ((cid : Nat) : Int)] w (Ev.EvPost w (S.2.filter (ofB cid)))
 copy : ∀ w p T S, R w p T S → Lim S → Calls Tryz.prog 19 #[.pointer (some ⟨p, 0, none⟩)] w fun e w' => ∃ p', e = .returned (.pointer (some ⟨p', 0, none⟩)) ∧ Fresh R w S p' w'
 same : ∀ w p T S p2 T2 S2, R w p T S → R w p2 T2 S2 → Lim S → Lim S2 → Calls Tryz.prog 20 #[.pointer (some ⟨p, 0, none⟩), .pointer (some ⟨p2, 0, none⟩)] w fun e w' => e = .returned (.bool (decide (S = S2))) ∧ Below w.heap.size w w'
theorem PBk.up {R : Lay} (P : PBk R) {w W : World} {p : Nat} {T : Nat → Prop} {S : Bt} (h : R w p T S) (hb : Below w.heap.size w W) : R W p T S :=
 P.off w W p T S (fun _ => False) h (off_of _ hb) (fun _ hf => hf.elim) (fun _ _ hf => hf)
theorem all_up {w W : World} {A1 A2 : Option Addr} {l : List Ev.Evt} {n1 n2 c1 c2 : Nat} (hb : Below w.heap.size w W) (h1 : Ev.EventsAt W W.heap.size A1 l n1 c1) (h2 : Ev.EventsAt W W.heap.size A2 l n2 c2) :
   Calls Tryz.prog 22 #[.slice A1 n1 c1, .slice A2 n2 c2] W fun e V => e = .returned (.bool true) ∧ Below w.heap.size w V :=
 (Ev.rall_any W A1 A2 l l n1 n2 c1 c2 h1 h2).mono fun e V ⟨h3, h4⟩ => ⟨by rw [h3, decide_eq_true rfl], hb.trans (h4.mono hb.size)⟩
theorem eq_up {w W : World} {A1 A2 : Option Addr} {l : List Cx.Part} {n1 n2 c1 c2 : Nat} (hb : Below w.heap.size w W) (h1 : Cx.CtxAt W A1 l n1 c1) (h2 : Cx.CtxAt W A2 l n2 c2) :
   Calls Tryz.prog 37 #[.slice A1 n1 c1, .slice A2 n2 c2] W fun e V => e = .returned (.bool true) ∧ Below w.heap.size w V :=
 (Cx.req_any W A1 A2 l l n1 n2 c1 c2 h1 h2 (Cx.few_small h1)).mono fun e V ⟨h3, h4⟩ => ⟨by rw [h3, decide_eq_true rfl], hb.trans (h4.mono hb.size)⟩
end Go.Proofs.YtgaegfddobpomaaGreat.Bk
