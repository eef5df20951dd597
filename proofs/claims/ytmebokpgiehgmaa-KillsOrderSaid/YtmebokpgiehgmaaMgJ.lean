/- Words and contracts that the proofs of this seat stand on, part 10 of 18. -/
import Derived.Test.YtmebokpgiehgmaaMgI
import Derived.Test.YtmebokpgiehgmaaMgF
import Derived.ShutString
import Derived.ChangeOld
import Derived.Deep.DeepHandedRow
import Derived.Deep.Matrix
import Derived.SizedLaws
import Derived.Deep.SlicePairs
import Derived.Lib.SmallJoins
import Derived.Shelf.SlSortCmp.WholeK
import Derived.Test.YtmebokpgiehgmaaProg
import Derived.Test.YtmebokpgiehgmaaMgG
import Derived.Test.YtmebokpgiehgmaaMgC
import Derived.Test.YtmebokpgiehgmaaMgA
import Derived.Test.YtmebokpgiehgmaaMgH
import Derived.Shelf.SlSortCmp.KitK

/- What the frames of layer kills' laws share: a dot, a list of dots, a context that came in, as the walks take them. No condition. -/
namespace Go.Proofs.Ytmebokpgiehgmaa.Cx
open Go.ChangeShapes Go.WideShapes Go.ChangeAt Go.RowKit Go.Deep Go.Joins
set_option linter.unusedVariables false
set_option maxRecDepth 4000

/-- a slice of dots, that lies in this world. -/
structure DotsIn (w : World) (A : Option Addr) (l : List Dot) (n c : Nat) : Prop where
  len : l.length = n
  nil : A = none → n = 0 ∧ c = 0
  cap : n ≤ c
  max : c ≤ 9223372036854775807
  dots : Dt.Dots w w.heap.size A l

theorem own : ownKnob Try.prog.godebug = none := by kernel_rfl
theorem laidOut : laidOutB Try.prog = true := by kernel_rfl
theorem cells16 : Try.prog.cellsOf 24 = 1 := by kernel_rfl
theorem cells64 : Try.prog.cellsOf 23 = 1 := by kernel_rfl
theorem cellsD : Try.prog.cellsOf 26 = 2 := by kernel_rfl
theorem wf_u64 {n : Int} (h : (Lit.int .u64 n).wf = true) : ∃ s : Nat, n = (s : Int) ∧ s < 18446744073709551616 := by
  simp [Lit.wf, IntKind.min, IntKind.max, IntKind.bits, IntKind.signed] at h
  exact ⟨n.toNat, by omega, by omega⟩
theorem wf_u16 {n : Int} (h : (Lit.int .u16 n).wf = true) : ∃ s : Nat, n = (s : Int) ∧ s < 65536 := by
  simp [Lit.wf, IntKind.min, IntKind.max, IntKind.bits, IntKind.signed] at h
  exact ⟨n.toNat, by omega, by omega⟩
theorem wf_u8 {n : Int} (h : (Lit.int .u8 n).wf = true) : ∃ s : Nat, n = (s : Int) ∧ s < 256 := by
  simp [Lit.wf, IntKind.min, IntKind.max, IntKind.bits, IntKind.signed] at h
  exact ⟨n.toNat, by omega, by omega⟩
/-- a dot that came in; it reads as it did in every world. -/
theorem dot_of {H : Type} {enc : TypeId × Value → H} {W : World} {b0 : Nat} {v : Value} {d : DataW H} {p : List MemPlace} (hv : Value.okWide Try.prog W .any b0 26 v) (h : DataW.Trod enc Try.prog W 0 (fun _ => true) true 26 v d p) :
    ∃ r : Dot, v = .agg #[.int .u16 (r.1 : Int), .int .u64 (r.2 : Int)] ∧ r.1 < 65536 ∧ r.2 < 18446744073709551616 ∧ p = [] ∧ ∀ (W' : World) (sp : Nat → Bool), DataW.Trod enc Try.prog W' 0 sp true 26 v d p := by
  obtain ⟨c0, c1, y0, y1, m, rfl, rfl, rfl, hy0, hy1⟩ := open_agg2 Try.underlying26 (by kernel_rfl) cellsD hv h
  obtain ⟨a, e0, rfl, wa⟩ := DataW.trod_int Try.underlying24 hy0
  obtain ⟨b, e1, rfl, wb⟩ := DataW.trod_int Try.underlying23 hy1
  simp at e0 e1
  subst e0 e1
  have wa' := wa
  have wb' := wb
  obtain ⟨s, rfl, hs⟩ := wf_u16 wa
  obtain ⟨t, rfl, ht⟩ := wf_u64 wb
  exact ⟨(s, t), rfl, hs, ht, rfl, fun W' sp =>
    shut_agg2 (y0 := (.lit (.int .u16 (s : Int)), [])) (y1 := (.lit (.int .u64 (t : Int)), [])) Try.underlying26 (by kernel_rfl) cellsD ⟨1, by simp [DataW.trod, Try.underlying24, wa']⟩ ⟨1, by simp [DataW.trod, Try.underlying23, wb']⟩⟩
theorem list_of {α : Type} {Q : Nat → α → Prop} (n : Nat) (h : ∀ i, i < n → ∃ t, Q i t) : ∃ L : List α, L.length = n ∧ ∀ (i : Nat) (t : α), L[i]? = some t → Q i t := by
  induction n with
  | zero => exact ⟨[], rfl, fun i t hi => by simp at hi⟩
  | succ n ih =>
    obtain ⟨L, hL, hQ⟩ := ih (fun i hi => h i (by omega))
    obtain ⟨t, ht⟩ := h n (by omega)
    refine ⟨L ++ [t], by simp [hL], fun i u hu => ?_⟩
    rcases Nat.lt_or_ge i n with hi | hi
    · rw [List.getElem?_append_left (by omega)] at hu
      exact hQ i u hu
    · rw [List.getElem?_append_right (by omega), hL] at hu
      have e : i = n := by
        rcases Nat.eq_or_lt_of_le hi with e | e
        · exact e.symm
        · rw [List.getElem?_eq_none (by simp; omega)] at hu; cases hu
      subst e
      simp at hu
      subst hu
      exact ht
/-- rows of two cells. -/
theorem lies_two {α : Type} {w : World} {B : Nat} {ad : Addr} (hB : ad.block < B) (f g : α → Value) (L : List α) (h : ∀ (i : Nat) (r : α), L[i]? = some r → w.cell? (ad.add (i * 2)) = some (f r) ∧ w.cell? (ad.add (i * 2 + 1)) = some (g r)) : Dt.Lies w B (some ad) (L.flatMap fun r => [f r, g r]) := fun _ => by
  have len : ∀ L : List α, (L.flatMap fun r => [f r, g r]).length = L.length * 2 := fun L => by
    induction L with
    | nil => rfl
    | cons r L ih => simp only [List.flatMap_cons, List.length_append, List.length_cons, List.length_nil, ih]; omega
  have get : ∀ (L : List α) (k : Nat) (r : α), L[k]? = some r → (L.flatMap fun r => [f r, g r])[k * 2]? = some (f r) ∧ (L.flatMap fun r => [f r, g r])[k * 2 + 1]? = some (g r) := fun L => by
    induction L with
    | nil => intro k r h; simp at h
    | cons x L ih =>
      intro k r h
      cases k with
      | zero => obtain rfl : x = r := by simpa using h
                exact ⟨rfl, rfl⟩
      | succ k =>
        have h2 := ih k r (by simpa using h)
        have e : (x :: L).flatMap (fun r => [f r, g r]) = f x :: g x :: L.flatMap (fun r => [f r, g r]) := rfl
        have e1 : (k + 1) * 2 = k * 2 + 2 := by omega
        rw [e, e1]
        exact ⟨by simpa using h2.1, by simpa using h2.2⟩
  refine ⟨ad, rfl, hB, fun j u hu => ?_⟩
  have hj : j < (L.flatMap fun r => [f r, g r]).length := (List.getElem?_eq_some_iff.1 hu).1
  rw [len] at hj
  have hd : j / 2 < L.length := by omega
  have hg := List.getElem?_eq_getElem hd
  obtain ⟨g1, g2⟩ := get L _ _ hg
  obtain ⟨c1, c2⟩ := h _ _ hg
  rcases Nat.mod_two_eq_zero_or_one j with h0 | h0
  · have e : j = j / 2 * 2 := by omega
    rw [e] at hu ⊢
    rw [g1] at hu
    cases hu
    exact c1
  · have e : j = j / 2 * 2 + 1 := by omega
    generalize hz : j / 2 = z at *
    subst e
    rw [g2] at hu
    cases hu
    exact c2
/-- a list of dots that came in. -/
theorem dots_of {H : Type} {enc : TypeId × Value → H} {W : World} {a : Option Addr} {len cap : Nat} {d : DataW H} {p : List MemPlace} (h : DataW.Trod enc Try.prog W 0 (fun _ => true) true 30 (.slice a len cap) d p) :
    ∃ l : List Dot, DotsIn W a l len cap := by
  obtain ⟨fuel, hf⟩ := h
  rcases open_slice_pairs Try.underlying30 Try.underlying26 cellsD rfl rfl cells16 cells64 hf with ⟨hcs, _⟩ | ⟨x, n0, c0, m, f0, V0, V1, D0, D1, P0, P1, hcs, hb, hl, hm, hmm, hx, hi⟩
  · simp [Value.cells] at hcs
    obtain ⟨rfl, rfl, rfl⟩ := hcs
    exact ⟨[], rfl, fun _ => ⟨rfl, rfl⟩, Nat.le_refl _, by omega, Dt.Dots.none_ _ _ _⟩
  · simp [Value.cells] at hcs
    obtain ⟨rfl, rfl, rfl⟩ := hcs
    unfold maxLen at hm
    have hmc : m = cap := by simpa using hmm
    have each : ∀ i, i < len → ∃ r : Dot, (r.1 < 65536 ∧ r.2 < 18446744073709551616) ∧ W.cell? (x.add (i * 2)) = some (.int .u16 (r.1 : Int)) ∧ W.cell? (x.add (i * 2 + 1)) = some (.int .u64 (r.2 : Int)) := by
      intro i hil
      obtain ⟨h0, h1, t0, t1⟩ := hi i (by omega)
      obtain ⟨z0, e0, _, w0⟩ := DataW.trod_int Try.underlying24 t0
      obtain ⟨z1, e1, _, w1⟩ := DataW.trod_int Try.underlying23 t1
      obtain ⟨s0, rfl, hs0⟩ := wf_u16 w0
      obtain ⟨s1, rfl, hs1⟩ := wf_u64 w1
      rw [(List.cons.inj e0).1] at h0
      rw [(List.cons.inj e1).1] at h1
      exact ⟨(s0, s1), ⟨hs0, hs1⟩, h0, h1⟩
    obtain ⟨L, hL, hQ⟩ := list_of len each
    refine ⟨L, hL, (fun e => by cases e), by omega, by omega, fun r hr => ?_, ?_⟩
    · obtain ⟨i, hi', rfl⟩ := List.getElem_of_mem hr
      exact (hQ i _ (List.getElem?_eq_getElem hi')).1
    · rcases Nat.eq_zero_or_pos L.length with h0 | h0
      · rw [List.eq_nil_of_length_eq_zero h0]; exact Dt.Lies.none_ _ _ _
      · refine lies_two ?_ (fun r : Dot => Value.int .u16 (r.1 : Int)) (fun r : Dot => Value.int .u64 (r.2 : Int)) L (fun i r hr => (hQ i r hr).2)
        have h1 := (hQ 0 _ (List.getElem?_eq_getElem h0)).2.1
        have h2 := World.block_lt_of_cell? W _ h1
        rwa [Dt.block_add] at h2
/-- what a slice's datum is as long as. -/
def Long {H : Type} (d : DataW H) (n : Nat) : Prop := n = 0 ∨ ∃ elems spare, d = .slice elems spare ∧ elems.length = n
end Go.Proofs.Ytmebokpgiehgmaa.Cx
namespace Go.Proofs.Ytmebokpgiehgmaa.Kl
open Go.ChangeShapes Go.WideShapes Go.ChangeAt Go.RowKit Go.Deep Go.Joins
/-- dots that came in. -/
theorem dots_of {H : Type} {enc : TypeId × Value → H} {W : World} {a : Option Addr} {len cap : Nat} {d : DataW H} {p : List MemPlace} (h : DataW.Trod enc Try.prog W 0 (fun _ => true) true 30 (.slice a len cap) d p) (hz : Ev.Held 30 d) :
    ∃ l : List Dt.Dot, Ev.DotsAt W W.heap.size a l len cap := by
  obtain ⟨fuel, hf⟩ := h
  obtain ⟨A, n, c, l, e, hd, _⟩ := Ev.dots_cell (v := .slice a len cap) (by simpa [Value.cells] using hf) hz
  cases e
  exact ⟨l, hd⟩
end Go.Proofs.Ytmebokpgiehgmaa.Kl

/- KillsTells: the law's walk. -/
namespace Go.Proofs.Ytmebokpgiehgmaa.Kl
open Go.ChangeShapes Go.WideShapes Go.ChangeAt Go.RowKit
set_option linter.unusedVariables false
set_option maxRecDepth 4000

theorem few_all {l : List Ev.Evt} {m : Nat} (h : Ev.fewB l m = true) : l.length ≤ m ∧ ∀ x ∈ l, x.kills.length ≤ 300 := by
  unfold Ev.fewB at h
  rw [Bool.and_eq_true, decide_eq_true_iff, List.all_eq_true] at h
  refine ⟨h.1, fun x hx => ?_⟩
  have h2 := h.2 x hx
  unfold Ev.fewE at h2
  rw [Bool.and_eq_true, decide_eq_true_iff] at h2
  exact h2.1
theorem later {f : FuncId} {args : Array Value} {w W : World} {v : Value} (hW : Below w.heap.size w W) (h : Calls Try.prog f args W fun e V => e = .returned v ∧ Below W.heap.size W V) :
    Calls Try.prog f args W fun e V => e = .returned v ∧ Below w.heap.size w V := h.mono fun e V ⟨h1, h2⟩ => ⟨h1, hW.trans (h2.mono hW.size)⟩
theorem later_dots {f : FuncId} {args : Array Value} {w W : World} {l : List Dt.Dot} (hW : Below w.heap.size w W) (h : Calls Try.prog f args W (Ev.DPost W l)) :
    Calls Try.prog f args W fun e V => ∃ A n c, e = .returned (.slice A n c) ∧ Ev.DotsAt V V.heap.size A l n c ∧ Below w.heap.size w V ∧ Below W.heap.size W V := h.mono fun e V ⟨A, n, c, h1, h2, h3⟩ => ⟨A, n, c, h1, h2, hW.trans (h3.mono hW.size), h3⟩
theorem later_evts {f : FuncId} {args : Array Value} {w W : World} {l : List Ev.Evt} (hW : Below w.heap.size w W) (h : Calls Try.prog f args W (Ev.EvPost W l)) :
    Calls Try.prog f args W fun e V => ∃ A n c, e = .returned (.slice A n c) ∧ Ev.EventsAt V V.heap.size A l n c ∧ Below w.heap.size w V ∧ Below W.heap.size W V := h.mono fun e V ⟨A, n, c, h1, h2, h3⟩ => ⟨A, n, c, h1, h2, hW.trans (h3.mono hW.size), h3⟩
theorem same_dots {w W : World} {A A' : Option Addr} {l : List Dt.Dot} {n n' c c' : Nat} (hW : Below w.heap.size w W) (h1 : Ev.DotsAt W W.heap.size A l n c) (h2 : Ev.DotsAt W W.heap.size A' l n' c') :
    Calls Try.prog 8 #[.slice A n c, .slice A' n' c'] W fun e V => e = .returned (.bool true) ∧ Below w.heap.size w V :=
  (Dt.rsame_any W W.heap.size W.heap.size A A' l l n n' c c' h1.len h2.len h1.dots h2.dots (Nat.le_trans h1.wide (by decide))).mono fun e V ⟨h3, m, h4⟩ => ⟨by rw [h3, decide_eq_true rfl], by rw [h4]; exact Ev.bel_drewN hW m⟩
theorem same_evts {w W : World} {A A' : Option Addr} {l : List Ev.Evt} {n n' c c' : Nat} (hW : Below w.heap.size w W) (h1 : Ev.EventsAt W W.heap.size A l n c) (h2 : Ev.EventsAt W W.heap.size A' l n' c') :
    Calls Try.prog 15 #[.slice A n c, .slice A' n' c'] W fun e V => e = .returned (.bool true) ∧ Below w.heap.size w V :=
  later hW ((Ev.rall_any W A A' l l n n' c c' h1 h2).mono fun e V ⟨h3, h4⟩ => ⟨by rw [h3, decide_eq_true rfl], h4⟩)

set_option maxHeartbeats 16000000 in
theorem tells_walk (P : PKl) (w : World) (A1 : Option Addr) (l : List Ev.Evt) (n1 c1 cid : Nat) (d : Dt.Dot) (hl : Ev.EventsAt w w.heap.size A1 l n1 c1) (hci : cid < 18446744073709551616) (hd : d.1 < 65536 ∧ d.2 < 18446744073709551616) :
    Calls Try.prog 3 #[.slice A1 n1 c1, .int .u64 (cid : Int), .agg #[.int .u16 (d.1 : Int), .int .u64 (d.2 : Int)]] w fun e w' => e = .returned (.bool true) ∧ Below w.heap.size w w' := by
  obtain ⟨d1, d2⟩ := d
  have HB := Lib.hid (Ev.below_new w (dbox (d1, d2)))
  have HL := Lib.hid (hl.up HB.out)
  have HX := Lib.hid (fun V hV => dbox_cells w V (d1, d2) hV)
  have CF := Ev.rfew_any (w.alloc (dbox (d1, d2))) A1 l n1 c1 20 (by decide) HL.out
  simp only [show ((20 : Nat) : Int) = 20 from rfl] at CF
  simp only [dbox] at HB HL HX CF
  clear hl
  cases hf : Ev.fewB l 20 with
  | false =>
    rw [hf] at CF
    go_enter Try.func3, Try.ntmps3
    go_wp2_with fail
    generalize w.alloc (.cells #[.int .u16 (d1 : Int), .int .u64 (d2 : Int)] 26) = w1 at *
    refine CF.mono ?_
    rintro e w2 ⟨rfl, rfl⟩
    have CW := works_any P w2
    go_wp2_with fail
    refine CW.mono ?_
    rintro e w3 ⟨rfl, hb3⟩
    have HW3 := Lib.hid (HB.out.trans (hb3.mono HB.out.size))
    clear hb3
    go_wp2
    go_ret
    exact ⟨rfl, HW3.out⟩
  | true =>
    rw [hf] at CF
    obtain ⟨hll, hlk⟩ := few_all hf
    rw [HL.out.len] at hll
    obtain ⟨f, hfw, hf8⟩ : ∃ f : Nat, IntKind.u8.wrap ((d2 : Nat) : Int) = (f : Int) ∧ f < 256 := ⟨d2 % 256, by rw [IntKind.wrap_u8]; omega, by omega⟩
    have hn : n1 ≤ 1024 := by omega
    have hk : ∀ x ∈ l, x.kills.length ≤ 1024 := fun x hx => Nat.le_trans (hlk x hx) (by decide)
    have hk8 : ∀ x ∈ l, x.kills.length ≤ 65536 := fun x hx => Nat.le_trans (hlk x hx) (by decide)
    go_enter Try.func3, Try.ntmps3
    go_wp2_with fail
    generalize w.alloc (.cells #[.int .u16 (d1 : Int), .int .u64 (d2 : Int)] 26) = w1 at *
    refine CF.mono ?_
    rintro e w2 ⟨rfl, rfl⟩
    have A10 := fun W (hW : Below w2.heap.size w2 W) => later_dots hW (P.edit W A1 l n1 c1 cid f (HL.out.up hW) hn hk hci hf8)
    have A11 := fun W (hW : Below w2.heap.size w2 W) => later_dots hW (redit_any W A1 l n1 c1 cid f (HL.out.up hW) hn hk)
    have A12 := fun W (hW : Below w2.heap.size w2 W) => later_dots hW (P.del W A1 l n1 c1 cid (HL.out.up hW) hn hk hci)
    have A13 := fun W (hW : Below w2.heap.size w2 W) => later_dots hW (rdel_any W A1 l n1 c1 cid (HL.out.up hW) hn hk)
    have A14 := fun W (hW : Below w2.heap.size w2 W) => later hW (P.dead W A1 l n1 c1 (d1, d2) (HL.out.up hW) hn hk hd)
    have A15 := fun W (hW : Below w2.heap.size w2 W) => later hW (rdead_any W A1 l n1 c1 (d1, d2) (HL.out.up hW))
    have A17 := fun W (hW : Below w2.heap.size w2 W) => later_evts hW (P.live W A1 l n1 c1 (HL.out.up hW) hn hk8)
    have A18 := fun W (hW : Below w2.heap.size w2 W) => later_evts hW (rlive_any W A1 l n1 c1 (HL.out.up hW) (Nat.le_trans hn (by decide)))
    have A8 := fun W (hW : Below w2.heap.size w2 W) => later hW (works_any P W)
    have A9 := fun (m : List Dt.Dot) W (hW : Below w2.heap.size w2 W) A' A'' m' m'' c' c'' (h1 : Ev.DotsAt W W.heap.size A' m m' c') (h2 : Ev.DotsAt W W.heap.size A'' m m'' c'') => same_dots hW h1 h2
    have A16 := fun (m : List Ev.Evt) W (hW : Below w2.heap.size w2 W) A' A'' m' m'' c' c'' (h1 : Ev.EventsAt W W.heap.size A' m m' c') (h2 : Ev.EventsAt W W.heap.size A'' m m'' c'') => same_evts hW h1 h2
    clear hll hlk hn hk hk8 hci hd hf CF HL
    generalize Ev.dotsE (l.filter (editB cid f)) = dE at A10 A11
    generalize Ev.dotsE (l.filter (delB cid)) = dD at A12 A13
    generalize deadB l (d1, d2) = bD at A14 A15
    generalize liveE l = lL at A17 A18
    have A9E := A9 dE
    have A9D := A9 dD
    have A16L := A16 lL
    clear A9 A16
    obtain ⟨x1, x2⟩ := HX.out _ (Below.refl _ _)
    go_wp2_with fail
    go_region_held3 (fun V => V.cell? ⟨w.heap.size, 0, none⟩ = some (.int .u16 (d1 : Int)) ∧ V.cell? ⟨w.heap.size, 1, none⟩ = some (.int .u64 (d2 : Int))) (first | exact ⟨x1, x2⟩ | assumption | exact HX.out _ (by (repeat (first | exact Below.refl _ _ | assumption | apply Ev.bel_drew | apply Ev.bel_alloc)))) (first
      | (go_at_call 9; (with_reducible refine (A10 _ ?_).mono ?_); (focus (repeat (first | exact Below.refl _ _ | assumption | apply Ev.bel_drew | apply Ev.bel_alloc))); rintro e V ⟨A5, m5, c5, rfl, hN, bv, cv'⟩; have hcV := HX.out V bv)
      | (go_at_call 10; (with_reducible refine (A11 _ ?_).mono ?_); (focus (repeat (first | exact Below.refl _ _ | assumption | apply Ev.bel_drew | apply Ev.bel_alloc))); rintro e V' ⟨A6, m6, c6, rfl, hM, bv', cv''⟩; have hcV' := HX.out V' bv'; have hN2 := Ev.DotsAt.up hN cv'')
      | (go_at_call 8; (with_reducible refine (A9E _ ?_ _ _ _ _ _ _ ?_ ?_).mono ?_); (focus (repeat (first | exact Below.refl _ _ | assumption | apply Ev.bel_drew | apply Ev.bel_alloc))); (focus exact hN2); (focus exact hM); rintro e V ⟨rfl, bv⟩; have hcV := HX.out V bv)
      | (go_at_call 11; (with_reducible refine (A12 _ ?_).mono ?_); (focus (repeat (first | exact Below.refl _ _ | assumption | apply Ev.bel_drew | apply Ev.bel_alloc))); rintro e V ⟨A5, m5, c5, rfl, hN, bv, cv'⟩; have hcV := HX.out V bv)
      | (go_at_call 12; (with_reducible refine (A13 _ ?_).mono ?_); (focus (repeat (first | exact Below.refl _ _ | assumption | apply Ev.bel_drew | apply Ev.bel_alloc))); rintro e V' ⟨A6, m6, c6, rfl, hM, bv', cv''⟩; have hcV' := HX.out V' bv'; have hN2 := Ev.DotsAt.up hN cv'')
      | (go_at_call 8; (with_reducible refine (A9D _ ?_ _ _ _ _ _ _ ?_ ?_).mono ?_); (focus (repeat (first | exact Below.refl _ _ | assumption | apply Ev.bel_drew | apply Ev.bel_alloc))); (focus exact hN2); (focus exact hM); rintro e V ⟨rfl, bv⟩; have hcV := HX.out V bv)
      | (go_at_call 13; (with_reducible refine (A14 _ ?_).mono ?_); (focus (repeat (first | exact Below.refl _ _ | assumption | apply Ev.bel_drew | apply Ev.bel_alloc))); rintro e V ⟨rfl, bv⟩; have hcV := HX.out V bv)
      | (go_at_call 14; (with_reducible refine (A15 _ ?_).mono ?_); (focus (repeat (first | exact Below.refl _ _ | assumption | apply Ev.bel_drew | apply Ev.bel_alloc))); rintro e V ⟨rfl, bv⟩; have hcV := HX.out V bv)
      | (go_at_call 16; (with_reducible refine (A17 _ ?_).mono ?_); (focus (repeat (first | exact Below.refl _ _ | assumption | apply Ev.bel_drew | apply Ev.bel_alloc))); rintro e V ⟨A5, m5, c5, rfl, hN, bv, cv'⟩; have hcV := HX.out V bv)
      | (go_at_call 17; (with_reducible refine (A18 _ ?_).mono ?_); (focus (repeat (first | exact Below.refl _ _ | assumption | apply Ev.bel_drew | apply Ev.bel_alloc))); rintro e V' ⟨A6, m6, c6, rfl, hM, bv', cv''⟩; have hcV' := HX.out V' bv'; have hN2 := Ev.EventsAt.up hN cv'')
      | (go_at_call 15; (with_reducible refine (A16L _ ?_ _ _ _ _ _ _ ?_ ?_).mono ?_); (focus (repeat (first | exact Below.refl _ _ | assumption | apply Ev.bel_drew | apply Ev.bel_alloc))); (focus exact hN2); (focus exact hM); rintro e V ⟨rfl, bv⟩; have hcV := HX.out V bv)
      | (go_at_call 7; (with_reducible refine (A8 _ ?_).mono ?_); (focus (repeat (first | exact Below.refl _ _ | assumption | apply Ev.bel_drew | apply Ev.bel_alloc))); rintro e V ⟨rfl, bv⟩; have hcV := HX.out V bv))
    all_goals
      have HE : Hid (Below w.heap.size w V) := Lib.hid (HB.out.trans (bv.mono HB.out.size))
      go_wp2
      go_ret
      exact ⟨rfl, HE.out⟩
end Go.Proofs.Ytmebokpgiehgmaa.Kl

/- The laying of slices.SortFunc at dots: which functions and types of this program stand for those of the library's contract. -/
namespace Go.Proofs
open Go.Shelf
def Try.sortD_ren : Go.Shelf.Ren := ⟨fun | 6 => 45 | 15 => 51 | 14 => 50 | 28 => 64 | 29 => 65 | 20 => 56 | 21 => 57 | 22 => 58 | 23 => 59 | 24 => 60 | 25 => 61 | 26 => 62 | 27 => 63 | 46 => 67 | 47 => 68 | 48 => 69 | 49 => 70 | 50 => 71 | 57 => 73 | n => n, fun | 22 => 30 | 24 => 26 | 25 => 53 | 3 => 3 | 39 => 64 | 0 => 0 | 53 => 78 | 55 => 23 | 4 => 4 | 46 => 71 | 45 => 70 | 50 => 75 | 5 => 5 | 9 => 9 | 66 => 80 | 70 => 84 | 76 => 86 | 77 => 87 | n => n, fun | n => n⟩
theorem Try.sortD : Go.Proofs.SlLaysF0.n6 Try.prog Try.sortD_ren := {
  mixed := by kernel_rfl
  f6 := ⟨Try.f45.name, by decide, Try.func45.trans (congrArg some (by kernel_rfl))⟩
  f14 := ⟨Try.f50.name, by decide, Try.func50.trans (congrArg some (by kernel_rfl))⟩
  f15 := Try.func51.trans (congrArg some (by kernel_rfl))
  f20 := ⟨Try.f56.name, by decide, Try.func56.trans (congrArg some (by kernel_rfl))⟩
  f21 := ⟨Try.f57.name, by decide, Try.func57.trans (congrArg some (by kernel_rfl))⟩
  f22 := ⟨Try.f58.name, by decide, Try.func58.trans (congrArg some (by kernel_rfl))⟩
  f23 := ⟨Try.f59.name, by decide, Try.func59.trans (congrArg some (by kernel_rfl))⟩
  f24 := ⟨Try.f60.name, by decide, Try.func60.trans (congrArg some (by kernel_rfl))⟩
  f25 := ⟨Try.f61.name, by decide, Try.func61.trans (congrArg some (by kernel_rfl))⟩
  f26 := ⟨Try.f62.name, by decide, Try.func62.trans (congrArg some (by kernel_rfl))⟩
  f27 := ⟨Try.f63.name, by decide, Try.func63.trans (congrArg some (by kernel_rfl))⟩
  f28 := Try.func64.trans (congrArg some (by kernel_rfl))
  f29 := Try.func65.trans (congrArg some (by kernel_rfl))
  f46 := ⟨Try.f67.name, by decide, Try.func67.trans (congrArg some (by kernel_rfl))⟩
  f47 := Try.func68.trans (congrArg some (by kernel_rfl))
  f48 := Try.func69.trans (congrArg some (by kernel_rfl))
  f49 := ⟨Try.f70.name, by decide, Try.func70.trans (congrArg some (by kernel_rfl))⟩
  f50 := ⟨Try.f71.name, by decide, Try.func71.trans (congrArg some (by kernel_rfl))⟩
  f57 := ⟨Try.f73.name, by decide, Try.func73.trans (congrArg some (by kernel_rfl))⟩
  t0 := Try.underlying0
  a0 := Try.isAgg0
  z0 := Try.sizeOf0
  v0 := Try.zeroValue0
  t3 := Try.underlying3
  a3 := Try.isAgg3
  z3 := Try.sizeOf3
  v3 := Try.zeroValue3
  t4 := Try.underlying4
  a4 := Try.isAgg4
  z4 := Try.sizeOf4
  v4 := Try.zeroValue4
  t5 := Try.underlying5
  a5 := Try.isAgg5
  z5 := Try.sizeOf5
  v5 := Try.zeroValue5
  t9 := Try.underlying9
  a9 := Try.isAgg9
  z9 := Try.sizeOf9
  v9 := Try.zeroValue9
  t22 := Try.underlying30
  a22 := Try.isAgg30
  z22 := Try.sizeOf30
  v22 := Try.zeroValue30
  t25 := Try.underlying53
  a25 := Try.isAgg53
  z25 := Try.sizeOf53
  v25 := Try.zeroValue53
  t39 := Try.underlying64
  a39 := Try.isAgg64
  z39 := Try.sizeOf64
  v39 := Try.zeroValue64
  t45 := Try.underlying70
  a45 := Try.isAgg70
  z45 := Try.sizeOf70
  v45 := Try.zeroValue70
  t46 := Try.underlying71
  a46 := Try.isAgg71
  z46 := Try.sizeOf71
  v46 := Try.zeroValue71
  t50 := Try.underlying75
  a50 := Try.isAgg75
  z50 := Try.sizeOf75
  v50 := Try.zeroValue75
  t53 := Try.underlying78
  a53 := Try.isAgg78
  z53 := Try.sizeOf78
  v53 := Try.zeroValue78
  t55 := Try.underlying23
  a55 := Try.isAgg23
  z55 := Try.sizeOf23
  v55 := Try.zeroValue23
  t66 := Try.underlying80
  a66 := Try.isAgg80
  z66 := Try.sizeOf80
  v66 := Try.zeroValue80
  t70 := Try.underlying84
  a70 := Try.isAgg84
  z70 := Try.sizeOf84
  v70 := Try.zeroValue84
  t76 := Try.underlying86
  a76 := Try.isAgg86
  z76 := Try.sizeOf86
  v76 := Try.zeroValue86
  t77 := Try.underlying87
  a77 := Try.isAgg87
  z77 := Try.sizeOf87
  v77 := Try.zeroValue87 }
end Go.Proofs

/- The contract of slices.SortFunc as dot.Sort calls it: the same dots, in their order. Condition: fewer than 2^62 dots. -/
namespace Go.Proofs.Ytmebokpgiehgmaa.Dt
open Go.ChangeShapes Go.WideShapes Go.ChangeAt Go.RowKit Go.Shelf
set_option linter.unusedVariables false

/-- a dot's two cells. -/
def encC (r : Dot) : List Value := [.int .u16 (r.1 : Int), .int .u64 (r.2 : Int)]
theorem two_grow (W : World) (x y : Dot) : two W x y = Sort.grow W (#[Obj.cells #[.int .u16 (x.1 : Int), .int .u64 (x.2 : Int)] 26] ++ #[Obj.cells #[.int .u16 (y.1 : Int), .int .u64 (y.2 : Int)] 26]) := by
  unfold two
  rw [Sort.alloc_eq_grow, Sort.alloc_eq_grow, Sort.grow_grow]
theorem closure_any (x y : Dot) (W : World) : Calls Try.prog 46 #[.agg #[.int .u16 (x.1 : Int), .int .u64 (x.2 : Int)], .agg #[.int .u16 (y.1 : Int), .int .u64 (y.2 : Int)]] W fun e w' => e = .returned (.int .i64 (cmpD x y)) ∧ ∃ q os', w' = Sort.grow (W.drewN q) os' :=
  (pcmp_left W x y).mono fun _ _ ⟨h1, h2⟩ => ⟨h1, by
    rcases h2 with rfl | rfl
    · exact ⟨0, _, by rw [World.drewN_zero, two_grow]⟩
    · exact ⟨0, _, by rw [World.drewN_zero, two_grow (two W x y), two_grow W, Sort.grow_grow]⟩⟩
theorem ltD (x y : Dot) : ltOf cmpD x y = aheadD x y := cmp_neg x y
theorem swoD : Sort.SWO (ltOf cmpD) where
  irrefl x := by rw [ltD]; exact ahead_irr x
  trans x y z h1 h2 := by rw [ltD] at *; exact ahead_trans h1 h2
  ntrans x y z h1 h2 := by
    rw [ltD] at *
    have a1 : ¬ (x.1 < y.1 ∨ (x.1 = y.1 ∧ x.2 < y.2)) := fun h => by rw [(ahead_iff _ _).2 h] at h1; exact absurd h1 (by simp)
    have a2 : ¬ (y.1 < z.1 ∨ (y.1 = z.1 ∧ y.2 < z.2)) := fun h => by rw [(ahead_iff _ _).2 h] at h2; exact absurd h2 (by simp)
    cases h : aheadD x z with
    | false => rfl
    | true =>
      have := (ahead_iff _ _).1 h
      omega
/-- none stands behind one that it is ahead of. -/
def Ris (l : List Dot) : Prop := l.Pairwise (fun a b => aheadD b a = false)

theorem flat_dv (l : List Dot) (j : Nat) (hj : j < l.length * 2) : (dv l)[j]? = some (Sort.flatK encC 2 l.toArray)[j]! := by
  rw [Sort.get_flatK _ _ _ _ (by simpa using hj)]
  have hk : j / 2 < l.length := by omega
  have hg : l[j / 2]? = some l[j / 2] := List.getElem?_eq_getElem hk
  obtain ⟨g1, g2⟩ := dv_get hg
  have e : l.toArray[j / 2]! = l[j / 2] := by rw [getElem!_pos _ _ (by simpa using hk)]; simp
  rw [e]
  rcases Nat.mod_two_eq_zero_or_one j with h | h
  · rw [h]
    have : j / 2 * 2 = j := by omega
    rw [this] at g1
    simpa [encC] using g1
  · rw [h]
    have : j / 2 * 2 + 1 = j := by omega
    rw [this] at g2
    simpa [encC] using g2

theorem sort_any (w : World) (B g cap n : Nat) (d : List Dot) (hn : d.length = n) (h62 : n < 4611686018427387904) (h : w.ownsRow B 26 2 (.slice (some ⟨g, 0, none⟩) n cap) n (dv d)) :
    Calls Try.prog 45 #[.slice (some ⟨g, 0, none⟩) n cap, .func (.func 46) #[] #[]] w fun e w' => e = .returned (.tuple #[]) ∧ ∃ m : List Dot, m.Perm d ∧ Ris m ∧ w'.ownsRow B 26 2 (.slice (some ⟨g, 0, none⟩) n cap) n (dv m) ∧ w.grownBy w' (some g) := by
  subst hn
  obtain ⟨hlen, ⟨hz, _⟩ | ⟨g', cap', cur, e, hB, hheap, hle, hmx, hsz, htk⟩⟩ := h
  · cases hz
  · cases e
    have hlt : g < w.heap.size := (Array.getElem?_eq_some_iff.1 hheap).1
    have hcell : ∀ j, j < d.length * 2 → cur[j]? = (dv d)[j]? := fun j hj => by
      rw [← htk, List.getElem?_take, if_pos hj]
      simp
    have hH : Sort.HoldsK encC 2 w g 0 d.toArray := fun j hj => by
      have hj' : j < d.length * 2 := by simpa using hj
      refine ⟨?_, by simp [World.frozen?, hheap]⟩
      rw [Nat.zero_add, show id (Sort.flatK encC 2 d.toArray)[j]! = (Sort.flatK encC 2 d.toArray)[j]! from rfl, ← flat_dv d j hj', ← hcell j hj']
      simp [World.cell?, hheap]
    have eg : ∀ args w, (callFunc 46 args).run Try.prog w = .ok (.enter 46 args) w := enters_of Try.func46 (by kernel_rfl) rfl
    have hcon := AnyQ.slices_SortFunc Try.sortD 2 Try.isAgg26 Try.sizeOf26 encC (fun _ => rfl) (fun x v hv => by simp [encC] at hv; rcases hv with rfl | rfl <;> rfl) cmpD swoD 46 #[] g 0 cap d.toArray w eg (fun m os dk _ x y => closure_any x y _) hH hlt (by simpa using h62)
    change Calls Try.prog 45 _ _ _ at hcon
    rw [List.size_toArray] at hcon
    refine hcon.mono ?_
    rintro e w' ⟨rfl, d', q, os, hp, hs, rfl⟩
    have h1 : d'.size = d.length := by simpa using hp.1
    refine ⟨rfl, d'.toList, ?_, ?_, ?_, ?_⟩
    · have h3 := hp.2.2
      have e1 : d'.extract 0 d.length = d' := by rw [← h1]; simp
      have e2 : d.toArray.extract 0 d.length = d.toArray := by simp
      rw [e1, e2] at h3
      exact h3
    · refine List.pairwise_iff_getElem.2 fun i j hi hj hij => ?_
      rw [Array.length_toList] at hi hj
      have := hs i j (Nat.zero_le _) hij (by omega)
      rw [ltD, getElem!_pos d' j hj, getElem!_pos d' i hi] at this
      simpa using this
    · refine ⟨by rw [dv_length, Array.length_toList, h1], .inr ⟨g, cap, Sort.putCells id 0 (Sort.flatK encC 2 d') cur, rfl, hB, ?_, hle, hmx, by simp [Sort.putCells, hsz], ?_⟩⟩
      · show ((w.heap.modify g (Sort.onCells (Sort.putCells id 0 (Sort.flatK encC 2 d')))) ++ os)[g]? = _
        rw [Array.getElem?_append_left (by simpa using hlt), Array.getElem?_modify, if_pos rfl, hheap]
        rfl
      · apply List.ext_getElem?
        intro j
        rw [List.getElem?_take]
        by_cases hj : j < d.length * 2
        · rw [if_pos hj]
          have hf := flat_dv d'.toList j (by rw [Array.length_toList, h1]; exact hj)
          rw [Array.toArray_toList] at hf
          rw [hf]
          have hc : cur[j]? = some cur[j] := Array.getElem?_eq_getElem (by omega)
          simp [Sort.putCells, hc, h1, hj]
        · rw [if_neg hj]
          exact (List.getElem?_eq_none (by rw [dv_length, Array.length_toList, h1]; omega)).symm
    · refine ⟨rfl, rfl, rfl, ?_, fun k hk hne => ?_⟩
      · show w.heap.size ≤ ((w.heap.modify g _) ++ os).size
        simp
      · show ((w.heap.modify g _) ++ os)[k]? = _
        rw [Array.getElem?_append_left (by simpa using hk), Array.getElem?_modify, if_neg (fun e => hne (by rw [e]))]
theorem ins_nil (w : World) (fv : Value) : Calls Try.prog 56 #[.slice none 0 0, .int .i64 0, .int .i64 0, fv] w fun e w' => e = .returned (.tuple #[]) ∧ w' = w := by
  go_enter Try.func56, Try.ntmps56
  go_wp2
  refine wp_loop_rounds 1 ?_
  rw [rounds_succ]
  go_wp2
  go_end0
  exact ⟨rfl, rfl⟩
theorem pdq_nil (w : World) (lim : Int) (fv : Value) : Calls Try.prog 50 #[.slice none 0 0, .int .i64 0, .int .i64 0, .int .i64 lim, fv] w fun e w' => e = .returned (.tuple #[]) ∧ w' = w := by
  have hi := fun W => ins_nil W fv
  go_enter Try.func50, Try.ntmps50
  go_wp2
  refine wp_loop_rounds 1 ?_
  rw [rounds_succ]
  go_wp2_with (go_at_call 56; refine (hi _).mono ?_; rintro e w' ⟨rfl, rfl⟩)
  (try simp only [Exit.inBlock, Exit.then]); refine bodyPost_ret (results_none rfl _ _ _) rfl ?_
  exact ⟨rfl, rfl⟩
theorem len_nil (w : World) : Calls Try.prog 51 #[.int .u64 0] w fun e w' => e = .returned (.int .i64 (Lib.bitLen 0 : Nat)) ∧ w' = w := by
  have h := Any.bits_Len (SlLaysF0.n15.bits (P := Try.prog) (ρ := Try.sortD_ren) { Try.sortD with }) 0 w (by omega) (by omega)
  change Calls Try.prog 51 _ _ _ at h
  exact h
theorem sort_nil (w : World) : Calls Try.prog 45 #[.slice none 0 0, .func (.func 46) #[] #[]] w fun e w' => e = .returned (.tuple #[]) ∧ w' = w := by
  have hl := fun W => len_nil W
  have hp := fun lim W => pdq_nil W lim (.func (.func 46) #[] #[])
  go_enter Try.func45, Try.ntmps45
  go_wp2_with (first | (go_at_call 51; refine (hl _).mono ?_; rintro e w' ⟨rfl, rfl⟩) | (go_at_call 50; refine (hp _ _).mono ?_; rintro e w' ⟨rfl, rfl⟩))
  go_end0
  exact ⟨rfl, rfl⟩
end Go.Proofs.Ytmebokpgiehgmaa.Dt

/- The contract of the program's Sort of layer dot. For every list of at most 2^43 dots. -/
namespace Go.Proofs.Ytmebokpgiehgmaa.Dt
open Go.ChangeShapes Go.WideShapes Go.ChangeAt Go.RowKit Go.Lib
set_option linter.unusedVariables false

/-- dots in order, each once: what Compact leaves of sorted ones. -/
theorem ris_at {d : Array Dot} (h : Ris d.toList) {i j : Nat} (hij : i ≤ j) (hj : j < d.size) : aheadD d[j]! d[i]! = false := by
  rcases Nat.eq_or_lt_of_le hij with rfl | hlt
  · exact ahead_irr _
  · have h1 := List.pairwise_iff_getElem.1 h i j (by simpa using Nat.lt_trans hlt hj) (by simpa using hj) hlt
    rw [getElem!_pos d j hj, getElem!_pos d i (Nat.lt_trans hlt hj)]
    simpa using h1
theorem comp_ord {d : Array Dot} (h : Ris d.toList) (m : Nat) (hm : m ≤ d.size) : Ord (compactUpTo d m) ∧ ∀ x, x ∈ compactUpTo d m ↔ ∃ j, j < m ∧ d[j]! = x := by
  induction m with
  | zero => exact ⟨List.Pairwise.nil, fun x => ⟨fun hx => absurd hx (by simp [compactUpTo]), fun ⟨j, hj, _⟩ => absurd hj (Nat.not_lt_zero _)⟩⟩
  | succ m ih =>
    obtain ⟨h1, h3⟩ := ih (by omega)
    rw [compactUpTo_succ]
    cases hk : keeps d m with
    | false =>
      simp only [Bool.false_eq_true, if_false, List.append_nil]
      refine ⟨h1, fun x => ?_⟩
      rw [h3]
      have hk2 : ¬ (m = 0 ∨ d[m]! ≠ d[m - 1]!) := of_decide_eq_false hk
      constructor
      · rintro ⟨j, hj, e⟩
        exact ⟨j, by omega, e⟩
      · rintro ⟨j, hj, e⟩
        by_cases e2 : j = m
        · subst e2
          have h4 : d[j]! = d[j - 1]! := Classical.byContradiction fun h5 => hk2 (.inr h5)
          exact ⟨j - 1, by omega, by rw [← h4]; exact e⟩
        · exact ⟨j, by omega, e⟩
    | true =>
      simp only [if_true]
      have hk2 : m = 0 ∨ d[m]! ≠ d[m - 1]! := of_decide_eq_true hk
      have hlt : ∀ x ∈ compactUpTo d m, aheadD x d[m]! = true := by
        intro x hx
        obtain ⟨j, hj, rfl⟩ := (h3 x).1 hx
        have h4 := ris_at h (i := j) (j := m - 1) (by omega) (by omega)
        have h5 := ris_at h (i := m - 1) (j := m) (by omega) (by omega)
        have h6 : aheadD d[m - 1]! d[m]! = true := ahead_all h5 (hk2.resolve_left (by omega))
        by_cases e : d[j]! = d[m - 1]!
        · rw [e]; exact h6
        · exact ahead_trans (ahead_all h4 (fun e2 => e e2.symm)) h6
      refine ⟨List.pairwise_append.2 ⟨h1, List.pairwise_singleton _ _, fun a ha b hb => ?_⟩, fun x => ?_⟩
      · rw [List.mem_singleton] at hb
        rw [hb]
        exact hlt a ha
      · rw [List.mem_append, h3, List.mem_singleton]
        constructor
        · rintro (⟨j, hj, e⟩ | e)
          · exact ⟨j, by omega, e⟩
          · exact ⟨m, by omega, e.symm⟩
        · rintro ⟨j, hj, e⟩
          by_cases e2 : j = m
          · subst e2; exact .inr e.symm
          · exact .inl ⟨j, by omega, e⟩
theorem comp_sort {l m : List Dot} (hp : m.Perm l) (hr : Ris m) : compactUpTo m.toArray m.length = sortD l := by
  obtain ⟨h1, h3⟩ := comp_ord (d := m.toArray) (by simpa using hr) m.length (by simp)
  refine sort_uniq h1 (fun x => ?_)
  rw [h3, ← hp.mem_iff]
  constructor
  · rintro ⟨j, hj, rfl⟩
    rw [getElem!_pos _ _ (by simpa using hj)]
    simp
  · intro hx
    obtain ⟨j, hj, rfl⟩ := List.getElem_of_mem hx
    exact ⟨j, hj, by rw [getElem!_pos _ _ (by simpa using hj)]; simp⟩

set_option maxHeartbeats 1000000 in
set_option maxRecDepth 100000 in
theorem pclone_any (w : World) (A : Option Addr) (l : List Dot) (n c : Nat) (hl : l.length = n) (hA : A = none → n = 0 ∧ c = 0) (hb : Dots w w.heap.size A l) (h42 : n ≤ 8796093022208) :
    Calls Try.prog 44 #[.slice A n c] w (DotPost w l) := by
  have HL := Lib.hid hl
  have HB := Lib.hid hb
  cases A with
  | none =>
    obtain ⟨rfl, rfl⟩ := hA rfl
    obtain rfl := List.eq_nil_of_length_eq_zero hl
    have q : ∀ W : World, (binOp .eql 30 (.slice none 0 0) (.slice none 0 0)).run Try.prog W = .ok (.bool true) W := fun W => Lib.run_eql_slice_nil W 30 26 none 0 0 0 0 Try.underlying30
    clear hA hl hb
    go_enter Try.func44, Try.ntmps44
    go_wp2
    go_ret
    exact ⟨none, 0, 0, rfl, rfl, World.ownsRow_nil _ _ _ _, Below.refl _ _⟩
  | some ad =>
    have q : ∀ W : World, (binOp .eql 30 (.slice (some ad) n c) (.slice none 0 0)).run Try.prog W = .ok (.bool false) W := fun W => Lib.run_eql_slice_nil W 30 26 (some ad) n c 0 0 Try.underlying30
    have HW := Lib.hid (below_new w (.cells #[] 26))
    have hO : (w.alloc (.cells #[] 26)).ownsRow w.heap.size 26 2 (.slice (some ⟨w.heap.size, 0, none⟩) 0 0) 0 (dv []) := World.ownsRow_lit w #[] 0 (Nat.le_refl _) (Nat.zero_le _) rfl
    have HO := Lib.hid hO
    have HB2 : Hid (Lies (w.alloc (.cells #[] 26)) (w.alloc (.cells #[] 26)).heap.size (some ad) (dv l)) := (hb.up HW.out).2
    clear hA hl hb hO
    go_enter Try.func44, Try.ntmps44
    go_wp2_with (at_builtin; refine wpList_any rfl (.tmp 5) (.tmp 6) rfl rfl _ w.heap.size 0 (.slice (some ⟨w.heap.size, 0, none⟩) 0 0) [] (some ad) l n c rfl rfl HO.out (fun h => by cases h) HB2.out HL.out (by omega) HW.out.size ?_; intro A3 c3 V3 ho3 hg3; have HO3 := Lib.hid ho3; have HW3 := Lib.hid (any_grown HO.out HW.out hg3); clear ho3 hg3)
    go_ret
    have h0 : 0 + n = n := Nat.zero_add n
    have ho := HO3.out
    rw [h0] at ho
    exact ⟨A3, n, c3, by rw [← h0]; rfl, HL.out, ho, HW3.out⟩

theorem compact_nil (w : World) : Calls Try.prog 47 #[.slice none 0 0] w fun e w' => e = .returned (.slice none 0 0) ∧ w' = w := by
  go_enter Try.func47, Try.ntmps47
  go_wp2
  go_ret
  exact ⟨rfl, rfl⟩
theorem fit_perm {m l : List Dot} (h : m.Perm l) (hf : Fit l) : Fit m := fun r hr => hf r (h.mem_iff.1 hr)
set_option maxHeartbeats 1000000 in
theorem psort_any (w : World) (A : Option Addr) (l : List Dot) (n c : Nat) (hl : l.length = n) (hA : A = none → n = 0 ∧ c = 0) (hb : Dots w w.heap.size A l) (h42 : n ≤ 8796093022208) :
    Calls Try.prog 35 #[.slice A n c] w (DotPost w (sortD l)) := by
  have CC := pclone_any w A l n c hl hA hb h42
  have HF := Lib.hid hb.1
  have HL := Lib.hid hl
  clear hl hA hb
  go_enter Try.func35, Try.ntmps35
  go_wp2_with fail
  refine CC.mono ?_
  rintro e w1 ⟨A1, n1, c1, rfl, hn1, ho1, hb1⟩
  obtain rfl : n = n1 := by rw [← HL.out]; exact hn1
  have HB1 := Lib.hid hb1
  clear CC hb1
  rcases ho1.2 with ⟨h0, h1⟩ | ⟨g, cap, cur, h0, hg, _⟩
  · cases h0
    obtain rfl := List.eq_nil_of_length_eq_zero HL.out
    have hs := fun W => sort_nil W
    have hc := fun W => compact_nil W
    clear ho1 hn1 h1
    go_wp2_with fail
    refine (hs _).mono ?_
    rintro e w2 ⟨rfl, rfl⟩
    go_wp2_with fail
    refine (hc _).mono ?_
    rintro e w3 ⟨rfl, rfl⟩
    go_wp2
    go_ret
    exact ⟨none, 0, 0, rfl, rfl, World.ownsRow_nil _ _ _ _, HB1.out⟩
  · cases h0
    have CS := sort_any w1 w.heap.size g c1 n l HL.out (by omega) ho1
    have HG := Lib.hid hg
    clear ho1 hn1
    go_wp2_with fail
    refine CS.mono ?_
    rintro e w2 ⟨rfl, m, hp, hr, ho2, hg2⟩
    have hm : m.length = n := by rw [hp.length_eq]; exact HL.out
    have CK := pcompact_any w2 w.heap.size g c1 n m hm (by omega) ho2
    have hcs := comp_sort hp hr
    rw [hm] at hcs
    rw [hcs] at CK
    have HB2 : Hid (Below w.heap.size w w2) := HB1.out.grown hg2 HB1.out.size (fun k hk => by cases hk; exact HG.out)
    clear CS hp hr ho2 hg2 hm hcs
    go_wp2_with fail
    refine CK.mono ?_
    rintro e w3 ⟨k, rfl, hk, ho3, hg3⟩
    have HB3 : Hid (Below w.heap.size w w3) := HB2.out.grown hg3 HB2.out.size (fun k hk => by cases hk; exact HG.out)
    have HK := Lib.hid hk
    have HO3 := Lib.hid ho3
    clear hk ho3 hg3
    go_wp2
    go_ret
    exact ⟨_, k, c1, rfl, HK.out.symm, HO3.out, HB3.out⟩
end Go.Proofs.Ytmebokpgiehgmaa.Dt

/- The contracts of slices.swapRangeCmpFunc and rotateCmpFunc at structs, over any program that holds them. For every list of fewer than 2^62 structs. -/
namespace Go.Proofs.Ytmebokpgiehgmaa.St
open Go.ChangeShapes Go.WideShapes Go.ChangeAt Go.RowKit Go.Shelf Go.Lib Go.Sort
set_option linter.unusedVariables false
set_option maxRecDepth 4000

/-- a program that holds the stable sort's functions at events, and their types but the event itself: k cells. -/
structure Lays (P : Program) (k : Nat) : Prop where
  mixed : P.follows .mixedOrders = true
  fSwap : P.funcs[(72 : Nat)]? = some Try.f72
  fRot : P.funcs[(66 : Nat)]? = some Try.f66
  fMerge : P.funcs[(55 : Nat)]? = some Try.f55
  fStab : P.funcs[(49 : Nat)]? = some Try.f49
  fSort : P.funcs[(39 : Nat)]? = some Try.f39
  t0 : P.underlying 0 = some (TypeDesc.tuple #[])
  a0 : ∀ w, (isAgg 0).run P w = .ok false w
  z0 : ∀ w, (Go.sizeOf 0).run P w = .ok 1 w
  v0 : ∀ w, (zeroValue 0).run P w = .ok (Value.tuple #[]) w
  t3 : P.underlying 3 = some (TypeDesc.int IntKind.i64)
  a3 : ∀ w, (isAgg 3).run P w = .ok false w
  z3 : ∀ w, (Go.sizeOf 3).run P w = .ok 1 w
  v3 : ∀ w, (zeroValue 3).run P w = .ok (Value.int IntKind.i64 0) w
  t4 : P.underlying 4 = some (TypeDesc.bool)
  a4 : ∀ w, (isAgg 4).run P w = .ok false w
  z4 : ∀ w, (Go.sizeOf 4).run P w = .ok 1 w
  v4 : ∀ w, (zeroValue 4).run P w = .ok (Value.bool false) w
  t62 : P.underlying 64 = some (TypeDesc.int IntKind.u64)
  a62 : ∀ w, (isAgg 64).run P w = .ok false w
  z62 : ∀ w, (Go.sizeOf 64).run P w = .ok 1 w
  v62 : ∀ w, (zeroValue 64).run P w = .ok (Value.int IntKind.u64 0) w
  t30 : P.underlying 22 = some (TypeDesc.slice 38)
  a30 : ∀ w, (isAgg 22).run P w = .ok false w
  z30 : ∀ w, (Go.sizeOf 22).run P w = .ok 1 w
  v30 : ∀ w, (zeroValue 22).run P w = .ok (Value.slice none 0 0) w
  t51 : P.underlying 57 = some (TypeDesc.func #[38, 38] #[3] false)
  a51 : ∀ w, (isAgg 57).run P w = .ok false w
  z51 : ∀ w, (Go.sizeOf 57).run P w = .ok 1 w
  v51 : ∀ w, (zeroValue 57).run P w = .ok (Value.nilFunc) w
  aE : ∀ w, (isAgg 38).run P w = .ok true w
  zE : ∀ w, (Go.sizeOf 38).run P w = .ok k w

/-- the swap's step, told of rows. -/
theorem swr_zero {α : Type} (A : Nat → α) (a b : Nat) : swr A a b 0 = A := by
  funext k
  unfold swr
  repeat' split
  all_goals first | rfl | (exfalso; omega)
theorem swr_next {α : Type} [Inhabited α] {dk d : Array α} {a b i n : Nat} (hs : dk.size = d.size) (hi : i < n) (ha : a + n ≤ b) (hb : b + n ≤ d.size) (h : row dk = swr (row d) a b i) : row (swp dk (a + i) (b + i)) = swr (row d) a b (i + 1) := by
  rw [row_swp dk (by omega) (by omega), h]
  funext k
  unfold swr
  repeat' split
  all_goals first | rfl | (congr 1; omega) | (exfalso; omega)

variable {P : Program} {α : Type} [Inhabited α] {enc : α → List Value} {k : Nat} {w0 : World} {blk off : Nat} {d0 : Array α}

set_option maxHeartbeats 4000000 in
theorem swapRange_any (L : Lays P k) (R : RowK enc k w0 blk off d0) (h62 : d0.size < 4611686018427387904) (cap a b n : Nat) (fv : Value) (d : Array α) (hs : d.size = d0.size) (ha : a + n ≤ b) (hb : b + n ≤ d0.size) (w : World) (hw : SWK enc k w0 blk off d w) :
    Calls P 72 #[.slice (some ⟨blk, off, none⟩) d0.size cap, .int .i64 a, .int .i64 b, .int .i64 n, fv] w fun e w' =>
      e = .returned (.tuple #[]) ∧ ∃ d', d'.size = d0.size ∧ SWK enc k w0 blk off d' w' ∧ row d' = swr (row d) a b n := by
  have mixed := L.mixed; have t0 := L.t0; have a0 := L.a0; have z0 := L.z0; have v0 := L.v0; have t3 := L.t3; have a3 := L.a3; have z3 := L.z3; have v3 := L.v3; have t4 := L.t4; have a4 := L.a4; have z4 := L.z4; have v4 := L.v4; have t30 := L.t30; have a30 := L.a30; have z30 := L.z30; have v30 := L.v30; have aE := L.aE; have zE := L.zE
  have u30 := run_underlying L.t30
  have HR := Lib.hid R
  have HW := Lib.hid hw
  have F := L.fSwap
  clear hw R L
  go_enter F, Try.ntmps72
  go_wp2
  go_loopw [10] (fun vi wr => ∃ (i : Nat) (dk : Array α), vi = .int .i64 (i : Int) ∧ i ≤ n ∧ dk.size = d0.size ∧ SWK enc k w0 blk off dk wr ∧ row dk = swr (row d) a b i) (fun vi _ => n - (intOf vi).toNat)
  case atStart => exact ⟨0, d, rfl, Nat.zero_le _, hs, HW.out, (swr_zero _ _ _).symm⟩
  case round =>
    obtain ⟨i, dk, rfl, hin, hsk, hwk, hrow⟩ := hrel
    have HWK := Lib.hid hwk
    have HROW := Lib.hid hrow
    clear hwk hrow
    by_cases hlt : i < n
    · have hz : (i : Int) < (n : Int) := by omega
      have i1 : a + i < dk.size := by omega
      have i2 : b + i < dk.size := by omega
      have w1 : IntKind.i64.wrap ((a : Int) + (i : Int)) = (a : Int) + (i : Int) := by rw [IntKind.wrap_i64]; omega
      have w2 : IntKind.i64.wrap ((b : Int) + (i : Int)) = (b : Int) + (i : Int) := by rw [IntKind.wrap_i64]; omega
      have n1 : ((a : Int) + (i : Int)).toNat = a + i := by omega
      have n2 : ((b : Int) + (i : Int)).toNat = b + i := by omega
      have p1 : (0 : Int) ≤ (a : Int) + (i : Int) := by omega
      have p2 : (0 : Int) ≤ (b : Int) + (i : Int) := by omega
      have q1 : (a : Int) + (i : Int) < (d0.size : Int) := by omega
      have q2 : (b : Int) + (i : Int) < (d0.size : Int) := by omega
      have l1 := HWK.out.ld1 HR.out hsk P (a + i) i1
      have l2 := HWK.out.ld1 HR.out hsk P (b + i) i2
      have s1 := HWK.out.st1 HR.out hsk P (a + i) i1 dk[b + i]!
      have s2 := HWK.out.st2 HR.out hsk P (a + i) (b + i) i1 i2 dk[b + i]! dk[a + i]!
      have HS := Lib.hid (HWK.out.swapped HR.out (a + i) (b + i) i1 i2)
      have hsA : (enc dk[a + i]!).length = k := HR.out.hk _
      have hsB : (enc dk[b + i]!).length = k := HR.out.hk _
      have HN := Lib.hid (swr_next (d := d) (hsk.trans hs.symm) hlt ha (by rw [hs]; exact hb) HROW.out)
      clear HWK HROW
      generalize enc dk[a + i]! = cA at *
      generalize enc dk[b + i]! = cB at *
      go_wp2_with fail
      go_big_region_o
      all_goals go_wp2
      go_roundw
      case rel => exact ⟨i + 1, _, by go_num, by omega, by rw [size_swp]; exact hsk, HS.out, HN.out⟩
      case measure => simp [intOf]; omega
    · obtain rfl : i = n := by omega
      go_wp2
      go_end0
      exact ⟨rfl, dk, hsk, HWK.out, HROW.out⟩

theorem rot_start {α : Type} (D : Nat → α) (a m b : Nat) (h1 : a < m) (h2 : m < b) : rot D (m - (m - a)) m (m + (b - m)) = rot D a m b := by
  rw [show m - (m - a) = a by omega, show m + (b - m) = b by omega]
set_option maxHeartbeats 4000000 in
theorem rotate_any (L : Lays P k) (R : RowK enc k w0 blk off d0) (h62 : d0.size < 4611686018427387904) (cap a m b : Nat) (fv : Value) (d : Array α) (hs : d.size = d0.size) (ha : a < m) (hm : m < b) (hb : b ≤ d0.size) (w : World) (hw : SWK enc k w0 blk off d w) :
    Calls P 66 #[.slice (some ⟨blk, off, none⟩) d0.size cap, .int .i64 a, .int .i64 m, .int .i64 b, fv] w fun e w' =>
      e = .returned (.tuple #[]) ∧ ∃ d', d'.size = d0.size ∧ SWK enc k w0 blk off d' w' ∧ row d' = rot (row d) a m b := by
  have CS := fun (x y n : Nat) (dk : Array α) (hsk : dk.size = d0.size) (ha : x + n ≤ y) (hb : y + n ≤ d0.size) (W : World) (hw : SWK enc k w0 blk off dk W) => swapRange_any L R h62 cap x y n fv dk hsk ha hb W hw
  have mixed := L.mixed; have t0 := L.t0; have a0 := L.a0; have z0 := L.z0; have v0 := L.v0; have t3 := L.t3; have a3 := L.a3; have z3 := L.z3; have v3 := L.v3; have t4 := L.t4; have a4 := L.a4; have z4 := L.z4; have v4 := L.v4; have t30 := L.t30; have a30 := L.a30; have z30 := L.z30; have v30 := L.v30; have t51 := L.t51; have a51 := L.a51; have z51 := L.z51; have v51 := L.v51
  have u30 := run_underlying L.t30
  have e75 : ∀ args w, (callFunc 72 args).run P w = .ok (.enter 72 args) w := enters_of L.fSwap (by kernel_rfl) rfl
  have HCS := Lib.hid CS
  have HW := Lib.hid hw
  have F := L.fRot
  have hz1 : (a : Int) < (m : Int) := by omega
  have hz2 : (m : Int) < (b : Int) := by omega
  have w1 : IntKind.i64.wrap ((m : Int) - (a : Int)) = (m : Int) - (a : Int) := by rw [IntKind.wrap_i64]; omega
  have w2 : IntKind.i64.wrap ((b : Int) - (m : Int)) = (b : Int) - (m : Int) := by rw [IntKind.wrap_i64]; omega
  have e1 : (m : Int) - (a : Int) = ((m - a : Nat) : Int) := by omega
  have e2 : (b : Int) - (m : Int) = ((b - m : Nat) : Int) := by omega
  rw [e1] at w1
  rw [e2] at w2
  clear hw R L CS
  go_enter F, Try.ntmps66
  go_wp2
  go_loopw [10, 11] (fun vi vj wr => ∃ (i j : Nat) (dk : Array α), vi = .int .i64 (i : Int) ∧ vj = .int .i64 (j : Int) ∧ 0 < i ∧ 0 < j ∧ i + a ≤ m ∧ m + j ≤ b ∧ dk.size = d0.size ∧ SWK enc k w0 blk off dk wr ∧ rot (row dk) (m - i) m (m + j) = rot (row d) a m b) (fun vi vj _ => (intOf vi).toNat + (intOf vj).toNat)
  case atStart => exact ⟨m - a, b - m, d, by go_num, by go_num, by omega, by omega, by omega, by omega, hs, HW.out, rot_start _ _ _ _ ha hm⟩
  case round =>
    obtain ⟨i, j, dk, rfl, rfl, hi0, hj0, him, hjb, hsk, hwk, hrow⟩ := hrel
    have HWK := Lib.hid hwk
    have HROW := Lib.hid hrow
    clear hwk hrow
    have p1 : (0 : Int) ≤ (m : Int) - (i : Int) := by omega
    have ws : IntKind.i64.wrap ((m : Int) - (i : Int)) = (m : Int) - (i : Int) := by rw [IntKind.wrap_i64]; omega
    rcases Nat.lt_trichotomy i j with hlt | rfl | hlt
    · have hne : ((i : Int) != (j : Int)) = true := by rw [bne_iff_ne]; omega
      have hgt : decide ((i : Int) > (j : Int)) = false := decide_eq_false (by omega)
      have hgt' : ¬ (j : Int) < (i : Int) := by omega
      have wt : IntKind.i64.wrap ((m : Int) + (j : Int)) = (m : Int) + (j : Int) := by rw [IntKind.wrap_i64]; omega
      have wu : IntKind.i64.wrap ((m : Int) + (j : Int) - (i : Int)) = (m : Int) + (j : Int) - (i : Int) := by rw [IntKind.wrap_i64]; omega
      have wv : IntKind.i64.wrap ((j : Int) - (i : Int)) = (j : Int) - (i : Int) := by rw [IntKind.wrap_i64]; omega
      have C := HCS.out (m - i) (m + j - i) i dk hsk (by omega) (by omega) wr HWK.out
      rw [show ((m - i : Nat) : Int) = (m : Int) - (i : Int) by omega, show ((m + j - i : Nat) : Int) = (m : Int) + (j : Int) - (i : Int) by omega] at C
      go_wp2_with fail
      refine C.mono ?_
      rintro e w3 ⟨rfl, d3, hs3, hw3, hr3⟩
      have HW3 := Lib.hid hw3
      have HR3 : Hid (rot (row d3) (m - i) m (m + (j - i)) = rot (row d) a m b) := Lib.hid (by rw [hr3, rot_less (row dk) (m - i) m i j (by omega) hlt]; exact HROW.out)
      clear hw3 hr3 C
      go_wp2
      go_roundw
      case rel => exact ⟨i, j - i, d3, by go_num, by go_num, hi0, by omega, him, by omega, hs3, HW3.out, HR3.out⟩
      case measure => simp [intOf]; omega
    · have hne : ((i : Int) != (i : Int)) = false := by simp
      have C := HCS.out (m - i) m i dk hsk (by omega) (by omega) wr HWK.out
      rw [show ((m - i : Nat) : Int) = (m : Int) - (i : Int) by omega] at C
      go_wp2_with fail
      refine C.mono ?_
      rintro e w3 ⟨rfl, d3, hs3, hw3, hr3⟩
      have HW3 := Lib.hid hw3
      have HR3 : Hid (row d3 = rot (row d) a m b) := Lib.hid (by rw [hr3, rot_same (row dk) (m - i) m i (by omega)]; exact HROW.out)
      clear hw3 hr3 C
      go_wp2
      go_end0
      exact ⟨rfl, d3, hs3, HW3.out, HR3.out⟩
    · have hne : ((i : Int) != (j : Int)) = true := by rw [bne_iff_ne]; omega
      have hgt : decide ((i : Int) > (j : Int)) = true := decide_eq_true (by omega)
      have hgt' : (j : Int) < (i : Int) := by omega
      have wv : IntKind.i64.wrap ((i : Int) - (j : Int)) = (i : Int) - (j : Int) := by rw [IntKind.wrap_i64]; omega
      have C := HCS.out (m - i) m j dk hsk (by omega) (by omega) wr HWK.out
      rw [show ((m - i : Nat) : Int) = (m : Int) - (i : Int) by omega] at C
      go_wp2_with fail
      refine C.mono ?_
      rintro e w3 ⟨rfl, d3, hs3, hw3, hr3⟩
      have HW3 := Lib.hid hw3
      have HR3 : Hid (rot (row d3) (m - (i - j)) m (m + j) = rot (row d) a m b) := Lib.hid (by rw [hr3, show m - (i - j) = m - i + j by omega, rot_more (row dk) (m - i) m i j (by omega) hlt]; exact HROW.out)
      clear hw3 hr3 C
      go_wp2
      go_roundw
      case rel => exact ⟨i - j, j, d3, by go_num, by go_num, by omega, hj0, by omega, hjb, hs3, HW3.out, HR3.out⟩
      case measure => simp [intOf]; omega
end Go.Proofs.Ytmebokpgiehgmaa.St
