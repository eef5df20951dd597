/- Words and contracts that the proofs of this seat stand on, part 10 of 39. -/
import Derived.Test.YtgaegfddobpomaaGreatOrA
import Derived.Maps.OwnOps
import Derived.Maps.Ext
import Derived.DeepKeys4
import Derived.Test.YtgaegfddobpomaaGreatOrB
import Derived.Maps.RangeWalk
import Derived.Laws.BitsAllLaws
import Derived.WalkSmall

namespace Go.Proofs.YtgaegfddobpomaaGreat.Kl
open Go.ChangeShapes Go.WideShapes Go.ChangeAt Go.RowKit Go.Maps
set_option linter.unusedVariables false
set_option maxRecDepth 4000
theorem laidOutP : laidOutB Tryz.prog = true := by kernel_rfl
theorem rowDot : (35 : TypeId) < Tryz.prog.types.size := of_decide_eq_true (by kernel_rfl)
theorem keyTypeDot : Tryz.prog.keyType 35 = true := by kernel_rfl
theorem lawD : Keyed Tryz.prog 35 := Keyed.of_law (deep_law_laid laidOutP (m := 2) (by omega) rowDot (by kernel_rfl) (by kernel_rfl))
def dval (d : Dt.Dot) : Value := .agg #[.int .u16 (d.1 : Int), .int .u64 (d.2 : Int)]
def keyD (d : Dt.Dot) : Lit := .string (keyBytes [.int .u16 (d.1 : Int), .int .u64 (d.2 : Int)])
theorem wf16' {d : Nat} (h : d < 65536) : (Lit.int .u16 (d : Int)).wf = true := by
 simp [Lit.wf, IntKind.min, IntKind.max, IntKind.bits, IntKind.signed]; omega
theorem wf64' {n : Nat} (h : n < 18446744073709551616) : (Lit.int .u64 (n : Int)).wf = true := by
 simp [Lit.wf, IntKind.min, IntKind.max, IntKind.bits, IntKind.signed]; omega
theorem sizeTypes : ∃ m, Tryz.prog.types.size = m + 1 := ⟨_, (by kernel_rfl : Tryz.prog.types.size = (Tryz.prog.types.size - 1) + 1)⟩
theorem lits16 (m : Nat) {d : Nat} (h : d < 65536) : Tryz.prog.keyLits (m + 1) 32 [.int .u16 (d : Int)] = some [.int .u16 (d : Int)] := by
 unfold Program.keyLits
 simp only [Tryz.underlying32, wf16' h, and_self, if_true]
theorem lits64 (m : Nat) {d : Nat} (h : d < 18446744073709551616) : Tryz.prog.keyLits (m + 1) 33 [.int .u64 (d : Int)] = some [.int .u64 (d : Int)] := by
 unfold Program.keyLits
 simp only [Tryz.underlying33, wf64' h, and_self, if_true]
theorem cellsDot : Tryz.prog.cellsOf 35 = 2 := by kernel_rfl
theorem cells16 : Tryz.prog.cellsOf 32 = 1 := by kernel_rfl
theorem cells64 : Tryz.prog.cellsOf 33 = 1 := by kernel_rfl
theorem litsDot (m : Nat) {d : Dt.Dot} (h : d.1 < 65536 ∧ d.2 < 18446744073709551616) : Tryz.prog.keyLits (m + 1 + 1) 35 [.int .u16 (d.1 : Int), .int .u64 (d.2 : Int)] = some [.int .u16 (d.1 : Int), .int .u64 (d.2 : Int)] := by
 have h1 := lits16 m h.1
 have h2 := lits64 m h.2
 unfold Program.keyLits
 simp only [Tryz.underlying35, cellsDot]
 simp [cells16, cells64, h1, h2]
theorem formedDot (d : Dt.Dot) : (dval d).formed Tryz.prog 35 = true := by
 unfold dval Value.formed
 simp only [Tryz.underlying35, cellsDot]
 rfl
theorem keyD_is {d : Dt.Dot} (h : d.1 < 65536 ∧ d.2 < 18446744073709551616) : keyOf Tryz.prog 35 (dval d) = some (keyD d) := by
 obtain ⟨m, hm⟩ := sizeTypes
 have h1 := litsDot m h
 rw [← hm] at h1
 unfold keyOf
 simp only [Tryz.underlying35]
 rw [if_pos (by rw [keyTypeDot, formedDot]; rfl), show (dval d).cells.toList = [.int .u16 (d.1 : Int), .int .u64 (d.2 : Int)] from rfl, h1]
 rfl
theorem keyD_lit (d : Dt.Dot) : WideAt.IsKeyLit (keyD d) := trivial
theorem keyD_inj {d e : Dt.Dot} (hd : d.1 < 65536 ∧ d.2 < 18446744073709551616) (he : e.1 < 65536 ∧ e.2 < 18446744073709551616) (h : keyD d = keyD e) : d = e := by
 have h1 := lawD.inj (keyD_is hd) (by rw [h]; exact keyD_is he)
 obtain ⟨a, b⟩ := d
 obtain ⟨a', b'⟩ := e
 simp only [dval, Value.agg.injEq] at h1
 injection h1 with h1
 simp only [List.cons.injEq, Value.int.injEq, true_and, and_true] at h1
 obtain ⟨h2, h3⟩ := h1
 have : a = a' := by omega
 have : b = b' := by omega
 subst_vars
 rfl
abbrev boolL (b : Bool) : DataW Unit := .lit (.bool b)
theorem zeroB (w : World) : (zeroValue 4).run Tryz.prog w = .ok (.bool false) w := by kernel_rfl
def HoldsD (D : DataW Unit) (s : Dt.Dot → Bool) : Prop := ∀ d : Dt.Dot, d.1 < 65536 ∧ d.2 < 18446744073709551616 → D.atKey (keyD d) (boolL false) = boolL (s d)
def MapD (w : World) (b n : Nat) (s : Dt.Dot → Bool) : Prop := ∃ D : DataW Unit, w.ownsMap Tryz.prog 35 (plainElem Tryz.prog 4) b n D ∧ HoldsD D s
end Go.Proofs.YtgaegfddobpomaaGreat.Kl

namespace Go.Proofs.YtgaegfddobpomaaGreat.Bk
open Go.ChangeShapes Go.WideShapes Go.ChangeAt Go.RowKit Go.Maps
set_option linter.unusedVariables false
set_option maxRecDepth 4000
abbrev dotV (p : Ev.EV) : Dt.Dot := (p.dev, p.num)
def FitD (d : Dt.Dot) : Prop := d.1 < 65536 ∧ d.2 < 18446744073709551616
theorem val_inj {p q : Ev.EV} (h : p.val = q.val) : p = q := by
 obtain ⟨a1, a2, a3, a4, a5, a6, a7, a8, a9⟩ := p
 obtain ⟨b1, b2, b3, b4, b5, b6, b7, b8, b9⟩ := q
 simp only [Ev.EV.val, Value.agg.injEq] at h
 injection h with h
 simp only [List.cons.injEq, Value.int.injEq, Value.string.injEq, Value.slice.injEq, true_and, and_true] at h
 obtain ⟨h1, h2, h3, h4, h5, h6, h7, h8, h9⟩ := h
 have e1 : a1 = b1 := by omega
 have e2 : a2 = b2 := by omega
 have e3 : a3 = b3 := by omega
 have e4 : a4 = b4 := by omega
 have e5 : a5 = b5 := by omega
 have e8 : a8 = b8 := by omega
 have e9 : a9 = b9 := by omega
 rw [e1, e2, e3, e4, e5, h6, h7, e8, e9]
open Classical in
noncomputable def elemE (v : Value) : Option (DataW Ev.EV × List MemPlace) := if h : ∃ p : Ev.EV, v = p.val then some (.held h.choose, []) else none
theorem elemE_val (p : Ev.EV) : elemE p.val = some (.held p, []) := by
 have h : ∃ q : Ev.EV, p.val = q.val := ⟨p, rfl⟩
 unfold elemE
 rw [dif_pos h, val_inj h.choose_spec.symm]
theorem elemE_inv {v : Value} {z : DataW Ev.EV × List MemPlace} (h : elemE v = some z) : ∃ p : Ev.EV, v = p.val ∧ z = (.held p, []) := by
 unfold elemE at h
 split at h
 · rename_i h2
   exact ⟨_, h2.choose_spec, (Option.some.inj h).symm⟩
 · cases h
structure HoldsE (D : DataW Ev.EV) (L : List Ev.EV) : Prop where
 fit : ∀ p ∈ L, FitD (dotV p)
 apart : L.Pairwise (fun p q => dotV p ≠ dotV q)
 has : ∀ kl, Maps.has D kl = true ↔ ∃ p ∈ L, kl = Kl.keyD (dotV p)
 at_ : ∀ p ∈ L, ∀ zd, D.atKey (Kl.keyD (dotV p)) zd = .held p
theorem HoldsE.perm {D : DataW Ev.EV} {L M : List Ev.EV} (h : HoldsE D L) (hp : L.Perm M) : HoldsE D M :=
 ⟨fun p hm => h.fit p (hp.mem_iff.2 hm), (hp.pairwise_iff (fun {_ _} hne => Ne.symm hne)).1 h.apart, fun kl => (h.has kl).trans ⟨fun ⟨p, h1, h2⟩ => ⟨p, hp.mem_iff.1 h1, h2⟩, fun ⟨p, h1, h2⟩ => ⟨p, hp.mem_iff.2 h1, h2⟩⟩, fun p hm => h.at_ p (hp.mem_iff.2 hm)⟩
theorem holdsE_nil : HoldsE (.map []) [] := ⟨fun _ h => (by cases h), List.Pairwise.nil, fun kl => ⟨fun h => (by cases h), fun ⟨p, h, _⟩ => (by cases h)⟩, fun _ h => (by cases h)⟩
def but (d : Dt.Dot) (L : List Ev.EV) : List Ev.EV := L.filter fun q => decide (dotV q ≠ d)
theorem but_mem {d : Dt.Dot} {L : List Ev.EV} {q : Ev.EV} : q ∈ but d L ↔ q ∈ L ∧ dotV q ≠ d := by
 unfold but
 rw [List.mem_filter, decide_eq_true_iff]
theorem HoldsE.put {D : DataW Ev.EV} {L : List Ev.EV} (h : HoldsE D L) (hm : Maps.IsMap D) {p : Ev.EV} (hp : FitD (dotV p)) : HoldsE (D.put (Kl.keyD (dotV p)) (.held p)) (p :: but (dotV p) L) := by
 refine ⟨fun q hq => ?_, ?_, fun kl => ?_, fun q hq zd => ?_⟩
 · rcases List.mem_cons.1 hq with rfl | hq
   · exact hp
   · exact h.fit q (but_mem.1 hq).1
 · exact List.pairwise_cons.2 ⟨fun q hq => Ne.symm (but_mem.1 hq).2, h.apart.filter _⟩
 · by_cases e : kl = Kl.keyD (dotV p)
   · subst e
     rw [Maps.has_put_same hm (Kl.keyD_lit _)]
     exact ⟨fun _ => ⟨p, List.mem_cons_self .., rfl⟩, fun _ => rfl⟩
   · rw [Maps.has_put_other e, h.has]
     constructor
     · rintro ⟨q, hq, rfl⟩
       exact ⟨q, List.mem_cons_of_mem _ (but_mem.2 ⟨hq, fun e2 => e (by rw [e2])⟩), rfl⟩
     · rintro ⟨q, hq, rfl⟩
       rcases List.mem_cons.1 hq with rfl | hq
       · exact absurd rfl e
       · exact ⟨q, (but_mem.1 hq).1, rfl⟩
 · rcases List.mem_cons.1 hq with rfl | hq
   · exact Maps.atKey_put_same hm (Kl.keyD_lit _) _ _
   · obtain ⟨h1, h2⟩ := but_mem.1 hq
     rw [Maps.atKey_put_other (fun e => h2 (Kl.keyD_inj (h.fit q h1) hp e))]
     exact h.at_ q h1 zd
theorem HoldsE.del {D : DataW Ev.EV} {L : List Ev.EV} (h : HoldsE D L) {d : Dt.Dot} (hd : FitD d) : HoldsE (D.del (Kl.keyD d)) (but d L) := by
 refine ⟨fun q hq => h.fit q (but_mem.1 hq).1, h.apart.filter _, fun kl => ?_, fun q hq zd => ?_⟩
 · by_cases e : kl = Kl.keyD d
   · subst e
     rw [Maps.has_del_same]
     constructor
     · intro h1; cases h1
     · rintro ⟨q, hq, h2⟩
       exact absurd (Kl.keyD_inj hd (h.fit q (but_mem.1 hq).1) h2).symm (but_mem.1 hq).2
   · rw [Maps.has_del_other e, h.has]
     constructor
     · rintro ⟨q, hq, rfl⟩
       exact ⟨q, but_mem.2 ⟨hq, fun e2 => e (by rw [e2])⟩, rfl⟩
     · rintro ⟨q, hq, rfl⟩
       exact ⟨q, (but_mem.1 hq).1, rfl⟩
 · obtain ⟨h1, h2⟩ := but_mem.1 hq
   rw [Maps.atKey_del_other (fun e => h2 (Kl.keyD_inj (h.fit q h1) hd e))]
   exact h.at_ q h1 zd
theorem holdsE_size {es : List (Lit × DataW Ev.EV)} {L : List Ev.EV} (h : HoldsE (.map es) L) (ha : es.Pairwise (fun p q => p.1 ≠ q.1)) (hk : ∀ p ∈ es, WideAt.IsKeyLit p.1) : es.length = L.length := by
 have h1 : (es.map (·.1)).Nodup := List.pairwise_map.2 ha
 have h2 : (L.map (fun p => Kl.keyD (dotV p))).Nodup := by
   refine List.pairwise_map.2 (List.Pairwise.imp_of_mem (fun {p q} hp hq hne e => hne (Kl.keyD_inj (h.fit p hp) (h.fit q hq) e)) h.apart)
 have h3 : ∀ kl, kl ∈ es.map (·.1) ↔ kl ∈ L.map (fun p => Kl.keyD (dotV p)) := fun kl => by
   have h4 : Maps.has (.map es) kl = true ↔ kl ∈ es.map (·.1) := by
     rw [Maps.has_eq, List.any_eq_true, List.mem_map]
     constructor
     · rintro ⟨p, hp, he⟩
       exact ⟨p, hp, WideAt.sameKey_eq he⟩
     · rintro ⟨p, hp, rfl⟩
       exact ⟨p, hp, WideAt.sameKey_self (hk p hp)⟩
   rw [← h4, h.has, List.mem_map]
   exact ⟨fun ⟨p, a, b⟩ => ⟨p, a, b.symm⟩, fun ⟨p, a, b⟩ => ⟨p, a, b.symm⟩⟩
 have h5 := ((List.perm_ext_iff_of_nodup h1 h2).2 h3).length_eq
 rw [List.length_map, List.length_map] at h5
 exact h5
def MapE (w : World) (b : Nat) (L : List Ev.EV) : Prop := ∃ D : DataW Ev.EV, w.ownsMap Tryz.prog 35 elemE b L.length D ∧ HoldsE D L
theorem mapE_of {w : World} {b n : Nat} {D : DataW Ev.EV} {L : List Ev.EV} (h1 : w.ownsMap Tryz.prog 35 elemE b n D) (h2 : HoldsE D L) : MapE w b L := by
 refine ⟨D, ?_, h2⟩
 obtain ⟨es, he, ha, hk⟩ := h1.entries Kl.lawD
 subst he
 have h3 := holdsE_size h2 ha hk
 obtain ⟨fs, clock, hb, F, hs, hD⟩ := h1
 refine ⟨fs, clock, hb, F, ?_, hD⟩
 have h4 : es.length = fs.size := by
   injection hD with hD
   rw [hD, length_sorted]
   simp
 omega
theorem MapE.perm {w : World} {b : Nat} {L M : List Ev.EV} (h : MapE w b L) (hp : L.Perm M) : MapE w b M := by
 obtain ⟨D, h1, h2⟩ := h
 exact mapE_of h1 (h2.perm hp)
theorem MapE.lt {w : World} {b : Nat} {L : List Ev.EV} (h : MapE w b L) : b < w.heap.size := by
 obtain ⟨D, h1, _⟩ := h
 exact h1.lt
theorem MapE.fit {w : World} {b : Nat} {L : List Ev.EV} (h : MapE w b L) : ∀ p ∈ L, FitD (dotV p) := by
 obtain ⟨D, _, h1⟩ := h
 exact h1.fit
theorem MapE.apart {w : World} {b : Nat} {L : List Ev.EV} (h : MapE w b L) : L.Pairwise (fun p q => dotV p ≠ dotV q) := by
 obtain ⟨D, _, h1⟩ := h
 exact h1.apart
theorem MapE.at_block {w W : World} {b : Nat} {L : List Ev.EV} (h : MapE w b L) (hb : W.heap[b]? = w.heap[b]?) : MapE W b L := by
 obtain ⟨D, ⟨es, clock, h1, h2⟩, h3⟩ := h
 exact ⟨D, ⟨es, clock, hb.trans h1, h2⟩, h3⟩
theorem MapE.up {w W : World} {b : Nat} {L : List Ev.EV} (h : MapE w b L) (hW : Below w.heap.size w W) : MapE W b L := h.at_block (hW.block b h.lt)
theorem MapE.kept {w W : World} {b : Nat} {L : List Ev.EV} {row : Option Nat} (h : MapE w b L) (hg : w.grownBy W row) (hne : some b ≠ row) : MapE W b L := h.at_block (hg.block b h.lt hne)
theorem mapE_new (w : World) : MapE (w.alloc (.map #[] 0)) w.heap.size [] := ⟨.map [], World.ownsMap_made _ _ _ _, holdsE_nil⟩
theorem MapE.nocell {w : World} {b : Nat} {L : List Ev.EV} (h : MapE w b L) (i : Nat) (u : Value) : w.cell? ⟨b, i, none⟩ ≠ some u := fun e => by
 obtain ⟨D, ⟨es, clock, h1, h2⟩, h3⟩ := h
 unfold World.cell? at e
 rw [h1] at e
 simp at e
theorem MapE.look {w : World} {b : Nat} {L : List Ev.EV} (h : MapE w b L) {p : Ev.EV} (hp : p ∈ L) {z : Value} (hz : (zeroValue 38).run Tryz.prog w = .ok z w) (hzd : ∃ q : Ev.EV, z = q.val) :
   (Instr.lookup 82 (.map (some b)) (.agg #[.int .u16 (p.dev : Int), .int .u64 (p.num : Int)]) false).run Tryz.prog w = .ok p.val w := by
 obtain ⟨D, h1, h2⟩ := h
 obtain ⟨q, rfl⟩ := hzd
 obtain ⟨v, ps, hrun, hv⟩ := h1.lookup Kl.lawD Tryz.underlying82 hz (elemE_val q) (Kl.keyD_is (h2.fit p hp))
 rw [show Kl.keyD (p.dev, p.num) = Kl.keyD (dotV p) from rfl, h2.at_ p hp] at hv
 obtain ⟨c, rfl, hc⟩ := elemE_inv hv
 have e : p = c := by
   have := congrArg Prod.fst hc
   injection this
 subst e
 exact hrun
end Go.Proofs.YtgaegfddobpomaaGreat.Bk

namespace Go.Proofs.YtgaegfddobpomaaGreat.Dt
open Go.ChangeShapes Go.WideShapes Go.ChangeAt Go.RowKit
set_option linter.unusedVariables false
theorem below_new2 (w : World) (o1 o2 : Obj) : Below w.heap.size w ((w.alloc o1).alloc o2) := (below_new w o1).alloc (below_new w o1).size o2
def FitD (d : Dot) : Prop := d.1 < 65536 ∧ d.2 < 18446744073709551616
theorem pgood_any (w : World) (a n : Nat) :
   Calls Tryz.prog 87 #[.agg #[.int .u16 (a : Int), .int .u64 (n : Int)]] w fun e w' => e = .returned (.bool (mayD (a, n))) ∧ Below w.heap.size w w' := by
 have HB : Hid (Below w.heap.size w (w.alloc (.cells #[.int .u16 (a : Int), .int .u64 (n : Int)] 35))) := below_new w _
 by_cases c1 : 1 ≤ a
 · have d1 : ((a : Int) != 0) = true := by rw [bne_iff_ne]; omega
   by_cases c2 : 1 ≤ n
   · have d2 : ((n : Int) != 0) = true := by rw [bne_iff_ne]; omega
     have hd : mayD (a, n) = decide ((n : Int) ≤ 281474976710655) := decide_eq_decide.2 ⟨fun h => by have := h.2.2; simp at this; omega, fun h => ⟨c1, c2, by simp; omega⟩⟩
     rw [hd]
     clear hd
     go_enter Tryz.func87, Tryz.ntmps87
     go_wp2
     go_ret
     exact ⟨rfl, HB.out⟩
   · have hd : mayD (a, n) = false := decide_eq_false (fun h => c2 h.2.1)
     have d2 : ((n : Int) != 0) = false := by rw [bne_eq_false_iff_eq]; omega
     rw [hd]
     clear hd
     go_enter Tryz.func87, Tryz.ntmps87
     go_wp2
     go_ret
     exact ⟨rfl, HB.out⟩
 · have hd : mayD (a, n) = false := decide_eq_false (fun h => c1 h.1)
   have d1 : ((a : Int) != 0) = false := by rw [bne_eq_false_iff_eq]; omega
   rw [hd]
   clear hd
   go_enter Tryz.func87, Tryz.ntmps87
   go_wp2
   go_ret
   exact ⟨rfl, HB.out⟩
def two (w : World) (a b : Dot) : World := (w.alloc (.cells #[.int .u16 (a.1 : Int), .int .u64 (a.2 : Int)] 35)).alloc (.cells #[.int .u16 (b.1 : Int), .int .u64 (b.2 : Int)] 35)
theorem pahead_two (w : World) (a b : Dot) :
   Calls Tryz.prog 147 #[.agg #[.int .u16 (a.1 : Int), .int .u64 (a.2 : Int)], .agg #[.int .u16 (b.1 : Int), .int .u64 (b.2 : Int)]] w fun e w' => e = .returned (.bool (aheadD a b)) ∧ w' = two w a b := by
 obtain ⟨a1, a2⟩ := a
 obtain ⟨b1, b2⟩ := b
 by_cases h1 : a1 = b1
 · subst h1
   have hd : aheadD (a1, a2) (a1, b2) = decide (a2 < b2) := decide_eq_decide.2 ⟨fun h => by simp at h; omega, fun h => .inr ⟨rfl, by simp; omega⟩⟩
   rw [hd]
   clear hd
   go_enter Tryz.func147, Tryz.ntmps147
   go_wp2
   go_ret
   exact ⟨rfl, rfl⟩
 · have e1 : ((a1 : Int) != (b1 : Int)) = true := by rw [bne_iff_ne]; omega
   have hd : aheadD (a1, a2) (b1, b2) = decide (a1 < b1) := decide_eq_decide.2 ⟨fun h => by simp at h; omega, fun h => .inl (by simp; omega)⟩
   rw [hd]
   clear hd
   go_enter Tryz.func147, Tryz.ntmps147
   go_wp2
   go_ret
   exact ⟨rfl, rfl⟩
theorem pahead_any (w : World) (a b : Dot) :
   Calls Tryz.prog 147 #[.agg #[.int .u16 (a.1 : Int), .int .u64 (a.2 : Int)], .agg #[.int .u16 (b.1 : Int), .int .u64 (b.2 : Int)]] w fun e w' => e = .returned (.bool (aheadD a b)) ∧ Below w.heap.size w w' :=
 (pahead_two w a b).mono fun _ _ ⟨h1, h2⟩ => ⟨h1, by rw [h2]; exact below_new2 w _ _⟩
def Left (w : World) (a b : Dot) (w' : World) : Prop := w' = two w a b ∨ w' = two (two w a b) a b
theorem pcmp_left (w : World) (a b : Dot) :
   Calls Tryz.prog 134 #[.agg #[.int .u16 (a.1 : Int), .int .u64 (a.2 : Int)], .agg #[.int .u16 (b.1 : Int), .int .u64 (b.2 : Int)]] w fun e w' => e = .returned (.int .i64 (cmpD a b)) ∧ Left w a b w' := by
 have CA := fun W => pahead_two W a b
 obtain ⟨a1, a2⟩ := a
 obtain ⟨b1, b2⟩ := b
 by_cases h : a1 = b1 ∧ a2 = b2
 · obtain ⟨rfl, rfl⟩ := h
   clear CA
   rw [cmp_same]
   go_enter Tryz.func134, Tryz.ntmps134
   go_wp2
   go_ret
   exact ⟨rfl, .inl rfl⟩
 · have hc : cmpD (a1, a2) (b1, b2) = if aheadD (a1, a2) (b1, b2) = true then -1 else 1 := if_neg (fun e => h (by cases e; exact ⟨rfl, rfl⟩))
   rw [hc]
   clear hc
   have hne : ((a1 : Int) == (b1 : Int)) = false ∨ (a1 = b1 ∧ ((a2 : Int) == (b2 : Int)) = false) := by
     by_cases e : a1 = b1
     · refine .inr ⟨by omega, ?_⟩; rw [beq_eq_false_iff_ne]; omega
     · refine .inl ?_; rw [beq_eq_false_iff_ne]; omega
   clear h
   rcases hne with q | ⟨rfl, q⟩
   all_goals
     generalize aheadD _ _ = ah at CA ⊢
     cases ah
     all_goals
       go_enter Tryz.func134, Tryz.ntmps134
       go_wp2_with fail
       refine (CA _).mono ?_
       rintro e w1 ⟨rfl, rfl⟩
       go_wp2
       go_ret
       exact ⟨rfl, .inr rfl⟩
theorem low_any (v : Int) (w : World) (h0 : 0 ≤ v) (h1 : v < 18446744073709551616) :
   Calls Tryz.prog 155 #[.int .u64 v] w fun e w' => e = .returned (.int .u64 (v % 281474976710656)) ∧ w' = w := by
 go_enter Tryz.func155, Tryz.ntmps155
 go_wp2
 go_ret
 exact ⟨ret_int (by rw [IntKind.wrap_u64]; omega), rfl⟩
theorem ssplit_any (v : Int) (w : World) (h0 : 0 ≤ v) (h1 : v < 18446744073709551616) :
   Calls Tryz.prog 123 #[.int .u64 v] w fun e w' => e = .returned (.tuple #[.int .u16 (v / 281474976710656), .int .u64 (v % 281474976710656)]) ∧ w' = w := by
 go_enter Tryz.func123, Tryz.ntmps123
 go_wp2_with (go_at_call 155; refine (low_any _ _ (by omega) (by omega)).mono ?_; rintro e w' ⟨rfl, rfl⟩)
 go_ret2
 exact ⟨rfl, rfl⟩
def keepD (d : Dot) : Dot × Bool := if mayD d = true then (d, true) else ((0, 0), false)
theorem new_cells (w : World) : ∀ V, Below (w.alloc (.cells #[.int .u16 0, .int .u64 0] 35)).heap.size (w.alloc (.cells #[.int .u16 0, .int .u64 0] 35)) V → (V.cell? ⟨w.heap.size, 0, none⟩ = some (.int .u16 0) ∧ V.cell? ⟨w.heap.size, 1, none⟩ = some (.int .u64 0)) ∧ V.frozen? ⟨w.heap.size, 0, none⟩ = false ∧ V.frozen? ⟨w.heap.size, 1, none⟩ = false := by
 intro V hV
 have hc1 : (w.alloc (.cells #[.int .u16 0, .int .u64 0] 35)).cell? ⟨w.heap.size, 0, none⟩ = some (.int .u16 0) := by simp [go_sem]
 have hc2 : (w.alloc (.cells #[.int .u16 0, .int .u64 0] 35)).cell? ⟨w.heap.size, 1, none⟩ = some (.int .u64 0) := by simp [go_sem]
 exact ⟨⟨(hV.cell (World.block_lt_of_cell? _ _ hc1)).trans hc1, (hV.cell (World.block_lt_of_cell? _ _ hc2)).trans hc2⟩, (hV.frozen (World.block_lt_of_cell? _ _ hc1)).trans (World.frozen?_alloc_new _ _ _ _), (hV.frozen (World.block_lt_of_cell? _ _ hc2)).trans (World.frozen?_alloc_new _ _ _ _)⟩
theorem pif_any (w : World) (d : Dot) :
   Calls Tryz.prog 124 #[.agg #[.int .u16 (d.1 : Int), .int .u64 (d.2 : Int)]] w fun e w' => e = .returned (.tuple #[.agg #[.int .u16 ((keepD d).1.1 : Int), .int .u64 ((keepD d).1.2 : Int)], .bool (keepD d).2]) ∧ Below w.heap.size w w' := by
 obtain ⟨a, n⟩ := d
 have CG := fun W => pgood_any W a n
 have HB : Hid (Below w.heap.size w ((w.alloc (.cells #[.int .u16 (a : Int), .int .u64 (n : Int)] 35)).alloc (.cells #[.int .u16 0, .int .u64 0] 35))) := below_new2 w _ _
 have hd0 : ∀ V, Below ((w.alloc (.cells #[.int .u16 (a : Int), .int .u64 (n : Int)] 35)).alloc (.cells #[.int .u16 0, .int .u64 0] 35)).heap.size ((w.alloc (.cells #[.int .u16 (a : Int), .int .u64 (n : Int)] 35)).alloc (.cells #[.int .u16 0, .int .u64 0] 35)) V → V.cell? ⟨w.heap.size, 0, none⟩ = some (.int .u16 (a : Int)) ∧ V.cell? ⟨w.heap.size, 1, none⟩ = some (.int .u64 (n : Int)) := fun V hV => by
   have hc1 : ((w.alloc (.cells #[.int .u16 (a : Int), .int .u64 (n : Int)] 35)).alloc (.cells #[.int .u16 0, .int .u64 0] 35)).cell? ⟨w.heap.size, 0, none⟩ = some (.int .u16 (a : Int)) := by simp [go_sem]
   have hc2 : ((w.alloc (.cells #[.int .u16 (a : Int), .int .u64 (n : Int)] 35)).alloc (.cells #[.int .u16 0, .int .u64 0] 35)).cell? ⟨w.heap.size, 1, none⟩ = some (.int .u64 (n : Int)) := by simp [go_sem]
   exact ⟨(hV.cell (World.block_lt_of_cell? _ _ hc1)).trans hc1, (hV.cell (World.block_lt_of_cell? _ _ hc2)).trans hc2⟩
 have HC := Lib.hid hd0
 have HN := Lib.hid (new_cells (w.alloc (.cells #[.int .u16 (a : Int), .int .u64 (n : Int)] 35)))
 have hs : (w.alloc (.cells #[.int .u16 (a : Int), .int .u64 (n : Int)] 35)).heap.size = w.heap.size + 1 := by simp
 rw [hs] at HN
 clear hd0 hs
 unfold keepD
 cases hm : mayD (a, n) with
 | true =>
   rw [hm] at CG
   rw [if_pos rfl]
   clear hm
   go_enter Tryz.func124, Tryz.ntmps124
   go_wp2_with fail
   refine (CG _).mono ?_
   rintro e w1 ⟨rfl, hb1⟩
   obtain ⟨x1, x2⟩ := HC.out _ hb1
   obtain ⟨⟨y1, y2⟩, z1, z2⟩ := HN.out _ hb1
   have HB1 : Hid (Below w.heap.size w w1) := HB.out.trans (hb1.mono HB.out.size)
   clear hb1 CG HC HN
   go_wp2
   refine bodyPost_ret (v := .tuple #[.agg #[.int .u16 (a : Int), .int .u64 (n : Int)], .bool true]) ?_ rfl ?_
   · simp [results, Tryz.f124, go_sem, y1, y2]
   · exact ⟨rfl, (HB1.out.setCell (by simp) _).setCell (by simp) _⟩
 | false =>
   rw [hm] at CG
   rw [if_neg (by simp)]
   clear hm
   go_enter Tryz.func124, Tryz.ntmps124
   go_wp2_with fail
   refine (CG _).mono ?_
   rintro e w1 ⟨rfl, hb1⟩
   obtain ⟨⟨y1, y2⟩, z1, z2⟩ := HN.out _ hb1
   have HB1 : Hid (Below w.heap.size w w1) := HB.out.trans (hb1.mono HB.out.size)
   clear hb1 CG HC HN
   go_wp2
   refine bodyPost_ret (v := .tuple #[.agg #[.int .u16 0, .int .u64 0], .bool false]) ?_ rfl ?_
   · simp [results, Tryz.f124, go_sem, y1, y2]
   · exact ⟨rfl, (HB1.out.setCell (by simp) _).setCell (by simp) _⟩
theorem punpack_any (w : World) (v : Nat) (h1 : v < 18446744073709551616) :
   Calls Tryz.prog 86 #[.int .u64 (v : Int)] w fun e w' => e = .returned (.tuple #[.agg #[.int .u16 ((unpackD v).1.1 : Int), .int .u64 ((unpackD v).1.2 : Int)], .bool (unpackD v).2]) ∧ Below w.heap.size w w' := by
 have hk : unpackD v = keepD (splitD v) := rfl
 rw [hk]
 have CS := fun W => ssplit_any (v : Int) W (by omega) (by omega)
 have e1 : (v : Int) / 281474976710656 = ((splitD v).1 : Int) := by unfold splitD; simp only; omega
 have e2 : (v : Int) % 281474976710656 = ((splitD v).2 : Int) := by unfold splitD; simp only; omega
 have CI := fun W => pif_any W (splitD v)
 rw [e1, e2] at CS
 clear hk e1 e2 h1
 generalize keepD (splitD v) = u at CI ⊢
 generalize ((splitD v).1 : Int) = x at CS CI
 generalize ((splitD v).2 : Int) = y at CS CI
 go_enter Tryz.func86, Tryz.ntmps86
 go_wp2_with fail
 refine (CS _).mono ?_
 rintro e w1 ⟨rfl, rfl⟩
 go_wp2_with fail
 refine (CI _).mono ?_
 rintro e w2 ⟨rfl, hb2⟩
 have HB2 : Hid (Below w.heap.size w w2) := (below_new w _).trans (hb2.mono (below_new w _).size)
 obtain ⟨⟨y1, y2⟩, z1, z2⟩ := new_cells w _ hb2
 clear hb2
 go_wp2
 refine bodyPost_ret (v := .tuple #[.agg #[.int .u16 (u.1.1 : Int), .int .u64 (u.1.2 : Int)], .bool u.2]) ?_ rfl ?_
 · simp [results, Tryz.f86, go_sem, y1, y2]
 · exact ⟨rfl, (HB2.out.setCell (by simp) _).setCell (by simp) _⟩
theorem pequal_any (w : World) (B1 B2 : Nat) (A1 A2 : Option Addr) (l1 l2 : List Dot) (n1 n2 c1 c2 : Nat) (e1 : l1.length = n1) (e2 : l2.length = n2) (h1 : Dots w B1 A1 l1) (h2 : Dots w B2 A2 l2) (h63 : n1 ≤ 9223372036854775807) :
   Calls Tryz.prog 168 #[.slice A1 n1 c1, .slice A2 n2 c2] w fun e w' => e = .returned (.bool (decide (l1 = l2))) ∧ ∃ m, w' = w.drewN m := by
 have H1 := Lib.hid h1
 have H2 := Lib.hid h2
 have E1 := Lib.hid e1
 have E2 := Lib.hid e2
 clear h1 h2 e1 e2
 by_cases hn : n1 = n2
 · subst hn
   go_enter Tryz.func168, Tryz.ntmps168
   go_wp2
   go_loopw [13] (fun i wr => ∃ k : Nat, k ≤ n1 ∧ i = .int .i64 (k : Int) ∧ l1.take k = l2.take k ∧ ∃ m, wr = w.drewN m) (fun i _ => n1 - (intOf i).toNat)
   case atStart => exact ⟨0, Nat.zero_le _, rfl, by simp, 0, rfl⟩
   case round =>
     obtain ⟨k, hk, rfl, ht, m, rfl⟩ := hrel
     have HT := Lib.hid ht
     clear ht
     by_cases hlt : k < n1
     · obtain ⟨a1, x1, x2, rfl, hlx, hx1, hx2, hc1, hc2⟩ := H1.out.at_ (k := k) (by rw [E1.out]; exact hlt)
       obtain ⟨a2, y1, y2, rfl, hly, hy1, hy2, hd1, hd2⟩ := H2.out.at_ (k := k) (by rw [E2.out]; exact hlt)
       have hc3 : w.cell? ⟨(a1.add (k * 2)).block, (a1.add (k * 2)).off + 1, none⟩ = some (.int .u64 (x2 : Int)) := by rw [add_next]; exact hc2
       have hd3 : w.cell? ⟨(a2.add (k * 2)).block, (a2.add (k * 2)).off + 1, none⟩ = some (.int .u64 (y2 : Int)) := by rw [add_next]; exact hd2
       have LX := Lib.hid hlx
       have LY := Lib.hid hly
       clear hlx hly hc2 hd2
       by_cases hxy : x1 = y1 ∧ x2 = y2
       · obtain ⟨rfl, rfl⟩ := hxy
         have hs := Lib.hid (take_more HT.out LX.out LY.out)
         go_wp2_with fail
         go_quiet (fail)
         go_wp2
         go_roundw
         case rel => exact ⟨k + 1, by omega, by go_num, hs.out, _, rfl⟩
         case measure => simp [intOf]; omega
       · have hd : Hid (decide (l1 = l2) = false) := decide_eq_false (ne_at LX.out LY.out (fun e => hxy (by cases e; exact ⟨rfl, rfl⟩)))
         by_cases hx : x1 = y1
         · subst hx
           have hx2' : ¬ x2 = y2 := fun e => hxy ⟨rfl, e⟩
           have hb2 : ((x2 : Int) == (y2 : Int)) = false := by rw [beq_eq_false_iff_ne]; omega
           clear hxy
           go_wp2_with fail
           go_quiet (fail)
           go_wp2
           go_ret
           exact ⟨ret_bool hd.out.symm, _, World.drewN_drewN ..⟩
         · have hb2 : ((x1 : Int) == (y1 : Int)) = false := by rw [beq_eq_false_iff_ne]; omega
           clear hxy
           go_wp2_with fail
           go_quiet (fail)
           go_wp2
           go_ret
           exact ⟨ret_bool hd.out.symm, _, World.drewN_drewN ..⟩
     · obtain rfl : k = n1 := by omega
       have hd : Hid (l1 = l2) := by
         have h := HT.out
         rw [List.take_of_length_le (by rw [E1.out]; exact Nat.le_refl _), List.take_of_length_le (by rw [E2.out]; exact Nat.le_refl _)] at h
         exact h
       go_wp2
       go_ret
       exact ⟨ret_bool (by rw [decide_eq_true hd.out]), m, rfl⟩
 · have hd : Hid (decide (l1 = l2) = false) := decide_eq_false (fun e => hn (by rw [← E1.out, ← E2.out, e]))
   have hne : ((n1 : Int) != (n2 : Int)) = true := by rw [bne_iff_ne]; omega
   go_enter Tryz.func168, Tryz.ntmps168
   go_wp2
   go_ret
   exact ⟨ret_bool hd.out.symm, 0, rfl⟩
theorem psame_any (w : World) (B1 B2 : Nat) (A1 A2 : Option Addr) (l1 l2 : List Dot) (n1 n2 c1 c2 : Nat) (e1 : l1.length = n1) (e2 : l2.length = n2) (h1 : Dots w B1 A1 l1) (h2 : Dots w B2 A2 l2) (h63 : n1 ≤ 9223372036854775807) :
   Calls Tryz.prog 143 #[.slice A1 n1 c1, .slice A2 n2 c2] w fun e w' => e = .returned (.bool (decide (l1 = l2))) ∧ Below w.heap.size w w' := by
 have CE := pequal_any w B1 B2 A1 A2 l1 l2 n1 n2 c1 c2 e1 e2 h1 h2 h63
 generalize decide (l1 = l2) = b at CE ⊢
 clear e1 e2 h1 h2 h63
 go_enter Tryz.func143, Tryz.ntmps143
 go_wp2_with fail
 refine CE.mono ?_
 rintro e w1 ⟨rfl, m, rfl⟩
 have HB := Lib.hid (bel_drewN (Below.refl w.heap.size w) m)
 go_wp2
 go_ret
 exact ⟨rfl, HB.out⟩
theorem pahead_later (w W : World) (a b : Dot) (hW : Below w.heap.size w W) :
   Calls Tryz.prog 147 #[.agg #[.int .u16 (a.1 : Int), .int .u64 (a.2 : Int)], .agg #[.int .u16 (b.1 : Int), .int .u64 (b.2 : Int)]] W fun e V => e = .returned (.bool (aheadD a b)) ∧ Below w.heap.size w V :=
 (pahead_any W a b).mono fun _ _ ⟨h1, h2⟩ => ⟨h1, hW.trans (h2.mono hW.size)⟩
theorem one_dot' (w : World) (d : Dot) : ∀ V, Below (w.alloc (.cells #[.int .u16 (d.1 : Int), .int .u64 (d.2 : Int)] 35)).heap.size (w.alloc (.cells #[.int .u16 (d.1 : Int), .int .u64 (d.2 : Int)] 35)) V → V.cell? ⟨w.heap.size, 0, none⟩ = some (.int .u16 (d.1 : Int)) ∧ V.cell? ⟨w.heap.size, 1, none⟩ = some (.int .u64 (d.2 : Int)) := by
 intro V hV
 have hc1 : (w.alloc (.cells #[.int .u16 (d.1 : Int), .int .u64 (d.2 : Int)] 35)).cell? ⟨w.heap.size, 0, none⟩ = some (.int .u16 (d.1 : Int)) := by simp [go_sem]
 have hc2 : (w.alloc (.cells #[.int .u16 (d.1 : Int), .int .u64 (d.2 : Int)] 35)).cell? ⟨w.heap.size, 1, none⟩ = some (.int .u64 (d.2 : Int)) := by simp [go_sem]
 exact ⟨(hV.cell (World.block_lt_of_cell? _ _ hc1)).trans hc1, (hV.cell (World.block_lt_of_cell? _ _ hc2)).trans hc2⟩
theorem rise_one (l : List Dot) (k : Nat) (h : k ≤ 1) : riseB (l.take k) = true := by
 rcases l with _ | ⟨a, l⟩
 · simp [riseB]
 · obtain rfl | rfl : k = 0 ∨ k = 1 := by omega
   · rfl
   · simp [riseB]
set_option maxHeartbeats 4000000 in
theorem prising_any (w : World) (A : Option Addr) (l : List Dot) (n c : Nat) (e1 : l.length = n) (h1 : Dots w w.heap.size A l) (h63 : n ≤ 9223372036854775806) :
   Calls Tryz.prog 111 #[.slice A n c] w fun e w' => e = .returned (.bool (riseB l)) ∧ Below w.heap.size w w' := by
 have H1 := Lib.hid h1
 have E1 := Lib.hid e1
 clear h1 e1
 go_enter Tryz.func111, Tryz.ntmps111
 go_wp2
 go_loopw [7] (fun i wr => ∃ j : Nat, i = .int .i64 (j : Int) ∧ j ≤ n ∧ riseB (l.take j) = true ∧ Below w.heap.size w wr) (fun i _ => n - (intOf i).toNat)
 case atStart => exact ⟨0, rfl, Nat.zero_le _, by simp [riseB], Below.refl _ _⟩
 case round =>
   obtain ⟨j, rfl, hj, ht, hw⟩ := hrel
   have HT := Lib.hid ht
   have HW := Lib.hid hw
   clear ht hw
   by_cases hlt : j < n
   · obtain ⟨ad, y, rfl, hB, hly, hy1, hy2, hcy⟩ := H1.out.cells (k := j) (by rw [E1.out]; omega)
     obtain ⟨d1, d2⟩ := hcy wr HW.out
     obtain ⟨y1, y2⟩ := y
     have HX := Lib.hid (one_dot' wr (y1, y2))
     have HB4 : Hid (Below w.heap.size w (wr.alloc (.cells #[.int .u16 (y1 : Int), .int .u64 (y2 : Int)] 35))) := HW.out.trans ((below_new _ _).mono HW.out.size)
     obtain rfl | ⟨i, rfl⟩ : j = 0 ∨ ∃ i, j = i + 1 := by
       rcases j with _ | i
       · exact .inl rfl
       · exact .inr ⟨i, rfl⟩
     · have e0 : ad.add (0 * 2) = ad := by unfold Addr.add; simp
       rw [e0] at d1 d2
       clear hcy e0 hy1 hy2 HX
       have hr := Lib.hid (rise_one l 1 (Nat.le_refl _))
       go_wp2_with fail
       go_quiet (fail)
       go_wp2
       go_roundw
       case rel => exact ⟨1, by go_num, by omega, hr.out, bel_drewN HB4.out _⟩
       case measure => simp [intOf]; omega
     · obtain ⟨ad', x, e', _, hlx, hx1, hx2, hcx⟩ := H1.out.cells (k := i) (by rw [E1.out]; omega)
       obtain rfl : ad = ad' := Option.some.inj e'
       obtain ⟨x1, x2⟩ := x
       have R2 := riseB_two hlx hly
       rw [HT.out, Bool.true_and] at R2
       have RR := Lib.hid R2
       clear e' R2 hlx hly hx1 hx2 hy1 hy2
       have HC : Hid (∀ V, Below (wr.alloc (.cells #[.int .u16 (y1 : Int), .int .u64 (y2 : Int)] 35)).heap.size (wr.alloc (.cells #[.int .u16 (y1 : Int), .int .u64 (y2 : Int)] 35)) V → (V.cell? (ad.add (i * 2)) = some (.int .u16 (x1 : Int)) ∧ V.cell? ⟨(ad.add (i * 2)).block, (ad.add (i * 2)).off + 1, none⟩ = some (.int .u64 (x2 : Int))) ∧ V.cell? ⟨wr.heap.size, 0, none⟩ = some (.int .u16 (y1 : Int)) ∧ V.cell? ⟨wr.heap.size, 1, none⟩ = some (.int .u64 (y2 : Int))) := fun V hV =>
         ⟨hcx V (HB4.out.trans (hV.mono HB4.out.size)), HX.out V hV⟩
       clear hcx hcy HX
       have s1 : IntKind.i64.wrap ((i : Int) + 1 - 1) = (i : Int) := by rw [IntWalk.i64_in _ (by omega)]; omega
       have s0 : IntKind.i64.wrap (i : Int) = (i : Int) := IntWalk.i64_in _ (by omega)
       have s2 : (0 : Int) < (i : Int) + 1 := by omega
       have s3 : (0 : Int) ≤ (i : Int) := by omega
       have s4 : ((i : Int) + 1).toNat = i + 1 := by omega
       have s5 : (i : Int) < (n : Int) := by omega
       have s6 : (i : Int) + 1 < (n : Int) := by omega
       have s7 : (0 : Int) ≤ (i : Int) + 1 := by omega
       go_wp2_with fail
       generalize wr.alloc (.cells #[.int .u16 (y1 : Int), .int .u64 (y2 : Int)] 35) = W4 at HC HB4 ⊢
       obtain ⟨⟨f1, f2⟩, f3, f4⟩ := HC.out W4 (Below.refl _ _)
       go_region_held3 (fun V => (V.cell? (ad.add (i * 2)) = some (.int .u16 (x1 : Int)) ∧ V.cell? ⟨(ad.add (i * 2)).block, (ad.add (i * 2)).off + 1, none⟩ = some (.int .u64 (x2 : Int))) ∧ V.cell? ⟨wr.heap.size, 0, none⟩ = some (.int .u16 (y1 : Int)) ∧ V.cell? ⟨wr.heap.size, 1, none⟩ = some (.int .u64 (y2 : Int))) (first | exact ⟨⟨f1, f2⟩, f3, f4⟩ | assumption | exact HC.out _ (by (repeat (first | exact Below.refl _ _ | assumption | apply bel_drew)))) (first
         | (go_at_call 147; (with_reducible refine (pahead_later W4 _ (x1, x2) (y1, y2) ?_).mono ?_); (repeat (first | exact Below.refl _ _ | assumption | apply bel_drew)); rintro e V ⟨rfl, bv⟩; have hcV := HC.out V bv))
       all_goals
         have HV : Hid (Below w.heap.size w V) := HB4.out.trans (bv.mono HB4.out.size)
         clear hcV bv f1 f2 f3 f4 s1 s0
         cases ha : aheadD (x1, x2) (y1, y2) with
         | true =>
           rw [ha] at RR
           clear ha s2 s3 s4 s5 s6
           go_wp2
           go_roundw
           case rel => exact ⟨i + 2, by go_num, by omega, RR.out, HV.out⟩
           case measure => simp [intOf]; omega
         | false =>
           rw [ha] at RR
           have hf : Hid (riseB l = false) := Lib.hid (by
             cases hr : riseB l with
             | false => rfl
             | true =>
               have := riseB_part (l.take (i + 2)) (l.drop (i + 2)) (by rw [List.take_append_drop]; exact hr)
               rw [RR.out] at this
               exact absurd this (by simp))
           clear ha s2 s3 s4 s5 s6
           go_wp2
           go_ret
           exact ⟨ret_bool hf.out.symm, HV.out⟩
   · have hf : Hid (riseB l = true) := Lib.hid (by
       have := HT.out
       rw [List.take_of_length_le (by rw [E1.out]; omega)] at this
       exact this)
     go_wp2
     go_ret
     exact ⟨ret_bool hf.out.symm, HW.out⟩
end Go.Proofs.YtgaegfddobpomaaGreat.Dt
