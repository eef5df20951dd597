/- Words and contracts that the proofs of this seat stand on, part 23 of 39. -/
import Derived.Test.YtgaegfddobpomaaGreatOrV
import Derived.Test.YtgaegfddobpomaaGreatOrO
import Derived.Test.YtgaegfddobpomaaGreatOrN
import Derived.Shelf.SlMaps.Clone
import Derived.Shelf.SlSortCmp.WholeK
import Derived.Test.YtgaegfddobpomaaGreatProg
import Derived.Test.YtgaegfddobpomaaGreatOrK
import Derived.Test.YtgaegfddobpomaaGreatOrE

namespace Go.Proofs.YtgaegfddobpomaaGreat.Bk
open Go.ChangeShapes Go.WideShapes Go.ChangeAt Go.RowKit Go.Proofs.YtgaegfddobpomaaGreat.Kl Go.Maps
set_option linter.unusedVariables false
set_option maxRecDepth 4000
/-! Lists of events in memory, in another order, or in part. -/
theorem match_cons {w : World} {B : Nat} {p : Ev.EV} {ps : List Ev.EV} {x : Ev.Evt} {l : List Ev.Evt} : Ev.Match w B (p :: ps) (x :: l) ↔ Ev.EventIs w B p x ∧ Ev.Match w B ps l := by
 constructor
 · intro h
   refine ⟨h.2 0 p x rfl rfl, by have := h.1; simpa using this, fun k q y hq hy => h.2 (k + 1) q y hq hy⟩
 · rintro ⟨h1, h2⟩
   refine ⟨by simp [h2.1], fun k q y hq hy => ?_⟩
   cases k with
   | zero => cases hq; cases hy; exact h1
   | succ k => exact h2.2 k q y hq hy
theorem match_perm {w : World} {B : Nat} {l m : List Ev.Evt} (hp : l.Perm m) : ∀ {ps : List Ev.EV}, Ev.Match w B ps l → ∃ qs, ps.Perm qs ∧ Ev.Match w B qs m := by
 induction hp with
 | nil => intro ps h; exact ⟨ps, List.Perm.refl _, h⟩
 | cons x _ ih =>
   intro ps h
   cases ps with
   | nil => have := h.1; simp at this
   | cons p ps =>
     obtain ⟨h1, h2⟩ := match_cons.1 h
     obtain ⟨qs, h3, h4⟩ := ih h2
     exact ⟨p :: qs, h3.cons _, match_cons.2 ⟨h1, h4⟩⟩
 | swap x y l =>
   intro ps h
   match ps, h with
   | [], h => have := h.1; simp at this
   | [_], h => have := h.1; simp at this
   | p :: q :: ps, h =>
     obtain ⟨h1, h2⟩ := match_cons.1 h
     obtain ⟨h3, h4⟩ := match_cons.1 h2
     exact ⟨q :: p :: ps, List.Perm.swap _ _ _, match_cons.2 ⟨h3, match_cons.2 ⟨h1, h4⟩⟩⟩
 | trans _ _ ih1 ih2 =>
   intro ps h
   obtain ⟨qs, h1, h2⟩ := ih1 h
   obtain ⟨rs, h3, h4⟩ := ih2 h2
   exact ⟨rs, h1.trans h3, h4⟩
theorem match_turn {w : World} {B : Nat} {ps qs : List Ev.EV} (hp : ps.Perm qs) : ∀ {l : List Ev.Evt}, Ev.Match w B ps l → ∃ m, l.Perm m ∧ Ev.Match w B qs m := by
 induction hp with
 | nil => intro l h; exact ⟨l, List.Perm.refl _, h⟩
 | cons x _ ih =>
   intro l h
   cases l with
   | nil => have := h.1; simp at this
   | cons y l =>
     obtain ⟨h1, h2⟩ := match_cons.1 h
     obtain ⟨m, h3, h4⟩ := ih h2
     exact ⟨y :: m, h3.cons _, match_cons.2 ⟨h1, h4⟩⟩
 | swap x y ps =>
   intro l h
   match l, h with
   | [], h => have := h.1; simp at this
   | [_], h => have := h.1; simp at this
   | a :: b :: l, h =>
     obtain ⟨h1, h2⟩ := match_cons.1 h
     obtain ⟨h3, h4⟩ := match_cons.1 h2
     exact ⟨b :: a :: l, List.Perm.swap _ _ _, match_cons.2 ⟨h3, match_cons.2 ⟨h1, h4⟩⟩⟩
 | trans _ _ ih1 ih2 =>
   intro l h
   obtain ⟨m, h1, h2⟩ := ih1 h
   obtain ⟨n, h3, h4⟩ := ih2 h2
   exact ⟨n, h1.trans h3, h4⟩
theorem match_some {w : World} {B : Nat} {f : Ev.EV → Bool} {g : Ev.Evt → Bool} (hfg : ∀ p x, Ev.EventIs w B p x → f p = g x) : ∀ {ps : List Ev.EV} {l : List Ev.Evt}, Ev.Match w B ps l → Ev.Match w B (ps.filter f) (l.filter g)
 | [], [], h => h
 | [], _ :: _, h => by have := h.1; simp at this
 | _ :: _, [], h => by have := h.1; simp at this
 | p :: ps, x :: l, h => by
   obtain ⟨h1, h2⟩ := match_cons.1 h
   have ih := match_some hfg h2
   rw [List.filter_cons, List.filter_cons, hfg p x h1]
   by_cases hg : g x = true
   · rw [if_pos hg, if_pos hg]; exact match_cons.2 ⟨h1, ih⟩
   · rw [if_neg hg, if_neg hg]; exact ih
theorem match_off {w W : World} {F : Nat → Prop} (hS : NoNum w F) (hg : Off F w W) {ps : List Ev.EV} {l : List Ev.Evt} (h : Ev.Match w w.heap.size ps l) : Ev.Match W W.heap.size ps l := ⟨h.1, fun k p x hp hx => evt_off hS hg (h.2 k p x hp hx)⟩
theorem match_up {w W : World} (hb : Below w.heap.size w W) {ps : List Ev.EV} {l : List Ev.Evt} (h : Ev.Match w w.heap.size ps l) : Ev.Match W W.heap.size ps l := (h.below hb).more hb.size
theorem sort_set {l S : List Ev.Evt} (hS : Ev.OrdE S) (h : ∀ x, x ∈ l ↔ x ∈ S) : Ev.sortE l = S := by
 refine Ev.ord_uniq (Ev.sort_ord l) hS (fun x => ?_)
 rw [Ev.sort_mem]
 have huniq : ∀ y ∈ S, ∀ z ∈ S, y.dot = z.dot → y = z := fun y hy z hz hd => by
   rcases Decidable.em (y = z) with e | hne
   · exact e
   · have h1 : S.Pairwise (fun a b => a.dot ≠ b.dot) := hS.imp (fun {a b} h => Ev.ahead_ne h)
     have h2 : ∀ (T : List Ev.Evt), T.Pairwise (fun a b => a.dot ≠ b.dot) → y ∈ T → z ∈ T → y = z := by
       intro T hT
       induction T with
       | nil => intro hy; cases hy
       | cons t T ih =>
         obtain ⟨h3, h4⟩ := List.pairwise_cons.1 hT
         intro hy hz
         rcases List.mem_cons.1 hy with e1 | hy2
         · rcases List.mem_cons.1 hz with e2 | hz2
           · rw [e1, e2]
           · exact absurd hd (by rw [e1]; exact h3 z hz2)
         · rcases List.mem_cons.1 hz with e2 | hz2
           · exact absurd hd.symm (by rw [e2]; exact h3 y hy2)
           · exact ih h4 hy2 hz2
     exact h2 S h1 hy hz
 constructor
 · rintro ⟨j, hj, _⟩
   exact (h x).1 (List.mem_of_getElem? hj)
 · intro hx
   have hxl := (h x).2 hx
   obtain ⟨j, hj, he⟩ := List.getElem_of_mem hxl
   have hP : ∃ i : Nat, ∃ y : Ev.Evt, l[i]? = some y ∧ y.dot = x.dot := ⟨j, x, by rw [List.getElem?_eq_getElem hj, he], rfl⟩
   have hmin : ∀ n : Nat, (∃ i : Nat, i ≤ n ∧ ∃ y : Ev.Evt, l[i]? = some y ∧ y.dot = x.dot) → ∃ i : Nat, ∃ y : Ev.Evt, l[i]? = some y ∧ y.dot = x.dot ∧ ∀ (k : Nat) (z : Ev.Evt), k < i → l[k]? = some z → z.dot ≠ x.dot := by
     intro n
     induction n with
     | zero =>
       rintro ⟨i, hi, y, hy, hd⟩
       exact ⟨i, y, hy, hd, fun k z hk => by omega⟩
     | succ n ih =>
       rintro ⟨i, hi, y, hy, hd⟩
       by_cases hn : ∃ i : Nat, i ≤ n ∧ ∃ y : Ev.Evt, l[i]? = some y ∧ y.dot = x.dot
       · exact ih hn
       · exact ⟨i, y, hy, hd, fun k z hk hz hzd => hn ⟨k, by omega, z, hz, hzd⟩⟩
   obtain ⟨i0, y0, hy0, hd0⟩ := hP
   obtain ⟨i, y, hy, hd, hmn⟩ := hmin i0 ⟨i0, Nat.le_refl _, y0, hy0, hd0⟩
   have e : y = x := huniq y ((h y).1 (List.mem_of_getElem? hy)) x hx hd
   subst e
   exact ⟨i, hy, hmn⟩
/-! A book in memory. -/
theorem MapO.off {w W : World} {mo : Option Nat} {L : List Ev.EV} {G : Nat → Prop} (h : MapO w mo L) (ho : Off G w W) (hn : ∀ b, mo = some b → ¬ G b) : MapO W mo L := by
 rcases h with h | ⟨b, rfl, h⟩
 · exact .inl h
 · exact .inr ⟨b, rfl, h.at_block (ho.block b h.lt (hn b rfl))⟩
theorem MapO.lt {w : World} {mo : Option Nat} {L : List Ev.EV} (h : MapO w mo L) {b : Nat} (hb : mo = some b) : b < w.heap.size := by
 rcases h with ⟨h, _⟩ | ⟨c, h, h2⟩
 · rw [h] at hb; cases hb
 · rw [h] at hb; cases hb; exact h2.lt
theorem MapO.nocell {w : World} {mo : Option Nat} {L : List Ev.EV} (h : MapO w mo L) {b : Nat} (hb : mo = some b) (i : Nat) (u : Value) : w.cell? ⟨b, i, none⟩ ≠ some u := by
 rcases h with ⟨h, _⟩ | ⟨c, h, h2⟩
 · rw [h] at hb; cases hb
 · rw [h] at hb; cases hb; exact h2.nocell i u
theorem MapO.none_ (w : World) : MapO w none [] := .inl ⟨rfl, rfl⟩
theorem MapO.some_ {w : World} {b : Nat} {L : List Ev.EV} (h : MapE w b L) : MapO w (some b) L := .inr ⟨b, rfl, h⟩
def Own (p : Nat) (m1 m2 : Option Nat) (b : Nat) : Prop := b = p ∨ m1 = some b ∨ m2 = some b
structure BkMem (w : World) (p : Nat) (A : Option Addr) (n k : Nat) (m1 m2 : Option Nat) (L1 L2 : List Ev.EV) : Prop where
 at_ : At w p 84 #[.slice A n k, .map m1, .map m2]
 live : MapO w m1 L1
 tomb : MapO w m2 L2
 both : m1 = none ↔ m2 = none
 apart : ∀ b, m1 = some b → m2 ≠ some b
theorem BkMem.lt {w : World} {p : Nat} {A : Option Addr} {n k : Nat} {m1 m2 : Option Nat} {L1 L2 : List Ev.EV} (h : BkMem w p A n k m1 m2 L1 L2) {b : Nat} (hb : Own p m1 m2 b) : b < w.heap.size := by
 rcases hb with rfl | hb | hb
 · exact h.at_.lt
 · exact h.live.lt hb
 · exact h.tomb.lt hb
theorem BkMem.ne {w : World} {p : Nat} {A : Option Addr} {n k : Nat} {m1 m2 : Option Nat} {L1 L2 : List Ev.EV} (h : BkMem w p A n k m1 m2 L1 L2) : m1 ≠ some p ∧ m2 ≠ some p :=
 ⟨fun e => h.live.nocell e 0 _ (h.at_.cell 0), fun e => h.tomb.nocell e 0 _ (h.at_.cell 0)⟩
theorem BkMem.off {w W : World} {p : Nat} {A : Option Addr} {n k : Nat} {m1 m2 : Option Nat} {L1 L2 : List Ev.EV} {G : Nat → Prop} (h : BkMem w p A n k m1 m2 L1 L2) (ho : Off G w W) (hn : ∀ b, Own p m1 m2 b → ¬ G b) : BkMem W p A n k m1 m2 L1 L2 :=
 ⟨(ho.block p h.at_.lt (hn p (.inl rfl))).trans h.at_, h.live.off ho (fun b hb => hn b (.inr (.inl hb))), h.tomb.off ho (fun b hb => hn b (.inr (.inr hb))), h.both, h.apart⟩
theorem BkMem.up {w W : World} {p : Nat} {A : Option Addr} {n k : Nat} {m1 m2 : Option Nat} {L1 L2 : List Ev.EV} (h : BkMem w p A n k m1 m2 L1 L2) (hb : Below w.heap.size w W) : BkMem W p A n k m1 m2 L1 L2 := h.off (off_of (fun _ => False) hb) (fun _ _ hf => hf)
theorem BkMem.nonum {w : World} {p : Nat} {A : Option Addr} {n k : Nat} {m1 m2 : Option Nat} {L1 L2 : List Ev.EV} (h : BkMem w p A n k m1 m2 L1 L2) : NoNum w (Own p m1 m2) := fun b hb i u hu => by
 rcases hb with rfl | hb | hb
 · refine at_nonum h.at_ (fun v hv => ?_) _ rfl i u hu
   simp only [List.mem_toArray, List.mem_cons, List.not_mem_nil, or_false] at hv
   rcases hv with rfl | rfl | rfl <;> rfl
 · exact absurd hu (h.live.nocell hb i u)
 · exact absurd hu (h.tomb.nocell hb i u)
theorem BkMem.cells {w W : World} {p : Nat} {A : Option Addr} {n k : Nat} {m1 m2 : Option Nat} {L1 L2 : List Ev.EV} (h : BkMem w p A n k m1 m2 L1 L2) (hb : Below w.heap.size w W) : W.cell? ⟨p, 0, none⟩ = some (.slice A n k) ∧ W.cell? ⟨p, 1, none⟩ = some (.map m1) ∧ W.cell? ⟨p, 2, none⟩ = some (.map m2) :=
 ⟨(h.up hb).at_.cell 0, (h.up hb).at_.cell 1, (h.up hb).at_.cell 2⟩
theorem BkMem.frozen {w W : World} {p : Nat} {A : Option Addr} {n k : Nat} {m1 m2 : Option Nat} {L1 L2 : List Ev.EV} (h : BkMem w p A n k m1 m2 L1 L2) (hb : Below w.heap.size w W) (i : Nat) : W.frozen? ⟨p, i, none⟩ = false := (h.up hb).at_.frozen i
theorem BkMem.see {w : World} {p : Nat} {A A' : Option Addr} {n k n' k' : Nat} {m1 m2 : Option Nat} {L1 L2 : List Ev.EV} (h : BkMem w p A n k m1 m2 L1 L2) : BkMem (w.setCell ⟨p, 0, none⟩ (.slice A' n' k')) p A' n' k' m1 m2 L1 L2 := by
 have hne := h.ne
 exact ⟨h.at_.set 0 _, h.live.off (off_set w p 0 _) (fun b hb e => hne.1 (by rw [hb, e])), h.tomb.off (off_set w p 0 _) (fun b hb e => hne.2 (by rw [hb, e])), h.both, h.apart⟩
structure Turns (w : World) (p : Nat) (m1 m2 m1' m2' : Option Nat) (w' : World) : Prop where
 own : ∀ b, Own p m1' m2' b → Own p m1 m2 b ∨ w.heap.size ≤ b
 off : Off (Own p m1 m2) w w'
theorem Turns.refl (w : World) (p : Nat) (m1 m2 : Option Nat) : Turns w p m1 m2 m1 m2 w := ⟨fun _ h => .inl h, Off.refl _ _⟩
theorem Turns.below {w W : World} {p : Nat} {m1 m2 : Option Nat} (h : Below w.heap.size w W) : Turns w p m1 m2 m1 m2 W := ⟨fun _ h => .inl h, off_of _ h⟩
theorem Turns.trans {w V W : World} {p : Nat} {m1 m2 n1 n2 o1 o2 : Option Nat} (h : Turns w p m1 m2 n1 n2 V) (k : Turns V p n1 n2 o1 o2 W) : Turns w p m1 m2 o1 o2 W := by
 refine ⟨fun b hb => ?_, ?_⟩
 · rcases k.own b hb with h1 | h1
   · exact h.own b h1
   · exact .inr (Nat.le_trans h.off.size h1)
 · have h1 : Off (fun b => Own p m1 m2 b ∨ w.heap.size ≤ b) w V := h.off.more (fun _ _ hb => .inl hb)
   have h2 : Off (fun b => Own p m1 m2 b ∨ w.heap.size ≤ b) V W := k.off.more (fun b _ hb => h.own b hb)
   exact (h1.trans h2).more (fun b hlt hb => hb.elim id (fun h3 => by omega))
theorem Turns.set {w : World} {p : Nat} {m1 m2 : Option Nat} (i : Nat) (u : Value) : Turns w p m1 m2 m1 m2 (w.setCell ⟨p, i, none⟩ u) := ⟨fun _ h => .inl h, (off_set w p i u).more (fun b _ e => .inl e)⟩
theorem Turns.grown1 {w W : World} {p b : Nat} {m1 m2 : Option Nat} (hb : m1 = some b) (h : w.grownBy W (some b)) : Turns w p m1 m2 m1 m2 W := ⟨fun _ h => .inl h, (off_grown h).more (fun c _ e => .inr (.inl (by rw [hb, e])))⟩
theorem Turns.grown2 {w W : World} {p b : Nat} {m1 m2 : Option Nat} (hb : m2 = some b) (h : w.grownBy W (some b)) : Turns w p m1 m2 m1 m2 W := ⟨fun _ h => .inl h, (off_grown h).more (fun c _ e => .inr (.inr (by rw [hb, e])))⟩
structure BkIs (w : World) (p : Nat) (A : Option Addr) (n k : Nat) (m1 m2 : Option Nat) (L1 L2 : List Ev.EV) (S : Bt) : Prop where
 mem : BkMem w p A n k m1 m2 L1 L2
 leg : Leg S
 seen : Cx.CtxAt w A S.1 n k
 liveM : Ev.Match w w.heap.size L1 (S.2.filter (kindB 1))
 tombM : Ev.Match w w.heap.size L2 (S.2.filter (kindB 2))
theorem BkIs.off {w W : World} {p : Nat} {A : Option Addr} {n k : Nat} {m1 m2 : Option Nat} {L1 L2 : List Ev.EV} {S : Bt} {G : Nat → Prop} (h : BkIs w p A n k m1 m2 L1 L2 S) (ho : Off G w W) (hG : NoNum w G) (hn : ∀ b, Own p m1 m2 b → ¬ G b) : BkIs W p A n k m1 m2 L1 L2 S :=
 ⟨h.mem.off ho hn, h.leg, ctx_off hG ho h.seen, match_off hG ho h.liveM, match_off hG ho h.tombM⟩
theorem BkIs.up {w W : World} {p : Nat} {A : Option Addr} {n k : Nat} {m1 m2 : Option Nat} {L1 L2 : List Ev.EV} {S : Bt} (h : BkIs w p A n k m1 m2 L1 L2 S) (hb : Below w.heap.size w W) : BkIs W p A n k m1 m2 L1 L2 S :=
 ⟨h.mem.up hb, h.leg, h.seen.up hb, match_up hb h.liveM, match_up hb h.tombM⟩
def Lb : Lay := fun w p T S => ∃ A n k m1 m2 L1 L2, BkIs w p A n k m1 m2 L1 L2 S ∧ ∀ b, T b ↔ Own p m1 m2 b
theorem lb_of {w : World} {p : Nat} {A : Option Addr} {n k : Nat} {m1 m2 : Option Nat} {L1 L2 : List Ev.EV} {S : Bt} (h : BkIs w p A n k m1 m2 L1 L2 S) : Lb w p (Own p m1 m2) S := ⟨A, n, k, m1, m2, L1, L2, h, fun _ => Iff.rfl⟩
def Goes (w : World) (p : Nat) (m1 m2 : Option Nat) (S : Bt) (w' : World) : Prop := ∃ A' n' k' m1' m2' L1' L2', BkIs w' p A' n' k' m1' m2' L1' L2' S ∧ Turns w p m1 m2 m1' m2' w'
theorem went_of {w w' : World} {p : Nat} {T : Nat → Prop} {A : Option Addr} {n k : Nat} {m1 m2 : Option Nat} {L1 L2 : List Ev.EV} {S S' : Bt} (h : BkIs w p A n k m1 m2 L1 L2 S) (hT : ∀ b, T b ↔ Own p m1 m2 b) (hg : Goes w p m1 m2 S' w') : Went Lb w p T S' w' := by
 obtain ⟨A', n', k', m1', m2', L1', L2', h1, h2⟩ := hg
 exact ⟨_, Own p m1 m2, lb_of h1, fun b hb => (h2.own b hb).imp (hT b).2 id, fun b hb => (hT b).2 hb, h.mem.nonum, h2.off⟩
theorem kind_good {x : Ev.Evt} (h : Ev.goodE x = true) : x.kind = 1 ∨ x.kind = 2 := by
 unfold Ev.goodE Ev.headB at h
 by_cases h1 : x.kind = 1
 · exact .inl h1
 · by_cases h2 : x.kind = 2
   · exact .inr h2
   · rw [if_neg h1, if_neg h2] at h
     simp at h
theorem ord_some {l : List Ev.Evt} (h : Ev.OrdE l) (f : Ev.Evt → Bool) : Ev.OrdE (l.filter f) := List.Pairwise.filter f h
theorem BkIs.len1 {w : World} {p : Nat} {A : Option Addr} {n k : Nat} {m1 m2 : Option Nat} {L1 L2 : List Ev.EV} {S : Bt} (h : BkIs w p A n k m1 m2 L1 L2 S) : L1.length ≤ S.2.length := by
 rw [h.liveM.1]; exact List.length_filter_le _ _
theorem BkIs.len2 {w : World} {p : Nat} {A : Option Addr} {n k : Nat} {m1 m2 : Option Nat} {L1 L2 : List Ev.EV} {S : Bt} (h : BkIs w p A n k m1 m2 L1 L2 S) : L2.length ≤ S.2.length := by
 rw [h.tombM.1]; exact List.length_filter_le _ _
end Go.Proofs.YtgaegfddobpomaaGreat.Bk

namespace Go.Proofs
open Go.Shelf
def Tryz.sortD_ren : Go.Shelf.Ren := ⟨fun | 6 => 133 | 15 => 163 | 14 => 165 | 28 => 185 | 29 => 186 | 20 => 187 | 21 => 188 | 22 => 189 | 23 => 190 | 24 => 191 | 25 => 192 | 26 => 193 | 27 => 194 | 46 => 210 | 47 => 206 | 48 => 207 | 49 => 211 | 50 => 212 | 57 => 218 | n => n, fun | 22 => 36 | 24 => 35 | 25 => 103 | 3 => 3 | 39 => 166 | 0 => 0 | 53 => 193 | 55 => 33 | 4 => 4 | 46 => 186 | 45 => 185 | 50 => 190 | 5 => 5 | 9 => 9 | 66 => 206 | 70 => 210 | 76 => 216 | 77 => 217 | n => n, fun | n => n⟩
theorem Tryz.sortD : Go.Proofs.SlLaysF0.n6 Tryz.prog Tryz.sortD_ren := {
 mixed := by kernel_rfl
 f6 := ⟨Tryz.f133.name, by decide, Tryz.func133.trans (congrArg some (by kernel_rfl))⟩
 f14 := ⟨Tryz.f165.name, by decide, Tryz.func165.trans (congrArg some (by kernel_rfl))⟩
 f15 := Tryz.func163.trans (congrArg some (by kernel_rfl))
 f20 := ⟨Tryz.f187.name, by decide, Tryz.func187.trans (congrArg some (by kernel_rfl))⟩
 f21 := ⟨Tryz.f188.name, by decide, Tryz.func188.trans (congrArg some (by kernel_rfl))⟩
 f22 := ⟨Tryz.f189.name, by decide, Tryz.func189.trans (congrArg some (by kernel_rfl))⟩
 f23 := ⟨Tryz.f190.name, by decide, Tryz.func190.trans (congrArg some (by kernel_rfl))⟩
 f24 := ⟨Tryz.f191.name, by decide, Tryz.func191.trans (congrArg some (by kernel_rfl))⟩
 f25 := ⟨Tryz.f192.name, by decide, Tryz.func192.trans (congrArg some (by kernel_rfl))⟩
 f26 := ⟨Tryz.f193.name, by decide, Tryz.func193.trans (congrArg some (by kernel_rfl))⟩
 f27 := ⟨Tryz.f194.name, by decide, Tryz.func194.trans (congrArg some (by kernel_rfl))⟩
 f28 := Tryz.func185.trans (congrArg some (by kernel_rfl))
 f29 := Tryz.func186.trans (congrArg some (by kernel_rfl))
 f46 := ⟨Tryz.f210.name, by decide, Tryz.func210.trans (congrArg some (by kernel_rfl))⟩
 f47 := Tryz.func206.trans (congrArg some (by kernel_rfl))
 f48 := Tryz.func207.trans (congrArg some (by kernel_rfl))
 f49 := ⟨Tryz.f211.name, by decide, Tryz.func211.trans (congrArg some (by kernel_rfl))⟩
 f50 := ⟨Tryz.f212.name, by decide, Tryz.func212.trans (congrArg some (by kernel_rfl))⟩
 f57 := ⟨Tryz.f218.name, by decide, Tryz.func218.trans (congrArg some (by kernel_rfl))⟩
 t0 := Tryz.underlying0
 a0 := Tryz.isAgg0
 z0 := Tryz.sizeOf0
 v0 := Tryz.zeroValue0
 t3 := Tryz.underlying3
 a3 := Tryz.isAgg3
 z3 := Tryz.sizeOf3
 v3 := Tryz.zeroValue3
 t4 := Tryz.underlying4
 a4 := Tryz.isAgg4
 z4 := Tryz.sizeOf4
 v4 := Tryz.zeroValue4
 t5 := Tryz.underlying5
 a5 := Tryz.isAgg5
 z5 := Tryz.sizeOf5
 v5 := Tryz.zeroValue5
 t9 := Tryz.underlying9
 a9 := Tryz.isAgg9
 z9 := Tryz.sizeOf9
 v9 := Tryz.zeroValue9
 t22 := Tryz.underlying36
 a22 := Tryz.isAgg36
 z22 := Tryz.sizeOf36
 v22 := Tryz.zeroValue36
 t25 := Tryz.underlying103
 a25 := Tryz.isAgg103
 z25 := Tryz.sizeOf103
 v25 := Tryz.zeroValue103
 t39 := Tryz.underlying166
 a39 := Tryz.isAgg166
 z39 := Tryz.sizeOf166
 v39 := Tryz.zeroValue166
 t45 := Tryz.underlying185
 a45 := Tryz.isAgg185
 z45 := Tryz.sizeOf185
 v45 := Tryz.zeroValue185
 t46 := Tryz.underlying186
 a46 := Tryz.isAgg186
 z46 := Tryz.sizeOf186
 v46 := Tryz.zeroValue186
 t50 := Tryz.underlying190
 a50 := Tryz.isAgg190
 z50 := Tryz.sizeOf190
 v50 := Tryz.zeroValue190
 t53 := Tryz.underlying193
 a53 := Tryz.isAgg193
 z53 := Tryz.sizeOf193
 v53 := Tryz.zeroValue193
 t55 := Tryz.underlying33
 a55 := Tryz.isAgg33
 z55 := Tryz.sizeOf33
 v55 := Tryz.zeroValue33
 t66 := Tryz.underlying206
 a66 := Tryz.isAgg206
 z66 := Tryz.sizeOf206
 v66 := Tryz.zeroValue206
 t70 := Tryz.underlying210
 a70 := Tryz.isAgg210
 z70 := Tryz.sizeOf210
 v70 := Tryz.zeroValue210
 t76 := Tryz.underlying216
 a76 := Tryz.isAgg216
 z76 := Tryz.sizeOf216
 v76 := Tryz.zeroValue216
 t77 := Tryz.underlying217
 a77 := Tryz.isAgg217
 z77 := Tryz.sizeOf217
 v77 := Tryz.zeroValue217 }
end Go.Proofs

namespace Go.Proofs.YtgaegfddobpomaaGreat.Dt
open Go.ChangeShapes Go.WideShapes Go.ChangeAt Go.RowKit Go.Shelf
set_option linter.unusedVariables false
def encC (r : Dot) : List Value := [.int .u16 (r.1 : Int), .int .u64 (r.2 : Int)]
theorem two_grow (W : World) (x y : Dot) : two W x y = Sort.grow W (#[Obj.cells #[.int .u16 (x.1 : Int), .int .u64 (x.2 : Int)] 35] ++ #[Obj.cells #[.int .u16 (y.1 : Int), .int .u64 (y.2 : Int)] 35]) := by
 unfold two
 rw [Sort.alloc_eq_grow, Sort.alloc_eq_grow, Sort.grow_grow]
theorem closure_any (x y : Dot) (W : World) : Calls Tryz.prog 134 #[.agg #[.int .u16 (x.1 : Int), .int .u64 (x.2 : Int)], .agg #[.int .u16 (y.1 : Int), .int .u64 (y.2 : Int)]] W fun e w' => e = .returned (.int .i64 (cmpD x y)) ∧ ∃ q os', w' = Sort.grow (W.drewN q) os' :=
 (pcmp_left W x y).mono fun _ _ ⟨h1, h2⟩ => ⟨h1, by
   rcases h2 with rfl | rfl
   · exact ⟨0, _, by rw [World.drewN_zero, two_grow]⟩
   · exact ⟨0, _, by rw [World.drewN_zero, two_grow (two W x y), two_grow W, Sort.grow_grow]⟩⟩
theorem ltD (x y : Dot) : ltOf cmpD x y = aheadD x y := cmp_neg x y
theorem swoD : Sort.SWO (ltOf cmpD) where
 irrefl x := by rw [ltD]; exact ahead_irr x
 trans x y z h1 h2 := by rw [ltD] at *; exact ahead_trans h1 h2
 ntrans x y z h1 h2 := by
   rw [ltD] at *
   have a1 : ¬ (x.1 < y.1 ∨ (x.1 = y.1 ∧ x.2 < y.2)) := fun h => by rw [(ahead_iff _ _).2 h] at h1; exact absurd h1 (by simp)
   have a2 : ¬ (y.1 < z.1 ∨ (y.1 = z.1 ∧ y.2 < z.2)) := fun h => by rw [(ahead_iff _ _).2 h] at h2; exact absurd h2 (by simp)
   cases h : aheadD x z with
   | false => rfl
   | true =>
     have := (ahead_iff _ _).1 h
     omega
def Ris (l : List Dot) : Prop := l.Pairwise (fun a b => aheadD b a = false)
theorem flat_dv (l : List Dot) (j : Nat) (hj : j < l.length * 2) : (dv l)[j]? = some (Sort.flatK encC 2 l.toArray)[j]! := by
 rw [Sort.get_flatK _ _ _ _ (by simpa using hj)]
 have hk : j / 2 < l.length := by omega
 have hg : l[j / 2]? = some l[j / 2] := List.getElem?_eq_getElem hk
 obtain ⟨g1, g2⟩ := dv_get hg
 have e : l.toArray[j / 2]! = l[j / 2] := by rw [getElem!_pos _ _ (by simpa using hk)]; simp
 rw [e]
 rcases Nat.mod_two_eq_zero_or_one j with h | h
 · rw [h]
   have : j / 2 * 2 = j := by omega
   rw [this] at g1
   simpa [encC] using g1
 · rw [h]
   have : j / 2 * 2 + 1 = j := by omega
   rw [this] at g2
   simpa [encC] using g2
theorem sort_any (w : World) (B g cap n : Nat) (d : List Dot) (hn : d.length = n) (h62 : n < 4611686018427387904) (h : w.ownsRow B 35 2 (.slice (some ⟨g, 0, none⟩) n cap) n (dv d)) :
   Calls Tryz.prog 133 #[.slice (some ⟨g, 0, none⟩) n cap, .func (.func 134) #[] #[]] w fun e w' => e = .returned (.tuple #[]) ∧ ∃ m : List Dot, m.Perm d ∧ Ris m ∧ w'.ownsRow B 35 2 (.slice (some ⟨g, 0, none⟩) n cap) n (dv m) ∧ w.grownBy w' (some g) := by
 subst hn
 obtain ⟨hlen, ⟨hz, _⟩ | ⟨g', cap', cur, e, hB, hheap, hle, hmx, hsz, htk⟩⟩ := h
 · cases hz
 · cases e
   have hlt : g < w.heap.size := (Array.getElem?_eq_some_iff.1 hheap).1
   have hcell : ∀ j, j < d.length * 2 → cur[j]? = (dv d)[j]? := fun j hj => by
     rw [← htk, List.getElem?_take, if_pos hj]
     simp
   have hH : Sort.HoldsK encC 2 w g 0 d.toArray := fun j hj => by
     have hj' : j < d.length * 2 := by simpa using hj
     refine ⟨?_, by simp [World.frozen?, hheap]⟩
     rw [Nat.zero_add, show id (Sort.flatK encC 2 d.toArray)[j]! = (Sort.flatK encC 2 d.toArray)[j]! from rfl, ← flat_dv d j hj', ← hcell j hj']
     simp [World.cell?, hheap]
   have eg : ∀ args w, (callFunc 134 args).run Tryz.prog w = .ok (.enter 134 args) w := enters_of Tryz.func134 (by kernel_rfl) rfl
   have hcon := AnyQ.slices_SortFunc Tryz.sortD 2 Tryz.isAgg35 Tryz.sizeOf35 encC (fun _ => rfl) (fun x v hv => by simp [encC] at hv; rcases hv with rfl | rfl <;> rfl) cmpD swoD 134 #[] g 0 cap d.toArray w eg (fun m os dk _ x y => closure_any x y _) hH hlt (by simpa using h62)
   change Calls Tryz.prog 133 _ _ _ at hcon
   rw [List.size_toArray] at hcon
   refine hcon.mono ?_
   rintro e w' ⟨rfl, d', q, os, hp, hs, rfl⟩
   have h1 : d'.size = d.length := by simpa using hp.1
   refine ⟨rfl, d'.toList, ?_, ?_, ?_, ?_⟩
   · have h3 := hp.2.2
     have e1 : d'.extract 0 d.length = d' := by rw [← h1]; simp
     have e2 : d.toArray.extract 0 d.length = d.toArray := by simp
     rw [e1, e2] at h3
     exact h3
   · refine List.pairwise_iff_getElem.2 fun i j hi hj hij => ?_
     rw [Array.length_toList] at hi hj
     have := hs i j (Nat.zero_le _) hij (by omega)
     rw [ltD, getElem!_pos d' j hj, getElem!_pos d' i hi] at this
     simpa using this
   · refine ⟨by rw [dv_length, Array.length_toList, h1], .inr ⟨g, cap, Sort.putCells id 0 (Sort.flatK encC 2 d') cur, rfl, hB, ?_, hle, hmx, by simp [Sort.putCells, hsz], ?_⟩⟩
     · show ((w.heap.modify g (Sort.onCells (Sort.putCells id 0 (Sort.flatK encC 2 d')))) ++ os)[g]? = _
       rw [Array.getElem?_append_left (by simpa using hlt), Array.getElem?_modify, if_pos rfl, hheap]
       rfl
     · apply List.ext_getElem?
       intro j
       rw [List.getElem?_take]
       by_cases hj : j < d.length * 2
       · rw [if_pos hj]
         have hf := flat_dv d'.toList j (by rw [Array.length_toList, h1]; exact hj)
         rw [Array.toArray_toList] at hf
         rw [hf]
         have hc : cur[j]? = some cur[j] := Array.getElem?_eq_getElem (by omega)
         simp [Sort.putCells, hc, h1, hj]
       · rw [if_neg hj]
         exact (List.getElem?_eq_none (by rw [dv_length, Array.length_toList, h1]; omega)).symm
   · refine ⟨rfl, rfl, rfl, ?_, fun k hk hne => ?_⟩
     · show w.heap.size ≤ ((w.heap.modify g _) ++ os).size
       simp
     · show ((w.heap.modify g _) ++ os)[k]? = _
       rw [Array.getElem?_append_left (by simpa using hk), Array.getElem?_modify, if_neg (fun e => hne (by rw [e]))]
theorem ins_nil (w : World) (fv : Value) : Calls Tryz.prog 187 #[.slice none 0 0, .int .i64 0, .int .i64 0, fv] w fun e w' => e = .returned (.tuple #[]) ∧ w' = w := by
 go_enter Tryz.func187, Tryz.ntmps187
 go_wp2
 refine wp_loop_rounds 1 ?_
 rw [rounds_succ]
 go_wp2
 go_end0
 exact ⟨rfl, rfl⟩
theorem pdq_nil (w : World) (lim : Int) (fv : Value) : Calls Tryz.prog 165 #[.slice none 0 0, .int .i64 0, .int .i64 0, .int .i64 lim, fv] w fun e w' => e = .returned (.tuple #[]) ∧ w' = w := by
 have hi := fun W => ins_nil W fv
 go_enter Tryz.func165, Tryz.ntmps165
 go_wp2
 refine wp_loop_rounds 1 ?_
 rw [rounds_succ]
 go_wp2_with (go_at_call 187; refine (hi _).mono ?_; rintro e w' ⟨rfl, rfl⟩)
 (try simp only [Exit.inBlock, Exit.then]); refine bodyPost_ret (results_none rfl _ _ _) rfl ?_
 exact ⟨rfl, rfl⟩
theorem len_nil (w : World) : Calls Tryz.prog 163 #[.int .u64 0] w fun e w' => e = .returned (.int .i64 (Lib.bitLen 0 : Nat)) ∧ w' = w := by
 have h := Any.bits_Len (SlLaysF0.n15.bits (P := Tryz.prog) (ρ := Tryz.sortD_ren) { Tryz.sortD with }) 0 w (by omega) (by omega)
 change Calls Tryz.prog 163 _ _ _ at h
 exact h
theorem sort_nil (w : World) : Calls Tryz.prog 133 #[.slice none 0 0, .func (.func 134) #[] #[]] w fun e w' => e = .returned (.tuple #[]) ∧ w' = w := by
 have hl := fun W => len_nil W
 have hp := fun lim W => pdq_nil W lim (.func (.func 134) #[] #[])
 go_enter Tryz.func133, Tryz.ntmps133
 go_wp2_with (first | (go_at_call 163; refine (hl _).mono ?_; rintro e w' ⟨rfl, rfl⟩) | (go_at_call 165; refine (hp _ _).mono ?_; rintro e w' ⟨rfl, rfl⟩))
 go_end0
 exact ⟨rfl, rfl⟩
end Go.Proofs.YtgaegfddobpomaaGreat.Dt

namespace Go.Proofs.YtgaegfddobpomaaGreat.Dt
open Go.ChangeShapes Go.WideShapes Go.ChangeAt Go.RowKit Go.Lib
set_option linter.unusedVariables false
theorem ris_at {d : Array Dot} (h : Ris d.toList) {i j : Nat} (hij : i ≤ j) (hj : j < d.size) : aheadD d[j]! d[i]! = false := by
 rcases Nat.eq_or_lt_of_le hij with rfl | hlt
 · exact ahead_irr _
 · have h1 := List.pairwise_iff_getElem.1 h i j (by simpa using Nat.lt_trans hlt hj) (by simpa using hj) hlt
   rw [getElem!_pos d j hj, getElem!_pos d i (Nat.lt_trans hlt hj)]
   simpa using h1
theorem comp_ord {d : Array Dot} (h : Ris d.toList) (m : Nat) (hm : m ≤ d.size) : Ord (compactUpTo d m) ∧ ∀ x, x ∈ compactUpTo d m ↔ ∃ j, j < m ∧ d[j]! = x := by
 induction m with
 | zero => exact ⟨List.Pairwise.nil, fun x => ⟨fun hx => absurd hx (by simp [compactUpTo]), fun ⟨j, hj, _⟩ => absurd hj (Nat.not_lt_zero _)⟩⟩
 | succ m ih =>
   obtain ⟨h1, h3⟩ := ih (by omega)
   rw [compactUpTo_succ]
   cases hk : keeps d m with
   | false =>
     simp only [Bool.false_eq_true, if_false, List.append_nil]
     refine ⟨h1, fun x => ?_⟩
     rw [h3]
     have hk2 : ¬ (m = 0 ∨ d[m]! ≠ d[m - 1]!) := of_decide_eq_false hk
     constructor
     · rintro ⟨j, hj, e⟩
       exact ⟨j, by omega, e⟩
     · rintro ⟨j, hj, e⟩
       by_cases e2 : j = m
       · subst e2
         have h4 : d[j]! = d[j - 1]! := Classical.byContradiction fun h5 => hk2 (.inr h5)
         exact ⟨j - 1, by omega, by rw [← h4]; exact e⟩
       · exact ⟨j, by omega, e⟩
   | true =>
     simp only [if_true]
     have hk2 : m = 0 ∨ d[m]! ≠ d[m - 1]! := of_decide_eq_true hk
     have hlt : ∀ x ∈ compactUpTo d m, aheadD x d[m]! = true := by
       intro x hx
       obtain ⟨j, hj, rfl⟩ := (h3 x).1 hx
       have h4 := ris_at h (i := j) (j := m - 1) (by omega) (by omega)
       have h5 := ris_at h (i := m - 1) (j := m) (by omega) (by omega)
       have h6 : aheadD d[m - 1]! d[m]! = true := ahead_all h5 (hk2.resolve_left (by omega))
       by_cases e : d[j]! = d[m - 1]!
       · rw [e]; exact h6
       · exact ahead_trans (ahead_all h4 (fun e2 => e e2.symm)) h6
     refine ⟨List.pairwise_append.2 ⟨h1, List.pairwise_singleton _ _, fun a ha b hb => ?_⟩, fun x => ?_⟩
     · rw [List.mem_singleton] at hb
       rw [hb]
       exact hlt a ha
     · rw [List.mem_append, h3, List.mem_singleton]
       constructor
       · rintro (⟨j, hj, e⟩ | e)
         · exact ⟨j, by omega, e⟩
         · exact ⟨m, by omega, e.symm⟩
       · rintro ⟨j, hj, e⟩
         by_cases e2 : j = m
         · subst e2; exact .inr e.symm
         · exact .inl ⟨j, by omega, e⟩
theorem comp_sort {l m : List Dot} (hp : m.Perm l) (hr : Ris m) : compactUpTo m.toArray m.length = sortD l := by
 obtain ⟨h1, h3⟩ := comp_ord (d := m.toArray) (by simpa using hr) m.length (by simp)
 refine sort_uniq h1 (fun x => ?_)
 rw [h3, ← hp.mem_iff]
 constructor
 · rintro ⟨j, hj, rfl⟩
   rw [getElem!_pos _ _ (by simpa using hj)]
   simp
 · intro hx
   obtain ⟨j, hj, rfl⟩ := List.getElem_of_mem hx
   exact ⟨j, hj, by rw [getElem!_pos _ _ (by simpa using hj)]; simp⟩
set_option maxHeartbeats 1000000 in
set_option maxRecDepth 100000 in
theorem pclone_any (w : World) (A : Option Addr) (l : List Dot) (n c : Nat) (hl : l.length = n) (hA : A = none → n = 0 ∧ c = 0) (hb : Dots w w.heap.size A l) (h42 : n ≤ 8796093022208) :
   Calls Tryz.prog 132 #[.slice A n c] w (DotPost w l) := by
 have HL := Lib.hid hl
 have HB := Lib.hid hb
 cases A with
 | none =>
   obtain ⟨rfl, rfl⟩ := hA rfl
   obtain rfl := List.eq_nil_of_length_eq_zero hl
   have q : ∀ W : World, (binOp .eql 36 (.slice none 0 0) (.slice none 0 0)).run Tryz.prog W = .ok (.bool true) W := fun W => Lib.run_eql_slice_nil W 36 35 none 0 0 0 0 Tryz.underlying36
   clear hA hl hb
   go_enter Tryz.func132, Tryz.ntmps132
   go_wp2
   go_ret
   exact ⟨none, 0, 0, rfl, rfl, World.ownsRow_nil _ _ _ _, Below.refl _ _⟩
 | some ad =>
   have q : ∀ W : World, (binOp .eql 36 (.slice (some ad) n c) (.slice none 0 0)).run Tryz.prog W = .ok (.bool false) W := fun W => Lib.run_eql_slice_nil W 36 35 (some ad) n c 0 0 Tryz.underlying36
   have HW := Lib.hid (below_new w (.cells #[] 35))
   have hO : (w.alloc (.cells #[] 35)).ownsRow w.heap.size 35 2 (.slice (some ⟨w.heap.size, 0, none⟩) 0 0) 0 (dv []) := World.ownsRow_lit w #[] 0 (Nat.le_refl _) (Nat.zero_le _) rfl
   have HO := Lib.hid hO
   have HB2 : Hid (Lies (w.alloc (.cells #[] 35)) (w.alloc (.cells #[] 35)).heap.size (some ad) (dv l)) := (hb.up HW.out).2
   clear hA hl hb hO
   go_enter Tryz.func132, Tryz.ntmps132
   go_wp2_with (at_builtin; refine wpList_any rfl (.tmp 5) (.tmp 6) rfl rfl _ w.heap.size 0 (.slice (some ⟨w.heap.size, 0, none⟩) 0 0) [] (some ad) l n c rfl rfl HO.out (fun h => by cases h) HB2.out HL.out (by omega) HW.out.size ?_; intro A3 c3 V3 ho3 hg3; have HO3 := Lib.hid ho3; have HW3 := Lib.hid (any_grown HO.out HW.out hg3); clear ho3 hg3)
   go_ret
   have h0 : 0 + n = n := Nat.zero_add n
   have ho := HO3.out
   rw [h0] at ho
   exact ⟨A3, n, c3, by rw [← h0]; rfl, HL.out, ho, HW3.out⟩
theorem compact_nil (w : World) : Calls Tryz.prog 135 #[.slice none 0 0] w fun e w' => e = .returned (.slice none 0 0) ∧ w' = w := by
 go_enter Tryz.func135, Tryz.ntmps135
 go_wp2
 go_ret
 exact ⟨rfl, rfl⟩
set_option maxHeartbeats 1000000 in
theorem psort_any (w : World) (A : Option Addr) (l : List Dot) (n c : Nat) (hl : l.length = n) (hA : A = none → n = 0 ∧ c = 0) (hb : Dots w w.heap.size A l) (h42 : n ≤ 8796093022208) :
   Calls Tryz.prog 93 #[.slice A n c] w (DotPost w (sortD l)) := by
 have CC := pclone_any w A l n c hl hA hb h42
 have HF := Lib.hid hb.1
 have HL := Lib.hid hl
 clear hl hA hb
 go_enter Tryz.func93, Tryz.ntmps93
 go_wp2_with fail
 refine CC.mono ?_
 rintro e w1 ⟨A1, n1, c1, rfl, hn1, ho1, hb1⟩
 obtain rfl : n = n1 := by rw [← HL.out]; exact hn1
 have HB1 := Lib.hid hb1
 clear CC hb1
 rcases ho1.2 with ⟨h0, h1⟩ | ⟨g, cap, cur, h0, hg, _⟩
 · cases h0
   obtain rfl := List.eq_nil_of_length_eq_zero HL.out
   have hs := fun W => sort_nil W
   have hc := fun W => compact_nil W
   clear ho1 hn1 h1
   go_wp2_with fail
   refine (hs _).mono ?_
   rintro e w2 ⟨rfl, rfl⟩
   go_wp2_with fail
   refine (hc _).mono ?_
   rintro e w3 ⟨rfl, rfl⟩
   go_wp2
   go_ret
   exact ⟨none, 0, 0, rfl, rfl, World.ownsRow_nil _ _ _ _, HB1.out⟩
 · cases h0
   have CS := sort_any w1 w.heap.size g c1 n l HL.out (by omega) ho1
   have HG := Lib.hid hg
   clear ho1 hn1
   go_wp2_with fail
   refine CS.mono ?_
   rintro e w2 ⟨rfl, m, hp, hr, ho2, hg2⟩
   have hm : m.length = n := by rw [hp.length_eq]; exact HL.out
   have CK := pcompact_any w2 w.heap.size g c1 n m hm (by omega) ho2
   have hcs := comp_sort hp hr
   rw [hm] at hcs
   rw [hcs] at CK
   have HB2 : Hid (Below w.heap.size w w2) := HB1.out.grown hg2 HB1.out.size (fun k hk => by cases hk; exact HG.out)
   clear CS hp hr ho2 hg2 hm hcs
   go_wp2_with fail
   refine CK.mono ?_
   rintro e w3 ⟨k, rfl, hk, ho3, hg3⟩
   have HB3 : Hid (Below w.heap.size w w3) := HB2.out.grown hg3 HB2.out.size (fun k hk => by cases hk; exact HG.out)
   have HK := Lib.hid hk
   have HO3 := Lib.hid ho3
   clear hk ho3 hg3
   go_wp2
   go_ret
   exact ⟨_, k, c1, rfl, HK.out.symm, HO3.out, HB3.out⟩
end Go.Proofs.YtgaegfddobpomaaGreat.Dt
