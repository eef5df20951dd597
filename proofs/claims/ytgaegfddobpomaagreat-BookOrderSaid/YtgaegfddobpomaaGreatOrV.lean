/- Words and contracts that the proofs of this seat stand on, part 22 of 39. -/
import Derived.RangeFuncNested
import Derived.RangeFuncBound
import Derived.RangeFuncCalls
import Derived.RangeFuncLeaves
import Derived.Shelf.Abstract
import Derived.Shelf.RegionOpen
import Derived.WalkKit
import Derived.OwnWalkIn
import Derived.TacticsInMore
import Derived.LoopNIn
import Derived.LoopIn
import Derived.Maps.AppendAt
import Derived.Sort.MapsRangeIn
import Derived.Test.YtgaegfddobpomaaGreatOrJ
import Derived.Test.YtgaegfddobpomaaGreatOrD

namespace Go.Proofs.YtgaegfddobpomaaGreat.Bk
open Go.ChangeShapes Go.WideShapes Go.ChangeAt Go.RowKit Go.Shelf Go.Maps
set_option linter.unusedVariables false
attribute [local go_sem] Oper.semAt_some
def MapO (w : World) (mo : Option Nat) (L : List Ev.EV) : Prop := (mo = none ∧ L = []) ∨ ∃ b, mo = some b ∧ MapE w b L
theorem MapO.up {w W : World} {mo : Option Nat} {L : List Ev.EV} (h : MapO w mo L) (hW : Below w.heap.size w W) : MapO W mo L := by
 rcases h with h | ⟨b, h1, h2⟩
 · exact .inl h
 · exact .inr ⟨b, h1, h2.up hW⟩
theorem MapO.perm {w : World} {mo : Option Nat} {L M : List Ev.EV} (h : MapO w mo L) (hp : L.Perm M) : MapO w mo M := by
 rcases h with ⟨h1, rfl⟩ | ⟨b, h1, h2⟩
 · exact .inl ⟨h1, by rw [List.nil_perm] at hp; exact hp⟩
 · exact .inr ⟨b, h1, h2.perm hp⟩
theorem MapO.fit {w : World} {mo : Option Nat} {L : List Ev.EV} (h : MapO w mo L) : ∀ p ∈ L, FitD (dotV p) := by
 rcases h with ⟨h1, rfl⟩ | ⟨b, h1, h2⟩
 · exact fun p hp => (by cases hp)
 · exact h2.fit
def LeftE (left : Lit → Bool) (rest : List Ev.EV) : Prop := ∀ kl, left kl = true ↔ ∃ p ∈ rest, kl = Kl.keyD (dotV p)
theorem left_end {left : Lit → Bool} {rest : List Ev.EV} (h : LeftE left rest) (h0 : ∀ kl, left kl = false) : rest = [] := by
 cases rest with
 | nil => rfl
 | cons p r =>
   have := (h (Kl.keyD (dotV p))).2 ⟨p, List.mem_cons_self .., rfl⟩
   rw [h0] at this
   cases this
theorem left_step {left : Lit → Bool} {L pre rest : List Ev.EV} {p : Ev.EV} (h : LeftE left rest) (hp : L.Perm (pre ++ rest)) (ha : L.Pairwise (fun p q => dotV p ≠ dotV q)) (hf : ∀ p ∈ L, FitD (dotV p)) (hm : p ∈ rest) :
   ∃ rest', L.Perm ((pre ++ [p]) ++ rest') ∧ LeftE (fun z => left z && !z.sameKey (Kl.keyD (dotV p))) rest' := by
 obtain ⟨r1, r2, rfl⟩ := List.append_of_mem hm
 have hq : L.Perm ((pre ++ [p]) ++ (r1 ++ r2)) := by
   rw [List.append_assoc]
   exact hp.trans (List.Perm.append_left _ List.perm_middle)
 refine ⟨r1 ++ r2, hq, fun kl => ?_⟩
 have hA : (p :: (r1 ++ r2)).Pairwise (fun p q => dotV p ≠ dotV q) := by
   have h1 := (hp.pairwise_iff (R := fun p q => dotV p ≠ dotV q) (fun {_ _} hne => Ne.symm hne)).1 ha
   have h2 := (List.pairwise_append.1 h1).2.1
   exact ((List.perm_middle (a := p) (l₁ := r1) (l₂ := r2)).pairwise_iff (R := fun p q => dotV p ≠ dotV q) (fun {_ _} hne => Ne.symm hne)).1 h2
 have hne := (List.pairwise_cons.1 hA).1
 have hfr : ∀ q ∈ r1 ++ p :: r2, FitD (dotV q) := fun q hq => hf q (hp.mem_iff.2 (List.mem_append_right _ hq))
 rw [Bool.and_eq_true, h kl, Bool.not_eq_true']
 constructor
 · rintro ⟨⟨q, hq, rfl⟩, h2⟩
   refine ⟨q, ?_, rfl⟩
   rcases List.mem_append.1 hq with h3 | h3
   · exact List.mem_append_left _ h3
   · rcases List.mem_cons.1 h3 with rfl | h3
     · rw [WideAt.sameKey_self (Kl.keyD_lit _)] at h2
       cases h2
     · exact List.mem_append_right _ h3
 · rintro ⟨q, hq, rfl⟩
   have h3 : q ∈ r1 ++ p :: r2 := by
     rcases List.mem_append.1 hq with h3 | h3
     · exact List.mem_append_left _ h3
     · exact List.mem_append_right _ (List.mem_cons_of_mem _ h3)
   exact ⟨⟨q, h3, rfl⟩, Maps.sameKey_ne (fun e => hne q hq (Kl.keyD_inj (hfr q h3) (hfr p hm) e).symm)⟩
theorem left_start {D : DataW Ev.EV} {L : List Ev.EV} (h : HoldsE D L) : LeftE (Maps.has D) L := h.has
theorem left_who {D : DataW Ev.EV} {L rest : List Ev.EV} {left : Lit → Bool} {key : Value} {p : Ev.EV} {kl : Lit} {yd : DataW Ev.EV} {yp : List MemPlace} (h : HoldsE D L) (hl : LeftE left rest) (hs : ∀ q ∈ rest, q ∈ L)
   (hkey : keyOf Tryz.prog 35 key = some kl) (hlk : left kl = true) (hv : elemE p.val = some (yd, yp)) (hat : ∀ zd, D.atKey kl zd = yd) : p ∈ rest ∧ key = Kl.dval (dotV p) ∧ kl = Kl.keyD (dotV p) := by
 obtain ⟨q, hq, rfl⟩ := (hl kl).1 hlk
 have h1 := h.at_ q (hs q hq) .nil
 rw [hat] at h1
 rw [elemE_val] at hv
 have h2 : yd = .held p := (congrArg Prod.fst (Option.some.inj hv)).symm
 rw [h2] at h1
 injection h1 with h1
 subst h1
 exact ⟨hq, Kl.lawD.inj hkey (Kl.keyD_is (h.fit _ (hs _ hq))), rfl⟩
theorem vmake_any (w : World) (mo : Option Nat) : Calls Tryz.prog 118 #[.map mo] w fun e w' => e = .returned (.func (.func 154) #[] #[.pointer (some ⟨w.heap.size, 0, none⟩)]) ∧ w' = w.alloc (.cells #[.map mo] 82) := by
 go_enter Tryz.func118, Tryz.ntmps118
 go_wp2
 go_ret
 exact ⟨rfl, rfl⟩
def encVals (x : Ev.EV) : Array Value := #[.agg #[.int .u16 (x.dev : Int), .int .u64 (x.num : Int), .int .u8 (x.kind : Int), .int .u64 (x.cid : Int), .int .u8 (x.fld : Int), .string x.txt, .slice x.adr x.len x.cap]]
abbrev boxVals (x : Ev.EV) : Obj := .cells #[.int .u16 (x.dev : Int), .int .u64 (x.num : Int), .int .u8 (x.kind : Int), .int .u64 (x.cid : Int), .int .u8 (x.fld : Int), .string x.txt, .slice x.adr x.len x.cap] 38
set_option maxRecDepth 100000 in
set_option maxHeartbeats 4000000 in
theorem vone_in (n : Nat) (hn : 1 ≤ n) (l Bm b : Nat) (L : List Ev.EV) (J Jx : List Ev.EV → World → Prop) (W : World) (hJ : AbidesFrom W.heap.size J)
   (hY : ∀ pre x W1, J pre W1 → pre.length < L.length → YieldAt Fence.wide (n - 1) Tryz.prog l (encVals x) W1 fun e W' =>
     (e = .returned (.bool true) ∧ J (pre ++ [x]) W' ∧ KeepsWalks W1 W') ∨ (e = .returned (.bool false) ∧ Jx (pre ++ [x]) W'))
   (hm : W.cell? ⟨Bm, 0, none⟩ = some (.map (some b))) (hown : MapE W b L) (h0 : J [] W) :
   CallsIn Fence.wide n Tryz.prog 154 #[.func (.yield l) #[] #[], .pointer (some ⟨Bm, 0, none⟩)] W fun e W' => (∃ v, e = .returned v) ∧
     ((∃ xs, L.Perm xs ∧ J xs W') ∨ (∃ pre, True ∧ Jx pre W')) := by
 have hapart := hown.apart
 have hfit := hown.fit
 obtain ⟨D, hown, hH⟩ := hown
 refine callsIn_of_wp Tryz.func154 rfl trivial ?_ rfl
 simp only [Tryz.ntmps154, List.size_toArray, List.length_cons, List.length_nil, Nat.reduceAdd, Nat.reduceSub, Array.replicate_succ, Array.replicate_zero, List.push_toArray, List.append_toArray, List.nil_append, List.cons_append]
 gi_wp2_with (first
   | (gi_at_range; refine wpListIn_range_own _ rfl _ 82 rfl 35 38 Kl.lawD Tryz.underlying82 _ b L.length _ rfl hown ?_; intro w0 hrg0 hg0 hs0)
   | gi_in)
 go_frame
 gi_loopw [4] (fun _ wr => ∃ (left : Lit → Bool) (cnt : Nat) (pre rest : List Ev.EV), wr.ranges Tryz.prog 35 elemE b W.heap.size L.length D left cnt ∧ L.Perm (pre ++ rest) ∧ LeftE left rest ∧ J pre wr)
   (fun _ wr => wr.rangeLeft b W.heap.size)
 case atStart =>
   exact ⟨_, _, [], L, hrg0, List.Perm.refl _, left_start hH, hJ [] W w0 none h0 hg0 (fun r e => by cases e)⟩
 case round =>
   obtain ⟨left, cnt, pre, rest, hrg, hp, hl, hJs⟩ := hrel
   gi_wp2_with (first
     | (gi_at_next; refine wpListIn_next_ranges _ rfl _ rfl 35 Kl.lawD elemE id Ev.EV.val (fun key kl hk => ⟨key, rfl⟩) (fun v y hv => by obtain ⟨p, h1, _⟩ := elemE_inv hv; exact ⟨p, h1⟩) b W.heap.size L.length _ _ _ rfl hrg ?_ ?_)
     | gi_in)
   · -- nothing is left
     intro hc0 hl0
     gi_wp2
     go_end0
     obtain rfl := left_end hl hl0
     rw [List.append_nil] at hp
     exact ⟨⟨_, rfl⟩, .inl ⟨pre, hp, hJs⟩⟩
   · -- an entry has come
     intro key x kl yd yp w2 cnt2 hkey hlk hv hat hrg2 hlt hg2 hs2 hen
     obtain ⟨hx, hk, rfl⟩ := left_who hH hl (fun q hq => hp.mem_iff.2 (List.mem_append_right _ hq)) hkey hlk hv hat
     obtain rfl : key = .agg #[.int .u16 (x.dev : Int), .int .u64 (x.num : Int)] := hk
     obtain ⟨rest', hp', hl'⟩ := left_step hl hp hapart hfit hx
     have hlen : pre.length < L.length := by
       have := hp'.length_eq
       simp only [List.length_append, List.length_cons, List.length_nil] at this
       omega
     have hJ2 : J pre w2 := hJ pre wr w2 (some W.heap.size) hJs hg2 (fun r e => by cases e; exact ⟨Nat.le_refl _, hrg.iter_walk⟩)
     have hJ3 : J pre (w2.alloc (boxVals x)) := hJ pre w2 _ none hJ2 (World.grownBy_alloc w2 _ none) (fun r e => by cases e)
     obtain ⟨fn, tmps, assign, body, hy, hR⟩ := hY pre x _ hJ3 hlen
     dsimp only [encVals] at hy
     have hrg3 := hrg2.alloc (boxVals x)
     try simp only [id] at hen
     clear hs2 hkey hlk hv hat
     gi_wp2
     refine hR.mono ?_
     rintro e W3 (⟨rfl, hJ4, hk3⟩ | ⟨rfl, hJx3⟩)
     · gi_wp2
       have hrg4 := hrg3.of_walks hk3
       go_roundw
       case rel => exact ⟨_, cnt2, pre ++ [x], rest', hrg4, hp', hl', hJ4⟩
       case measure => rw [hrg4.left_eq, hrg.left_eq]; exact hlt
     · gi_wp2
       refine bodyPost_ret (results_none rfl _ _ _) rfl ?_
       exact ⟨⟨_, rfl⟩, .inr ⟨_, trivial, hJx3⟩⟩
set_option maxRecDepth 100000 in
set_option maxHeartbeats 4000000 in
theorem vnone_in (n : Nat) (l Bm : Nat) (J : List Ev.EV → World → Prop) (W : World) (hJ : AbidesFrom W.heap.size J)
   (hm : W.cell? ⟨Bm, 0, none⟩ = some (.map none)) (h0 : J [] W) :
   CallsIn Fence.wide n Tryz.prog 154 #[.func (.yield l) #[] #[], .pointer (some ⟨Bm, 0, none⟩)] W fun e W' => (∃ v, e = .returned v) ∧ J [] W' := by
 refine callsIn_of_wp Tryz.func154 rfl trivial ?_ rfl
 simp only [Tryz.ntmps154, List.size_toArray, List.length_cons, List.length_nil, Nat.reduceAdd, Nat.reduceSub, Array.replicate_succ, Array.replicate_zero, List.push_toArray, List.append_toArray, List.nil_append, List.cons_append]
 have hrg := run_range_nilMap (P := Tryz.prog) W 82 35 38 Tryz.underlying82
 have hnx : ∀ ty, (Instr.next (.pointer (some ⟨W.heap.size, 0, none⟩)) false ty).run Tryz.prog (W.alloc (.mapIter none 0 #[] 0)) = _ := fun ty => run_next_nilMap _ ty 0 0 #[]
 gi_wp2
 refine wpIn_loop_rounds 1 ?_
 rw [roundsIn_succ]
 gi_wp2
 go_end0
 exact ⟨⟨_, rfl⟩, hJ [] W _ none h0 (World.grownBy_alloc W _ none) (fun r e => by cases e)⟩
theorem vstops (n : Nat) (hn : 1 ≤ n) (Bm : Nat) (mo : Option Nat) (L : List Ev.EV) (w : World) (hB : Bm < w.heap.size) (hm : w.cell? ⟨Bm, 0, none⟩ = some (.map mo)) (h : MapO w mo L) :
   SeqStopsK Fence.wide n Tryz.prog 154 #[.pointer (some ⟨Bm, 0, none⟩)] encVals KeepsWalks (fun xs => L.Perm xs) (fun _ => True) L.length w := fun l J Jx W hW hJ _ hY h0 => by
 rcases h with ⟨rfl, rfl⟩ | ⟨b, rfl, h⟩
 · exact (vnone_in n l Bm J W hJ ((hW.cell (p := ⟨Bm, 0, none⟩) hB).trans hm) h0).mono fun _ _ ⟨he, hj⟩ => ⟨he, .inl ⟨[], List.Perm.refl _, hj⟩⟩
 · exact vone_in n hn l Bm b L J Jx W hJ hY ((hW.cell (p := ⟨Bm, 0, none⟩) hB).trans hm) (h.up hW) h0
def ValsBox (W : World) (B : Nat) (x : Ev.EV) : Prop := W.heap[B]? = some (.cells #[.int .u16 (x.dev : Int), .int .u64 (x.num : Int), .int .u8 (x.kind : Int), .int .u64 (x.cid : Int), .int .u8 (x.fld : Int), .string x.txt, .slice x.adr x.len x.cap] 38 (0, 0))
theorem ValsBox.lt {W : World} {B : Nat} {x : Ev.EV} (h : ValsBox W B x) : B < W.heap.size := (Array.getElem?_eq_some_iff.1 h).1
theorem ValsBox.new (W : World) (x : Ev.EV) : ValsBox (W.alloc (boxVals x)) W.heap.size x := World.alloc_heap_new W _
theorem ValsBox.cell {W : World} {B : Nat} {x : Ev.EV} (h : ValsBox W B x) (i : Nat) : W.cell? ⟨B, i, none⟩ = #[.int .u16 (x.dev : Int), .int .u64 (x.num : Int), .int .u8 (x.kind : Int), .int .u64 (x.cid : Int), .int .u8 (x.fld : Int), .string x.txt, .slice x.adr x.len x.cap][i]? := by simp [World.cell?, show W.heap[B]? = _ from h]
theorem ValsBox.own (x : Ev.EV) (B B0 : Nat) : OwnFrom B0 (fun (_ : Unit) W => ValsBox W B x) := fun s X Y row hs hg hrow =>
 (hg.block B hs.lt (fun e' => by obtain ⟨_, o, ho, hc⟩ := hrow B e'.symm; rw [show X.heap[B]? = _ from hs] at ho; cases ho; cases hc)).trans hs
theorem vrow_one (x : Ev.EV) : Ev.ev [x] = [.int .u16 (x.dev : Int), .int .u64 (x.num : Int), .int .u8 (x.kind : Int), .int .u64 (x.cid : Int), .int .u8 (x.fld : Int), .string x.txt, .slice x.adr x.len x.cap] := by simp [Ev.ev]
theorem vat (W : World) (x : Ev.EV) : ∀ (j : Nat) (u : Value), (Ev.ev [x])[j]? = some u → (W.alloc (boxVals x)).cell? ((⟨W.heap.size, 0, none⟩ : Addr).add j) = some u := by
 intro j u hu
 rw [Dt.zero_add, World.cell?_alloc_new]
 rw [vrow_one] at hu
 simpa using hu
theorem vrow_own (n₀ B B0 : Nat) : OwnFrom B0 (fun (pre : List Ev.EV) W => ∃ A k c, Boxed W B 29 (.slice A k c) ∧ k = pre.length ∧ W.ownsRow n₀ 38 7 (.slice A k c) k (Ev.ev pre)) := by
 rintro s X Y row ⟨A, k, c, hv, hk, hr⟩ hg hrow
 refine ⟨A, k, c, hv.kept hg (fun e' => ?_), hk, hr.kept hg ?_⟩
 · obtain ⟨_, o, ho, hc⟩ := hrow B e'.symm
   rw [show X.heap[B]? = _ from hv] at ho; cases ho; cases hc
 · rcases hr.2 with ⟨h, _⟩ | ⟨g, cap, cur, h, _, hgb, _⟩
   · exact .inl (by rw [h]; rfl)
   · refine .inr fun e' => ?_
     rw [h] at e'
     obtain ⟨_, o, ho, hc⟩ := hrow g (by simpa [Value.ownBlock] using e'.symm)
     rw [hgb] at ho; cases ho; cases hc
def ValsPost (w : World) (L : List Ev.EV) (e : Ending) (w' : World) : Prop :=
 ∃ xs A n c, e = .returned (.slice A n c) ∧ L.Perm xs ∧ xs.length = n ∧ w'.ownsRow w.heap.size 38 7 (.slice A n c) n (Ev.ev xs) ∧ Below w.heap.size w w'
set_option maxRecDepth 100000 in
set_option maxHeartbeats 8000000 in
theorem vseq_any (w : World) (Bm : Nat) (mo : Option Nat) (L : List Ev.EV) (hB : Bm < w.heap.size) (hm : w.cell? ⟨Bm, 0, none⟩ = some (.map mo)) (h : MapO w mo L) (h40 : L.length ≤ 1099511627776) :
   Calls Tryz.prog 153 #[.slice none 0 0, .func (.func 154) #[] #[.pointer (some ⟨Bm, 0, none⟩)]] w (ValsPost w L) := by
 obtain ⟨i0, hi0, hz0, hz1, hz2⟩ := info_parts Ev.evt_info
 have HB := Lib.hid h
 have HT := Lib.hid h40
 clear h h40
 refine (callsIn_wide (n := 6)).1 ?_
 refine callsIn_of_wp_marks Tryz.func153 rfl trivial ?_ rfl
 simp only [Tryz.ntmps153, List.size_toArray, List.length_cons, List.length_nil, Nat.reduceAdd, Nat.reduceSub, Array.replicate_succ, Array.replicate_zero, List.push_toArray, List.append_toArray, List.nil_append, List.cons_append]
 gi_wp2
 have b0 := Boxed.new w 29 (.slice none 0 0)
 have hB0 : Below w.heap.size w (w.alloc (.cells #[.slice none 0 0] 29)) := Ev.below_new w _
 have hsz : (w.alloc (.cells #[.slice none 0 0] 29)).heap.size = w.heap.size + 1 := by simp
 obtain ⟨W0, hW0⟩ : ∃ W0, w.alloc (.cells #[.slice none 0 0] 29) = W0 := ⟨_, rfl⟩
 rw [hW0] at b0 hB0 hsz ⊢
 clear hW0
 refine wpIn_rangeFunc_ownH rfl (by omega) (gf := 154) (lb := #[.pointer (some ⟨Bm, 0, none⟩)]) rfl trivial (enters_of Tryz.func154 (by kernel_rfl) rfl)
   (vstops (6 - 1) (by omega) Bm mo L W0 (by omega) ((hB0.cell (p := ⟨Bm, 0, none⟩) hB).trans hm) (HB.out.up hB0)) walksK_t walksK_b (Below.refl _ _) (fun _ => rfl)
   (fun pre W => (∃ A k c, Boxed W w.heap.size 29 (.slice A k c) ∧ k = pre.length ∧ W.ownsRow w.heap.size 38 7 (.slice A k c) k (Ev.ev pre)) ∧ Below w.heap.size w W)
   (fun _ _ _ => False)
   (OwnFrom.and (vrow_own _ _ _) (ownFrom_below (Nat.le_refl _) (by omega)))
   (fun _ _ _ _ _ hs _ _ => hs)
   ⟨⟨none, 0, 0, b0, rfl, World.ownsRow_nil _ _ _ _⟩, hB0⟩
   (fun x a' W => ∃ Bx, w.heap.size < Bx ∧ ValsBox W Bx x ∧ a' = { tmps := #[.slice none 0 0, .func (.func 154) #[] #[.pointer (some ⟨Bm, 0, none⟩)], .pointer (some ⟨w.heap.size, 0, none⟩), undef, .slice none 0 0, .pointer (some ⟨Bx, 0, none⟩), .func (.func 154) #[] #[.pointer (some ⟨Bm, 0, none⟩)], .agg #[.int .u16 (x.dev : Int), .int .u64 (x.num : Int), .int .u8 (x.kind : Int), .int .u64 (x.cid : Int), .int .u8 (x.fld : Int), .string x.txt, .slice x.adr x.len x.cap], undef, undef, undef, undef, undef], defers := [] })
   (fun x a' _ X Y row hs hg hr => by obtain ⟨Bx, h1, h2, h3⟩ := hs; exact ⟨Bx, h1, ValsBox.own x Bx _ () X Y row h2 hg hr, h3⟩)
   ?assign ?body ?done ?stop
 case assign =>
   rintro l2 pre x W K ⟨⟨A1, k1, cp, bS, hk1, hrow⟩, hB1⟩ hK
   simp only [encVals]
   gi_wp2
   exact hK _ _ ((KeepsOthers.alloc _ _).from _) (KeepsWalks.alloc _ _) ⟨⟨A1, k1, cp, bS.alloc _, hk1, hrow.alloc _⟩, hB1.alloc hB1.size _⟩ ⟨W.heap.size, bS.lt, ValsBox.new W x, rfl⟩
 case body =>
   rintro l2 pre x a' W hl2 ⟨r, hr⟩ ⟨⟨A1, k1, cp, bS, rfl, hrow⟩, hB1⟩ ⟨Bx, hBx, bX, rfl⟩ hlt
   have hlen : pre.length < 1099511627776 := Nat.lt_of_lt_of_le hlt HT.out
   have cS := bS.cell
   have e0 : W.cell? ⟨Bx, 0, none⟩ = some (.int .u16 (x.dev : Int)) := bX.cell 0
   have e1 : W.cell? ⟨Bx, 1, none⟩ = some (.int .u64 (x.num : Int)) := bX.cell 1
   have e2 : W.cell? ⟨Bx, 2, none⟩ = some (.int .u8 (x.kind : Int)) := bX.cell 2
   have e3 : W.cell? ⟨Bx, 3, none⟩ = some (.int .u64 (x.cid : Int)) := bX.cell 3
   have e4 : W.cell? ⟨Bx, 4, none⟩ = some (.int .u8 (x.fld : Int)) := bX.cell 4
   have e5 : W.cell? ⟨Bx, 5, none⟩ = some (.string x.txt) := bX.cell 5
   have e6 : W.cell? ⟨Bx, 6, none⟩ = some (.slice x.adr x.len x.cap) := bX.cell 6
   have HR := Lib.hid hrow
   have HW := Lib.hid hB1
   have BS := Lib.hid bS
   clear hrow hB1 bS hlt
   gi_wp2_with (gi_at_builtin; refine wpListIn_append_own _ rfl _ _ 29 rfl w.heap.size 38 i0 (.agg #[.int .u16 0, .int .u64 0, .int .u8 0, .int .u64 0, .int .u8 0, .string ⟨#[]⟩, .slice none 0 0]) 7 80 Tryz.underlying29 hi0 hz0 hz1 hz2 rfl (by decide) _ _ _ rfl (HR.out.alloc _) ⟨W.heap.size, 0, none⟩ 1 1 (Ev.ev [x]) rfl rfl (vat W x) (Ev.ev_one _) (by simp only [maxLen]; omega) (by omega) (by have := HW.out.size; simp; omega) ?_; intro v' w1 hown' hgrow hat; obtain ⟨g', cap', rfl⟩ := ownsRow_succ hown'; obtain ⟨hv1, hv2, hr2, hk2, hb2⟩ := BS.out.appended (by decide) HR.out HW.out.size (Nat.le_refl _) hown' hgrow; have hc1 := hv1.cell; have hf1 := hv1.frozen)
   exact ⟨hk2.from _, hk2.walks, ⟨_, _, _, hv2, by simp, by rw [Ev.ev_append]; exact hr2⟩, HW.out.trans hb2⟩
 case done =>
   rintro D ys W hD hys ⟨⟨A1, k1, cp, bS, rfl, hrow⟩, hB1⟩ hK
   have cS := bS.cell
   gi_wp2
   refine ⟨by simp, .inl ⟨_, _, rfl, run_takeDeferred hK, ?_⟩⟩
   exact ⟨_, results_tmp rfl _ _ _, ys, A1, _, cp, rfl, hys, rfl, ownsRow_putObj hrow _ hK rfl, hB1.trans (belowK_b (w := w) (Nat.le_refl _) W D _ _ (by omega) hK rfl rfl)⟩
 case stop =>
   rintro D k pre W _ _ h _
   exact h.elim
theorem vcol_any (w : World) (Bm : Nat) (mo : Option Nat) (L : List Ev.EV) (hB : Bm < w.heap.size) (hm : w.cell? ⟨Bm, 0, none⟩ = some (.map mo)) (h : MapO w mo L) (h40 : L.length ≤ 1099511627776) :
   Calls Tryz.prog 117 #[.func (.func 154) #[] #[.pointer (some ⟨Bm, 0, none⟩)]] w (ValsPost w L) := by
 have H := Lib.hid (vseq_any w Bm mo L hB hm h h40)
 clear hm h
 go_enter Tryz.func117, Tryz.ntmps117
 go_wp2_with fail
 refine H.out.mono ?_
 rintro e w' ⟨xs, A1, n1, c1, rfl, h⟩
 have HH := Lib.hid h
 clear h
 go_wp2
 go_ret
 exact ⟨xs, A1, n1, c1, rfl, HH.out⟩
attribute [local go_sem] Oper.semAt_some
def dotsV (ps : List Ev.EV) : List Value := Dt.dv (ps.map dotV)
theorem dotsV_append (l m : List Ev.EV) : dotsV (l ++ m) = dotsV l ++ dotsV m := by unfold dotsV; rw [List.map_append, Dt.dv_append]
theorem dotsV_one (l : List Ev.EV) : ∀ u ∈ dotsV l, u.oneCell' = true := Dt.dv_one _
theorem dot_infoK : (Tryz.prog.info? 35).map (fun i => (i.zero, i.size, i.bytes)) = some (some (.agg #[.int .u16 0, .int .u64 0]), 2, 16) := by kernel_rfl
theorem kmake_any (w : World) (mo : Option Nat) : Calls Tryz.prog 101 #[.map mo] w fun e w' => e = .returned (.func (.func 142) #[] #[.pointer (some ⟨w.heap.size, 0, none⟩)]) ∧ w' = w.alloc (.cells #[.map mo] 82) := by
 go_enter Tryz.func101, Tryz.ntmps101
 go_wp2
 go_ret
 exact ⟨rfl, rfl⟩
def encKeys (x : Ev.EV) : Array Value := #[.agg #[.int .u16 (x.dev : Int), .int .u64 (x.num : Int)]]
abbrev boxKeys (x : Ev.EV) : Obj := .cells #[.int .u16 (x.dev : Int), .int .u64 (x.num : Int)] 35
set_option maxRecDepth 100000 in
set_option maxHeartbeats 4000000 in
theorem kone_in (n : Nat) (hn : 1 ≤ n) (l Bm b : Nat) (L : List Ev.EV) (J Jx : List Ev.EV → World → Prop) (W : World) (hJ : AbidesFrom W.heap.size J)
   (hY : ∀ pre x W1, J pre W1 → pre.length < L.length → YieldAt Fence.wide (n - 1) Tryz.prog l (encKeys x) W1 fun e W' =>
     (e = .returned (.bool true) ∧ J (pre ++ [x]) W' ∧ KeepsWalks W1 W') ∨ (e = .returned (.bool false) ∧ Jx (pre ++ [x]) W'))
   (hm : W.cell? ⟨Bm, 0, none⟩ = some (.map (some b))) (hown : MapE W b L) (h0 : J [] W) :
   CallsIn Fence.wide n Tryz.prog 142 #[.func (.yield l) #[] #[], .pointer (some ⟨Bm, 0, none⟩)] W fun e W' => (∃ v, e = .returned v) ∧
     ((∃ xs, L.Perm xs ∧ J xs W') ∨ (∃ pre, True ∧ Jx pre W')) := by
 have hapart := hown.apart
 have hfit := hown.fit
 obtain ⟨D, hown, hH⟩ := hown
 refine callsIn_of_wp Tryz.func142 rfl trivial ?_ rfl
 simp only [Tryz.ntmps142, List.size_toArray, List.length_cons, List.length_nil, Nat.reduceAdd, Nat.reduceSub, Array.replicate_succ, Array.replicate_zero, List.push_toArray, List.append_toArray, List.nil_append, List.cons_append]
 gi_wp2_with (first
   | (gi_at_range; refine wpListIn_range_own _ rfl _ 82 rfl 35 38 Kl.lawD Tryz.underlying82 _ b L.length _ rfl hown ?_; intro w0 hrg0 hg0 hs0)
   | gi_in)
 go_frame
 gi_loopw [3] (fun _ wr => ∃ (left : Lit → Bool) (cnt : Nat) (pre rest : List Ev.EV), wr.ranges Tryz.prog 35 elemE b W.heap.size L.length D left cnt ∧ L.Perm (pre ++ rest) ∧ LeftE left rest ∧ J pre wr)
   (fun _ wr => wr.rangeLeft b W.heap.size)
 case atStart =>
   exact ⟨_, _, [], L, hrg0, List.Perm.refl _, left_start hH, hJ [] W w0 none h0 hg0 (fun r e => by cases e)⟩
 case round =>
   obtain ⟨left, cnt, pre, rest, hrg, hp, hl, hJs⟩ := hrel
   gi_wp2_with (first
     | (gi_at_next; refine wpListIn_next_ranges _ rfl _ rfl 35 Kl.lawD elemE id Ev.EV.val (fun key kl hk => ⟨key, rfl⟩) (fun v y hv => by obtain ⟨p, h1, _⟩ := elemE_inv hv; exact ⟨p, h1⟩) b W.heap.size L.length _ _ _ rfl hrg ?_ ?_)
     | gi_in)
   · -- nothing is left
     intro hc0 hl0
     gi_wp2
     go_end0
     obtain rfl := left_end hl hl0
     rw [List.append_nil] at hp
     exact ⟨⟨_, rfl⟩, .inl ⟨pre, hp, hJs⟩⟩
   · -- an entry has come
     intro key x kl yd yp w2 cnt2 hkey hlk hv hat hrg2 hlt hg2 hs2 hen
     obtain ⟨hx, hk, rfl⟩ := left_who hH hl (fun q hq => hp.mem_iff.2 (List.mem_append_right _ hq)) hkey hlk hv hat
     obtain rfl : key = .agg #[.int .u16 (x.dev : Int), .int .u64 (x.num : Int)] := hk
     obtain ⟨rest', hp', hl'⟩ := left_step hl hp hapart hfit hx
     have hlen : pre.length < L.length := by
       have := hp'.length_eq
       simp only [List.length_append, List.length_cons, List.length_nil] at this
       omega
     have hJ2 : J pre w2 := hJ pre wr w2 (some W.heap.size) hJs hg2 (fun r e => by cases e; exact ⟨Nat.le_refl _, hrg.iter_walk⟩)
     have hJ3 : J pre (w2.alloc (boxKeys x)) := hJ pre w2 _ none hJ2 (World.grownBy_alloc w2 _ none) (fun r e => by cases e)
     obtain ⟨fn, tmps, assign, body, hy, hR⟩ := hY pre x _ hJ3 hlen
     dsimp only [encKeys] at hy
     have hrg3 := hrg2.alloc (boxKeys x)
     try simp only [id] at hen
     clear hs2 hkey hlk hv hat
     gi_wp2
     refine hR.mono ?_
     rintro e W3 (⟨rfl, hJ4, hk3⟩ | ⟨rfl, hJx3⟩)
     · gi_wp2
       have hrg4 := hrg3.of_walks hk3
       go_roundw
       case rel => exact ⟨_, cnt2, pre ++ [x], rest', hrg4, hp', hl', hJ4⟩
       case measure => rw [hrg4.left_eq, hrg.left_eq]; exact hlt
     · gi_wp2
       refine bodyPost_ret (results_none rfl _ _ _) rfl ?_
       exact ⟨⟨_, rfl⟩, .inr ⟨_, trivial, hJx3⟩⟩
set_option maxRecDepth 100000 in
set_option maxHeartbeats 4000000 in
theorem knone_in (n : Nat) (l Bm : Nat) (J : List Ev.EV → World → Prop) (W : World) (hJ : AbidesFrom W.heap.size J)
   (hm : W.cell? ⟨Bm, 0, none⟩ = some (.map none)) (h0 : J [] W) :
   CallsIn Fence.wide n Tryz.prog 142 #[.func (.yield l) #[] #[], .pointer (some ⟨Bm, 0, none⟩)] W fun e W' => (∃ v, e = .returned v) ∧ J [] W' := by
 refine callsIn_of_wp Tryz.func142 rfl trivial ?_ rfl
 simp only [Tryz.ntmps142, List.size_toArray, List.length_cons, List.length_nil, Nat.reduceAdd, Nat.reduceSub, Array.replicate_succ, Array.replicate_zero, List.push_toArray, List.append_toArray, List.nil_append, List.cons_append]
 have hrg := run_range_nilMap (P := Tryz.prog) W 82 35 38 Tryz.underlying82
 have hnx : ∀ ty, (Instr.next (.pointer (some ⟨W.heap.size, 0, none⟩)) false ty).run Tryz.prog (W.alloc (.mapIter none 0 #[] 0)) = _ := fun ty => run_next_nilMap _ ty 0 0 #[]
 gi_wp2
 refine wpIn_loop_rounds 1 ?_
 rw [roundsIn_succ]
 gi_wp2
 go_end0
 exact ⟨⟨_, rfl⟩, hJ [] W _ none h0 (World.grownBy_alloc W _ none) (fun r e => by cases e)⟩
theorem kstops (n : Nat) (hn : 1 ≤ n) (Bm : Nat) (mo : Option Nat) (L : List Ev.EV) (w : World) (hB : Bm < w.heap.size) (hm : w.cell? ⟨Bm, 0, none⟩ = some (.map mo)) (h : MapO w mo L) :
   SeqStopsK Fence.wide n Tryz.prog 142 #[.pointer (some ⟨Bm, 0, none⟩)] encKeys KeepsWalks (fun xs => L.Perm xs) (fun _ => True) L.length w := fun l J Jx W hW hJ _ hY h0 => by
 rcases h with ⟨rfl, rfl⟩ | ⟨b, rfl, h⟩
 · exact (knone_in n l Bm J W hJ ((hW.cell (p := ⟨Bm, 0, none⟩) hB).trans hm) h0).mono fun _ _ ⟨he, hj⟩ => ⟨he, .inl ⟨[], List.Perm.refl _, hj⟩⟩
 · exact kone_in n hn l Bm b L J Jx W hJ hY ((hW.cell (p := ⟨Bm, 0, none⟩) hB).trans hm) (h.up hW) h0
def KeysBox (W : World) (B : Nat) (x : Ev.EV) : Prop := W.heap[B]? = some (.cells #[.int .u16 (x.dev : Int), .int .u64 (x.num : Int)] 35 (0, 0))
theorem KeysBox.lt {W : World} {B : Nat} {x : Ev.EV} (h : KeysBox W B x) : B < W.heap.size := (Array.getElem?_eq_some_iff.1 h).1
theorem KeysBox.new (W : World) (x : Ev.EV) : KeysBox (W.alloc (boxKeys x)) W.heap.size x := World.alloc_heap_new W _
theorem KeysBox.cell {W : World} {B : Nat} {x : Ev.EV} (h : KeysBox W B x) (i : Nat) : W.cell? ⟨B, i, none⟩ = #[.int .u16 (x.dev : Int), .int .u64 (x.num : Int)][i]? := by simp [World.cell?, show W.heap[B]? = _ from h]
theorem KeysBox.own (x : Ev.EV) (B B0 : Nat) : OwnFrom B0 (fun (_ : Unit) W => KeysBox W B x) := fun s X Y row hs hg hrow =>
 (hg.block B hs.lt (fun e' => by obtain ⟨_, o, ho, hc⟩ := hrow B e'.symm; rw [show X.heap[B]? = _ from hs] at ho; cases ho; cases hc)).trans hs
theorem krow_one (x : Ev.EV) : dotsV [x] = [.int .u16 (x.dev : Int), .int .u64 (x.num : Int)] := rfl
theorem kat (W : World) (x : Ev.EV) : ∀ (j : Nat) (u : Value), (dotsV [x])[j]? = some u → (W.alloc (boxKeys x)).cell? ((⟨W.heap.size, 0, none⟩ : Addr).add j) = some u := by
 intro j u hu
 rw [Dt.zero_add, World.cell?_alloc_new]
 rw [krow_one] at hu
 simpa using hu
theorem krow_own (n₀ B B0 : Nat) : OwnFrom B0 (fun (pre : List Ev.EV) W => ∃ A k c, Boxed W B 36 (.slice A k c) ∧ k = pre.length ∧ W.ownsRow n₀ 35 2 (.slice A k c) k (dotsV pre)) := by
 rintro s X Y row ⟨A, k, c, hv, hk, hr⟩ hg hrow
 refine ⟨A, k, c, hv.kept hg (fun e' => ?_), hk, hr.kept hg ?_⟩
 · obtain ⟨_, o, ho, hc⟩ := hrow B e'.symm
   rw [show X.heap[B]? = _ from hv] at ho; cases ho; cases hc
 · rcases hr.2 with ⟨h, _⟩ | ⟨g, cap, cur, h, _, hgb, _⟩
   · exact .inl (by rw [h]; rfl)
   · refine .inr fun e' => ?_
     rw [h] at e'
     obtain ⟨_, o, ho, hc⟩ := hrow g (by simpa [Value.ownBlock] using e'.symm)
     rw [hgb] at ho; cases ho; cases hc
def KeysPost (w : World) (L : List Ev.EV) (e : Ending) (w' : World) : Prop :=
 ∃ xs A n c, e = .returned (.slice A n c) ∧ L.Perm xs ∧ xs.length = n ∧ w'.ownsRow w.heap.size 35 2 (.slice A n c) n (dotsV xs) ∧ Below w.heap.size w w'
set_option maxRecDepth 100000 in
set_option maxHeartbeats 8000000 in
theorem kseq_any (w : World) (Bm : Nat) (mo : Option Nat) (L : List Ev.EV) (hB : Bm < w.heap.size) (hm : w.cell? ⟨Bm, 0, none⟩ = some (.map mo)) (h : MapO w mo L) (h40 : L.length ≤ 1099511627776) :
   Calls Tryz.prog 141 #[.slice none 0 0, .func (.func 142) #[] #[.pointer (some ⟨Bm, 0, none⟩)]] w (KeysPost w L) := by
 obtain ⟨i0, hi0, hz0, hz1, hz2⟩ := info_parts dot_infoK
 have HB := Lib.hid h
 have HT := Lib.hid h40
 clear h h40
 refine (callsIn_wide (n := 6)).1 ?_
 refine callsIn_of_wp_marks Tryz.func141 rfl trivial ?_ rfl
 simp only [Tryz.ntmps141, List.size_toArray, List.length_cons, List.length_nil, Nat.reduceAdd, Nat.reduceSub, Array.replicate_succ, Array.replicate_zero, List.push_toArray, List.append_toArray, List.nil_append, List.cons_append]
 gi_wp2
 have b0 := Boxed.new w 36 (.slice none 0 0)
 have hB0 : Below w.heap.size w (w.alloc (.cells #[.slice none 0 0] 36)) := Ev.below_new w _
 have hsz : (w.alloc (.cells #[.slice none 0 0] 36)).heap.size = w.heap.size + 1 := by simp
 obtain ⟨W0, hW0⟩ : ∃ W0, w.alloc (.cells #[.slice none 0 0] 36) = W0 := ⟨_, rfl⟩
 rw [hW0] at b0 hB0 hsz ⊢
 clear hW0
 refine wpIn_rangeFunc_ownH rfl (by omega) (gf := 142) (lb := #[.pointer (some ⟨Bm, 0, none⟩)]) rfl trivial (enters_of Tryz.func142 (by kernel_rfl) rfl)
   (kstops (6 - 1) (by omega) Bm mo L W0 (by omega) ((hB0.cell (p := ⟨Bm, 0, none⟩) hB).trans hm) (HB.out.up hB0)) walksK_t walksK_b (Below.refl _ _) (fun _ => rfl)
   (fun pre W => (∃ A k c, Boxed W w.heap.size 36 (.slice A k c) ∧ k = pre.length ∧ W.ownsRow w.heap.size 35 2 (.slice A k c) k (dotsV pre)) ∧ Below w.heap.size w W)
   (fun _ _ _ => False)
   (OwnFrom.and (krow_own _ _ _) (ownFrom_below (Nat.le_refl _) (by omega)))
   (fun _ _ _ _ _ hs _ _ => hs)
   ⟨⟨none, 0, 0, b0, rfl, World.ownsRow_nil _ _ _ _⟩, hB0⟩
   (fun x a' W => ∃ Bx, w.heap.size < Bx ∧ KeysBox W Bx x ∧ a' = { tmps := #[.slice none 0 0, .func (.func 142) #[] #[.pointer (some ⟨Bm, 0, none⟩)], .pointer (some ⟨w.heap.size, 0, none⟩), undef, .slice none 0 0, .pointer (some ⟨Bx, 0, none⟩), .func (.func 142) #[] #[.pointer (some ⟨Bm, 0, none⟩)], .agg #[.int .u16 (x.dev : Int), .int .u64 (x.num : Int)], undef, undef, undef, undef, undef], defers := [] })
   (fun x a' _ X Y row hs hg hr => by obtain ⟨Bx, h1, h2, h3⟩ := hs; exact ⟨Bx, h1, KeysBox.own x Bx _ () X Y row h2 hg hr, h3⟩)
   ?assign ?body ?done ?stop
 case assign =>
   rintro l2 pre x W K ⟨⟨A1, k1, cp, bS, hk1, hrow⟩, hB1⟩ hK
   simp only [encKeys]
   gi_wp2
   exact hK _ _ ((KeepsOthers.alloc _ _).from _) (KeepsWalks.alloc _ _) ⟨⟨A1, k1, cp, bS.alloc _, hk1, hrow.alloc _⟩, hB1.alloc hB1.size _⟩ ⟨W.heap.size, bS.lt, KeysBox.new W x, rfl⟩
 case body =>
   rintro l2 pre x a' W hl2 ⟨r, hr⟩ ⟨⟨A1, k1, cp, bS, rfl, hrow⟩, hB1⟩ ⟨Bx, hBx, bX, rfl⟩ hlt
   have hlen : pre.length < 1099511627776 := Nat.lt_of_lt_of_le hlt HT.out
   have cS := bS.cell
   have e0 : W.cell? ⟨Bx, 0, none⟩ = some (.int .u16 (x.dev : Int)) := bX.cell 0
   have e1 : W.cell? ⟨Bx, 1, none⟩ = some (.int .u64 (x.num : Int)) := bX.cell 1
   have HR := Lib.hid hrow
   have HW := Lib.hid hB1
   have BS := Lib.hid bS
   clear hrow hB1 bS hlt
   gi_wp2_with (gi_at_builtin; refine wpListIn_append_own _ rfl _ _ 36 rfl w.heap.size 35 i0 (.agg #[.int .u16 0, .int .u64 0]) 2 16 Tryz.underlying36 hi0 hz0 hz1 hz2 rfl (by decide) _ _ _ rfl (HR.out.alloc _) ⟨W.heap.size, 0, none⟩ 1 1 (dotsV [x]) rfl rfl (kat W x) (dotsV_one _) (by simp only [maxLen]; omega) (by omega) (by have := HW.out.size; simp; omega) ?_; intro v' w1 hown' hgrow hat; obtain ⟨g', cap', rfl⟩ := ownsRow_succ hown'; obtain ⟨hv1, hv2, hr2, hk2, hb2⟩ := BS.out.appended (by decide) HR.out HW.out.size (Nat.le_refl _) hown' hgrow; have hc1 := hv1.cell; have hf1 := hv1.frozen)
   exact ⟨hk2.from _, hk2.walks, ⟨_, _, _, hv2, by simp, by rw [dotsV_append]; exact hr2⟩, HW.out.trans hb2⟩
 case done =>
   rintro D ys W hD hys ⟨⟨A1, k1, cp, bS, rfl, hrow⟩, hB1⟩ hK
   have cS := bS.cell
   gi_wp2
   refine ⟨by simp, .inl ⟨_, _, rfl, run_takeDeferred hK, ?_⟩⟩
   exact ⟨_, results_tmp rfl _ _ _, ys, A1, _, cp, rfl, hys, rfl, ownsRow_putObj hrow _ hK rfl, hB1.trans (belowK_b (w := w) (Nat.le_refl _) W D _ _ (by omega) hK rfl rfl)⟩
 case stop =>
   rintro D k pre W _ _ h _
   exact h.elim
theorem kcol_any (w : World) (Bm : Nat) (mo : Option Nat) (L : List Ev.EV) (hB : Bm < w.heap.size) (hm : w.cell? ⟨Bm, 0, none⟩ = some (.map mo)) (h : MapO w mo L) (h40 : L.length ≤ 1099511627776) :
   Calls Tryz.prog 100 #[.func (.func 142) #[] #[.pointer (some ⟨Bm, 0, none⟩)]] w (KeysPost w L) := by
 have H := Lib.hid (kseq_any w Bm mo L hB hm h h40)
 clear hm h
 go_enter Tryz.func100, Tryz.ntmps100
 go_wp2_with fail
 refine H.out.mono ?_
 rintro e w' ⟨xs, A1, n1, c1, rfl, h⟩
 have HH := Lib.hid h
 clear h
 go_wp2
 go_ret
 exact ⟨xs, A1, n1, c1, rfl, HH.out⟩
end Go.Proofs.YtgaegfddobpomaaGreat.Bk
