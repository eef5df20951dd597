/- Words and contracts that the proofs of this seat stand on, part 16 of 28. -/
import Derived.RangeFuncNested
import Derived.RangeFuncBound
import Derived.RangeFuncCalls
import Derived.RangeFuncLeaves
import Derived.Shelf.Abstract
import Derived.Shelf.RegionOpen
import Derived.WalkKit
import Derived.OwnWalkIn
import Derived.TacticsInMore
import Derived.LoopNIn
import Derived.LoopIn
import Derived.Maps.AppendAt
import Derived.Sort.MapsRangeIn
import Derived.Test.YtgaegfddobpomaaGreatFrF
import Derived.Test.YtgaegfddobpomaaGreatFrB
import Derived.Test.YtgaegfddobpomaaGreatFrL
import Derived.Test.YtgaegfddobpomaaGreatFrI
import Derived.Shelf.SlMaps.Clone
import Derived.Shelf.SlSortCmp.WholeK
import Derived.Test.YtgaegfddobpomaaGreatProg

namespace Go.Proofs.YtgaegfddobpomaaGreat.Bk
open Go.ChangeShapes Go.WideShapes Go.ChangeAt Go.RowKit Go.Shelf Go.Maps
set_option linter.unusedVariables false
attribute [local go_sem] Oper.semAt_some
def MapO (w : World) (mo : Option Nat) (L : List Ev.EV) : Prop := (mo = none ∧ L = []) ∨ ∃ b, mo = some b ∧ MapE w b L
theorem MapO.up {w W : World} {mo : Option Nat} {L : List Ev.EV} (h : MapO w mo L) (hW : Below w.heap.size w W) : MapO W mo L := by
 rcases h with h | ⟨b, h1, h2⟩
 · exact .inl h
 · exact .inr ⟨b, h1, h2.up hW⟩
theorem MapO.perm {w : World} {mo : Option Nat} {L M : List Ev.EV} (h : MapO w mo L) (hp : L.Perm M) : MapO w mo M := by
 rcases h with ⟨h1, rfl⟩ | ⟨b, h1, h2⟩
 · exact .inl ⟨h1, by rw [List.nil_perm] at hp; exact hp⟩
 · exact .inr ⟨b, h1, h2.perm hp⟩
theorem MapO.fit {w : World} {mo : Option Nat} {L : List Ev.EV} (h : MapO w mo L) : ∀ p ∈ L, FitD (dotV p) := by
 rcases h with ⟨h1, rfl⟩ | ⟨b, h1, h2⟩
 · exact fun p hp => (by cases hp)
 · exact h2.fit
def LeftE (left : Lit → Bool) (rest : List Ev.EV) : Prop := ∀ kl, left kl = true ↔ ∃ p ∈ rest, kl = Kl.keyD (dotV p)
theorem left_end {left : Lit → Bool} {rest : List Ev.EV} (h : LeftE left rest) (h0 : ∀ kl, left kl = false) : rest = [] := by
 cases rest with
 | nil => rfl
 | cons p r =>
   have := (h (Kl.keyD (dotV p))).2 ⟨p, List.mem_cons_self .., rfl⟩
   rw [h0] at this
   cases this
theorem left_step {left : Lit → Bool} {L pre rest : List Ev.EV} {p : Ev.EV} (h : LeftE left rest) (hp : L.Perm (pre ++ rest)) (ha : L.Pairwise (fun p q => dotV p ≠ dotV q)) (hf : ∀ p ∈ L, FitD (dotV p)) (hm : p ∈ rest) :
   ∃ rest', L.Perm ((pre ++ [p]) ++ rest') ∧ LeftE (fun z => left z && !z.sameKey (Kl.keyD (dotV p))) rest' := by
 obtain ⟨r1, r2, rfl⟩ := List.append_of_mem hm
 have hq : L.Perm ((pre ++ [p]) ++ (r1 ++ r2)) := by
   rw [List.append_assoc]
   exact hp.trans (List.Perm.append_left _ List.perm_middle)
 refine ⟨r1 ++ r2, hq, fun kl => ?_⟩
 have hA : (p :: (r1 ++ r2)).Pairwise (fun p q => dotV p ≠ dotV q) := by
   have h1 := (hp.pairwise_iff (R := fun p q => dotV p ≠ dotV q) (fun {_ _} hne => Ne.symm hne)).1 ha
   have h2 := (List.pairwise_append.1 h1).2.1
   exact ((List.perm_middle (a := p) (l₁ := r1) (l₂ := r2)).pairwise_iff (R := fun p q => dotV p ≠ dotV q) (fun {_ _} hne => Ne.symm hne)).1 h2
 have hne := (List.pairwise_cons.1 hA).1
 have hfr : ∀ q ∈ r1 ++ p :: r2, FitD (dotV q) := fun q hq => hf q (hp.mem_iff.2 (List.mem_append_right _ hq))
 rw [Bool.and_eq_true, h kl, Bool.not_eq_true']
 constructor
 · rintro ⟨⟨q, hq, rfl⟩, h2⟩
   refine ⟨q, ?_, rfl⟩
   rcases List.mem_append.1 hq with h3 | h3
   · exact List.mem_append_left _ h3
   · rcases List.mem_cons.1 h3 with rfl | h3
     · rw [WideAt.sameKey_self (Kl.keyD_lit _)] at h2
       cases h2
     · exact List.mem_append_right _ h3
 · rintro ⟨q, hq, rfl⟩
   have h3 : q ∈ r1 ++ p :: r2 := by
     rcases List.mem_append.1 hq with h3 | h3
     · exact List.mem_append_left _ h3
     · exact List.mem_append_right _ (List.mem_cons_of_mem _ h3)
   exact ⟨⟨q, h3, rfl⟩, Maps.sameKey_ne (fun e => hne q hq (Kl.keyD_inj (hfr q h3) (hfr p hm) e).symm)⟩
theorem left_start {D : DataW Ev.EV} {L : List Ev.EV} (h : HoldsE D L) : LeftE (Maps.has D) L := h.has
theorem left_who {D : DataW Ev.EV} {L rest : List Ev.EV} {left : Lit → Bool} {key : Value} {p : Ev.EV} {kl : Lit} {yd : DataW Ev.EV} {yp : List MemPlace} (h : HoldsE D L) (hl : LeftE left rest) (hs : ∀ q ∈ rest, q ∈ L)
   (hkey : keyOf Tryz.prog 35 key = some kl) (hlk : left kl = true) (hv : elemE p.val = some (yd, yp)) (hat : ∀ zd, D.atKey kl zd = yd) : p ∈ rest ∧ key = Kl.dval (dotV p) ∧ kl = Kl.keyD (dotV p) := by
 obtain ⟨q, hq, rfl⟩ := (hl kl).1 hlk
 have h1 := h.at_ q (hs q hq) .nil
 rw [hat] at h1
 rw [elemE_val] at hv
 have h2 : yd = .held p := (congrArg Prod.fst (Option.some.inj hv)).symm
 rw [h2] at h1
 injection h1 with h1
 subst h1
 exact ⟨hq, Kl.lawD.inj hkey (Kl.keyD_is (h.fit _ (hs _ hq))), rfl⟩
theorem vmake_any (w : World) (mo : Option Nat) : Calls Tryz.prog 118 #[.map mo] w fun e w' => e = .returned (.func (.func 154) #[] #[.pointer (some ⟨w.heap.size, 0, none⟩)]) ∧ w' = w.alloc (.cells #[.map mo] 82) := by
 go_enter Tryz.func118, Tryz.ntmps118
 go_wp2
 go_ret
 exact ⟨rfl, rfl⟩
def encVals (x : Ev.EV) : Array Value := #[.agg #[.int .u16 (x.dev : Int), .int .u64 (x.num : Int), .int .u8 (x.kind : Int), .int .u64 (x.cid : Int), .int .u8 (x.fld : Int), .string x.txt, .slice x.adr x.len x.cap]]
abbrev boxVals (x : Ev.EV) : Obj := .cells #[.int .u16 (x.dev : Int), .int .u64 (x.num : Int), .int .u8 (x.kind : Int), .int .u64 (x.cid : Int), .int .u8 (x.fld : Int), .string x.txt, .slice x.adr x.len x.cap] 38
set_option maxRecDepth 100000 in
set_option maxHeartbeats 4000000 in
theorem vone_in (n : Nat) (hn : 1 ≤ n) (l Bm b : Nat) (L : List Ev.EV) (J Jx : List Ev.EV → World → Prop) (W : World) (hJ : AbidesFrom W.heap.size J)
   (hY : ∀ pre x W1, J pre W1 → pre.length < L.length → YieldAt Fence.wide (n - 1) Tryz.prog l (encVals x) W1 fun e W' =>
     (e = .returned (.bool true) ∧ J (pre ++ [x]) W' ∧ KeepsWalks W1 W') ∨ (e = .returned (.bool false) ∧ Jx (pre ++ [x]) W'))
   (hm : W.cell? ⟨Bm, 0, none⟩ = some (.map (some b))) (hown : MapE W b L) (h0 : J [] W) :
   CallsIn Fence.wide n Tryz.prog 154 #[.func (.yield l) #[] #[], .pointer (some ⟨Bm, 0, none⟩)] W fun e W' => (∃ v, e = .returned v) ∧
     ((∃ xs, L.Perm xs ∧ J xs W') ∨ (∃ pre, True ∧ Jx pre W')) := by
 have hapart := hown.apart
 have hfit := hown.fit
 obtain ⟨D, hown, hH⟩ := hown
 refine callsIn_of_wp Tryz.func154 rfl trivial ?_ rfl
 simp only [Tryz.ntmps154, List.size_toArray, List.length_cons, List.length_nil, Nat.reduceAdd, Nat.reduceSub, Array.replicate_succ, Array.replicate_zero, List.push_toArray, List.append_toArray, List.nil_append, List.cons_append]
 gi_wp2_with (first
   | (gi_at_range; refine wpListIn_range_own _ rfl _ 82 rfl 35 38 Kl.lawD Tryz.underlying82 _ b L.length _ rfl hown ?_; intro w0 hrg0 hg0 hs0)
   | gi_in)
 go_frame
 gi_loopw [4] (fun _ wr => ∃ (left : Lit → Bool) (cnt : Nat) (pre rest : List Ev.EV), wr.ranges Tryz.prog 35 elemE b W.heap.size L.length D left cnt ∧ L.Perm (pre ++ rest) ∧ LeftE left rest ∧ J pre wr)
   (fun _ wr => wr.rangeLeft b W.heap.size)
 case atStart =>
   exact ⟨_, _, [], L, hrg0, List.Perm.refl _, left_start hH, hJ [] W w0 none h0 hg0 (fun r e => by cases e)⟩
 case round =>
   obtain ⟨left, cnt, pre, rest, hrg, hp, hl, hJs⟩ := hrel
   gi_wp2_with (first
     | (gi_at_next; refine wpListIn_next_ranges _ rfl _ rfl 35 Kl.lawD elemE id Ev.EV.val (fun key kl hk => ⟨key, rfl⟩) (fun v y hv => by obtain ⟨p, h1, _⟩ := elemE_inv hv; exact ⟨p, h1⟩) b W.heap.size L.length _ _ _ rfl hrg ?_ ?_)
     | gi_in)
   · -- nothing is left
     intro hc0 hl0
     gi_wp2
     go_end0
     obtain rfl := left_end hl hl0
     rw [List.append_nil] at hp
     exact ⟨⟨_, rfl⟩, .inl ⟨pre, hp, hJs⟩⟩
   · -- an entry has come
     intro key x kl yd yp w2 cnt2 hkey hlk hv hat hrg2 hlt hg2 hs2 hen
     obtain ⟨hx, hk, rfl⟩ := left_who hH hl (fun q hq => hp.mem_iff.2 (List.mem_append_right _ hq)) hkey hlk hv hat
     obtain rfl : key = .agg #[.int .u16 (x.dev : Int), .int .u64 (x.num : Int)] := hk
     obtain ⟨rest', hp', hl'⟩ := left_step hl hp hapart hfit hx
     have hlen : pre.length < L.length := by
       have := hp'.length_eq
       simp only [List.length_append, List.length_cons, List.length_nil] at this
       omega
     have hJ2 : J pre w2 := hJ pre wr w2 (some W.heap.size) hJs hg2 (fun r e => by cases e; exact ⟨Nat.le_refl _, hrg.iter_walk⟩)
     have hJ3 : J pre (w2.alloc (boxVals x)) := hJ pre w2 _ none hJ2 (World.grownBy_alloc w2 _ none) (fun r e => by cases e)
     obtain ⟨fn, tmps, assign, body, hy, hR⟩ := hY pre x _ hJ3 hlen
     dsimp only [encVals] at hy
     have hrg3 := hrg2.alloc (boxVals x)
     try simp only [id] at hen
     clear hs2 hkey hlk hv hat
     gi_wp2
     refine hR.mono ?_
     rintro e W3 (⟨rfl, hJ4, hk3⟩ | ⟨rfl, hJx3⟩)
     · gi_wp2
       have hrg4 := hrg3.of_walks hk3
       go_roundw
       case rel => exact ⟨_, cnt2, pre ++ [x], rest', hrg4, hp', hl', hJ4⟩
       case measure => rw [hrg4.left_eq, hrg.left_eq]; exact hlt
     · gi_wp2
       refine bodyPost_ret (results_none rfl _ _ _) rfl ?_
       exact ⟨⟨_, rfl⟩, .inr ⟨_, trivial, hJx3⟩⟩
set_option maxRecDepth 100000 in
set_option maxHeartbeats 4000000 in
theorem vnone_in (n : Nat) (l Bm : Nat) (J : List Ev.EV → World → Prop) (W : World) (hJ : AbidesFrom W.heap.size J)
   (hm : W.cell? ⟨Bm, 0, none⟩ = some (.map none)) (h0 : J [] W) :
   CallsIn Fence.wide n Tryz.prog 154 #[.func (.yield l) #[] #[], .pointer (some ⟨Bm, 0, none⟩)] W fun e W' => (∃ v, e = .returned v) ∧ J [] W' := by
 refine callsIn_of_wp Tryz.func154 rfl trivial ?_ rfl
 simp only [Tryz.ntmps154, List.size_toArray, List.length_cons, List.length_nil, Nat.reduceAdd, Nat.reduceSub, Array.replicate_succ, Array.replicate_zero, List.push_toArray, List.append_toArray, List.nil_append, List.cons_append]
 have hrg := run_range_nilMap (P := Tryz.prog) W 82 35 38 Tryz.underlying82
 have hnx : ∀ ty, (Instr.next (.pointer (some ⟨W.heap.size, 0, none⟩)) false ty).run Tryz.prog (W.alloc (.mapIter none 0 #[] 0)) = _ := fun ty => run_next_nilMap _ ty 0 0 #[]
 gi_wp2
 refine wpIn_loop_rounds 1 ?_
 rw [roundsIn_succ]
 gi_wp2
 go_end0
 exact ⟨⟨_, rfl⟩, hJ [] W _ none h0 (World.grownBy_alloc W _ none) (fun r e => by cases e)⟩
theorem vstops (n : Nat) (hn : 1 ≤ n) (Bm : Nat) (mo : Option Nat) (L : List Ev.EV) (w : World) (hB : Bm < w.heap.size) (hm : w.cell? ⟨Bm, 0, none⟩ = some (.map mo)) (h : MapO w mo L) :
   SeqStopsK Fence.wide n Tryz.prog 154 #[.pointer (some ⟨Bm, 0, none⟩)] encVals KeepsWalks (fun xs => L.Perm xs) (fun _ => True) L.length w := fun l J Jx W hW hJ _ hY h0 => by
 rcases h with ⟨rfl, rfl⟩ | ⟨b, rfl, h⟩
 · exact (vnone_in n l Bm J W hJ ((hW.cell (p := ⟨Bm, 0, none⟩) hB).trans hm) h0).mono fun _ _ ⟨he, hj⟩ => ⟨he, .inl ⟨[], List.Perm.refl _, hj⟩⟩
 · exact vone_in n hn l Bm b L J Jx W hJ hY ((hW.cell (p := ⟨Bm, 0, none⟩) hB).trans hm) (h.up hW) h0
def ValsBox (W : World) (B : Nat) (x : Ev.EV) : Prop := W.heap[B]? = some (.cells #[.int .u16 (x.dev : Int), .int .u64 (x.num : Int), .int .u8 (x.kind : Int), .int .u64 (x.cid : Int), .int .u8 (x.fld : Int), .string x.txt, .slice x.adr x.len x.cap] 38 (0, 0))
theorem ValsBox.lt {W : World} {B : Nat} {x : Ev.EV} (h : ValsBox W B x) : B < W.heap.size := (Array.getElem?_eq_some_iff.1 h).1
theorem ValsBox.new (W : World) (x : Ev.EV) : ValsBox (W.alloc (boxVals x)) W.heap.size x := World.alloc_heap_new W _
theorem ValsBox.cell {W : World} {B : Nat} {x : Ev.EV} (h : ValsBox W B x) (i : Nat) : W.cell? ⟨B, i, none⟩ = #[.int .u16 (x.dev : Int), .int .u64 (x.num : Int), .int .u8 (x.kind : Int), .int .u64 (x.cid : Int), .int .u8 (x.fld : Int), .string x.txt, .slice x.adr x.len x.cap][i]? := by simp [World.cell?, show W.heap[B]? = _ from h]
theorem ValsBox.own (x : Ev.EV) (B B0 : Nat) : OwnFrom B0 (fun (_ : Unit) W => ValsBox W B x) := fun s X Y row hs hg hrow =>
 (hg.block B hs.lt (fun e' => by obtain ⟨_, o, ho, hc⟩ := hrow B e'.symm; rw [show X.heap[B]? = _ from hs] at ho; cases ho; cases hc)).trans hs
theorem vrow_one (x : Ev.EV) : Ev.ev [x] = [.int .u16 (x.dev : Int), .int .u64 (x.num : Int), .int .u8 (x.kind : Int), .int .u64 (x.cid : Int), .int .u8 (x.fld : Int), .string x.txt, .slice x.adr x.len x.cap] := by simp [Ev.ev]
theorem vat (W : World) (x : Ev.EV) : ∀ (j : Nat) (u : Value), (Ev.ev [x])[j]? = some u → (W.alloc (boxVals x)).cell? ((⟨W.heap.size, 0, none⟩ : Addr).add j) = some u := by
 intro j u hu
 rw [Dt.zero_add, World.cell?_alloc_new]
 rw [vrow_one] at hu
 simpa using hu
theorem vrow_own (n₀ B B0 : Nat) : OwnFrom B0 (fun (pre : List Ev.EV) W => ∃ A k c, Boxed W B 29 (.slice A k c) ∧ k = pre.length ∧ W.ownsRow n₀ 38 7 (.slice A k c) k (Ev.ev pre)) := by
 rintro s X Y row ⟨A, k, c, hv, hk, hr⟩ hg hrow
 refine ⟨A, k, c, hv.kept hg (fun e' => ?_), hk, hr.kept hg ?_⟩
 · obtain ⟨_, o, ho, hc⟩ := hrow B e'.symm
   rw [show X.heap[B]? = _ from hv] at ho; cases ho; cases hc
 · rcases hr.2 with ⟨h, _⟩ | ⟨g, cap, cur, h, _, hgb, _⟩
   · exact .inl (by rw [h]; rfl)
   · refine .inr fun e' => ?_
     rw [h] at e'
     obtain ⟨_, o, ho, hc⟩ := hrow g (by simpa [Value.ownBlock] using e'.symm)
     rw [hgb] at ho; cases ho; cases hc
def ValsPost (w : World) (L : List Ev.EV) (e : Ending) (w' : World) : Prop :=
 ∃ xs A n c, e = .returned (.slice A n c) ∧ L.Perm xs ∧ xs.length = n ∧ w'.ownsRow w.heap.size 38 7 (.slice A n c) n (Ev.ev xs) ∧ Below w.heap.size w w'
set_option maxRecDepth 100000 in
set_option maxHeartbeats 8000000 in
theorem vseq_any (w : World) (Bm : Nat) (mo : Option Nat) (L : List Ev.EV) (hB : Bm < w.heap.size) (hm : w.cell? ⟨Bm, 0, none⟩ = some (.map mo)) (h : MapO w mo L) (h40 : L.length ≤ 1099511627776) :
   Calls Tryz.prog 153 #[.slice none 0 0, .func (.func 154) #[] #[.pointer (some ⟨Bm, 0, none⟩)]] w (ValsPost w L) := by
 obtain ⟨i0, hi0, hz0, hz1, hz2⟩ := info_parts Ev.evt_info
 have HB := Lib.hid h
 have HT := Lib.hid h40
 clear h h40
 refine (callsIn_wide (n := 6)).1 ?_
 refine callsIn_of_wp_marks Tryz.func153 rfl trivial ?_ rfl
 simp only [Tryz.ntmps153, List.size_toArray, List.length_cons, List.length_nil, Nat.reduceAdd, Nat.reduceSub, Array.replicate_succ, Array.replicate_zero, List.push_toArray, List.append_toArray, List.nil_append, List.cons_append]
 gi_wp2
 have b0 := Boxed.new w 29 (.slice none 0 0)
 have hB0 : Below w.heap.size w (w.alloc (.cells #[.slice none 0 0] 29)) := Ev.below_new w _
 have hsz : (w.alloc (.cells #[.slice none 0 0] 29)).heap.size = w.heap.size + 1 := by simp
 obtain ⟨W0, hW0⟩ : ∃ W0, w.alloc (.cells #[.slice none 0 0] 29) = W0 := ⟨_, rfl⟩
 rw [hW0] at b0 hB0 hsz ⊢
 clear hW0
 refine wpIn_rangeFunc_ownH rfl (by omega) (gf := 154) (lb := #[.pointer (some ⟨Bm, 0, none⟩)]) rfl trivial (enters_of Tryz.func154 (by kernel_rfl) rfl)
   (vstops (6 - 1) (by omega) Bm mo L W0 (by omega) ((hB0.cell (p := ⟨Bm, 0, none⟩) hB).trans hm) (HB.out.up hB0)) walksK_t walksK_b (Below.refl _ _) (fun _ => rfl)
   (fun pre W => (∃ A k c, Boxed W w.heap.size 29 (.slice A k c) ∧ k = pre.length ∧ W.ownsRow w.heap.size 38 7 (.slice A k c) k (Ev.ev pre)) ∧ Below w.heap.size w W)
   (fun _ _ _ => False)
   (OwnFrom.and (vrow_own _ _ _) (ownFrom_below (Nat.le_refl _) (by omega)))
   (fun _ _ _ _ _ hs _ _ => hs)
   ⟨⟨none, 0, 0, b0, rfl, World.ownsRow_nil _ _ _ _⟩, hB0⟩
   (fun x a' W => ∃ Bx, w.heap.size < Bx ∧ ValsBox W Bx x ∧ a' = { tmps := #[.slice none 0 0, .func (.func 154) #[] #[.pointer (some ⟨Bm, 0, none⟩)], .pointer (some ⟨w.heap.size, 0, none⟩), undef, .slice none 0 0, .pointer (some ⟨Bx, 0, none⟩), .func (.func 154) #[] #[.pointer (some ⟨Bm, 0, none⟩)], .agg #[.int .u16 (x.dev : Int), .int .u64 (x.num : Int), .int .u8 (x.kind : Int), .int .u64 (x.cid : Int), .int .u8 (x.fld : Int), .string x.txt, .slice x.adr x.len x.cap], undef, undef, undef, undef, undef], defers := [] })
   (fun x a' _ X Y row hs hg hr => by obtain ⟨Bx, h1, h2, h3⟩ := hs; exact ⟨Bx, h1, ValsBox.own x Bx _ () X Y row h2 hg hr, h3⟩)
   ?assign ?body ?done ?stop
 case assign =>
   rintro l2 pre x W K ⟨⟨A1, k1, cp, bS, hk1, hrow⟩, hB1⟩ hK
   simp only [encVals]
   gi_wp2
   exact hK _ _ ((KeepsOthers.alloc _ _).from _) (KeepsWalks.alloc _ _) ⟨⟨A1, k1, cp, bS.alloc _, hk1, hrow.alloc _⟩, hB1.alloc hB1.size _⟩ ⟨W.heap.size, bS.lt, ValsBox.new W x, rfl⟩
 case body =>
   rintro l2 pre x a' W hl2 ⟨r, hr⟩ ⟨⟨A1, k1, cp, bS, rfl, hrow⟩, hB1⟩ ⟨Bx, hBx, bX, rfl⟩ hlt
   have hlen : pre.length < 1099511627776 := Nat.lt_of_lt_of_le hlt HT.out
   have cS := bS.cell
   have e0 : W.cell? ⟨Bx, 0, none⟩ = some (.int .u16 (x.dev : Int)) := bX.cell 0
   have e1 : W.cell? ⟨Bx, 1, none⟩ = some (.int .u64 (x.num : Int)) := bX.cell 1
   have e2 : W.cell? ⟨Bx, 2, none⟩ = some (.int .u8 (x.kind : Int)) := bX.cell 2
   have e3 : W.cell? ⟨Bx, 3, none⟩ = some (.int .u64 (x.cid : Int)) := bX.cell 3
   have e4 : W.cell? ⟨Bx, 4, none⟩ = some (.int .u8 (x.fld : Int)) := bX.cell 4
   have e5 : W.cell? ⟨Bx, 5, none⟩ = some (.string x.txt) := bX.cell 5
   have e6 : W.cell? ⟨Bx, 6, none⟩ = some (.slice x.adr x.len x.cap) := bX.cell 6
   have HR := Lib.hid hrow
   have HW := Lib.hid hB1
   have BS := Lib.hid bS
   clear hrow hB1 bS hlt
   gi_wp2_with (gi_at_builtin; refine wpListIn_append_own _ rfl _ _ 29 rfl w.heap.size 38 i0 (.agg #[.int .u16 0, .int .u64 0, .int .u8 0, .int .u64 0, .int .u8 0, .string ⟨#[]⟩, .slice none 0 0]) 7 80 Tryz.underlying29 hi0 hz0 hz1 hz2 rfl (by decide) _ _ _ rfl (HR.out.alloc _) ⟨W.heap.size, 0, none⟩ 1 1 (Ev.ev [x]) rfl rfl (vat W x) (Ev.ev_one _) (by simp only [maxLen]; omega) (by omega) (by have := HW.out.size; simp; omega) ?_; intro v' w1 hown' hgrow hat; obtain ⟨g', cap', rfl⟩ := ownsRow_succ hown'; obtain ⟨hv1, hv2, hr2, hk2, hb2⟩ := BS.out.appended (by decide) HR.out HW.out.size (Nat.le_refl _) hown' hgrow; have hc1 := hv1.cell; have hf1 := hv1.frozen)
   exact ⟨hk2.from _, hk2.walks, ⟨_, _, _, hv2, by simp, by rw [Ev.ev_append]; exact hr2⟩, HW.out.trans hb2⟩
 case done =>
   rintro D ys W hD hys ⟨⟨A1, k1, cp, bS, rfl, hrow⟩, hB1⟩ hK
   have cS := bS.cell
   gi_wp2
   refine ⟨by simp, .inl ⟨_, _, rfl, run_takeDeferred hK, ?_⟩⟩
   exact ⟨_, results_tmp rfl _ _ _, ys, A1, _, cp, rfl, hys, rfl, ownsRow_putObj hrow _ hK rfl, hB1.trans (belowK_b (w := w) (Nat.le_refl _) W D _ _ (by omega) hK rfl rfl)⟩
 case stop =>
   rintro D k pre W _ _ h _
   exact h.elim
theorem vcol_any (w : World) (Bm : Nat) (mo : Option Nat) (L : List Ev.EV) (hB : Bm < w.heap.size) (hm : w.cell? ⟨Bm, 0, none⟩ = some (.map mo)) (h : MapO w mo L) (h40 : L.length ≤ 1099511627776) :
   Calls Tryz.prog 117 #[.func (.func 154) #[] #[.pointer (some ⟨Bm, 0, none⟩)]] w (ValsPost w L) := by
 have H := Lib.hid (vseq_any w Bm mo L hB hm h h40)
 clear hm h
 go_enter Tryz.func117, Tryz.ntmps117
 go_wp2_with fail
 refine H.out.mono ?_
 rintro e w' ⟨xs, A1, n1, c1, rfl, h⟩
 have HH := Lib.hid h
 clear h
 go_wp2
 go_ret
 exact ⟨xs, A1, n1, c1, rfl, HH.out⟩
attribute [local go_sem] Oper.semAt_some
def dotsV (ps : List Ev.EV) : List Value := Dt.dv (ps.map dotV)
theorem dotsV_append (l m : List Ev.EV) : dotsV (l ++ m) = dotsV l ++ dotsV m := by unfold dotsV; rw [List.map_append, Dt.dv_append]
theorem dotsV_one (l : List Ev.EV) : ∀ u ∈ dotsV l, u.oneCell' = true := Dt.dv_one _
theorem dot_infoK : (Tryz.prog.info? 35).map (fun i => (i.zero, i.size, i.bytes)) = some (some (.agg #[.int .u16 0, .int .u64 0]), 2, 16) := by kernel_rfl
theorem kmake_any (w : World) (mo : Option Nat) : Calls Tryz.prog 101 #[.map mo] w fun e w' => e = .returned (.func (.func 142) #[] #[.pointer (some ⟨w.heap.size, 0, none⟩)]) ∧ w' = w.alloc (.cells #[.map mo] 82) := by
 go_enter Tryz.func101, Tryz.ntmps101
 go_wp2
 go_ret
 exact ⟨rfl, rfl⟩
def encKeys (x : Ev.EV) : Array Value := #[.agg #[.int .u16 (x.dev : Int), .int .u64 (x.num : Int)]]
abbrev boxKeys (x : Ev.EV) : Obj := .cells #[.int .u16 (x.dev : Int), .int .u64 (x.num : Int)] 35
set_option maxRecDepth 100000 in
set_option maxHeartbeats 4000000 in
theorem kone_in (n : Nat) (hn : 1 ≤ n) (l Bm b : Nat) (L : List Ev.EV) (J Jx : List Ev.EV → World → Prop) (W : World) (hJ : AbidesFrom W.heap.size J)
   (hY : ∀ pre x W1, J pre W1 → pre.length < L.length → YieldAt Fence.wide (n - 1) Tryz.prog l (encKeys x) W1 fun e W' =>
     (e = .returned (.bool true) ∧ J (pre ++ [x]) W' ∧ KeepsWalks W1 W') ∨ (e = .returned (.bool false) ∧ Jx (pre ++ [x]) W'))
   (hm : W.cell? ⟨Bm, 0, none⟩ = some (.map (some b))) (hown : MapE W b L) (h0 : J [] W) :
   CallsIn Fence.wide n Tryz.prog 142 #[.func (.yield l) #[] #[], .pointer (some ⟨Bm, 0, none⟩)] W fun e W' => (∃ v, e = .returned v) ∧
     ((∃ xs, L.Perm xs ∧ J xs W') ∨ (∃ pre, True ∧ Jx pre W')) := by
 have hapart := hown.apart
 have hfit := hown.fit
 obtain ⟨D, hown, hH⟩ := hown
 refine callsIn_of_wp Tryz.func142 rfl trivial ?_ rfl
 simp only [Tryz.ntmps142, List.size_toArray, List.length_cons, List.length_nil, Nat.reduceAdd, Nat.reduceSub, Array.replicate_succ, Array.replicate_zero, List.push_toArray, List.append_toArray, List.nil_append, List.cons_append]
 gi_wp2_with (first
   | (gi_at_range; refine wpListIn_range_own _ rfl _ 82 rfl 35 38 Kl.lawD Tryz.underlying82 _ b L.length _ rfl hown ?_; intro w0 hrg0 hg0 hs0)
   | gi_in)
 go_frame
 gi_loopw [3] (fun _ wr => ∃ (left : Lit → Bool) (cnt : Nat) (pre rest : List Ev.EV), wr.ranges Tryz.prog 35 elemE b W.heap.size L.length D left cnt ∧ L.Perm (pre ++ rest) ∧ LeftE left rest ∧ J pre wr)
   (fun _ wr => wr.rangeLeft b W.heap.size)
 case atStart =>
   exact ⟨_, _, [], L, hrg0, List.Perm.refl _, left_start hH, hJ [] W w0 none h0 hg0 (fun r e => by cases e)⟩
 case round =>
   obtain ⟨left, cnt, pre, rest, hrg, hp, hl, hJs⟩ := hrel
   gi_wp2_with (first
     | (gi_at_next; refine wpListIn_next_ranges _ rfl _ rfl 35 Kl.lawD elemE id Ev.EV.val (fun key kl hk => ⟨key, rfl⟩) (fun v y hv => by obtain ⟨p, h1, _⟩ := elemE_inv hv; exact ⟨p, h1⟩) b W.heap.size L.length _ _ _ rfl hrg ?_ ?_)
     | gi_in)
   · -- nothing is left
     intro hc0 hl0
     gi_wp2
     go_end0
     obtain rfl := left_end hl hl0
     rw [List.append_nil] at hp
     exact ⟨⟨_, rfl⟩, .inl ⟨pre, hp, hJs⟩⟩
   · -- an entry has come
     intro key x kl yd yp w2 cnt2 hkey hlk hv hat hrg2 hlt hg2 hs2 hen
     obtain ⟨hx, hk, rfl⟩ := left_who hH hl (fun q hq => hp.mem_iff.2 (List.mem_append_right _ hq)) hkey hlk hv hat
     obtain rfl : key = .agg #[.int .u16 (x.dev : Int), .int .u64 (x.num : Int)] := hk
     obtain ⟨rest', hp', hl'⟩ := left_step hl hp hapart hfit hx
     have hlen : pre.length < L.length := by
       have := hp'.length_eq
       simp only [List.length_append, List.length_cons, List.length_nil] at this
       omega
     have hJ2 : J pre w2 := hJ pre wr w2 (some W.heap.size) hJs hg2 (fun r e => by cases e; exact ⟨Nat.le_refl _, hrg.iter_walk⟩)
     have hJ3 : J pre (w2.alloc (boxKeys x)) := hJ pre w2 _ none hJ2 (World.grownBy_alloc w2 _ none) (fun r e => by cases e)
     obtain ⟨fn, tmps, assign, body, hy, hR⟩ := hY pre x _ hJ3 hlen
     dsimp only [encKeys] at hy
     have hrg3 := hrg2.alloc (boxKeys x)
     try simp only [id] at hen
     clear hs2 hkey hlk hv hat
     gi_wp2
     refine hR.mono ?_
     rintro e W3 (⟨rfl, hJ4, hk3⟩ | ⟨rfl, hJx3⟩)
     · gi_wp2
       have hrg4 := hrg3.of_walks hk3
       go_roundw
       case rel => exact ⟨_, cnt2, pre ++ [x], rest', hrg4, hp', hl', hJ4⟩
       case measure => rw [hrg4.left_eq, hrg.left_eq]; exact hlt
     · gi_wp2
       refine bodyPost_ret (results_none rfl _ _ _) rfl ?_
       exact ⟨⟨_, rfl⟩, .inr ⟨_, trivial, hJx3⟩⟩
set_option maxRecDepth 100000 in
set_option maxHeartbeats 4000000 in
theorem knone_in (n : Nat) (l Bm : Nat) (J : List Ev.EV → World → Prop) (W : World) (hJ : AbidesFrom W.heap.size J)
   (hm : W.cell? ⟨Bm, 0, none⟩ = some (.map none)) (h0 : J [] W) :
   CallsIn Fence.wide n Tryz.prog 142 #[.func (.yield l) #[] #[], .pointer (some ⟨Bm, 0, none⟩)] W fun e W' => (∃ v, e = .returned v) ∧ J [] W' := by
 refine callsIn_of_wp Tryz.func142 rfl trivial ?_ rfl
 simp only [Tryz.ntmps142, List.size_toArray, List.length_cons, List.length_nil, Nat.reduceAdd, Nat.reduceSub, Array.replicate_succ, Array.replicate_zero, List.push_toArray, List.append_toArray, List.nil_append, List.cons_append]
 have hrg := run_range_nilMap (P := Tryz.prog) W 82 35 38 Tryz.underlying82
 have hnx : ∀ ty, (Instr.next (.pointer (some ⟨W.heap.size, 0, none⟩)) false ty).run Tryz.prog (W.alloc (.mapIter none 0 #[] 0)) = _ := fun ty => run_next_nilMap _ ty 0 0 #[]
 gi_wp2
 refine wpIn_loop_rounds 1 ?_
 rw [roundsIn_succ]
 gi_wp2
 go_end0
 exact ⟨⟨_, rfl⟩, hJ [] W _ none h0 (World.grownBy_alloc W _ none) (fun r e => by cases e)⟩
theorem kstops (n : Nat) (hn : 1 ≤ n) (Bm : Nat) (mo : Option Nat) (L : List Ev.EV) (w : World) (hB : Bm < w.heap.size) (hm : w.cell? ⟨Bm, 0, none⟩ = some (.map mo)) (h : MapO w mo L) :
   SeqStopsK Fence.wide n Tryz.prog 142 #[.pointer (some ⟨Bm, 0, none⟩)] encKeys KeepsWalks (fun xs => L.Perm xs) (fun _ => True) L.length w := fun l J Jx W hW hJ _ hY h0 => by
 rcases h with ⟨rfl, rfl⟩ | ⟨b, rfl, h⟩
 · exact (knone_in n l Bm J W hJ ((hW.cell (p := ⟨Bm, 0, none⟩) hB).trans hm) h0).mono fun _ _ ⟨he, hj⟩ => ⟨he, .inl ⟨[], List.Perm.refl _, hj⟩⟩
 · exact kone_in n hn l Bm b L J Jx W hJ hY ((hW.cell (p := ⟨Bm, 0, none⟩) hB).trans hm) (h.up hW) h0
def KeysBox (W : World) (B : Nat) (x : Ev.EV) : Prop := W.heap[B]? = some (.cells #[.int .u16 (x.dev : Int), .int .u64 (x.num : Int)] 35 (0, 0))
theorem KeysBox.lt {W : World} {B : Nat} {x : Ev.EV} (h : KeysBox W B x) : B < W.heap.size := (Array.getElem?_eq_some_iff.1 h).1
theorem KeysBox.new (W : World) (x : Ev.EV) : KeysBox (W.alloc (boxKeys x)) W.heap.size x := World.alloc_heap_new W _
theorem KeysBox.cell {W : World} {B : Nat} {x : Ev.EV} (h : KeysBox W B x) (i : Nat) : W.cell? ⟨B, i, none⟩ = #[.int .u16 (x.dev : Int), .int .u64 (x.num : Int)][i]? := by simp [World.cell?, show W.heap[B]? = _ from h]
theorem KeysBox.own (x : Ev.EV) (B B0 : Nat) : OwnFrom B0 (fun (_ : Unit) W => KeysBox W B x) := fun s X Y row hs hg hrow =>
 (hg.block B hs.lt (fun e' => by obtain ⟨_, o, ho, hc⟩ := hrow B e'.symm; rw [show X.heap[B]? = _ from hs] at ho; cases ho; cases hc)).trans hs
theorem krow_one (x : Ev.EV) : dotsV [x] = [.int .u16 (x.dev : Int), .int .u64 (x.num : Int)] := rfl
theorem kat (W : World) (x : Ev.EV) : ∀ (j : Nat) (u : Value), (dotsV [x])[j]? = some u → (W.alloc (boxKeys x)).cell? ((⟨W.heap.size, 0, none⟩ : Addr).add j) = some u := by
 intro j u hu
 rw [Dt.zero_add, World.cell?_alloc_new]
 rw [krow_one] at hu
 simpa using hu
theorem krow_own (n₀ B B0 : Nat) : OwnFrom B0 (fun (pre : List Ev.EV) W => ∃ A k c, Boxed W B 36 (.slice A k c) ∧ k = pre.length ∧ W.ownsRow n₀ 35 2 (.slice A k c) k (dotsV pre)) := by
 rintro s X Y row ⟨A, k, c, hv, hk, hr⟩ hg hrow
 refine ⟨A, k, c, hv.kept hg (fun e' => ?_), hk, hr.kept hg ?_⟩
 · obtain ⟨_, o, ho, hc⟩ := hrow B e'.symm
   rw [show X.heap[B]? = _ from hv] at ho; cases ho; cases hc
 · rcases hr.2 with ⟨h, _⟩ | ⟨g, cap, cur, h, _, hgb, _⟩
   · exact .inl (by rw [h]; rfl)
   · refine .inr fun e' => ?_
     rw [h] at e'
     obtain ⟨_, o, ho, hc⟩ := hrow g (by simpa [Value.ownBlock] using e'.symm)
     rw [hgb] at ho; cases ho; cases hc
def KeysPost (w : World) (L : List Ev.EV) (e : Ending) (w' : World) : Prop :=
 ∃ xs A n c, e = .returned (.slice A n c) ∧ L.Perm xs ∧ xs.length = n ∧ w'.ownsRow w.heap.size 35 2 (.slice A n c) n (dotsV xs) ∧ Below w.heap.size w w'
set_option maxRecDepth 100000 in
set_option maxHeartbeats 8000000 in
theorem kseq_any (w : World) (Bm : Nat) (mo : Option Nat) (L : List Ev.EV) (hB : Bm < w.heap.size) (hm : w.cell? ⟨Bm, 0, none⟩ = some (.map mo)) (h : MapO w mo L) (h40 : L.length ≤ 1099511627776) :
   Calls Tryz.prog 141 #[.slice none 0 0, .func (.func 142) #[] #[.pointer (some ⟨Bm, 0, none⟩)]] w (KeysPost w L) := by
 obtain ⟨i0, hi0, hz0, hz1, hz2⟩ := info_parts dot_infoK
 have HB := Lib.hid h
 have HT := Lib.hid h40
 clear h h40
 refine (callsIn_wide (n := 6)).1 ?_
 refine callsIn_of_wp_marks Tryz.func141 rfl trivial ?_ rfl
 simp only [Tryz.ntmps141, List.size_toArray, List.length_cons, List.length_nil, Nat.reduceAdd, Nat.reduceSub, Array.replicate_succ, Array.replicate_zero, List.push_toArray, List.append_toArray, List.nil_append, List.cons_append]
 gi_wp2
 have b0 := Boxed.new w 36 (.slice none 0 0)
 have hB0 : Below w.heap.size w (w.alloc (.cells #[.slice none 0 0] 36)) := Ev.below_new w _
 have hsz : (w.alloc (.cells #[.slice none 0 0] 36)).heap.size = w.heap.size + 1 := by simp
 obtain ⟨W0, hW0⟩ : ∃ W0, w.alloc (.cells #[.slice none 0 0] 36) = W0 := ⟨_, rfl⟩
 rw [hW0] at b0 hB0 hsz ⊢
 clear hW0
 refine wpIn_rangeFunc_ownH rfl (by omega) (gf := 142) (lb := #[.pointer (some ⟨Bm, 0, none⟩)]) rfl trivial (enters_of Tryz.func142 (by kernel_rfl) rfl)
   (kstops (6 - 1) (by omega) Bm mo L W0 (by omega) ((hB0.cell (p := ⟨Bm, 0, none⟩) hB).trans hm) (HB.out.up hB0)) walksK_t walksK_b (Below.refl _ _) (fun _ => rfl)
   (fun pre W => (∃ A k c, Boxed W w.heap.size 36 (.slice A k c) ∧ k = pre.length ∧ W.ownsRow w.heap.size 35 2 (.slice A k c) k (dotsV pre)) ∧ Below w.heap.size w W)
   (fun _ _ _ => False)
   (OwnFrom.and (krow_own _ _ _) (ownFrom_below (Nat.le_refl _) (by omega)))
   (fun _ _ _ _ _ hs _ _ => hs)
   ⟨⟨none, 0, 0, b0, rfl, World.ownsRow_nil _ _ _ _⟩, hB0⟩
   (fun x a' W => ∃ Bx, w.heap.size < Bx ∧ KeysBox W Bx x ∧ a' = { tmps := #[.slice none 0 0, .func (.func 142) #[] #[.pointer (some ⟨Bm, 0, none⟩)], .pointer (some ⟨w.heap.size, 0, none⟩), undef, .slice none 0 0, .pointer (some ⟨Bx, 0, none⟩), .func (.func 142) #[] #[.pointer (some ⟨Bm, 0, none⟩)], .agg #[.int .u16 (x.dev : Int), .int .u64 (x.num : Int)], undef, undef, undef, undef, undef], defers := [] })
   (fun x a' _ X Y row hs hg hr => by obtain ⟨Bx, h1, h2, h3⟩ := hs; exact ⟨Bx, h1, KeysBox.own x Bx _ () X Y row h2 hg hr, h3⟩)
   ?assign ?body ?done ?stop
 case assign =>
   rintro l2 pre x W K ⟨⟨A1, k1, cp, bS, hk1, hrow⟩, hB1⟩ hK
   simp only [encKeys]
   gi_wp2
   exact hK _ _ ((KeepsOthers.alloc _ _).from _) (KeepsWalks.alloc _ _) ⟨⟨A1, k1, cp, bS.alloc _, hk1, hrow.alloc _⟩, hB1.alloc hB1.size _⟩ ⟨W.heap.size, bS.lt, KeysBox.new W x, rfl⟩
 case body =>
   rintro l2 pre x a' W hl2 ⟨r, hr⟩ ⟨⟨A1, k1, cp, bS, rfl, hrow⟩, hB1⟩ ⟨Bx, hBx, bX, rfl⟩ hlt
   have hlen : pre.length < 1099511627776 := Nat.lt_of_lt_of_le hlt HT.out
   have cS := bS.cell
   have e0 : W.cell? ⟨Bx, 0, none⟩ = some (.int .u16 (x.dev : Int)) := bX.cell 0
   have e1 : W.cell? ⟨Bx, 1, none⟩ = some (.int .u64 (x.num : Int)) := bX.cell 1
   have HR := Lib.hid hrow
   have HW := Lib.hid hB1
   have BS := Lib.hid bS
   clear hrow hB1 bS hlt
   gi_wp2_with (gi_at_builtin; refine wpListIn_append_own _ rfl _ _ 36 rfl w.heap.size 35 i0 (.agg #[.int .u16 0, .int .u64 0]) 2 16 Tryz.underlying36 hi0 hz0 hz1 hz2 rfl (by decide) _ _ _ rfl (HR.out.alloc _) ⟨W.heap.size, 0, none⟩ 1 1 (dotsV [x]) rfl rfl (kat W x) (dotsV_one _) (by simp only [maxLen]; omega) (by omega) (by have := HW.out.size; simp; omega) ?_; intro v' w1 hown' hgrow hat; obtain ⟨g', cap', rfl⟩ := ownsRow_succ hown'; obtain ⟨hv1, hv2, hr2, hk2, hb2⟩ := BS.out.appended (by decide) HR.out HW.out.size (Nat.le_refl _) hown' hgrow; have hc1 := hv1.cell; have hf1 := hv1.frozen)
   exact ⟨hk2.from _, hk2.walks, ⟨_, _, _, hv2, by simp, by rw [dotsV_append]; exact hr2⟩, HW.out.trans hb2⟩
 case done =>
   rintro D ys W hD hys ⟨⟨A1, k1, cp, bS, rfl, hrow⟩, hB1⟩ hK
   have cS := bS.cell
   gi_wp2
   refine ⟨by simp, .inl ⟨_, _, rfl, run_takeDeferred hK, ?_⟩⟩
   exact ⟨_, results_tmp rfl _ _ _, ys, A1, _, cp, rfl, hys, rfl, ownsRow_putObj hrow _ hK rfl, hB1.trans (belowK_b (w := w) (Nat.le_refl _) W D _ _ (by omega) hK rfl rfl)⟩
 case stop =>
   rintro D k pre W _ _ h _
   exact h.elim
theorem kcol_any (w : World) (Bm : Nat) (mo : Option Nat) (L : List Ev.EV) (hB : Bm < w.heap.size) (hm : w.cell? ⟨Bm, 0, none⟩ = some (.map mo)) (h : MapO w mo L) (h40 : L.length ≤ 1099511627776) :
   Calls Tryz.prog 100 #[.func (.func 142) #[] #[.pointer (some ⟨Bm, 0, none⟩)]] w (KeysPost w L) := by
 have H := Lib.hid (kseq_any w Bm mo L hB hm h h40)
 clear hm h
 go_enter Tryz.func100, Tryz.ntmps100
 go_wp2_with fail
 refine H.out.mono ?_
 rintro e w' ⟨xs, A1, n1, c1, rfl, h⟩
 have HH := Lib.hid h
 clear h
 go_wp2
 go_ret
 exact ⟨xs, A1, n1, c1, rfl, HH.out⟩
end Go.Proofs.YtgaegfddobpomaaGreat.Bk

namespace Go.Proofs.YtgaegfddobpomaaGreat.Bk
open Go.ChangeShapes Go.WideShapes Go.ChangeAt Go.RowKit Go.Proofs.YtgaegfddobpomaaGreat.Kl Go.Maps
set_option linter.unusedVariables false
set_option maxRecDepth 4000
/-! Lists of events in memory, in another order, or in part. -/
theorem match_cons {w : World} {B : Nat} {p : Ev.EV} {ps : List Ev.EV} {x : Ev.Evt} {l : List Ev.Evt} : Ev.Match w B (p :: ps) (x :: l) ↔ Ev.EventIs w B p x ∧ Ev.Match w B ps l := by
 constructor
 · intro h
   refine ⟨h.2 0 p x rfl rfl, by have := h.1; simpa using this, fun k q y hq hy => h.2 (k + 1) q y hq hy⟩
 · rintro ⟨h1, h2⟩
   refine ⟨by simp [h2.1], fun k q y hq hy => ?_⟩
   cases k with
   | zero => cases hq; cases hy; exact h1
   | succ k => exact h2.2 k q y hq hy
theorem match_perm {w : World} {B : Nat} {l m : List Ev.Evt} (hp : l.Perm m) : ∀ {ps : List Ev.EV}, Ev.Match w B ps l → ∃ qs, ps.Perm qs ∧ Ev.Match w B qs m := by
 induction hp with
 | nil => intro ps h; exact ⟨ps, List.Perm.refl _, h⟩
 | cons x _ ih =>
   intro ps h
   cases ps with
   | nil => have := h.1; simp at this
   | cons p ps =>
     obtain ⟨h1, h2⟩ := match_cons.1 h
     obtain ⟨qs, h3, h4⟩ := ih h2
     exact ⟨p :: qs, h3.cons _, match_cons.2 ⟨h1, h4⟩⟩
 | swap x y l =>
   intro ps h
   match ps, h with
   | [], h => have := h.1; simp at this
   | [_], h => have := h.1; simp at this
   | p :: q :: ps, h =>
     obtain ⟨h1, h2⟩ := match_cons.1 h
     obtain ⟨h3, h4⟩ := match_cons.1 h2
     exact ⟨q :: p :: ps, List.Perm.swap _ _ _, match_cons.2 ⟨h3, match_cons.2 ⟨h1, h4⟩⟩⟩
 | trans _ _ ih1 ih2 =>
   intro ps h
   obtain ⟨qs, h1, h2⟩ := ih1 h
   obtain ⟨rs, h3, h4⟩ := ih2 h2
   exact ⟨rs, h1.trans h3, h4⟩
theorem match_turn {w : World} {B : Nat} {ps qs : List Ev.EV} (hp : ps.Perm qs) : ∀ {l : List Ev.Evt}, Ev.Match w B ps l → ∃ m, l.Perm m ∧ Ev.Match w B qs m := by
 induction hp with
 | nil => intro l h; exact ⟨l, List.Perm.refl _, h⟩
 | cons x _ ih =>
   intro l h
   cases l with
   | nil => have := h.1; simp at this
   | cons y l =>
     obtain ⟨h1, h2⟩ := match_cons.1 h
     obtain ⟨m, h3, h4⟩ := ih h2
     exact ⟨y :: m, h3.cons _, match_cons.2 ⟨h1, h4⟩⟩
 | swap x y ps =>
   intro l h
   match l, h with
   | [], h => have := h.1; simp at this
   | [_], h => have := h.1; simp at this
   | a :: b :: l, h =>
     obtain ⟨h1, h2⟩ := match_cons.1 h
     obtain ⟨h3, h4⟩ := match_cons.1 h2
     exact ⟨b :: a :: l, List.Perm.swap _ _ _, match_cons.2 ⟨h3, match_cons.2 ⟨h1, h4⟩⟩⟩
 | trans _ _ ih1 ih2 =>
   intro l h
   obtain ⟨m, h1, h2⟩ := ih1 h
   obtain ⟨n, h3, h4⟩ := ih2 h2
   exact ⟨n, h1.trans h3, h4⟩
theorem match_some {w : World} {B : Nat} {f : Ev.EV → Bool} {g : Ev.Evt → Bool} (hfg : ∀ p x, Ev.EventIs w B p x → f p = g x) : ∀ {ps : List Ev.EV} {l : List Ev.Evt}, Ev.Match w B ps l → Ev.Match w B (ps.filter f) (l.filter g)
 | [], [], h => h
 | [], _ :: _, h => by have := h.1; simp at this
 | _ :: _, [], h => by have := h.1; simp at this
 | p :: ps, x :: l, h => by
   obtain ⟨h1, h2⟩ := match_cons.1 h
   have ih := match_some hfg h2
   rw [List.filter_cons, List.filter_cons, hfg p x h1]
   by_cases hg : g x = true
   · rw [if_pos hg, if_pos hg]; exact match_cons.2 ⟨h1, ih⟩
   · rw [if_neg hg, if_neg hg]; exact ih
theorem match_off {w W : World} {F : Nat → Prop} (hS : NoNum w F) (hg : Off F w W) {ps : List Ev.EV} {l : List Ev.Evt} (h : Ev.Match w w.heap.size ps l) : Ev.Match W W.heap.size ps l := ⟨h.1, fun k p x hp hx => evt_off hS hg (h.2 k p x hp hx)⟩
theorem match_up {w W : World} (hb : Below w.heap.size w W) {ps : List Ev.EV} {l : List Ev.Evt} (h : Ev.Match w w.heap.size ps l) : Ev.Match W W.heap.size ps l := (h.below hb).more hb.size
theorem sort_set {l S : List Ev.Evt} (hS : Ev.OrdE S) (h : ∀ x, x ∈ l ↔ x ∈ S) : Ev.sortE l = S := by
 refine Ev.ord_uniq (Ev.sort_ord l) hS (fun x => ?_)
 rw [Ev.sort_mem]
 have huniq : ∀ y ∈ S, ∀ z ∈ S, y.dot = z.dot → y = z := fun y hy z hz hd => by
   rcases Decidable.em (y = z) with e | hne
   · exact e
   · have h1 : S.Pairwise (fun a b => a.dot ≠ b.dot) := hS.imp (fun {a b} h => Ev.ahead_ne h)
     have h2 : ∀ (T : List Ev.Evt), T.Pairwise (fun a b => a.dot ≠ b.dot) → y ∈ T → z ∈ T → y = z := by
       intro T hT
       induction T with
       | nil => intro hy; cases hy
       | cons t T ih =>
         obtain ⟨h3, h4⟩ := List.pairwise_cons.1 hT
         intro hy hz
         rcases List.mem_cons.1 hy with e1 | hy2
         · rcases List.mem_cons.1 hz with e2 | hz2
           · rw [e1, e2]
           · exact absurd hd (by rw [e1]; exact h3 z hz2)
         · rcases List.mem_cons.1 hz with e2 | hz2
           · exact absurd hd.symm (by rw [e2]; exact h3 y hy2)
           · exact ih h4 hy2 hz2
     exact h2 S h1 hy hz
 constructor
 · rintro ⟨j, hj, _⟩
   exact (h x).1 (List.mem_of_getElem? hj)
 · intro hx
   have hxl := (h x).2 hx
   obtain ⟨j, hj, he⟩ := List.getElem_of_mem hxl
   have hP : ∃ i : Nat, ∃ y : Ev.Evt, l[i]? = some y ∧ y.dot = x.dot := ⟨j, x, by rw [List.getElem?_eq_getElem hj, he], rfl⟩
   have hmin : ∀ n : Nat, (∃ i : Nat, i ≤ n ∧ ∃ y : Ev.Evt, l[i]? = some y ∧ y.dot = x.dot) → ∃ i : Nat, ∃ y : Ev.Evt, l[i]? = some y ∧ y.dot = x.dot ∧ ∀ (k : Nat) (z : Ev.Evt), k < i → l[k]? = some z → z.dot ≠ x.dot := by
     intro n
     induction n with
     | zero =>
       rintro ⟨i, hi, y, hy, hd⟩
       exact ⟨i, y, hy, hd, fun k z hk => by omega⟩
     | succ n ih =>
       rintro ⟨i, hi, y, hy, hd⟩
       by_cases hn : ∃ i : Nat, i ≤ n ∧ ∃ y : Ev.Evt, l[i]? = some y ∧ y.dot = x.dot
       · exact ih hn
       · exact ⟨i, y, hy, hd, fun k z hk hz hzd => hn ⟨k, by omega, z, hz, hzd⟩⟩
   obtain ⟨i0, y0, hy0, hd0⟩ := hP
   obtain ⟨i, y, hy, hd, hmn⟩ := hmin i0 ⟨i0, Nat.le_refl _, y0, hy0, hd0⟩
   have e : y = x := huniq y ((h y).1 (List.mem_of_getElem? hy)) x hx hd
   subst e
   exact ⟨i, hy, hmn⟩
/-! A book in memory. -/
theorem MapO.off {w W : World} {mo : Option Nat} {L : List Ev.EV} {G : Nat → Prop} (h : MapO w mo L) (ho : Off G w W) (hn : ∀ b, mo = some b → ¬ G b) : MapO W mo L := by
 rcases h with h | ⟨b, rfl, h⟩
 · exact .inl h
 · exact .inr ⟨b, rfl, h.at_block (ho.block b h.lt (hn b rfl))⟩
theorem MapO.lt {w : World} {mo : Option Nat} {L : List Ev.EV} (h : MapO w mo L) {b : Nat} (hb : mo = some b) : b < w.heap.size := by
 rcases h with ⟨h, _⟩ | ⟨c, h, h2⟩
 · rw [h] at hb; cases hb
 · rw [h] at hb; cases hb; exact h2.lt
theorem MapO.nocell {w : World} {mo : Option Nat} {L : List Ev.EV} (h : MapO w mo L) {b : Nat} (hb : mo = some b) (i : Nat) (u : Value) : w.cell? ⟨b, i, none⟩ ≠ some u := by
 rcases h with ⟨h, _⟩ | ⟨c, h, h2⟩
 · rw [h] at hb; cases hb
 · rw [h] at hb; cases hb; exact h2.nocell i u
theorem MapO.none_ (w : World) : MapO w none [] := .inl ⟨rfl, rfl⟩
theorem MapO.some_ {w : World} {b : Nat} {L : List Ev.EV} (h : MapE w b L) : MapO w (some b) L := .inr ⟨b, rfl, h⟩
def Own (p : Nat) (m1 m2 : Option Nat) (b : Nat) : Prop := b = p ∨ m1 = some b ∨ m2 = some b
structure BkMem (w : World) (p : Nat) (A : Option Addr) (n k : Nat) (m1 m2 : Option Nat) (L1 L2 : List Ev.EV) : Prop where
 at_ : At w p 84 #[.slice A n k, .map m1, .map m2]
 live : MapO w m1 L1
 tomb : MapO w m2 L2
 both : m1 = none ↔ m2 = none
 apart : ∀ b, m1 = some b → m2 ≠ some b
theorem BkMem.lt {w : World} {p : Nat} {A : Option Addr} {n k : Nat} {m1 m2 : Option Nat} {L1 L2 : List Ev.EV} (h : BkMem w p A n k m1 m2 L1 L2) {b : Nat} (hb : Own p m1 m2 b) : b < w.heap.size := by
 rcases hb with rfl | hb | hb
 · exact h.at_.lt
 · exact h.live.lt hb
 · exact h.tomb.lt hb
theorem BkMem.ne {w : World} {p : Nat} {A : Option Addr} {n k : Nat} {m1 m2 : Option Nat} {L1 L2 : List Ev.EV} (h : BkMem w p A n k m1 m2 L1 L2) : m1 ≠ some p ∧ m2 ≠ some p :=
 ⟨fun e => h.live.nocell e 0 _ (h.at_.cell 0), fun e => h.tomb.nocell e 0 _ (h.at_.cell 0)⟩
theorem BkMem.off {w W : World} {p : Nat} {A : Option Addr} {n k : Nat} {m1 m2 : Option Nat} {L1 L2 : List Ev.EV} {G : Nat → Prop} (h : BkMem w p A n k m1 m2 L1 L2) (ho : Off G w W) (hn : ∀ b, Own p m1 m2 b → ¬ G b) : BkMem W p A n k m1 m2 L1 L2 :=
 ⟨(ho.block p h.at_.lt (hn p (.inl rfl))).trans h.at_, h.live.off ho (fun b hb => hn b (.inr (.inl hb))), h.tomb.off ho (fun b hb => hn b (.inr (.inr hb))), h.both, h.apart⟩
theorem BkMem.up {w W : World} {p : Nat} {A : Option Addr} {n k : Nat} {m1 m2 : Option Nat} {L1 L2 : List Ev.EV} (h : BkMem w p A n k m1 m2 L1 L2) (hb : Below w.heap.size w W) : BkMem W p A n k m1 m2 L1 L2 := h.off (off_of (fun _ => False) hb) (fun _ _ hf => hf)
theorem BkMem.nonum {w : World} {p : Nat} {A : Option Addr} {n k : Nat} {m1 m2 : Option Nat} {L1 L2 : List Ev.EV} (h : BkMem w p A n k m1 m2 L1 L2) : NoNum w (Own p m1 m2) := fun b hb i u hu => by
 rcases hb with rfl | hb | hb
 · refine at_nonum h.at_ (fun v hv => ?_) _ rfl i u hu
   simp only [List.mem_toArray, List.mem_cons, List.not_mem_nil, or_false] at hv
   rcases hv with rfl | rfl | rfl <;> rfl
 · exact absurd hu (h.live.nocell hb i u)
 · exact absurd hu (h.tomb.nocell hb i u)
theorem BkMem.cells {w W : World} {p : Nat} {A : Option Addr} {n k : Nat} {m1 m2 : Option Nat} {L1 L2 : List Ev.EV} (h : BkMem w p A n k m1 m2 L1 L2) (hb : Below w.heap.size w W) : W.cell? ⟨p, 0, none⟩ = some (.slice A n k) ∧ W.cell? ⟨p, 1, none⟩ = some (.map m1) ∧ W.cell? ⟨p, 2, none⟩ = some (.map m2) :=
 ⟨(h.up hb).at_.cell 0, (h.up hb).at_.cell 1, (h.up hb).at_.cell 2⟩
theorem BkMem.frozen {w W : World} {p : Nat} {A : Option Addr} {n k : Nat} {m1 m2 : Option Nat} {L1 L2 : List Ev.EV} (h : BkMem w p A n k m1 m2 L1 L2) (hb : Below w.heap.size w W) (i : Nat) : W.frozen? ⟨p, i, none⟩ = false := (h.up hb).at_.frozen i
theorem BkMem.see {w : World} {p : Nat} {A A' : Option Addr} {n k n' k' : Nat} {m1 m2 : Option Nat} {L1 L2 : List Ev.EV} (h : BkMem w p A n k m1 m2 L1 L2) : BkMem (w.setCell ⟨p, 0, none⟩ (.slice A' n' k')) p A' n' k' m1 m2 L1 L2 := by
 have hne := h.ne
 exact ⟨h.at_.set 0 _, h.live.off (off_set w p 0 _) (fun b hb e => hne.1 (by rw [hb, e])), h.tomb.off (off_set w p 0 _) (fun b hb e => hne.2 (by rw [hb, e])), h.both, h.apart⟩
structure Turns (w : World) (p : Nat) (m1 m2 m1' m2' : Option Nat) (w' : World) : Prop where
 own : ∀ b, Own p m1' m2' b → Own p m1 m2 b ∨ w.heap.size ≤ b
 off : Off (Own p m1 m2) w w'
theorem Turns.refl (w : World) (p : Nat) (m1 m2 : Option Nat) : Turns w p m1 m2 m1 m2 w := ⟨fun _ h => .inl h, Off.refl _ _⟩
theorem Turns.below {w W : World} {p : Nat} {m1 m2 : Option Nat} (h : Below w.heap.size w W) : Turns w p m1 m2 m1 m2 W := ⟨fun _ h => .inl h, off_of _ h⟩
theorem Turns.trans {w V W : World} {p : Nat} {m1 m2 n1 n2 o1 o2 : Option Nat} (h : Turns w p m1 m2 n1 n2 V) (k : Turns V p n1 n2 o1 o2 W) : Turns w p m1 m2 o1 o2 W := by
 refine ⟨fun b hb => ?_, ?_⟩
 · rcases k.own b hb with h1 | h1
   · exact h.own b h1
   · exact .inr (Nat.le_trans h.off.size h1)
 · have h1 : Off (fun b => Own p m1 m2 b ∨ w.heap.size ≤ b) w V := h.off.more (fun _ _ hb => .inl hb)
   have h2 : Off (fun b => Own p m1 m2 b ∨ w.heap.size ≤ b) V W := k.off.more (fun b _ hb => h.own b hb)
   exact (h1.trans h2).more (fun b hlt hb => hb.elim id (fun h3 => by omega))
theorem Turns.set {w : World} {p : Nat} {m1 m2 : Option Nat} (i : Nat) (u : Value) : Turns w p m1 m2 m1 m2 (w.setCell ⟨p, i, none⟩ u) := ⟨fun _ h => .inl h, (off_set w p i u).more (fun b _ e => .inl e)⟩
theorem Turns.grown1 {w W : World} {p b : Nat} {m1 m2 : Option Nat} (hb : m1 = some b) (h : w.grownBy W (some b)) : Turns w p m1 m2 m1 m2 W := ⟨fun _ h => .inl h, (off_grown h).more (fun c _ e => .inr (.inl (by rw [hb, e])))⟩
theorem Turns.grown2 {w W : World} {p b : Nat} {m1 m2 : Option Nat} (hb : m2 = some b) (h : w.grownBy W (some b)) : Turns w p m1 m2 m1 m2 W := ⟨fun _ h => .inl h, (off_grown h).more (fun c _ e => .inr (.inr (by rw [hb, e])))⟩
structure BkIs (w : World) (p : Nat) (A : Option Addr) (n k : Nat) (m1 m2 : Option Nat) (L1 L2 : List Ev.EV) (S : Bt) : Prop where
 mem : BkMem w p A n k m1 m2 L1 L2
 leg : Leg S
 seen : Cx.CtxAt w A S.1 n k
 liveM : Ev.Match w w.heap.size L1 (S.2.filter (kindB 1))
 tombM : Ev.Match w w.heap.size L2 (S.2.filter (kindB 2))
theorem BkIs.off {w W : World} {p : Nat} {A : Option Addr} {n k : Nat} {m1 m2 : Option Nat} {L1 L2 : List Ev.EV} {S : Bt} {G : Nat → Prop} (h : BkIs w p A n k m1 m2 L1 L2 S) (ho : Off G w W) (hG : NoNum w G) (hn : ∀ b, Own p m1 m2 b → ¬ G b) : BkIs W p A n k m1 m2 L1 L2 S :=
 ⟨h.mem.off ho hn, h.leg, ctx_off hG ho h.seen, match_off hG ho h.liveM, match_off hG ho h.tombM⟩
theorem BkIs.up {w W : World} {p : Nat} {A : Option Addr} {n k : Nat} {m1 m2 : Option Nat} {L1 L2 : List Ev.EV} {S : Bt} (h : BkIs w p A n k m1 m2 L1 L2 S) (hb : Below w.heap.size w W) : BkIs W p A n k m1 m2 L1 L2 S :=
 ⟨h.mem.up hb, h.leg, h.seen.up hb, match_up hb h.liveM, match_up hb h.tombM⟩
def Lb : Lay := fun w p T S => ∃ A n k m1 m2 L1 L2, BkIs w p A n k m1 m2 L1 L2 S ∧ ∀ b, T b ↔ Own p m1 m2 b
theorem lb_of {w : World} {p : Nat} {A : Option Addr} {n k : Nat} {m1 m2 : Option Nat} {L1 L2 : List Ev.EV} {S : Bt} (h : BkIs w p A n k m1 m2 L1 L2 S) : Lb w p (Own p m1 m2) S := ⟨A, n, k, m1, m2, L1, L2, h, fun _ => Iff.rfl⟩
def Goes (w : World) (p : Nat) (m1 m2 : Option Nat) (S : Bt) (w' : World) : Prop := ∃ A' n' k' m1' m2' L1' L2', BkIs w' p A' n' k' m1' m2' L1' L2' S ∧ Turns w p m1 m2 m1' m2' w'
theorem went_of {w w' : World} {p : Nat} {T : Nat → Prop} {A : Option Addr} {n k : Nat} {m1 m2 : Option Nat} {L1 L2 : List Ev.EV} {S S' : Bt} (h : BkIs w p A n k m1 m2 L1 L2 S) (hT : ∀ b, T b ↔ Own p m1 m2 b) (hg : Goes w p m1 m2 S' w') : Went Lb w p T S' w' := by
 obtain ⟨A', n', k', m1', m2', L1', L2', h1, h2⟩ := hg
 exact ⟨_, Own p m1 m2, lb_of h1, fun b hb => (h2.own b hb).imp (hT b).2 id, fun b hb => (hT b).2 hb, h.mem.nonum, h2.off⟩
theorem kind_good {x : Ev.Evt} (h : Ev.goodE x = true) : x.kind = 1 ∨ x.kind = 2 := by
 unfold Ev.goodE Ev.headB at h
 by_cases h1 : x.kind = 1
 · exact .inl h1
 · by_cases h2 : x.kind = 2
   · exact .inr h2
   · rw [if_neg h1, if_neg h2] at h
     simp at h
theorem ord_some {l : List Ev.Evt} (h : Ev.OrdE l) (f : Ev.Evt → Bool) : Ev.OrdE (l.filter f) := List.Pairwise.filter f h
theorem BkIs.len1 {w : World} {p : Nat} {A : Option Addr} {n k : Nat} {m1 m2 : Option Nat} {L1 L2 : List Ev.EV} {S : Bt} (h : BkIs w p A n k m1 m2 L1 L2 S) : L1.length ≤ S.2.length := by
 rw [h.liveM.1]; exact List.length_filter_le _ _
theorem BkIs.len2 {w : World} {p : Nat} {A : Option Addr} {n k : Nat} {m1 m2 : Option Nat} {L1 L2 : List Ev.EV} {S : Bt} (h : BkIs w p A n k m1 m2 L1 L2 S) : L2.length ≤ S.2.length := by
 rw [h.tombM.1]; exact List.length_filter_le _ _
end Go.Proofs.YtgaegfddobpomaaGreat.Bk

namespace Go.Proofs
open Go.Shelf
def Tryz.sortD_ren : Go.Shelf.Ren := ⟨fun | 6 => 133 | 15 => 163 | 14 => 165 | 28 => 185 | 29 => 186 | 20 => 187 | 21 => 188 | 22 => 189 | 23 => 190 | 24 => 191 | 25 => 192 | 26 => 193 | 27 => 194 | 46 => 210 | 47 => 206 | 48 => 207 | 49 => 211 | 50 => 212 | 57 => 218 | n => n, fun | 22 => 36 | 24 => 35 | 25 => 103 | 3 => 3 | 39 => 166 | 0 => 0 | 53 => 193 | 55 => 33 | 4 => 4 | 46 => 186 | 45 => 185 | 50 => 190 | 5 => 5 | 9 => 9 | 66 => 206 | 70 => 210 | 76 => 216 | 77 => 217 | n => n, fun | n => n⟩
theorem Tryz.sortD : Go.Proofs.SlLaysF0.n6 Tryz.prog Tryz.sortD_ren := {
 mixed := by kernel_rfl
 f6 := ⟨Tryz.f133.name, by decide, Tryz.func133.trans (congrArg some (by kernel_rfl))⟩
 f14 := ⟨Tryz.f165.name, by decide, Tryz.func165.trans (congrArg some (by kernel_rfl))⟩
 f15 := Tryz.func163.trans (congrArg some (by kernel_rfl))
 f20 := ⟨Tryz.f187.name, by decide, Tryz.func187.trans (congrArg some (by kernel_rfl))⟩
 f21 := ⟨Tryz.f188.name, by decide, Tryz.func188.trans (congrArg some (by kernel_rfl))⟩
 f22 := ⟨Tryz.f189.name, by decide, Tryz.func189.trans (congrArg some (by kernel_rfl))⟩
 f23 := ⟨Tryz.f190.name, by decide, Tryz.func190.trans (congrArg some (by kernel_rfl))⟩
 f24 := ⟨Tryz.f191.name, by decide, Tryz.func191.trans (congrArg some (by kernel_rfl))⟩
 f25 := ⟨Tryz.f192.name, by decide, Tryz.func192.trans (congrArg some (by kernel_rfl))⟩
 f26 := ⟨Tryz.f193.name, by decide, Tryz.func193.trans (congrArg some (by kernel_rfl))⟩
 f27 := ⟨Tryz.f194.name, by decide, Tryz.func194.trans (congrArg some (by kernel_rfl))⟩
 f28 := Tryz.func185.trans (congrArg some (by kernel_rfl))
 f29 := Tryz.func186.trans (congrArg some (by kernel_rfl))
 f46 := ⟨Tryz.f210.name, by decide, Tryz.func210.trans (congrArg some (by kernel_rfl))⟩
 f47 := Tryz.func206.trans (congrArg some (by kernel_rfl))
 f48 := Tryz.func207.trans (congrArg some (by kernel_rfl))
 f49 := ⟨Tryz.f211.name, by decide, Tryz.func211.trans (congrArg some (by kernel_rfl))⟩
 f50 := ⟨Tryz.f212.name, by decide, Tryz.func212.trans (congrArg some (by kernel_rfl))⟩
 f57 := ⟨Tryz.f218.name, by decide, Tryz.func218.trans (congrArg some (by kernel_rfl))⟩
 t0 := Tryz.underlying0
 a0 := Tryz.isAgg0
 z0 := Tryz.sizeOf0
 v0 := Tryz.zeroValue0
 t3 := Tryz.underlying3
 a3 := Tryz.isAgg3
 z3 := Tryz.sizeOf3
 v3 := Tryz.zeroValue3
 t4 := Tryz.underlying4
 a4 := Tryz.isAgg4
 z4 := Tryz.sizeOf4
 v4 := Tryz.zeroValue4
 t5 := Tryz.underlying5
 a5 := Tryz.isAgg5
 z5 := Tryz.sizeOf5
 v5 := Tryz.zeroValue5
 t9 := Tryz.underlying9
 a9 := Tryz.isAgg9
 z9 := Tryz.sizeOf9
 v9 := Tryz.zeroValue9
 t22 := Tryz.underlying36
 a22 := Tryz.isAgg36
 z22 := Tryz.sizeOf36
 v22 := Tryz.zeroValue36
 t25 := Tryz.underlying103
 a25 := Tryz.isAgg103
 z25 := Tryz.sizeOf103
 v25 := Tryz.zeroValue103
 t39 := Tryz.underlying166
 a39 := Tryz.isAgg166
 z39 := Tryz.sizeOf166
 v39 := Tryz.zeroValue166
 t45 := Tryz.underlying185
 a45 := Tryz.isAgg185
 z45 := Tryz.sizeOf185
 v45 := Tryz.zeroValue185
 t46 := Tryz.underlying186
 a46 := Tryz.isAgg186
 z46 := Tryz.sizeOf186
 v46 := Tryz.zeroValue186
 t50 := Tryz.underlying190
 a50 := Tryz.isAgg190
 z50 := Tryz.sizeOf190
 v50 := Tryz.zeroValue190
 t53 := Tryz.underlying193
 a53 := Tryz.isAgg193
 z53 := Tryz.sizeOf193
 v53 := Tryz.zeroValue193
 t55 := Tryz.underlying33
 a55 := Tryz.isAgg33
 z55 := Tryz.sizeOf33
 v55 := Tryz.zeroValue33
 t66 := Tryz.underlying206
 a66 := Tryz.isAgg206
 z66 := Tryz.sizeOf206
 v66 := Tryz.zeroValue206
 t70 := Tryz.underlying210
 a70 := Tryz.isAgg210
 z70 := Tryz.sizeOf210
 v70 := Tryz.zeroValue210
 t76 := Tryz.underlying216
 a76 := Tryz.isAgg216
 z76 := Tryz.sizeOf216
 v76 := Tryz.zeroValue216
 t77 := Tryz.underlying217
 a77 := Tryz.isAgg217
 z77 := Tryz.sizeOf217
 v77 := Tryz.zeroValue217 }
end Go.Proofs
